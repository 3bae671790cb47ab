/- Contracts of uvar.Put and buf.Text that tell what else has turned. -/
import Derived.Test.YtjkjhnpemhlbpaaDoorPG
namespace Go.Proofs.YtjkjhnpemhlbpaaDoor
open Go.RowKit
set_option linter.unusedVariables false
set_option maxRecDepth 100000

/-- what a loop that writes the groups of n behind xs has done, when ys of them stand there -/
structure PutsK (base : Nat) (xs : List Nat) (n : Nat) (w : World) (v0 : Value) (ys : List Nat) (j m : Nat) (v : Value) (wr : World) : Prop where
  len : ys.length = j
  le : j ≤ 9
  fits : Um.fits (9 - j) m
  put : Um.put n = ys ++ Um.enc (9 - j) m
  own : wr.ownsRow base 5 1 v (xs.length + j) (ints .u8 (xs ++ ys))
  kept : Kept w wr v0 v
  size : base ≤ wr.heap.size
section
variable {base : Nat} {xs : List Nat} {n : Nat} {w : World} {v0 : Value} {ys : List Nat} {j m : Nat} {v v' : Value} {wr w1 : World}
theorem PutsK.long (h : PutsK base xs n w v0 ys j m v wr) : (Um.put n).length = j + (Um.enc (9 - j) m).length := by rw [h.put, List.length_append, h.len]
theorem PutsK.start (hn : n < 18446744073709551616) (ho : w.ownsRow base 5 1 v xs.length (ints .u8 xs)) (hb : base ≤ w.heap.size) : PutsK base xs n w v [] 0 n v w :=
  ⟨rfl, by omega, Um.fits9 hn, rfl, by simpa using ho, Kept.refl _ _, hb⟩
theorem PutsK.great (h : PutsK base xs n w v0 ys j m v wr) (hl : j + 1 < (Um.put n).length) : 128 ≤ m := by
  obtain ⟨_, _, h2⟩ := Um.enc_more (f := 9 - j) (n := m) (by have := h.long; omega)
  exact h2
theorem PutsK.small (h : PutsK base xs n w v0 ys j m v wr) (hl : (Um.put n).length = j + 1) : m < 128 := (Um.enc_one h.fits (by have := h.long; omega)).1
theorem PutsK.next (h : PutsK base xs n w v0 ys j m v wr) (hm : 128 ≤ m) {x : Int} (hx : x = (m : Int) % 128 + 128)
    (ho : w1.ownsRow base 5 1 v' (xs.length + j + 1) (ints .u8 (xs ++ ys) ++ [.int .u8 x])) (hg : Kept wr w1 v v') : PutsK base xs n w v0 (ys ++ [m % 128 + 128]) (j + 1) (m / 128) v' w1 := by
  obtain ⟨h1, h2, h3, h4, h5, h6, h7⟩ := h
  have h9 : j < 9 := by
    rcases Nat.lt_or_ge j 9 with h | h
    · exact h
    · have : j = 9 := by omega
      subst this
      unfold Um.fits at h3; omega
  obtain ⟨f, hf⟩ : ∃ f, 9 - j = f + 1 := ⟨8 - j, by omega⟩
  have hf' : 9 - (j + 1) = f := by omega
  rw [hf] at h3 h4
  have ex : x = ((m % 128 + 128 : Nat) : Int) := by omega
  refine ⟨by simp [h1], by omega, ?_, ?_, ?_, h6.trans hg, Nat.le_trans h7 hg.size⟩
  · rw [hf']; exact Um.fits_div h3
  · rw [hf', List.append_assoc, h4, Um.enc_great hm]; rfl
  · rw [← List.append_assoc, ints_append]; rw [ex] at ho; exact ho
theorem PutsK.done (h : PutsK base xs n w v0 ys j m v wr) (hl : (Um.put n).length = j + 1) {x : Int} (hx : x = (m : Int))
    (ho : w1.ownsRow base 5 1 v' (xs.length + j + 1) (ints .u8 (xs ++ ys) ++ [.int .u8 x])) (hg : Kept wr w1 v v') : MadeK base (xs ++ Um.put n) v0 w (.returned v') w1 := by
  have hone : (Um.enc (9 - j) m).length = 1 := by have := h.long; omega
  obtain ⟨h1, h2, h3, h4, h5, h6, h7⟩ := h
  obtain ⟨_, e⟩ := Um.enc_one h3 hone
  subst hx
  refine ⟨v', rfl, ?_, h6.trans hg⟩
  rw [h4, e, ← List.append_assoc, ints_append, List.length_append, List.length_append, h1]
  exact ho
end

set_option maxHeartbeats 400000 in
theorem putk_any (base : Nat) (v : Value) (xs : List Nat) (n : Nat) (w : World) (hn : n < 18446744073709551616) (ho : w.ownsRow base 5 1 v xs.length (ints .u8 xs)) (hb : base ≤ w.heap.size) (hx : xs.length ≤ 1000000000000) :
    Calls Tryd.prog 41 #[v, .int .u64 (n : Int)] w (MadeK base (xs ++ Um.put n) v w) := by
  have HS := Lib.hid (PutsK.start hn ho hb)
  have hL := Um.enc_pos 9 n
  have hL10 := Um.enc_le 9 n
  change 0 < (Um.put n).length at hL
  change (Um.put n).length ≤ 9 + 1 at hL10
  obtain ⟨L, HL⟩ : ∃ L, Hid ((Um.put n).length = L) := ⟨_, rfl⟩
  rw [HL.out] at hL hL10
  clear ho
  go_enter Tryd.func41, Tryd.ntmps41
  go_wp2_with fail
  refine (size_any _ _ (by omega) (by omega)).mono ?_
  rintro e w' ⟨rfl, rfl⟩
  rw [Int.toNat_natCast, HL.out]
  go_wp2_with fail
  go_loopw [0, 1, 8] (fun x m i wr => ∃ (ys : List Nat) (j a : Nat), i = .int .i64 j ∧ j + 1 ≤ L ∧ m = .int .u64 a ∧ Hid (PutsK base xs n w v ys j a x wr)) (fun _ _ i _ => L - (intOf i).toNat)
  case atStart => exact ⟨[], 0, n, rfl, by omega, rfl, HS⟩
  case round =>
    obtain ⟨ys, j, a, rfl, hj, rfl, HP⟩ := hrel
    have ha := Um.fits_u64 HP.out.fits (by omega)
    by_cases hlt : j + 1 < L
    · go_wp2_with (at_builtin; refine wpList_append1k byteT _ _ rfl rfl base _ (xs.length + j) (ints .u8 (xs ++ ys)) rfl rfl rfl HP.out.own (by omega) HP.out.size ?_; intro v' w1 ho1 hg1)
      go_roundw
      case rel => exact ⟨ys ++ [a % 128 + 128], j + 1, a / 128, by go_num, by omega, by go_num, Lib.hid (HP.out.next (HP.out.great (by rw [HL.out]; exact hlt)) (by rw [Um.or128 _ (by omega) (by omega)]; omega) ho1 hg1)⟩
      case measure => simp [intOf]; omega
    · go_wp2_with (at_builtin; refine wpList_append1k byteT _ _ rfl rfl base _ (xs.length + j) (ints .u8 (xs ++ ys)) rfl rfl rfl HP.out.own (by omega) HP.out.size ?_; intro v' w1 ho1 hg1)
      go_ret
      have hl : (Um.put n).length = j + 1 := by rw [HL.out]; omega
      have hs := HP.out.small hl
      exact HP.out.done hl (by omega) ho1 hg1

theorem textk_any (base : Nat) (v : Value) (xs : List Nat) {s : ByteArray} {l : List Nat} (T : Txt s l) (hl : l.length ≤ 1000000000) (w : World) (ho : w.ownsRow base 5 1 v xs.length (ints .u8 xs)) (hb : base ≤ w.heap.size) (hx : xs.length ≤ 100000000000) :
    Calls Tryd.prog 42 #[v, .string s] w (MadeK base (xs ++ (Um.put l.length ++ l)) v w) := by
  have hsz := T.size
  obtain ⟨n, Hn⟩ : ∃ n, Hid (l.length = n) := ⟨_, rfl⟩
  have hp10 : (Um.put n).length ≤ 10 := Um.enc_le 9 n
  rw [Hn.out] at hl hsz ⊢
  have Ho := Lib.hid ho
  have HT := Lib.hid T
  clear ho T
  go_enter Tryd.func42, Tryd.ntmps42
  go_wp2_with fail
  refine (putk_any base v xs n w (by omega) Ho.out hb (by omega)).mono ?_
  rintro e w1 ⟨v1, rfl, ho1, hk1⟩
  have Ho1 := Lib.hid ho1
  have Hk1 := Lib.hid hk1
  have hb1' := Nat.le_trans hb hk1.size
  obtain ⟨q, Hq⟩ : ∃ q, Hid ((xs ++ Um.put n).length = q) := ⟨_, rfl⟩
  have hq : q ≤ 100000000010 := by rw [← Hq.out, List.length_append]; omega
  rw [Hq.out] at Ho1
  clear ho1 hk1
  go_wp2_with (at_builtin; refine wpList_append_strk (.tmp 9) (.tmp 10) rfl rfl base _ q (ints .u8 (xs ++ Um.put n)) rfl Ho1.out HT.out rfl n Hn.out (by omega) hb1' ?_; intro v2 w2 ho2 hk2)
  have HO2 := Lib.hid ho2
  have HK2 := Lib.hid (Hk1.out.trans hk2)
  clear ho2 hk2
  go_ret
  refine ⟨_, rfl, ?_, HK2.out⟩
  have h := HO2.out
  rw [← ints_append, List.append_assoc] at h
  have e : (xs ++ (Um.put n ++ l)).length = q + n := by rw [← List.append_assoc, List.length_append, Hq.out, Hn.out]
  rw [e]
  exact h
end Go.Proofs.YtjkjhnpemhlbpaaDoor
