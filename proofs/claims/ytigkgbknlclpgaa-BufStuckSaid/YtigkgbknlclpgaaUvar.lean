/- Contracts of uvar.Put, uvar.Get. -/
import Derived.Test.YtigkgbknlclpgaaZig
import Derived.Test.YtigkgbknlclpgaaBytes
import Derived.OwnWalk
import Derived.Maps.AppendAt
import Derived.Outline
namespace Go.Proofs.Ytigkgbknlclpgaa
open Go.RowKit
set_option linter.unusedVariables false

set_option maxRecDepth 100000 in
set_option maxHeartbeats 400000 in
theorem get_any (B : Nat) (A : Option Addr) (l : List Nat) (n c : Nat) (w : World) (hn : l.length = n) (hc : n ≤ 9223372036854775807) (hA : Sees .u8 w B A l) (hb : ∀ x ∈ l, x < 256) :
    Calls Try.prog 36 #[.slice A n c] w fun e w' => e = .returned (.tuple #[.int .u64 ((Um.get l).1 : Int), .int .i64 ((Um.get l).2.1 : Int), .int .i64 ((Um.get l).2.2 : Int)]) ∧ w = w' := by
  have Hn := Lib.hid hn
  clear hn
  have HA := Lib.hid hA
  clear hA
  have Hb := Lib.hid hb
  clear hb
  by_cases hm : n ≤ 10
  all_goals
    go_enter Try.func36, Try.ntmps36
    go_wp2
    go_loop [5, 10] (fun m i => ∃ (j a : Nat), j ≤ n ∧ j ≤ 10 ∧ i = .int .i64 j ∧ m = .int .u64 a ∧ j ≤ Um.lead l ∧ (j ≤ 9 → a = Um.val (l.take j)) ∧ a < 18446744073709551616) (fun _ i => 10 - (intOf i).toNat)
    case atStart => exact ⟨0, 0, by omega, by omega, rfl, rfl, by omega, fun _ => by simp [Um.val], by omega⟩
    case round =>
      obtain ⟨j, a, hj, hj10, rfl, rfl, hl, hv, ha⟩ := hrel
      have Hv := Lib.hid hv
      clear hv
      by_cases hlt : j < n ∧ j < 10
      · obtain ⟨hlt, hlt10⟩ := hlt
        obtain ⟨b, off, rfl, _, hcell⟩ := HA.out.at_ (i := j) (by rw [Hn.out]; exact hlt)
        have hx : l.getD j 0 < 256 := getD_lt Hb.out j
        obtain ⟨x, Hx⟩ : ∃ x, Hid (l.getD j 0 = x) := ⟨_, rfl⟩
        rw [Hx.out] at hcell hx
        have hand := Um.and127 (x : Int) (by omega) (by omega)
        by_cases h128 : 128 ≤ x
        · have hl' := Um.lead_of_high l j hl (by rw [Hn.out]; exact hlt) (by rw [Hx.out]; exact h128)
          go_wp2_with fail
          go_round
          case rel =>
            by_cases h8 : j ≤ 8
            · exact ⟨j + 1, Um.val (l.take (j + 1)), by omega, by omega, by go_num, by rw [Um.acc_next Hv.out (by omega) (by rw [Hn.out]; exact hlt) Hx.out (.inl h8)], hl', fun _ => rfl, Nat.lt_of_lt_of_le (Um.val_take_lt l (j + 1) (by rw [Hn.out]; omega)) (Nat.le_trans (Nat.pow_le_pow_right (n := 128) (by omega) (show j + 1 ≤ 9 by omega)) (by omega))⟩
            · obtain ⟨a', ea, hlt'⟩ := Um.acc_some (a : Int) (IntKind.u64.wrap ((x : Int) % 128 * 2 ^ (7 * j)))
              exact ⟨j + 1, a', by omega, by omega, by go_num, by rw [ea], hl', fun h => absurd h (by omega), hlt'⟩
          case measure => simp [intOf]; omega
        · have hlead := Um.lead_of_low l j hl (by rw [Hx.out]; omega)
          have Hlead := Lib.hid hlead
          clear hlead
          cases ho : Um.okEnd x j with
          | false =>
            have Ho := Lib.hid ho
            clear ho
            go_wp2_with fail
            refine (canEnd_any x j _ (by omega) (by omega)).mono ?_
            rintro e w' ⟨rfl, rfl⟩
            rw [Ho.out]
            go_wp2_with fail
            go_ret3
            refine ⟨?_, rfl⟩
            rw [Um.get_bad (l := l) (by rw [Hlead.out]; omega) (by rw [Hlead.out, Hn.out]; exact hlt) (by rw [Hlead.out, Hx.out]; exact Ho.out)]
            rfl
          | true =>
            have Ho := Lib.hid ho
            clear ho
            go_wp2_with fail
            refine (canEnd_any x j _ (by omega) (by omega)).mono ?_
            rintro e w' ⟨rfl, rfl⟩
            rw [Ho.out]
            go_wp2_with fail
            go_ret3
            refine ⟨?_, rfl⟩
            rw [Um.get_good (l := l) (by rw [Hlead.out]; omega) (by rw [Hlead.out, Hn.out]; exact hlt) (by rw [Hlead.out, Hx.out]; exact Ho.out)]
            rw [Hlead.out]
            have e1 := Um.acc_next Hv.out (by omega) (by rw [Hn.out]; exact hlt) Hx.out (Um.okEnd_last (by omega) Ho.out)
            exact ret3 e1 (show ((j : Int) + 1) = ((j + 1 : Nat) : Int) by omega) rfl
      · go_wp2_with fail
        all_goals
          go_ret3
          refine ⟨?_, rfl⟩
          first
            | (rw [Um.get_short (l := l) (by have := Um.lead_le l; have := Hn.out; omega) (by have := Um.lead_le l; have := Hn.out; omega)]; rfl)
            | (rw [Um.get_long (l := l) (by omega)]; rfl)

/-- what a loop that writes the groups of n behind xs has done, when ys of them stand there -/
structure Puts (base : Nat) (xs : List Nat) (n : Nat) (w : World) (ys : List Nat) (j m : Nat) (v : Value) (wr : World) : Prop where
  len : ys.length = j
  le : j ≤ 9
  fits : Um.fits (9 - j) m
  put : Um.put n = ys ++ Um.enc (9 - j) m
  own : wr.ownsRow base 5 1 v (xs.length + j) (ints .u8 (xs ++ ys))
  below : Below base w wr
  size : base ≤ wr.heap.size

section
variable {base : Nat} {xs : List Nat} {n : Nat} {w : World} {ys : List Nat} {j m : Nat} {v v' : Value} {wr w1 : World} {o : Obj}
theorem Puts.long (h : Puts base xs n w ys j m v wr) : (Um.put n).length = j + (Um.enc (9 - j) m).length := by rw [h.put, List.length_append, h.len]
theorem Puts.start (hn : n < 18446744073709551616) (ho : w.ownsRow base 5 1 v xs.length (ints .u8 xs)) (hb : base ≤ w.heap.size) : Puts base xs n w [] 0 n v w :=
  ⟨rfl, by omega, Um.fits9 hn, rfl, by simpa using ho, Below.refl _ _, hb⟩
theorem Puts.great (h : Puts base xs n w ys j m v wr) (hl : j + 1 < (Um.put n).length) : 128 ≤ m := by
  obtain ⟨_, _, h2⟩ := Um.enc_more (f := 9 - j) (n := m) (by have := h.long; omega)
  exact h2
theorem Puts.small (h : Puts base xs n w ys j m v wr) (hl : (Um.put n).length = j + 1) : m < 128 := (Um.enc_one h.fits (by have := h.long; omega)).1
theorem Puts.next (h : Puts base xs n w ys j m v wr) (hm : 128 ≤ m) {x : Int} (hx : x = (m : Int) % 128 + 128)
    (ho : w1.ownsRow base 5 1 v' (xs.length + j + 1) (ints .u8 (xs ++ ys) ++ [.int .u8 x])) (hg : (wr.alloc o).grownBy w1 v.ownBlock) : Puts base xs n w (ys ++ [m % 128 + 128]) (j + 1) (m / 128) v' w1 := by
  obtain ⟨h1, h2, h3, h4, h5, h6, h7⟩ := h
  have h9 : j < 9 := by
    rcases Nat.lt_or_ge j 9 with h | h
    · exact h
    · have : j = 9 := by omega
      subst this
      unfold Um.fits at h3; omega
  obtain ⟨f, hf⟩ : ∃ f, 9 - j = f + 1 := ⟨8 - j, by omega⟩
  have hf' : 9 - (j + 1) = f := by omega
  rw [hf] at h3 h4
  have ex : x = ((m % 128 + 128 : Nat) : Int) := by omega
  refine ⟨by simp [h1], by omega, ?_, ?_, ?_, ?_, ?_⟩
  · rw [hf']; exact Um.fits_div h3
  · rw [hf', List.append_assoc, h4, Um.enc_great hm]; rfl
  · rw [← List.append_assoc, ints_append]; rw [ex] at ho; exact ho
  · exact (h6.alloc h7 o).grown hg (by simp; omega) (fun k hk => (h5.lt k hk).1)
  · have := hg.size; simp at this; omega
theorem Puts.done (h : Puts base xs n w ys j m v wr) (hl : (Um.put n).length = j + 1) {x : Int} (hx : x = (m : Int))
    (ho : w1.ownsRow base 5 1 v' (xs.length + j + 1) (ints .u8 (xs ++ ys) ++ [.int .u8 x])) (hg : (wr.alloc o).grownBy w1 v.ownBlock) : Made .u8 5 base (xs ++ Um.put n) w (.returned v') w1 := by
  have hone : (Um.enc (9 - j) m).length = 1 := by have := h.long; omega
  obtain ⟨h1, h2, h3, h4, h5, h6, h7⟩ := h
  obtain ⟨_, e⟩ := Um.enc_one h3 hone
  subst hx
  refine ⟨v', rfl, ?_, ?_⟩
  · rw [h4, e, ← List.append_assoc, ints_append, List.length_append, List.length_append, h1]
    exact ho
  · exact (h6.alloc h7 o).grown hg (by simp; omega) (fun k hk => (h5.lt k hk).1)
end

set_option maxRecDepth 100000 in
set_option maxHeartbeats 400000 in
theorem put_any (base : Nat) (v : Value) (xs : List Nat) (n : Int) (w : World) (h0 : 0 ≤ n) (h1 : n ≤ 18446744073709551615) (ho : w.ownsRow base 5 1 v xs.length (ints .u8 xs)) (hb : base ≤ w.heap.size) (hx : xs.length ≤ 1000000000000) :
    Calls Try.prog 24 #[v, .int .u64 n] w (Made .u8 5 base (xs ++ Um.put n.toNat) w) := by
  obtain ⟨n, rfl⟩ := Int.eq_ofNat_of_zero_le h0
  rw [Int.toNat_natCast]
  have hn : n < 18446744073709551616 := by omega
  have HS := Lib.hid (Puts.start hn ho hb)
  have hL := Um.enc_pos 9 n
  have hL10 := Um.enc_le 9 n
  change 0 < (Um.put n).length at hL
  change (Um.put n).length ≤ 9 + 1 at hL10
  obtain ⟨L, HL⟩ : ∃ L, Hid ((Um.put n).length = L) := ⟨_, rfl⟩
  rw [HL.out] at hL hL10
  clear ho
  go_enter Try.func24, Try.ntmps24
  go_wp2_with fail
  refine (size_any _ _ (by omega) (by omega)).mono ?_
  rintro e w' ⟨rfl, rfl⟩
  rw [Int.toNat_natCast, HL.out]
  go_wp2_with fail
  go_loopw [0, 1, 8] (fun v m i wr => ∃ (ys : List Nat) (j a : Nat), i = .int .i64 j ∧ j + 1 ≤ L ∧ m = .int .u64 a ∧ Hid (Puts base xs n w ys j a v wr)) (fun _ _ i _ => L - (intOf i).toNat)
  case atStart => exact ⟨[], 0, n, rfl, by omega, rfl, HS⟩
  case round =>
    obtain ⟨ys, j, a, rfl, hj, rfl, HP⟩ := hrel
    have ha := Um.fits_u64 HP.out.fits (by omega)
    by_cases hlt : j + 1 < L
    · go_wp2_with (at_builtin; refine wpList_append1 byteT _ _ rfl rfl base _ (xs.length + j) (ints .u8 (xs ++ ys)) rfl rfl rfl HP.out.own (by omega) HP.out.size ?_; intro v' w1 ho1 hg1)
      go_roundw
      case rel => exact ⟨ys ++ [a % 128 + 128], j + 1, a / 128, by go_num, by omega, by go_num, Lib.hid (HP.out.next (HP.out.great (by rw [HL.out]; exact hlt)) (by rw [Um.or128 _ (by omega) (by omega)]; omega) ho1 hg1)⟩
      case measure => simp [intOf]; omega
    · go_wp2_with (at_builtin; refine wpList_append1 byteT _ _ rfl rfl base _ (xs.length + j) (ints .u8 (xs ++ ys)) rfl rfl rfl HP.out.own (by omega) HP.out.size ?_; intro v' w1 ho1 hg1)
      go_ret
      have hl : (Um.put n).length = j + 1 := by rw [HL.out]; omega
      have hs := HP.out.small hl
      exact HP.out.done hl (by omega) ho1 hg1
end Go.Proofs.Ytigkgbknlclpgaa
