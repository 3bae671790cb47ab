/- Contracts of package vers: bit, Has, Set, List, Best, Mode. -/
import Derived.Test.YtocgoibohfjgjaaDoorRvr24
import Derived.Test.YtocgoibohfjgjaaDoorVp24
import Derived.Test.YtocgoibohfjgjaaDoorShelf
namespace Go.Proofs.YtocgoibohfjgjaaDoor
open Go.RowKit
set_option linter.unusedVariables false
set_option maxRecDepth 100000
set_option linter.unusedSimpArgs false

namespace Vs
/-- the versions up to k, as numbers -/
def versK (s : Nat) : Nat → List Nat
  | 0 => []
  | k + 1 => if s.testBit k = true then versK s k ++ [k + 1] else versK s k
theorem versK_most (s : Nat) : ∀ k, (versK s k).length ≤ k
  | 0 => Nat.le_refl _
  | k + 1 => by
    have := versK_most s k
    rw [versK]
    split
    · rw [List.length_append]; simp; omega
    · omega
theorem versK_yes {s k : Nat} (hk : k < 16) (h : has s ((k : Int) + 1) = true) : versK s (k + 1) = versK s k ++ [k + 1] := by rw [versK, if_pos (by rw [← has_nat s k hk]; exact h)]
theorem versK_no {s k : Nat} (hk : k < 16) (h : has s ((k : Int) + 1) = false) : versK s (k + 1) = versK s k := by rw [versK, if_neg (by rw [← has_nat s k hk, h]; simp)]
end Vs
set_option maxHeartbeats 1000000 in
theorem bit24_any {w : World} {v : Int} (h1 : -9223372036854775808 ≤ v) (h2 : v ≤ 9223372036854775807) :
    Calls Tryd.prog 20 #[.int .i64 v] w fun e w' => e = .returned (.int .u16 ((Vs.bit v : Nat) : Int)) ∧ w' = w := by
  by_cases p1 : v < 1
  · have HF : Hid (Vs.bit v = 0) := Lib.hid (Vs.bit_out (by omega))
    go_enter Tryd.func20, Tryd.ntmps20
    go_wp2_with fail
    go_ret
    exact ⟨by rw [HF.out]; rfl, rfl⟩
  · by_cases p2 : 16 < v
    · have HF : Hid (Vs.bit v = 0) := Lib.hid (Vs.bit_out (by omega))
      go_enter Tryd.func20, Tryd.ntmps20
      go_wp2_with fail
      go_ret
      exact ⟨by rw [HF.out]; rfl, rfl⟩
    · obtain ⟨k, rfl⟩ : ∃ k : Nat, v = (k : Int) + 1 := ⟨(v - 1).toNat, by omega⟩
      have hk : k < 16 := by omega
      rw [Vs.bit_in k hk]
      have : k = 0 ∨ k = 1 ∨ k = 2 ∨ k = 3 ∨ k = 4 ∨ k = 5 ∨ k = 6 ∨ k = 7 ∨ k = 8 ∨ k = 9 ∨ k = 10 ∨ k = 11 ∨ k = 12 ∨ k = 13 ∨ k = 14 ∨ k = 15 := by omega
      clear h1 h2 p1 p2 hk
      rcases this with rfl | rfl | rfl | rfl | rfl | rfl | rfl | rfl | rfl | rfl | rfl | rfl | rfl | rfl | rfl | rfl
      all_goals (
        go_enter Tryd.func20, Tryd.ntmps20
        go_wp2_with fail
        go_ret
        exact ⟨rfl, rfl⟩)
set_option maxHeartbeats 1000000 in
theorem chas24_eq {w : World} {s : Nat} {v : Int} (hs : s < 65536) (h1 : -9223372036854775808 ≤ v) (h2 : v ≤ 9223372036854775807) :
    Calls Tryd.prog 11 #[.int .u16 (s : Int), .int .i64 v] w fun e w' => e = .returned (.bool (Vs.has s v)) ∧ w' = w := by
  have HB := Lib.hid (bit24_any (w := w) h1 h2)
  have H1 := Lib.hid (u16_and_nat s (Vs.bit v) hs (Vs.bit_lt v))
  have H2 := Lib.hid (Vs.and_bit s v)
  obtain ⟨R, hR⟩ : ∃ R, Hid (Vs.has s v = R) := ⟨_, Lib.hid rfl⟩
  obtain ⟨b, hb⟩ : ∃ b, Hid (Vs.bit v = b) := ⟨_, Lib.hid rfl⟩
  rw [hR.out] at H2 ⊢
  rw [hb.out] at HB H1 H2
  obtain ⟨z, hz⟩ : ∃ z, Hid (s &&& b = z) := ⟨_, Lib.hid rfl⟩
  rw [hz.out] at H1 H2
  have h3 : bits .and .u16 (s : Int) (b : Int) = (z : Int) := H1.out
  go_enter Tryd.func11, Tryd.ntmps11
  go_wp2_with fail
  refine (HB.out).mono ?_
  rintro e w1 ⟨rfl, rfl⟩
  go_wp2_with fail
  go_ret
  refine ⟨ret_bool ?_, rfl⟩
  have h4 := H2.out
  cases R
  · have : z = 0 := by simpa using h4
    subst this; rfl
  · have : ¬ z = 0 := by simpa using h4
    simp [this]
theorem chas24_any {w : World} {s : Nat} {v : Int} (hs : s < 65536) (h1 : -9223372036854775808 ≤ v) (h2 : v ≤ 9223372036854775807) :
    Calls Tryd.prog 11 #[.int .u16 (s : Int), .int .i64 v] w fun e w' => e = .returned (.bool (Vs.has s v)) ∧ Below w.heap.size w w' :=
  (chas24_eq hs h1 h2).mono (by rintro e w' ⟨rfl, rfl⟩; exact ⟨rfl, Below.refl _ _⟩)
set_option maxHeartbeats 2000000 in
theorem cset24_any {w : World} {A : Option Addr} {len c : Nat} {l : List Int} (R0 : RowI w A len c l) :
    Calls Tryd.prog 9 #[.slice A len c] w fun e w' => e = .returned (.int .u16 ((Vs.set l : Nat) : Int)) ∧ Below w.heap.size w w' := by
  have hlen := R0.len_eq
  have hle := R0.le
  have hmx := R0.max
  unfold maxLen at hmx
  have HAt := Lib.hid (fun i (h : i < len) => R0.at_ (Below.refl _ _) (i := i) (by rw [hlen]; exact h))
  have HOk := Lib.hid (fun i (h : i < len) => R0.ok (l[i]'(by rw [hlen]; exact h)) (List.getElem_mem _))
  have HAll := Lib.hid (List.take_of_length_le (l := l) (i := len) (by omega))
  have HTk := Lib.hid (fun i (h : i < len) => List.take_succ_eq_append_getElem (l := l) (i := i) (by rw [hlen]; exact h))
  have HEn := Lib.hid (Vs.orN_set l)
  obtain ⟨R, hR⟩ : ∃ R, Hid (Vs.set l = R) := ⟨_, Lib.hid rfl⟩
  rw [hR.out] at HEn ⊢
  clear R0
  go_enter Tryd.func9, Tryd.ntmps9
  go_wp2_with fail
  go_loopw [3, 8] (fun y x wr => ∃ i : Nat, i ≤ len ∧ x = .int .i64 (i : Int) ∧ y = .int .u16 ((Vs.orN (l.take i) 0 : Nat) : Int) ∧ wr = w) (fun _ x _ => len - (intOf x).toNat)
  case atStart => exact ⟨0, by omega, rfl, rfl, rfl⟩
  case round =>
    obtain ⟨i, hi, rfl, rfl, rfl⟩ := hrel
    by_cases hil : i < len
    · obtain ⟨b, off, rfl, hb, hc⟩ := HAt.out i hil
      have hok := HOk.out i hil
      have HT := HTk.out i hil
      obtain ⟨u, hu⟩ : ∃ u : Int, Hid (l[i]'(by omega) = u) := ⟨_, Lib.hid rfl⟩
      rw [hu.out] at hc HT hok
      have HS : Hid (Vs.orN (l.take (i + 1)) 0 = Vs.orN (l.take i) 0 ||| Vs.bit u) := Lib.hid (by rw [HT, Vs.orN_snoc])
      have HBt := Lib.hid (bit24_any (w := wr) hok.1 hok.2)
      have H1 := Lib.hid (u16_or_nat _ _ (Vs.orN_lt (l.take i)) (Vs.bit_lt u))
      clear HT
      obtain ⟨y, hy⟩ : ∃ y, Hid (Vs.orN (l.take i) 0 = y) := ⟨_, Lib.hid rfl⟩
      obtain ⟨q, hq⟩ : ∃ q, Hid (Vs.bit u = q) := ⟨_, Lib.hid rfl⟩
      rw [hy.out, hq.out] at HS H1
      rw [hq.out] at HBt
      rw [hy.out]
      obtain ⟨z, hz⟩ : ∃ z, Hid (y ||| q = z) := ⟨_, Lib.hid rfl⟩
      rw [hz.out] at HS H1
      have h3 : bits .or .u16 (y : Int) (q : Int) = (z : Int) := H1.out
      go_wp2_with fail
      refine (HBt.out).mono ?_
      rintro e w1 ⟨rfl, rfl⟩
      go_wp2_with fail
      go_roundw
      case rel => exact ⟨i + 1, by omega, by go_num, by rw [HS.out], by first | rfl | trivial⟩
      case measure => simp [intOf]; omega
    · obtain rfl : i = len := by omega
      have HF : Hid (Vs.orN (l.take i) 0 = R) := Lib.hid (by rw [HAll.out, HEn.out])
      rw [HF.out]
      go_wp2_with fail
      go_ret
      exact ⟨rfl, Below.refl _ _⟩
set_option maxHeartbeats 2000000 in
theorem clist24_any {w : World} {s : Nat} (hs : s < 65536) :
    Calls Tryd.prog 7 #[.int .u16 (s : Int)] w fun e w' => ∃ v, e = .returned v ∧ w'.ownsRow w.heap.size 3 1 v (Vs.versK s 16).length (ints .i64 (Vs.versK s 16)) ∧ Below w.heap.size w w' := by
  have HH := Lib.hid (fun W (k : Nat) (hk : k < 16) => chas24_eq (w := W) (s := s) (v := (k : Int) + 1) hs (by omega) (by omega))
  have HY := Lib.hid (fun (k : Nat) (hk : k < 16) => Vs.versK_yes (s := s) (k := k) hk)
  have HN := Lib.hid (fun (k : Nat) (hk : k < 16) => Vs.versK_no (s := s) (k := k) hk)
  have HM := Lib.hid (Vs.versK_most s)
  obtain ⟨F, hF⟩ : ∃ F, Hid (Vs.versK s = F) := ⟨_, Lib.hid rfl⟩
  have HE : Hid (F 0 = []) := Lib.hid (by rw [← hF.out]; rfl)
  rw [hF.out] at HY HN HM ⊢
  go_enter Tryd.func7, Tryd.ntmps7
  go_wp2_with fail
  go_loopw [3, 4] (fun v x wr => ∃ k : Nat, k ≤ 16 ∧ x = .int .i64 ((k : Int) + 1) ∧ Hid (wr.ownsRow w.heap.size 3 1 v (F k).length (ints .i64 (F k))) ∧ Hid (Below w.heap.size w wr)) (fun _ x _ => 17 - (intOf x).toNat)
  case atStart => exact ⟨0, by omega, rfl, Lib.hid (by rw [HE.out]; exact World.ownsRow_nil _ _ _ _), Lib.hid (Below.refl _ _)⟩
  case round =>
    obtain ⟨k, hk, rfl, HO, HB⟩ := hrel
    have hm := HM.out k
    obtain ⟨Ak, ck, rfl, hLk, _, _⟩ := own_look HO.out
    obtain ⟨M, hM⟩ : ∃ M, Hid (F k = M) := ⟨_, Lib.hid rfl⟩
    rw [hM.out] at HO hm hLk ⊢
    obtain ⟨m, hmm⟩ : ∃ m, Hid (M.length = m) := ⟨_, Lib.hid rfl⟩
    rw [hmm.out] at HO hm hLk ⊢
    by_cases hk16 : k < 16
    · have hk1 : (k : Int) + 1 ≤ 16 := by omega
      have CH := Lib.hid (HH.out wr k hk16)
      have HY1 := Lib.hid (HY.out k hk16)
      have HN1 := Lib.hid (HN.out k hk16)
      obtain ⟨z, hz⟩ : ∃ z, Hid (Vs.has s ((k : Int) + 1) = z) := ⟨_, Lib.hid rfl⟩
      rw [hz.out] at CH HY1 HN1
      rw [hM.out] at HY1 HN1
      cases z
      · have HE1 := Lib.hid (HN1.out rfl)
        clear HY1 HN1
        go_wp2_with fail
        refine (CH.out).mono ?_
        rintro e w1 ⟨rfl, rfl⟩
        go_wp2_with fail
        go_roundw
        case rel => exact ⟨k + 1, by omega, by go_num, Lib.hid (by rw [HE1.out, hmm.out]; exact HO.out), HB⟩
        case measure => simp [intOf]; omega
      · have HE1 := Lib.hid (HY1.out rfl)
        clear HY1 HN1
        go_wp2_with fail
        refine (CH.out).mono ?_
        rintro e w1 ⟨rfl, rfl⟩
        obtain ⟨wo, rfl⟩ : ∃ W, W = w1 := ⟨_, rfl⟩
        have hz1 : w.heap.size ≤ wo.heap.size := HB.out.size
        have HO1 : Hid ((wo.alloc (.cells #[.int .i64 ((k : Int) + 1)] 3)).ownsRow w.heap.size 3 1 (.slice Ak m ck) m (ints .i64 M)) := Lib.hid (own_below HO.out (((Below.refl _ _).alloc (Nat.le_refl _) _).mono (Nat.le_refl _)))
        have HS1 : Hid (Sees .i64 (wo.alloc (.cells #[.int .i64 ((k : Int) + 1)] 3)) (wo.heap.size + 1) (some ⟨wo.heap.size, 0, none⟩) [k + 1]) := Lib.hid (sees_newk _ _ _ _ rfl (by simp [ints]))
        have HBa : Hid (Below w.heap.size w (wo.alloc (.cells #[.int .i64 ((k : Int) + 1)] 3))) := Lib.hid (HB.out.alloc hz1 _)
        go_wp2_with (at_builtin; refine wpList_append_row intT _ _ rfl rfl w.heap.size _ m _ rfl HO1.out 1 1 rfl rfl (fun h => by cases h) HS1.out (by omega) (by simp; omega) ?_; intro v4 w4 ho4 hg4)
        go_roundw
        case rel =>
          refine ⟨k + 1, by omega, by go_num, ?_, ?_⟩
          · rw [← ints_append] at ho4
            rw [HE1.out, List.length_append, hmm.out]
            exact Lib.hid ho4
          · exact Lib.hid (HBa.out.grown hg4 (by simp; omega) (fun z hz => (HO1.out.lt z hz).1))
        case measure => simp [intOf]; omega
    · obtain rfl : k = 16 := by omega
      go_wp2_with fail
      go_ret
      exact ⟨_, rfl, by rw [hM.out, hmm.out]; exact HO.out, HB.out⟩
theorem cbest24_any {w : World} {a b : Nat} (ha : a < 65536) (hb : b < 65536) :
    Calls Tryd.prog 12 #[.int .u16 (a : Int), .int .u16 (b : Int)] w fun e w' => e = .returned (.int .i64 ((Vs.best a b : Nat) : Int)) ∧ Below w.heap.size w w' := by
  have H1 := Lib.hid (u16_and_nat a b ha hb)
  have hz : a &&& b ≤ 65535 := Nat.le_of_lt_succ (Nat.lt_of_le_of_lt Nat.and_le_left ha)
  have HC := Lib.hid (Tryd.bits_Len16 ((a &&& b : Nat) : Int) w (by omega) (by omega))
  rw [Vs.best_bits ha]
  rw [Int.toNat_natCast] at HC
  obtain ⟨z, hzz⟩ : ∃ z, Hid (a &&& b = z) := ⟨_, Lib.hid rfl⟩
  rw [hzz.out] at H1 HC hz ⊢
  have h3 : bits .and .u16 (a : Int) (b : Int) = (z : Int) := H1.out
  obtain ⟨R, hR⟩ : ∃ R, Hid (Go.Lib.bitLen z = R) := ⟨_, Lib.hid rfl⟩
  rw [hR.out] at HC ⊢
  go_enter Tryd.func12, Tryd.ntmps12
  go_wp2_with fail
  refine (HC.out).mono ?_
  rintro e w1 ⟨rfl, rfl⟩
  go_wp2_with fail
  go_ret
  exact ⟨rfl, Below.refl _ _⟩
theorem modes24_any {w : World} : Calls Tryd.prog 22 #[] w fun e w' => e = .returned (.slice (some ⟨w.heap.size, 0, none⟩) 3 3) ∧ w' = w.alloc (.cells #[.int .i64 1, .int .i64 2, .int .i64 3] 3) := by
  go_enter Tryd.func22, Tryd.ntmps22
  go_wp2_with fail
  go_ret
  exact ⟨rfl, rfl⟩
set_option maxHeartbeats 1000000 in
theorem cmode24_any {w : World} {v : Int} (h1 : -9223372036854775808 ≤ v) (h2 : v ≤ 9223372036854775807) :
    Calls Tryd.prog 14 #[.int .i64 v] w fun e w' => e = .returned (.int .i64 ((Vs.mode v : Nat) : Int)) ∧ Below w.heap.size w w' := by
  have HB := Lib.hid (bit24_any (w := w) h1 h2)
  by_cases hv : 1 ≤ v ∧ v ≤ 16
  · obtain ⟨k, rfl⟩ : ∃ k : Nat, v = (k : Int) + 1 := ⟨(v - 1).toNat, by omega⟩
    have hk : k < 16 := by omega
    rw [Vs.mode_in hk]
    rw [Vs.bit_in k hk] at HB
    have hp := Nat.two_pow_pos k
    have hpd : (((2 ^ k : Nat) : Int) == 0) = false := beq_eq_false_iff_ne.2 (by omega)
    obtain ⟨p, hpp⟩ : ∃ p, Hid (2 ^ k = p) := ⟨_, Lib.hid rfl⟩
    rw [hpp.out] at HB hp hpd
    have hrem : (k : Int).tmod 3 = ((k % 3 : Nat) : Int) := by rw [Int.tmod_eq_emod_of_nonneg (by omega)]; omega
    have hsub : (k : Int) + 1 - 1 = (k : Int) := by omega
    obtain ⟨r, hr⟩ : ∃ r, Hid (k % 3 = r) := ⟨_, Lib.hid rfl⟩
    have hr3 : r < 3 := by rw [← hr.out]; omega
    rw [hr.out] at hrem ⊢
    have hc : (w.alloc (.cells #[.int .i64 1, .int .i64 2, .int .i64 3] 3)).cell? ⟨w.heap.size, r, none⟩ = some (.int .i64 ((r : Int) + 1)) := by
      have : r = 0 ∨ r = 1 ∨ r = 2 := by omega
      rw [World.cell?_alloc_at _ _ _ _ rfl]
      rcases this with rfl | rfl | rfl
      all_goals rfl
    clear hv
    go_enter Tryd.func14, Tryd.ntmps14
    go_wp2_with fail
    refine (HB.out).mono ?_
    rintro e w1 ⟨rfl, rfl⟩
    go_wp2_with fail
    refine modes24_any.mono ?_
    rintro e w2 ⟨rfl, rfl⟩
    go_wp2_with fail
    go_ret
    exact ⟨by first | rfl | go_num, (Below.refl _ _).alloc (Nat.le_refl _) _⟩
  · rw [Vs.mode_out hv]
    rw [Vs.bit_out hv] at HB
    clear hv
    go_enter Tryd.func14, Tryd.ntmps14
    go_wp2_with fail
    refine (HB.out).mono ?_
    rintro e w1 ⟨rfl, rfl⟩
    go_wp2_with fail
    go_ret
    exact ⟨rfl, Below.refl _ _⟩
end Go.Proofs.YtocgoibohfjgjaaDoor
