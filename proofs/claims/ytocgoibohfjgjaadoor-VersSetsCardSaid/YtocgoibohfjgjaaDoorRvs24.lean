/- Contracts of layer 24's reference: Has, Best, Mode, Set. -/
import Derived.Test.YtocgoibohfjgjaaDoorVs
import Derived.Test.YtocgoibohfjgjaaDoorPA
import Derived.Test.YtocgoibohfjgjaaDoorIrow
namespace Go.Proofs.YtocgoibohfjgjaaDoor
open Go.RowKit
set_option linter.unusedVariables false
set_option maxRecDepth 100000
set_option linter.unusedSimpArgs false

theorem odd24 (q : Nat) : ((q : Int) % 2 == 1) = decide (q % 2 = 1) := by
  by_cases h : q % 2 = 1
  · rw [decide_eq_true h, beq_iff_eq]; omega
  · rw [decide_eq_false h, beq_eq_false_iff_ne]; omega
set_option maxHeartbeats 1000000 in
theorem rhas24_any {w : World} {s : Nat} {v : Int} (hs : s < 65536) (h1 : -9223372036854775808 ≤ v) (h2 : v ≤ 9223372036854775807) :
    Calls Tryd.prog 8 #[.int .u16 (s : Int), .int .i64 v] w fun e w' => e = .returned (.bool (Vs.has s v)) ∧ w' = w := by
  have hcv : IntKind.i64.wrap (s : Int) = (s : Int) := by rw [IntKind.wrap_i64]; omega
  have HOut := Lib.hid (fun h => Vs.has_out (s := s) (v := v) h)
  have HIn : Hid (1 ≤ v → v ≤ 16 → Vs.has s v = decide (s / 2 ^ (v.toNat - 1) % 2 = 1)) := Lib.hid (fun a b => by
    obtain ⟨k, rfl⟩ : ∃ k : Nat, v = (k : Int) + 1 := ⟨(v - 1).toNat, by omega⟩
    rw [Vs.has_nat s k (by omega), Nat.testBit_eq_decide_div_mod_eq, show ((k : Int) + 1).toNat - 1 = k by omega])
  obtain ⟨R, hR⟩ : ∃ R, Hid (Vs.has s v = R) := ⟨_, Lib.hid rfl⟩
  rw [hR.out] at HOut HIn ⊢
  go_enter Tryd.func8, Tryd.ntmps8
  go_wp2_with fail
  go_loopw [5, 6] (fun n x wr => ∃ j : Nat, 1 ≤ j ∧ j ≤ 17 ∧ ((j : Int) ≤ v ∨ j = 1) ∧ x = .int .i64 (j : Int) ∧ n = .int .i64 ((s / 2 ^ (j - 1) : Nat) : Int) ∧ wr = w) (fun _ x _ => 17 - (intOf x).toNat)
  case atStart => exact ⟨1, by omega, by omega, .inr rfl, rfl, by simp, rfl⟩
  case round =>
    obtain ⟨j, hj1, hj17, hjv, rfl, rfl, rfl⟩ := hrel
    obtain ⟨q, Hq⟩ : ∃ q, Hid (s / 2 ^ (j - 1) = q) := ⟨_, Lib.hid rfl⟩
    rw [Hq.out]
    have hqs : q ≤ s := by rw [← Hq.out]; exact Nat.div_le_self _ _
    by_cases p1 : (j : Int) < v
    · by_cases p2 : j < 17
      · have HQ : Hid (s / 2 ^ (j + 1 - 1) = q / 2) := Lib.hid (by rw [← Hq.out, show j + 1 - 1 = (j - 1) + 1 by omega, Nat.pow_succ, Nat.div_div_eq_div_mul])
        have hw2 : (q : Int).tdiv 2 = ((q / 2 : Nat) : Int) := by rw [Int.tdiv_eq_ediv_of_nonneg (by omega)]; omega
        go_wp2_with fail
        go_roundw
        case rel => exact ⟨j + 1, by omega, by omega, .inl (by omega), by go_num, by rw [HQ.out]; first | rfl | go_num, by first | rfl | trivial⟩
        case measure => simp [intOf]; omega
      · have HF : Hid (R = false) := Lib.hid (HOut.out (by omega))
        have p3 : ¬ v < 17 := by omega
        go_wp2_with fail
        go_ret
        exact ⟨ret_bool HF.out.symm, by first | rfl | trivial⟩
    · by_cases p3 : 0 < v
      · have hvj : v = (j : Int) := by omega
        subst hvj
        by_cases p4 : j < 17
        · have HF : Hid (R = decide (q % 2 = 1)) := Lib.hid (by rw [HIn.out (by omega) (by omega), Int.toNat_natCast, Hq.out])
          go_wp2_with fail
          go_ret
          exact ⟨ret_bool (by rw [HF.out]; exact odd24 q), by first | rfl | trivial⟩
        · have HF : Hid (R = false) := Lib.hid (HOut.out (by omega))
          go_wp2_with fail
          go_ret
          exact ⟨ret_bool HF.out.symm, by first | rfl | trivial⟩
      · have HF : Hid (R = false) := Lib.hid (HOut.out (by omega))
        go_wp2_with fail
        go_ret
        exact ⟨ret_bool HF.out.symm, by first | rfl | trivial⟩
theorem Vs.bestN_top (a b k : Nat) (h : (Vs.has a ((k : Int) + 1) && Vs.has b ((k : Int) + 1)) = true) : Vs.bestN a b (k + 1) = k + 1 := by rw [Vs.bestN, if_pos h]
theorem Vs.bestN_next (a b k : Nat) (h : (Vs.has a ((k : Int) + 1) && Vs.has b ((k : Int) + 1)) = false) : Vs.bestN a b (k + 1) = Vs.bestN a b k := by rw [Vs.bestN, if_neg (by rw [h]; simp)]
set_option maxHeartbeats 1000000 in
theorem rbest24_any {w : World} {a b : Nat} (ha : a < 65536) (hb : b < 65536) :
    Calls Tryd.prog 13 #[.int .u16 (a : Int), .int .u16 (b : Int)] w fun e w' => e = .returned (.int .i64 ((Vs.best a b : Nat) : Int)) ∧ w' = w := by
  have HA := Lib.hid (fun W (k : Nat) (hk : k < 16) => rhas24_any (w := W) (s := a) (v := (k : Int) + 1) ha (by omega) (by omega))
  have HB := Lib.hid (fun W (k : Nat) (hk : k < 16) => rhas24_any (w := W) (s := b) (v := (k : Int) + 1) hb (by omega) (by omega))
  obtain ⟨R, hR⟩ : ∃ R, Hid (Vs.best a b = R) := ⟨_, Lib.hid rfl⟩
  rw [hR.out]
  have HR : Hid (Vs.bestN a b 16 = R) := Lib.hid hR.out
  go_enter Tryd.func13, Tryd.ntmps13
  go_wp2_with fail
  go_loopw [5] (fun x wr => ∃ j : Nat, j ≤ 16 ∧ x = .int .i64 (j : Int) ∧ Hid (Vs.bestN a b j = R) ∧ wr = w) (fun x _ => (intOf x).toNat)
  case atStart => exact ⟨16, by omega, rfl, HR, rfl⟩
  case round =>
    obtain ⟨j, hj, rfl, HJ, rfl⟩ := hrel
    cases j with
    | zero =>
      go_wp2_with fail
      go_ret
      exact ⟨by rw [← HJ.out]; rfl, by first | rfl | trivial⟩
    | succ k =>
      have HT := Lib.hid (Vs.bestN_top a b k)
      have HN := Lib.hid (Vs.bestN_next a b k)
      have C1 := Lib.hid (HA.out wr k (by omega))
      have C2 := Lib.hid (HB.out wr k (by omega))
      obtain ⟨x, hx⟩ : ∃ x, Hid (Vs.has a ((k : Int) + 1) = x) := ⟨_, Lib.hid rfl⟩
      obtain ⟨y, hy⟩ : ∃ y, Hid (Vs.has b ((k : Int) + 1) = y) := ⟨_, Lib.hid rfl⟩
      rw [hx.out] at HT HN C1
      rw [hy.out] at HT HN C2
      have hcast : ((k + 1 : Nat) : Int) = (k : Int) + 1 := by omega
      cases x
      · go_wp2_with fail
        refine (C1.out).mono ?_
        rintro e w1 ⟨rfl, rfl⟩
        go_wp2_with fail
        go_roundw
        case rel => exact ⟨k, by omega, by go_num, Lib.hid (by rw [← HJ.out, HN.out rfl]), by first | rfl | trivial⟩
        case measure => simp [intOf]
      · go_wp2_with fail
        refine (C1.out).mono ?_
        rintro e w1 ⟨rfl, rfl⟩
        go_wp2_with fail
        refine (C2.out).mono ?_
        rintro e w2 ⟨rfl, rfl⟩
        cases y
        · go_wp2_with fail
          go_roundw
          case rel => exact ⟨k, by omega, by go_num, Lib.hid (by rw [← HJ.out, HN.out rfl]), by first | rfl | trivial⟩
          case measure => simp [intOf]
        · go_wp2_with fail
          go_ret
          exact ⟨by rw [← HJ.out, HT.out rfl]; first | rfl | simp, by first | rfl | trivial⟩
set_option maxHeartbeats 1000000 in
theorem rmode24_any {w : World} {v : Int} (h1 : -9223372036854775808 ≤ v) (h2 : v ≤ 9223372036854775807) :
    Calls Tryd.prog 15 #[.int .i64 v] w fun e w' => e = .returned (.int .i64 ((Vs.mode v : Nat) : Int)) ∧ w' = w := by
  by_cases p1 : v < 1
  · have HF : Hid (Vs.mode v = 0) := Lib.hid (by unfold Vs.mode; rw [if_pos (.inl p1)])
    go_enter Tryd.func15, Tryd.ntmps15
    go_wp2_with fail
    go_ret
    exact ⟨by rw [HF.out]; rfl, rfl⟩
  · by_cases p2 : 16 < v
    · have HF : Hid (Vs.mode v = 0) := Lib.hid (by unfold Vs.mode; rw [if_pos (.inr p2)])
      go_enter Tryd.func15, Tryd.ntmps15
      go_wp2_with fail
      go_ret
      exact ⟨by rw [HF.out]; rfl, rfl⟩
    · obtain ⟨k, rfl⟩ : ∃ k : Nat, v = (k : Int) := ⟨v.toNat, by omega⟩
      have HF : Hid (Vs.mode (k : Int) = (k - 1) % 3 + 1) := Lib.hid (by unfold Vs.mode; rw [if_neg (by omega), show ((k : Int) - 1).toNat = k - 1 by omega])
      obtain ⟨R, hR⟩ : ∃ R, Hid (Vs.mode (k : Int) = R) := ⟨_, Lib.hid rfl⟩
      rw [hR.out] at HF ⊢
      go_enter Tryd.func15, Tryd.ntmps15
      go_wp2_with fail
      go_loopw [0] (fun x wr => ∃ j : Nat, 1 ≤ j ∧ j ≤ 16 ∧ Hid ((j - 1) % 3 = (k - 1) % 3) ∧ x = .int .i64 (j : Int) ∧ wr = w) (fun x _ => (intOf x).toNat)
      case atStart => exact ⟨k, by omega, by omega, Lib.hid rfl, rfl, rfl⟩
      case round =>
        obtain ⟨j, hj1, hj2, HJ, rfl, rfl⟩ := hrel
        by_cases p3 : 3 < j
        · go_wp2_with fail
          go_roundw
          case rel => exact ⟨j - 3, by omega, by omega, Lib.hid (by rw [← HJ.out]; omega), by go_num, by first | rfl | trivial⟩
          case measure => simp [intOf]; omega
        · have HE : Hid (R = j) := Lib.hid (by rw [HF.out, ← HJ.out]; omega)
          go_wp2_with fail
          go_ret
          exact ⟨by rw [HE.out]; rfl, by first | rfl | trivial⟩
theorem Vs.setN_in (l : List Int) (k : Nat) (h : l.contains ((k : Int) + 1) = true) : Vs.setN l (k + 1) = Vs.setN l k + 2 ^ k := by rw [Vs.setN, if_pos h]
theorem Vs.setN_not (l : List Int) (k : Nat) (h : l.contains ((k : Int) + 1) = false) : Vs.setN l (k + 1) = Vs.setN l k := by rw [Vs.setN, if_neg (by rw [h]; simp)]
theorem take_contains {l : List Int} {i : Nat} (h : i < l.length) (v : Int) : (l.take (i + 1)).contains v = ((l.take i).contains v || l[i] == v) := by
  rw [List.take_succ_eq_append_getElem h, List.contains_append]
  congr 1
  rw [List.contains_cons, List.contains_nil, Bool.or_false, Bool.eq_iff_iff, beq_iff_eq, beq_iff_eq]
  exact eq_comm
set_option maxHeartbeats 2000000 in
theorem rset24_any {w : World} {A : Option Addr} {len c : Nat} {l : List Int} (R0 : RowI w A len c l) :
    Calls Tryd.prog 10 #[.slice A len c] w fun e w' => e = .returned (.int .u16 ((Vs.set l : Nat) : Int)) ∧ w' = w := by
  have hlen := R0.len_eq
  have hle := R0.le
  have hmx := R0.max
  unfold maxLen at hmx
  have HAt := Lib.hid (fun i (h : i < len) => R0.at_ (Below.refl _ _) (i := i) (by rw [hlen]; exact h))
  have HTc := Lib.hid (fun i (h : i < len) (v : Int) => take_contains (l := l) (i := i) (by rw [hlen]; exact h) v)
  have HAll := Lib.hid (List.take_of_length_le (l := l) (i := len) (by omega))
  clear R0
  go_enter Tryd.func10, Tryd.ntmps10
  go_wp2_with fail
  go_loopw [3, 4, 5] (fun y p x wr => ∃ k : Nat, k ≤ 16 ∧ x = .int .i64 ((k : Int) + 1) ∧ p = .int .i64 ((2 ^ k : Nat) : Int) ∧ y = .int .i64 ((Vs.setN l k : Nat) : Int) ∧ wr = w) (fun _ _ x _ => 17 - (intOf x).toNat)
  case atStart => exact ⟨0, by omega, rfl, rfl, rfl, rfl⟩
  case round =>
    obtain ⟨k, hk, rfl, rfl, rfl, rfl⟩ := hrel
    have hS := Vs.setN_lt l k
    have hP : 2 ^ k ≤ 65536 := Nat.pow_le_pow_right (n := 2) (by decide) hk
    have HIn := Lib.hid (Vs.setN_in l k)
    have HNot := Lib.hid (Vs.setN_not l k)
    have HPw : Hid (2 ^ (k + 1) = 2 ^ k * 2) := Lib.hid (Nat.pow_succ 2 k)
    have HSt : Hid (k = 16 → Vs.setN l k = Vs.set l) := Lib.hid (fun h => by rw [h]; rfl)
    obtain ⟨P, HP⟩ : ∃ P, Hid (2 ^ k = P) := ⟨_, Lib.hid rfl⟩
    obtain ⟨Y, HY⟩ : ∃ Y, Hid (Vs.setN l k = Y) := ⟨_, Lib.hid rfl⟩
    rw [HP.out] at hS hP HIn HPw ⊢
    rw [HY.out] at hS HIn HNot HSt ⊢
    by_cases hlt : k < 16
    · have hkd : decide ((k : Int) + 1 < 17) = true := decide_eq_true (by omega)
      have hk1 : (k : Int) + 1 < 17 := by omega
      obtain ⟨wo, rfl⟩ : ∃ W, W = wr := ⟨_, rfl⟩
      go_wp2_with fail
      go_loopw [6, 7] (fun z x wx => ∃ i : Nat, i ≤ len ∧ x = .int .i64 (i : Int) ∧ z = .bool ((l.take i).contains ((k : Int) + 1)) ∧ wx = wo) (fun _ x _ => len - (intOf x).toNat)
      case atStart => exact ⟨0, by omega, rfl, by simp, rfl⟩
      case round =>
        obtain ⟨i, hi, rfl, rfl, rfl⟩ := hrel
        by_cases hil : i < len
        · obtain ⟨b, off, rfl, hb, hc⟩ := HAt.out i hil
          have HT := Lib.hid (HTc.out i hil ((k : Int) + 1))
          obtain ⟨t, ht⟩ : ∃ t, Hid ((l.take i).contains ((k : Int) + 1) = t) := ⟨_, Lib.hid rfl⟩
          obtain ⟨u, hu⟩ : ∃ u : Int, Hid (l[i]'(by omega) = u) := ⟨_, Lib.hid rfl⟩
          rw [hu.out] at hc HT
          rw [ht.out] at HT ⊢
          cases t
          · by_cases hq : u = (k : Int) + 1
            · have hqd : (u == (k : Int) + 1) = true := by simp [hq]
              rw [hqd] at HT
              clear hq
              go_wp2_with fail
              go_roundw
              case rel => exact ⟨i + 1, by omega, by go_num, by rw [HT.out]; rfl, by first | rfl | trivial⟩
              case measure => simp [intOf]; omega
            · have hqd : (u == (k : Int) + 1) = false := by simp [hq]
              rw [hqd] at HT
              clear hq
              go_wp2_with fail
              go_roundw
              case rel => exact ⟨i + 1, by omega, by go_num, by rw [HT.out]; rfl, by first | rfl | trivial⟩
              case measure => simp [intOf]; omega
          · go_wp2_with fail
            go_roundw
            case rel => exact ⟨i + 1, by omega, by go_num, by rw [HT.out]; rfl, by first | rfl | trivial⟩
            case measure => simp [intOf]; omega
        · obtain rfl : i = len := by omega
          rw [HAll.out]
          obtain ⟨t, ht⟩ : ∃ t, Hid (l.contains ((k : Int) + 1) = t) := ⟨_, Lib.hid rfl⟩
          rw [ht.out] at HIn HNot ⊢
          cases t
          · go_wp2_with fail
            go_roundw
            case rel => exact ⟨k + 1, by omega, by go_num, by rw [HPw.out]; go_num, by rw [HNot.out rfl], by first | rfl | trivial⟩
            case measure => simp [intOf]; omega
          · go_wp2_with fail
            go_roundw
            case rel => exact ⟨k + 1, by omega, by go_num, by rw [HPw.out]; go_num, by rw [HIn.out rfl]; go_num, by first | rfl | trivial⟩
            case measure => simp [intOf]; omega
    · have hk16 : k = 16 := by omega
      have HF := Lib.hid (HSt.out hk16)
      have hcv : (Y : Int) % 65536 = (Y : Int) := by omega
      have hkd : decide ((k : Int) + 1 < 17) = false := decide_eq_false (by omega)
      have hk1 : ¬ (k : Int) + 1 < 17 := by omega
      clear hk16
      go_wp2_with fail
      go_ret
      exact ⟨by rw [← HF.out]; first | rfl | go_num, by first | rfl | trivial⟩
end Go.Proofs.YtocgoibohfjgjaaDoor
