/- Contracts of layer 19's code: Room, Count. -/
import Derived.Test.YtgfjniogflmlmaaSp
import Derived.Test.YtgfjniogflmlmaaPA
namespace Go.Proofs.Ytgfjniogflmlmaa
open Go.RowKit
set_option linter.unusedVariables false
set_option maxRecDepth 100000
set_option linter.unusedSimpArgs false

theorem croom19_eq {w : World} {m : Int} (h1 : -9223372036854775808 ≤ m) (h2 : m ≤ 9223372036854775807) :
    Calls Try.prog 8 #[.int .i64 m] w fun e w' => e = .returned (.int .i64 ((Sp.room m : Nat) : Int)) ∧ w' = w := by
  by_cases p1 : m < 32
  · have HF : Hid (Sp.room m = 0) := Lib.hid (Sp.room_out (by omega))
    have hd : decide (m < 32) = true := decide_eq_true p1
    go_enter Try.func8, Try.ntmps8
    go_wp2_with fail
    go_ret
    exact ⟨by rw [HF.out]; rfl, rfl⟩
  · have hd : decide (m < 32) = false := decide_eq_false p1
    by_cases p2 : 65507 < m
    · have HF : Hid (Sp.room m = 0) := Lib.hid (Sp.room_out (by omega))
      have hd2 : decide (65507 < m) = true := decide_eq_true p2
      go_enter Try.func8, Try.ntmps8
      go_wp2_with fail
      go_ret
      exact ⟨by rw [HF.out]; rfl, rfl⟩
    · have hd2 : decide (65507 < m) = false := decide_eq_false p2
      have HF : Hid (((Sp.room m : Nat) : Int) = m - 20) := Lib.hid (by rw [Sp.room_in (by omega) (by omega)]; omega)
      go_enter Try.func8, Try.ntmps8
      go_wp2_with fail
      go_ret
      exact ⟨by rw [HF.out]; rfl, rfl⟩
theorem Sp.many_zero (r : Nat) : Sp.many r 0 = 1 := by
  unfold Sp.many
  rw [if_pos (.inr (Nat.zero_div r)), Nat.zero_div]
theorem Sp.many_succ {r : Nat} (hr : 0 < r) (j : Nat) : Sp.many r (j + 1) = 1 + j / r := by
  have h := Nat.succ_div (a := j) (b := r)
  unfold Sp.many
  by_cases hd : r ∣ j + 1
  · rw [if_pos hd] at h
    have h0 := Nat.mod_eq_zero_of_dvd hd
    rw [if_neg (fun q => q.elim (fun a => by rw [h0] at a; cases a) (fun b => by rw [h] at b; cases b))]
    omega
  · rw [if_neg hd] at h
    rw [if_pos (.inl (Nat.pos_of_ne_zero fun q => hd (Nat.dvd_of_mod_eq_zero q)))]
    omega
set_option maxHeartbeats 1000000 in
theorem ccount19_eq {w : World} {m n : Int} (h1 : -9223372036854775808 ≤ m) (h2 : m ≤ 9223372036854775807) (h3 : -9223372036854775808 ≤ n) (h4 : n ≤ 9223372036854775807) :
    Calls Try.prog 6 #[.int .i64 m, .int .i64 n] w fun e w' => e = .returned (.tuple #[.int .i64 (((Sp.count m n).1 : Nat) : Int), .int .i64 (((Sp.count m n).2 : Nat) : Int)]) ∧ w' = w := by
  have hr := Sp.room_le m
  have HM := Lib.hid (fun h => (Sp.room_mtu (m := m) h).1)
  have RC := Lib.hid (fun W => croom19_eq (w := W) h1 h2)
  have HA := Lib.hid (fun h => Sp.count_arg (m := m) (n := n) h)
  have HL := Lib.hid (fun h k => Sp.count_long (m := m) (n := n) h k)
  have HG := Lib.hid (fun h k => Sp.count_good (m := m) (n := n) h k)
  obtain ⟨r, hrr⟩ : ∃ r, Hid (Sp.room m = r) := ⟨_, Lib.hid rfl⟩
  rw [hrr.out] at hr RC HA HL HG HM
  obtain ⟨R, hR⟩ : ∃ R, Hid (Sp.count m n = R) := ⟨_, Lib.hid rfl⟩
  rw [hR.out] at HA HL HG ⊢
  clear hrr hR
  by_cases p1 : r = 0
  · subst p1
    have HF := Lib.hid (HA.out (.inl rfl))
    go_enter Try.func6, Try.ntmps6
    go_wp2_with fail
    refine (RC.out _).mono ?_
    rintro e w1 ⟨rfl, rfl⟩
    go_wp2_with fail
    go_ret2
    exact ⟨by rw [HF.out]; rfl, rfl⟩
  · by_cases p2 : n < 0
    · have HF := Lib.hid (HA.out (.inr p2))
      have hd : decide (n < 0) = true := decide_eq_true p2
      go_enter Try.func6, Try.ntmps6
      go_wp2_with fail
      refine (RC.out _).mono ?_
      rintro e w1 ⟨rfl, rfl⟩
      go_wp2_with fail
      go_ret2
      exact ⟨by rw [HF.out]; rfl, rfl⟩
    · have hd : decide (n < 0) = false := decide_eq_false p2
      have hr12 := HM.out p1
      have hr0 : ((r : Int) == 0) = false := by simp; omega
      by_cases p3 : n = 0
      · subst p3
        have HF := Lib.hid (HG.out (by omega) (by rw [show (0 : Int).toNat = 0 from rfl, Sp.many_zero]; omega))
        rw [show (0 : Int).toNat = 0 from rfl, Sp.many_zero] at HF
        have hz : (0 : Int).tdiv (r : Int) = 0 := Int.zero_tdiv _
        go_enter Try.func6, Try.ntmps6
        go_wp2_with fail
        refine (RC.out _).mono ?_
        rintro e w1 ⟨rfl, rfl⟩
        go_wp2_with fail
        go_ret2
        exact ⟨by rw [HF.out]; rfl, rfl⟩
      · obtain ⟨j, rfl⟩ : ∃ j : Nat, n = (j : Int) + 1 := ⟨(n - 1).toNat, by omega⟩
        have ht : ((j : Int) + 1).toNat = j + 1 := by omega
        have HL' := Lib.hid (HL.out (by omega))
        have HG' := Lib.hid (HG.out (by omega))
        rw [ht, Sp.many_succ (by omega)] at HL' HG'
        clear HA HL HG p2 ht p3 HM
        obtain ⟨q, hq⟩ : ∃ q, Hid (j / r = q) := ⟨_, Lib.hid rfl⟩
        have hqq : (j : Int).tdiv (r : Int) = (q : Int) := by rw [← hq.out]; exact (Int.ofNat_tdiv j r).symm
        have hq1 : q ≤ 4611686018427387903 := by
          have h5 : r * q ≤ j := by rw [← hq.out]; exact Nat.mul_div_le j r
          have h6 : 2 * q ≤ r * q := Nat.mul_le_mul_right q (by omega)
          omega
        rw [hq.out] at HL' HG'
        have hj1 : (j : Int) + 1 - 1 = (j : Int) := by omega
        have hj0 : ¬ (0 : Int) > (j : Int) := by omega
        clear hq
        by_cases k : 65535 < 1 + q
        · have HF := Lib.hid (HL'.out k)
          have hk : decide (65535 < 1 + (q : Int)) = true := decide_eq_true (by omega)
          clear k
          go_enter Try.func6, Try.ntmps6
          go_wp2_with fail
          refine (RC.out _).mono ?_
          rintro e w1 ⟨rfl, rfl⟩
          go_wp2_with fail
          go_ret2
          exact ⟨by rw [HF.out]; rfl, rfl⟩
        · have HF := Lib.hid (HG'.out k)
          have hk : decide (65535 < 1 + (q : Int)) = false := decide_eq_false (by omega)
          have hc : ((1 + q : Nat) : Int) = 1 + (q : Int) := by omega
          clear k
          go_enter Try.func6, Try.ntmps6
          go_wp2_with fail
          refine (RC.out _).mono ?_
          rintro e w1 ⟨rfl, rfl⟩
          go_wp2_with fail
          go_ret2
          exact ⟨by rw [HF.out]; rfl, rfl⟩
theorem croom19_any {w : World} {m : Int} (h1 : -9223372036854775808 ≤ m) (h2 : m ≤ 9223372036854775807) :
    Calls Try.prog 8 #[.int .i64 m] w fun e w' => e = .returned (.int .i64 ((Sp.room m : Nat) : Int)) ∧ Below w.heap.size w w' :=
  (croom19_eq h1 h2).mono (fun e w' h => ⟨h.1, by rw [h.2]; exact Below.refl _ _⟩)
theorem ccount19_any {w : World} {m n : Int} (h1 : -9223372036854775808 ≤ m) (h2 : m ≤ 9223372036854775807) (h3 : -9223372036854775808 ≤ n) (h4 : n ≤ 9223372036854775807) :
    Calls Try.prog 6 #[.int .i64 m, .int .i64 n] w fun e w' => e = .returned (.tuple #[.int .i64 (((Sp.count m n).1 : Nat) : Int), .int .i64 (((Sp.count m n).2 : Nat) : Int)]) ∧ Below w.heap.size w w' :=
  (ccount19_eq h1 h2 h3 h4).mono (fun e w' h => ⟨h.1, by rw [h.2]; exact Below.refl _ _⟩)
end Go.Proofs.Ytgfjniogflmlmaa
