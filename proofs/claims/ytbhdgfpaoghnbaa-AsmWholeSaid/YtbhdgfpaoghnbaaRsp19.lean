/- Contracts of layer 19's reference: Room, Count. -/
import Derived.Test.YtbhdgfpaoghnbaaPS
import Derived.Test.YtbhdgfpaoghnbaaPA
namespace Go.Proofs.Ytbhdgfpaoghnbaa
open Go.RowKit
set_option linter.unusedVariables false
set_option maxRecDepth 100000
set_option linter.unusedSimpArgs false

theorem rroom19_any {w : World} {m : Int} (h1 : -9223372036854775808 ≤ m) (h2 : m ≤ 9223372036854775807) :
    Calls Try.prog 21 #[.int .i64 m] w fun e w' => e = .returned (.int .i64 ((Sp.room m : Nat) : Int)) ∧ w' = w := by
  by_cases p1 : 32 ≤ m
  · by_cases p2 : m ≤ 65507
    · have HF : Hid (((Sp.room m : Nat) : Int) = m - 20) := Lib.hid (by rw [Sp.room_in p1 p2]; omega)
      go_enter Try.func21, Try.ntmps21
      go_wp2_with fail
      go_ret
      exact ⟨by rw [HF.out]; rfl, rfl⟩
    · have HF : Hid (Sp.room m = 0) := Lib.hid (Sp.room_out (by omega))
      go_enter Try.func21, Try.ntmps21
      go_wp2_with fail
      go_ret
      exact ⟨by rw [HF.out]; rfl, rfl⟩
  · have HF : Hid (Sp.room m = 0) := Lib.hid (Sp.room_out (by omega))
    go_enter Try.func21, Try.ntmps21
    go_wp2_with fail
    go_ret
    exact ⟨by rw [HF.out]; rfl, rfl⟩
set_option maxHeartbeats 1000000 in
theorem rcount19_any {w : World} {m n : Int} (h1 : -9223372036854775808 ≤ m) (h2 : m ≤ 9223372036854775807) (h3 : -9223372036854775808 ≤ n) (h4 : n ≤ 9223372036854775807) :
    Calls Try.prog 20 #[.int .i64 m, .int .i64 n] w fun e w' => e = .returned (.tuple #[.int .i64 (((Sp.count m n).1 : Nat) : Int), .int .i64 (((Sp.count m n).2 : Nat) : Int)]) ∧ w' = w := by
  have hr := Sp.room_le m
  have HM := Lib.hid (fun h => (Sp.room_mtu (m := m) h).1)
  have RC := Lib.hid (fun W => rroom19_any (w := W) h1 h2)
  have HA := Lib.hid (fun h => Sp.count_arg (m := m) (n := n) h)
  have HL := Lib.hid (fun h k => Sp.count_long (m := m) (n := n) h k)
  have HG := Lib.hid (fun h k => Sp.count_good (m := m) (n := n) h k)
  obtain ⟨r, hrr⟩ : ∃ r, Hid (Sp.room m = r) := ⟨_, Lib.hid rfl⟩
  rw [hrr.out] at hr RC HA HL HG HM
  obtain ⟨R, hR⟩ : ∃ R, Hid (Sp.count m n = R) := ⟨_, Lib.hid rfl⟩
  rw [hR.out] at HA HL HG ⊢
  clear hrr hR
  by_cases p1 : r = 0
  · subst p1
    have HF := Lib.hid (HA.out (.inl rfl))
    go_enter Try.func20, Try.ntmps20
    go_wp2_with fail
    refine (RC.out _).mono ?_
    rintro e w1 ⟨rfl, rfl⟩
    go_wp2_with fail
    go_ret2
    exact ⟨by rw [HF.out]; rfl, rfl⟩
  · by_cases p2 : n < 0
    · have HF := Lib.hid (HA.out (.inr p2))
      go_enter Try.func20, Try.ntmps20
      go_wp2_with fail
      refine (RC.out _).mono ?_
      rintro e w1 ⟨rfl, rfl⟩
      go_wp2_with fail
      go_ret2
      exact ⟨by rw [HF.out]; rfl, rfl⟩
    · obtain ⟨n, rfl⟩ : ∃ k : Nat, n = (k : Int) := ⟨n.toNat, by omega⟩
      have HL' := Lib.hid (HL.out (by omega))
      have HG' := Lib.hid (HG.out (by omega))
      rw [Int.toNat_natCast] at HL' HG'
      clear HA HL HG p2
      obtain ⟨q, hq⟩ : ∃ q, Hid (n / r = q) := ⟨_, Lib.hid rfl⟩
      obtain ⟨z, hz⟩ : ∃ z, Hid (n % r = z) := ⟨_, Lib.hid rfl⟩
      have hqq : (n : Int).tdiv (r : Int) = (q : Int) := by rw [← hq.out]; exact (Int.ofNat_tdiv n r).symm
      have hzz : (n : Int).tmod (r : Int) = (z : Int) := by rw [← hz.out]; exact (Int.ofNat_tmod n r).symm
      have hqn : q ≤ n := by rw [← hq.out]; exact Nat.div_le_self _ _
      have hq1 : q ≤ 4611686018427387903 := by
        have h5 : r * q ≤ n := by rw [← hq.out]; exact Nat.mul_div_le n r
        have h6 : 2 * q ≤ r * q := Nat.mul_le_mul_right q (by have := HM.out p1; omega)
        omega
      unfold Sp.many at HL' HG'
      rw [hq.out, hz.out] at HL' HG'
      have hr0 : ((r : Int) == 0) = false := by simp; omega
      have hn0 : decide ((n : Int) < 0) = false := decide_eq_false (by omega)
      clear hq hz
      by_cases c : 0 < z ∨ q = 0
      · rw [if_pos c] at HL' HG'
        have hd : 0 < z ∨ (∃ _ : ¬ 0 < z, q = 0) := by
          by_cases c1 : 0 < z
          · exact .inl c1
          · exact .inr ⟨c1, by omega⟩
        clear c
        by_cases k : 65535 < q + 1
        · have HF := Lib.hid (HL'.out k)
          have hk : decide (65535 < (q : Int) + 1) = true := decide_eq_true (by omega)
          rcases hd with c1 | ⟨c1, rfl⟩
          rotate_left
          · omega
          clear k
          go_enter Try.func20, Try.ntmps20
          go_wp2_with fail
          refine (RC.out _).mono ?_
          rintro e w1 ⟨rfl, rfl⟩
          go_wp2_with fail
          go_ret2
          exact ⟨by rw [HF.out]; rfl, rfl⟩
        · have HF := Lib.hid (HG'.out k)
          have hk : decide (65535 < (q : Int) + 1) = false := decide_eq_false (by omega)
          clear k
          rcases hd with c1 | ⟨c1, rfl⟩
          all_goals
            go_enter Try.func20, Try.ntmps20
            go_wp2_with fail
            refine (RC.out _).mono ?_
            rintro e w1 ⟨rfl, rfl⟩
            go_wp2_with fail
            go_ret2
            exact ⟨by rw [HF.out]; rfl, rfl⟩
      · rw [if_neg c] at HL' HG'
        have c1 : ¬ 0 < z := fun h => c (.inl h)
        have c2 : ¬ q = 0 := fun h => c (.inr h)
        have c2' : ((q : Int) == 0) = false := by simp; omega
        clear c
        by_cases k : 65535 < q
        · have HF := Lib.hid (HL'.out k)
          have hk : 65535 < (q : Int) := by omega
          clear k
          go_enter Try.func20, Try.ntmps20
          go_wp2_with fail
          refine (RC.out _).mono ?_
          rintro e w1 ⟨rfl, rfl⟩
          go_wp2_with fail
          go_ret2
          exact ⟨by rw [HF.out]; rfl, rfl⟩
        · have HF := Lib.hid (HG'.out k)
          have hk : ¬ 65535 < (q : Int) := by omega
          clear k
          go_enter Try.func20, Try.ntmps20
          go_wp2_with fail
          refine (RC.out _).mono ?_
          rintro e w1 ⟨rfl, rfl⟩
          go_wp2_with fail
          go_ret2
          exact ⟨by rw [HF.out]; rfl, rfl⟩
end Go.Proofs.Ytbhdgfpaoghnbaa
