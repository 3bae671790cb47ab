/- Contracts of ring.Dist, Upto, Between, Start, and of the reference's. -/
import Derived.Test.YtjkpkailcemjhaaBase
import Derived.Test.YtjkpkailcemjhaaRm
namespace Go.Proofs.Ytjkpkailcemjhaa
open Go.RowKit
set_option linter.unusedVariables false

theorem dist_any (a b : Nat) (w : World) (ha : a < 18446744073709551616) (hb : b < 18446744073709551616) :
    Calls Try.prog 7 #[.int .u64 (a : Int), .int .u64 (b : Int)] w fun e w' => e = .returned (.int .u64 ((Rm.dist a b : Nat) : Int)) ∧ w = w' := by
  go_enter Try.func7, Try.ntmps7
  go_wp2
  go_ret
  exact ⟨ret_int (by rw [IntKind.wrap_u64]; exact Rm.dist_wrap ha hb), rfl⟩
theorem distr_any (a b : Nat) (w : World) (ha : a < 18446744073709551616) (hb : b < 18446744073709551616) :
    Calls Try.prog 8 #[.int .u64 (a : Int), .int .u64 (b : Int)] w fun e w' => e = .returned (.int .u64 ((Rm.dist a b : Nat) : Int)) ∧ w = w' := by
  by_cases h : a ≤ b
  · go_enter Try.func8, Try.ntmps8
    go_wp2
    go_ret
    exact ⟨ret_int (Rm.dist_low h hb), rfl⟩
  · go_enter Try.func8, Try.ntmps8
    go_wp2
    go_ret
    exact ⟨ret_int (Rm.dist_high (by omega) ha), rfl⟩

theorem upto_any (a x b : Nat) (w : World) (ha : a < 18446744073709551616) (hx : x < 18446744073709551616) (hb : b < 18446744073709551616) :
    Calls Try.prog 9 #[.int .u64 (a : Int), .int .u64 (x : Int), .int .u64 (b : Int)] w fun e w' => e = .returned (.bool (Rm.upto a x b)) ∧ w = w' := by
  have he : IntKind.u64.wrap ((a : Int) + 1) = (((a + 1) % 18446744073709551616 : Nat) : Int) := by rw [IntKind.wrap_u64]; omega
  have hu := Lib.hid (Rm.upto_dist ha hx hb)
  obtain ⟨f, Hf⟩ : ∃ f, Hid ((a + 1) % 18446744073709551616 = f) := ⟨_, rfl⟩
  have hf : f < 18446744073709551616 := by rw [← Hf.out]; exact Nat.mod_lt _ (by decide)
  rw [Hf.out] at he hu
  go_enter Try.func9, Try.ntmps9
  go_wp2_with fail
  refine (dist_any f x _ hf hx).mono ?_
  rintro e w1 ⟨rfl, rfl⟩
  go_wp2_with fail
  refine (dist_any f b _ hf hb).mono ?_
  rintro e w1 ⟨rfl, rfl⟩
  go_wp2_with fail
  go_ret
  exact ⟨ret_bool hu.out, rfl⟩
theorem uptor_any (a x b : Nat) (w : World) :
    Calls Try.prog 10 #[.int .u64 (a : Int), .int .u64 (x : Int), .int .u64 (b : Int)] w fun e w' => e = .returned (.bool (Rm.upto a x b)) ∧ w = w' := by
  unfold Rm.upto
  by_cases h1 : a < b
  · rw [if_pos h1]
    by_cases h2 : a < x
    all_goals by_cases h3 : x ≤ b
    all_goals
      go_enter Try.func10, Try.ntmps10
      go_wp2
      go_ret
      exact ⟨by simp; omega, rfl⟩
  · rw [if_neg h1]
    by_cases h4 : b < a
    · rw [if_pos h4]
      by_cases h2 : a < x
      all_goals by_cases h3 : x ≤ b
      all_goals
        go_enter Try.func10, Try.ntmps10
        go_wp2
        go_ret
        exact ⟨by simp; omega, rfl⟩
    · rw [if_neg h4]
      go_enter Try.func10, Try.ntmps10
      go_wp2
      go_ret
      exact ⟨rfl, rfl⟩
theorem between_any (a x b : Nat) (w : World) (ha : a < 18446744073709551616) (hx : x < 18446744073709551616) (hb : b < 18446744073709551616) :
    Calls Try.prog 11 #[.int .u64 (a : Int), .int .u64 (x : Int), .int .u64 (b : Int)] w fun e w' => e = .returned (.bool (Rm.between a x b)) ∧ w = w' := by
  unfold Rm.between
  by_cases h : x = b
  · subst h
    rw [show (decide (x ≠ x) && Rm.upto a x x) = false by simp]
    go_enter Try.func11, Try.ntmps11
    go_wp2_with fail
    go_ret
    exact ⟨rfl, rfl⟩
  · have hne : ((x : Int) != (b : Int)) = true := by simp; omega
    rw [show (decide (x ≠ b) && Rm.upto a x b) = Rm.upto a x b by simp [h]]
    obtain ⟨u, Hu⟩ : ∃ u, Hid (Rm.upto a x b = u) := ⟨_, rfl⟩
    rw [Hu.out]
    go_enter Try.func11, Try.ntmps11
    go_wp2_with fail
    refine (upto_any a x b _ ha hx hb).mono ?_
    rintro e w1 ⟨rfl, rfl⟩
    rw [Hu.out]
    go_wp2_with fail
    go_ret
    exact ⟨rfl, rfl⟩
theorem betweenr_any (a x b : Nat) (w : World) :
    Calls Try.prog 12 #[.int .u64 (a : Int), .int .u64 (x : Int), .int .u64 (b : Int)] w fun e w' => e = .returned (.bool (Rm.between a x b)) ∧ w = w' := by
  unfold Rm.between
  by_cases h0 : a = b
  · subst h0
    rw [show (decide (x ≠ a) && Rm.upto a x a) = decide (x ≠ a) by simp [Rm.upto]]
    by_cases h : x = a
    · subst h
      go_enter Try.func12, Try.ntmps12
      go_wp2_with fail
      go_ret
      exact ⟨by simp, rfl⟩
    · have hne : ((x : Int) != (a : Int)) = true := by simp; omega
      go_enter Try.func12, Try.ntmps12
      go_wp2_with fail
      go_ret
      exact ⟨by simp [h], rfl⟩
  · by_cases h : x = b
    · subst h
      rw [show (decide (x ≠ x) && Rm.upto a x x) = false by simp]
      go_enter Try.func12, Try.ntmps12
      go_wp2_with fail
      go_ret
      exact ⟨rfl, rfl⟩
    · have hne : ((x : Int) != (b : Int)) = true := by simp; omega
      rw [show (decide (x ≠ b) && Rm.upto a x b) = Rm.upto a x b by simp [h]]
      obtain ⟨u, Hu⟩ : ∃ u, Hid (Rm.upto a x b = u) := ⟨_, rfl⟩
      rw [Hu.out]
      go_enter Try.func12, Try.ntmps12
      go_wp2_with fail
      refine (uptor_any a x b _).mono ?_
      rintro e w1 ⟨rfl, rfl⟩
      rw [Hu.out]
      go_wp2_with fail
      go_ret
      exact ⟨rfl, rfl⟩
theorem start_wrap (id : Nat) (bit : Int) (h : 0 ≤ bit) (h3 : bit ≤ 63) : IntKind.u64.wrap ((id : Int) + IntKind.u64.wrap (2 ^ bit.toNat)) = (((id + 2 ^ bit.toNat) % 18446744073709551616 : Nat) : Int) := by
  have hp := Rm.pow_small h h3
  have e : ((2 : Int) ^ bit.toNat) = ((2 ^ bit.toNat : Nat) : Int) := by simp
  rw [e]
  generalize 2 ^ bit.toNat = p at *
  rw [IntKind.wrap_u64, IntKind.wrap_u64]
  omega
theorem start_any (id : Nat) (bit : Int) (w : World) (hi : id < 18446744073709551616) (h1 : -9223372036854775808 ≤ bit) (h2 : bit ≤ 9223372036854775807) :
    Calls Try.prog 13 #[.int .u64 (id : Int), .int .i64 bit] w fun e w' => e = .returned (.int .u64 ((Rm.start id bit : Nat) : Int)) ∧ w = w' := by
  unfold Rm.start
  by_cases h : bit < 0
  · rw [if_pos (.inl h)]
    go_enter Try.func13, Try.ntmps13
    go_wp2
    go_ret
    exact ⟨rfl, rfl⟩
  · by_cases h3 : 63 < bit
    · rw [if_pos (.inr h3)]
      go_enter Try.func13, Try.ntmps13
      go_wp2
      go_ret
      exact ⟨rfl, rfl⟩
    · rw [if_neg (by omega)]
      go_enter Try.func13, Try.ntmps13
      go_wp2
      go_ret
      exact ⟨ret_int (start_wrap id bit h h3), rfl⟩
theorem startr_low (id far : Nat) (h : ¬ 18446744073709551615 - (id : Int) < (far : Int)) : (id : Int) + (far : Int) = (((id + far) % 18446744073709551616 : Nat) : Int) := by omega
theorem startr_high (id far : Nat) (hi : id < 18446744073709551616) (hf : far ≤ 9223372036854775808) (h : 18446744073709551615 - (id : Int) < (far : Int)) : (far : Int) - (18446744073709551615 - (id : Int)) - 1 = (((id + far) % 18446744073709551616 : Nat) : Int) := by omega
set_option maxRecDepth 100000 in
theorem startr_any (id : Nat) (bit : Int) (w : World) (hi : id < 18446744073709551616) (h1 : -9223372036854775808 ≤ bit) (h2 : bit ≤ 9223372036854775807) :
    Calls Try.prog 14 #[.int .u64 (id : Int), .int .i64 bit] w fun e w' => e = .returned (.int .u64 ((Rm.start id bit : Nat) : Int)) ∧ w = w' := by
  unfold Rm.start
  by_cases h : bit < 0
  · rw [if_pos (.inl h)]
    go_enter Try.func14, Try.ntmps14
    go_wp2
    go_ret
    exact ⟨rfl, rfl⟩
  · by_cases h3 : 63 < bit
    · rw [if_pos (.inr h3)]
      go_enter Try.func14, Try.ntmps14
      go_wp2
      go_ret
      exact ⟨rfl, rfl⟩
    · rw [if_neg (by omega)]
      obtain ⟨n, rfl⟩ := Int.eq_ofNat_of_zero_le (show 0 ≤ bit by omega)
      have hn : n ≤ 63 := by omega
      rw [Int.toNat_natCast]
      clear h h3 h1 h2
      obtain ⟨r, HR⟩ : ∃ r, Hid ((id + 2 ^ n) % 18446744073709551616 = r) := ⟨_, rfl⟩
      rw [HR.out]
      go_enter Try.func14, Try.ntmps14
      go_wp2
      go_loopw [5, 6] (fun f i wr => ∃ (far j : Nat), f = .int .u64 far ∧ i = .int .i64 j ∧ j ≤ n ∧ Hid (far = 2 ^ j) ∧ wr = w) (fun _ i _ => n - (intOf i).toNat)
      case atStart => exact ⟨1, 0, rfl, rfl, by omega, Lib.hid rfl, rfl⟩
      case round =>
        obtain ⟨far, j, rfl, rfl, hj, Hf, rfl⟩ := hrel
        have hfar : far ≤ 9223372036854775808 := by
          rw [Hf.out]
          have := Nat.pow_le_pow_right (show 0 < 2 by decide) (show j ≤ 63 by omega)
          omega
        by_cases hlt : j < n
        · have hfar2 : far ≤ 4611686018427387904 := by
            rw [Hf.out]
            have := Nat.pow_le_pow_right (show 0 < 2 by decide) (show j ≤ 62 by omega)
            omega
          go_wp2
          go_roundw
          case rel => exact ⟨far + far, j + 1, by go_num, by go_num, by omega, Lib.hid (by rw [Hf.out, Nat.pow_succ]; omega), trivial⟩
          case measure => simp [intOf]; omega
        · obtain rfl : j = n := by omega
          by_cases hc : 18446744073709551615 - (id : Int) < (far : Int)
          · go_wp2
            go_ret
            exact ⟨ret_int (by rw [← HR.out, ← Hf.out]; exact startr_high id far hi hfar hc), rfl⟩
          · go_wp2
            go_ret
            exact ⟨ret_int (by rw [← HR.out, ← Hf.out]; exact startr_low id far (by omega)), rfl⟩
end Go.Proofs.Ytjkpkailcemjhaa
