/- Contracts of uvar.Zig, uvar.Zag, uvar.Size and uvar.canEnd. -/
import Derived.Test.YtpfeccbnkgnioaaDoorBase
import Derived.Test.YtpfeccbnkgnioaaDoorUm
import Derived.WalkKit
import Derived.ProofKit
import Derived.WalkLawsBesides
import Derived.WalkSpells
import Derived.IntWalk
import Derived.PlainAid
import Derived.Lib.Hide
namespace Go.Proofs.YtpfeccbnkgnioaaDoor
open Go.RowKit
set_option linter.unusedVariables false

/-- what Zig comes to -/
def zigI (n : Int) : Int := if 0 ≤ n then 2 * n else -2 * n - 1
/-- what Zag comes to -/
def zagI (u : Int) : Int := if u % 2 = 0 then u / 2 else -((u + 1) / 2)

theorem zig_neg (n : Int) (h : n < 0) (h1 : -9223372036854775808 ≤ n) : bits .xor .u64 IntKind.u64.max (IntKind.u64.wrap (IntKind.u64.wrap n * 2)) = zigI n := by
  have e1 : IntKind.u64.wrap n = n + 18446744073709551616 := by rw [IntKind.wrap_u64]; omega
  have e2 : IntKind.u64.wrap ((n + 18446744073709551616) * 2) = 2 * n + 18446744073709551616 := by rw [IntKind.wrap_u64]; omega
  rw [e1, e2, Um.not_u64 _ (by omega) (by omega)]
  unfold zigI
  rw [if_neg (by omega)]; omega
theorem zig_pos (n : Int) (h : 0 ≤ n) : n * 2 = zigI n := by unfold zigI; rw [if_pos h]; omega
theorem zig_bounds (n : Int) (h1 : -9223372036854775808 ≤ n) (h2 : n ≤ 9223372036854775807) : 0 ≤ zigI n ∧ zigI n ≤ 18446744073709551615 := by unfold zigI; split <;> omega
theorem zag_bounds (u : Int) (h1 : 0 ≤ u) (h2 : u ≤ 18446744073709551615) : -9223372036854775808 ≤ zagI u ∧ zagI u ≤ 9223372036854775807 := by unfold zagI; split <;> omega
theorem zag_zig (n : Int) : zagI (zigI n) = n := by unfold zagI zigI; repeat' split <;> omega
theorem zig_zag (u : Int) (h1 : 0 ≤ u) : zigI (zagI u) = u := by unfold zagI zigI; repeat' split <;> omega
theorem zag_odd (u : Int) (h1 : 0 ≤ u) (h2 : u ≤ 18446744073709551615) (h : u % 2 = 1) : bits .xor .i64 (-1) (u / 2) = zagI u := by
  obtain ⟨a, ha⟩ := Int.eq_ofNat_of_zero_le (show 0 ≤ u / 2 by omega)
  rw [ha, i64_not a (by omega)]
  unfold zagI
  rw [if_neg (by omega)]; omega
theorem zag_even (u : Int) (h : u % 2 = 0) : u / 2 = zagI u := by unfold zagI; rw [if_pos h]

theorem size_end {L j a : Nat} (h0 : a < 128) (h : L = j + (Um.enc (9 - j) a).length) : ((j : Int) + 1) = (L : Int) := by
  rw [Um.enc_small h0] at h; simp at h; omega
theorem size_ten {L j a : Nat} (hj : j = 9) (h : L = j + (Um.enc (9 - j) a).length) : (10 : Int) = (L : Int) := by
  subst hj; simp [Um.enc] at h; omega
theorem size_next {L j a : Nat} (hj : j < 9) (h0 : ¬ a < 128) (hf : Um.fits (9 - j) a) (h : L = j + (Um.enc (9 - j) a).length) : Um.fits (9 - (j + 1)) (a / 128) ∧ L = j + 1 + (Um.enc (9 - (j + 1)) (a / 128)).length := by
  obtain ⟨f, hf9⟩ : ∃ f, 9 - j = f + 1 := ⟨8 - j, by omega⟩
  have e : 9 - (j + 1) = f := by omega
  rw [hf9] at h hf
  rw [e]
  rw [Um.enc_great (by omega)] at h
  simp at h
  exact ⟨Um.fits_div hf, by omega⟩
theorem beq_nat (b c : Nat) : ((b : Int) == (c : Int)) = (b == c) := by rw [Bool.eq_iff_iff]; simp; omega
theorem bne_nat (b c : Nat) : ((b : Int) != (c : Int)) = (b != c) := by rw [Bool.eq_iff_iff]; simp; omega
end Go.Proofs.YtpfeccbnkgnioaaDoor
