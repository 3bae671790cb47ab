/- Contracts of crc.shift, crc.Step, crc.Sum and of the reference's step, Step, Sum. -/
import Derived.Test.YtbhdgfpaoghnbaaPA
import Derived.Test.YtbhdgfpaoghnbaaPR
namespace Go.Proofs.Ytbhdgfpaoghnbaa
open Go.RowKit
set_option linter.unusedVariables false

/-! ### the reference -/
theorem refstep_any (x : Nat) (o : Bool) (w : World) (h : x < 4294967296) :
    Calls Try.prog 56 #[.int .u32 (x : Int), .bool o] w fun e w' => e = .returned (.int .u32 (Cm.sh (x ^^^ o.toNat) : Int)) ∧ w = w' := by
  have hdiv : (x ^^^ o.toNat) / 2 = x / 2 := by rw [Cm.xor_div2]; cases o <;> simp
  have hmod := Cm.xor_mod2 x o.toNat
  have hx := u32_xor_nat (x / 2) 2197175160 (by omega) (by omega)
  have Hd := Lib.hid hdiv
  have Hm := Lib.hid hmod
  have Hx := Lib.hid hx
  clear hdiv hmod hx
  rcases Nat.mod_two_eq_zero_or_one x with h0 | h0 <;> cases o
  all_goals
    first
      | have hc : ((x : Int) % 2 == 1) = false := by simp; omega
      | have hc : ((x : Int) % 2 == 1) = true := by simp; omega
    have H0 := Lib.hid h0
    clear h0
    go_enter Try.func56, Try.ntmps56
    go_wp2_with fail
    go_ret
    refine ⟨ret_int ?_, rfl⟩
    unfold Cm.sh
    rw [Hd.out, Hm.out, H0.out]
    first
      | (rw [if_neg (by decide)]; omega)
      | (rw [if_pos (by decide)]; exact Hx.out)

/-- the low bits of a byte, one by one -/
theorem bit_toNat (c : Nat) : (decide (c % 2 = 1)).toNat = c % 2 := by
  rcases Nat.mod_two_eq_zero_or_one c with h | h <;> rw [h] <;> rfl
theorem low_next (s c : Nat) : Cm.shN 1 (s ^^^ c % 2) ^^^ c / 2 = Cm.shN 1 (s ^^^ c) := by
  have e : c = (c % 2) ^^^ (2 * (c / 2)) := by
    apply Nat.eq_of_testBit_eq
    intro i
    rw [Nat.testBit_xor]
    cases i with
    | zero => simp [Nat.testBit_zero]
    | succ i => simp [Nat.testBit_succ, Nat.mod_div_self]
  conv => rhs; rw [e]
  rw [← Nat.xor_assoc, Cm.shN_xor 1 (s ^^^ c % 2), show (2 : Nat) * (c / 2) = 2 ^ 1 * (c / 2) by simp, Cm.shN_pow]

set_option maxRecDepth 100000 in
set_option maxHeartbeats 400000 in
theorem refStep_any (B : Nat) (s : Nat) (A : Option Addr) (l : List Nat) (n c : Nat) (w : World) (hs : s < 4294967296) (hn : l.length = n) (hc : n ≤ 9223372036854775807) (hA : Sees .u8 w B A l) (hb : ∀ x ∈ l, x < 256) :
    Calls Try.prog 55 #[.int .u32 (s : Int), .slice A n c] w fun e w' => e = .returned (.int .u32 (Cm.step s l : Int)) ∧ w = w' := by
  have Hn := Lib.hid hn
  clear hn
  have HA := Lib.hid hA
  clear hA
  have Hb := Lib.hid hb
  clear hb
  go_enter Try.func55, Try.ntmps55
  go_wp2_with fail
  go_loop [0, 5] (fun r i => ∃ (j a : Nat), j ≤ n ∧ i = .int .i64 j ∧ r = .int .u32 a ∧ a < 4294967296 ∧ Hid (a = Cm.step s (l.take j))) (fun _ i => n - (intOf i).toNat)
  case atStart => exact ⟨0, s, by omega, rfl, rfl, hs, rfl⟩
  case round =>
    obtain ⟨j, a, hj, rfl, rfl, ha, He⟩ := hrel
    by_cases hlt : j < n
    · obtain ⟨b, off, rfl, _, hcell⟩ := HA.out.at_ (i := j) (by rw [Hn.out]; exact hlt)
      have hx : l.getD j 0 < 256 := getD_lt Hb.out j
      obtain ⟨x, Hx⟩ : ∃ x, Hid (l.getD j 0 = x) := ⟨_, rfl⟩
      rw [Hx.out] at hcell hx
      go_wp2_with fail
      go_loop [0, 6, 7] (fun r d i => ∃ (k a' y : Nat), k ≤ 8 ∧ i = .int .i64 k ∧ r = .int .u32 a' ∧ d = .int .i64 y ∧ a' < 4294967296 ∧ y < 256 ∧ Hid (a' ^^^ y = Cm.shN k (a ^^^ x) ∧ y = x / 2 ^ k)) (fun _ _ i => 8 - (intOf i).toNat)
      case atStart => exact ⟨0, a, x, by omega, rfl, rfl, rfl, ha, hx, rfl, by simp⟩
      case round =>
        obtain ⟨k, a', y, hk, rfl, rfl, rfl, ha', hy, He'⟩ := hrel
        by_cases hk8 : k < 8
        · have hbit : ((y : Int) % 2 == 1) = decide (y % 2 = 1) := by rw [Bool.eq_iff_iff]; simp; omega
          obtain ⟨o, Ho⟩ : ∃ o, Hid (decide (y % 2 = 1) = o) := ⟨_, rfl⟩
          rw [Ho.out] at hbit
          go_wp2_with fail
          refine (refstep_any a' o _ ha').mono ?_
          rintro e w' ⟨rfl, rfl⟩
          have hto : o.toNat = y % 2 := by rw [← Ho.out, bit_toNat]
          have Hto := Lib.hid hto
          clear hto
          go_wp2_with fail
          go_round
          case rel =>
            have hlt2 : Cm.sh (a' ^^^ o.toNat) < 4294967296 := Cm.sh_lt _ (Nat.xor_lt_two_pow (n := 32) ha' (by rw [Hto.out]; omega))
            refine ⟨k + 1, Cm.sh (a' ^^^ o.toNat), y / 2, by omega, by go_num, rfl, by go_num, hlt2, by omega, ?_, ?_⟩
            · rw [Cm.shN_succ, ← He'.out.1, Hto.out]; exact low_next a' y
            · rw [He'.out.2, Nat.pow_succ, Nat.div_div_eq_div_mul]
          case measure => simp [intOf]; omega
        · go_wp2_with fail
          go_round
          case rel => exact ⟨j + 1, a', by omega, by go_num, rfl, ha', by
            have hk' : k = 8 := by omega
            have h1 := He'.out
            rw [hk'] at h1
            have hy0 : y = 0 := by rw [h1.2]; exact Nat.div_eq_of_lt (by omega)
            rw [hy0, Nat.xor_zero] at h1
            show _ = _
            rw [take_next (by rw [Hn.out]; exact hlt), Cm.step_snoc, ← He.out, Hx.out, h1.1]⟩
          case measure => simp [intOf]; omega
    · go_wp2_with fail
      go_ret
      exact ⟨ret_int (by rw [He.out, List.take_of_length_le (by rw [Hn.out]; omega)]), rfl⟩
theorem not_u32 (x : Nat) (h : x < 4294967296) : x ^^^ 4294967295 = 4294967295 - x := by
  have h1 := BitVec.toNat_not (x := BitVec.ofNat 32 x)
  have h2 : ~~~ (BitVec.ofNat 32 x) = BitVec.ofNat 32 x ^^^ BitVec.allOnes 32 := (BitVec.xor_allOnes).symm
  rw [h2, BitVec.toNat_xor, BitVec.toNat_ofNat, BitVec.toNat_allOnes, Nat.mod_eq_of_lt h] at h1
  simpa using h1
theorem refSum_any (B : Nat) (A : Option Addr) (l : List Nat) (n c : Nat) (w : World) (hn : l.length = n) (hc : n ≤ 9223372036854775807) (hA : Sees .u8 w B A l) (hb : ∀ x ∈ l, x < 256) :
    Calls Try.prog 44 #[.slice A n c] w fun e w' => e = .returned (.int .u32 (Cm.sum l : Int)) ∧ w = w' := by
  have HC := Lib.hid (refStep_any B 4294967295 A l n c w (by omega) hn hc hA hb)
  have hlt := Cm.step_lt 4294967295 l (by omega) hb
  have hsum : Hid (Cm.sum l = 4294967295 - Cm.step 4294967295 l) := not_u32 _ hlt
  clear hn hA hb
  go_enter Try.func44, Try.ntmps44
  go_wp2_with fail
  refine HC.out.mono ?_
  rintro e w' ⟨rfl, rfl⟩
  go_wp2_with fail
  go_ret
  exact ⟨ret_int (by rw [hsum.out]; omega), rfl⟩
end Go.Proofs.Ytbhdgfpaoghnbaa
