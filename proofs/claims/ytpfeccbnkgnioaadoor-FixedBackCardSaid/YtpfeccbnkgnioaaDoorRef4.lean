/- Contracts of the reference of layer 4: tail, Width, Parts. -/
import Derived.Test.YtpfeccbnkgnioaaDoorUtf
import Derived.Test.YtpfeccbnkgnioaaDoorBytes
namespace Go.Proofs.YtpfeccbnkgnioaaDoor
open Go.RowKit
set_option linter.unusedVariables false

theorem strT : ElemT Tryd.prog 96 9 (.string ByteArray.empty) 16 := ⟨Tryd.underlying96, by kernel_rfl, rfl, by decide⟩

set_option maxRecDepth 100000 in
theorem tail_any (c : Nat) (hc : c < 256) (w : World) :
    Calls Tryd.prog 81 #[.int .u8 (c : Int)] w fun e w' => e = .returned (.bool (decide (128 ≤ c ∧ c ≤ 191))) ∧ w' = w := by
  go_enter Tryd.func81, Tryd.ntmps81
  go_wp2_with fail
  all_goals
    go_ret
    refine ⟨ret_bool ?_, rfl⟩
    rw [Bool.eq_iff_iff]
    simp_all
    try omega

set_option maxRecDepth 100000 in
set_option maxHeartbeats 1600000 in
theorem width_nums (s : ByteArray) (i n c0 c1 c2 c3 : Nat) (hn : s.size = i + n) (hn1 : 1 ≤ n) (hb : i + n ≤ 1000000000000) (h0 : c0 < 256) (h1 : c1 < 256) (h2 : c2 < 256) (h3 : c3 < 256)
    (a0 : ∀ (h : i < s.size), (s[i]'h).toNat = c0) (a1 : ∀ (h : i + 1 < s.size), (s[i + 1]'h).toNat = c1) (a2 : ∀ (h : i + 2 < s.size), (s[i + 2]'h).toNat = c2) (a3 : ∀ (h : i + 3 < s.size), (s[i + 3]'h).toNat = c3) (w : World) :
    Calls Tryd.prog 80 #[.string s, .int .i64 (i : Int)] w fun e w' => e = .returned (.int .i64 (Tm.widN c0 c1 c2 c3 n : Int)) ∧ w' = w := by
  have T1 := Lib.hid (tail_any c1 h1)
  have T2 := Lib.hid (tail_any c2 h2)
  have T3 := Lib.hid (tail_any c3 h3)
  obtain ⟨m, Hm⟩ : ∃ m, Hid (Tm.widN c0 c1 c2 c3 n = m) := ⟨_, rfl⟩
  rw [Hm.out]
  go_enter Tryd.func80, Tryd.ntmps80
  go_wp2_with (go_at_call 81; (first | with_reducible refine (T1.out _).mono ?_ | with_reducible refine (T2.out _).mono ?_ | with_reducible refine (T3.out _).mono ?_); rintro e w1 ⟨rfl, rfl⟩)
  all_goals
    go_ret
    refine ⟨ret_int ?_, rfl⟩
    have hw := Hm.out
    rcases Tm.widN_cases (c0 := c0) (c1 := c1) (c2 := c2) (c3 := c3) (n := n) with ⟨e, k⟩ | ⟨e, k⟩ | ⟨e, k⟩ | ⟨e, k⟩ | ⟨e, k1, k2, k3, k4⟩ <;> rw [hw] at e <;> clear hw Hm T1 T2 T3 a0 a1 a2 a3 <;> omega
end Go.Proofs.YtpfeccbnkgnioaaDoor
