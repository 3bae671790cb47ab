/- The walk of the law CrcSums: it answers true, and nothing that was there has turned. -/
import Derived.Test.YtiopnbjmnalaeaaAwake2
import Derived.Test.YtiopnbjmnalaeaaFrame
namespace Go.Proofs.Ytiopnbjmnalaeaa
open Go.RowKit
set_option linter.unusedVariables false

set_option maxRecDepth 100000 in
set_option maxHeartbeats 400000 in
theorem crcSums_walk (a : Option Addr) (len cap : Nat) (l : List Nat) (s : Int) (w : World) (h : Row .u8 w a len cap l) (ws : (Lit.int .u32 s).wf = true) :
    Calls Try.prog 3 #[.slice a len cap, .int .u32 s] w fun e w' => e = .returned (.bool true) ∧ Below w.heap.size w w' := by
  have hb := h.byte
  obtain ⟨hl, hs, _, hle, hm, _⟩ := h
  unfold maxLen at hm
  obtain ⟨h0, h1⟩ := bounds_u32 ws
  clear ws
  obtain ⟨s, rfl⟩ := Int.eq_ofNat_of_zero_le h0
  have C1 := Lib.hid (sum_any w.heap.size a l len cap w hl (by omega) hs hb)
  have C2 := Lib.hid (refSum_any w.heap.size a l len cap w hl (by omega) hs hb)
  have C3 := Lib.hid (step_any w.heap.size s a l len cap w (by omega) hl (by omega) hs hb)
  have C4 := Lib.hid (refStep_any w.heap.size s a l len cap w (by omega) hl (by omega) hs hb)
  clear hb hl hs
  have hlen : len ≤ 9223372036854775807 := by omega
  by_cases h600 : 600 < len
  · go_enter Try.func3, Try.ntmps3
    go_wp2_with fail
    refine (awake2_any _).mono ?_
    rintro e w1 ⟨rfl, hb⟩
    have HB := Lib.hid hb
    clear hb
    go_wp2_with fail
    go_ret
    exact ⟨rfl, HB.out⟩
  · go_enter Try.func3, Try.ntmps3
    go_wp2_with fail
    refine C1.out.mono ?_
    rintro e w1 ⟨rfl, rfl⟩
    go_wp2_with fail
    refine C2.out.mono ?_
    rintro e w1 ⟨rfl, rfl⟩
    go_wp2_with fail
    refine C3.out.mono ?_
    rintro e w1 ⟨rfl, rfl⟩
    go_wp2_with fail
    refine C4.out.mono ?_
    rintro e w1 ⟨rfl, rfl⟩
    go_wp2_with fail
    refine (awake2_any _).mono ?_
    rintro e w1 ⟨rfl, hb⟩
    have HB := Lib.hid hb
    clear hb
    go_wp2_with fail
    go_ret
    exact ⟨rfl, HB.out⟩
end Go.Proofs.Ytiopnbjmnalaeaa
