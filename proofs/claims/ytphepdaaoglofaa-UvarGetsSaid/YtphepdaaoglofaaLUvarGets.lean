/- The walk of the law UvarGets: it answers true, and nothing that was there has turned. -/
import Derived.Test.YtphepdaaoglofaaRef1
import Derived.Test.YtphepdaaoglofaaAwake1
import Derived.Test.YtphepdaaoglofaaFrame
namespace Go.Proofs.Ytphepdaaoglofaa
open Go.RowKit
set_option linter.unusedVariables false

set_option maxRecDepth 100000 in
set_option maxHeartbeats 400000 in
theorem uvarGets_walk (a : Option Addr) (len cap : Nat) (l : List Nat) (w : World) (h : Row .u8 w a len cap l) :
    Calls Try.prog 4 #[.slice a len cap] w fun e w' => e = .returned (.bool true) ∧ Below w.heap.size w w' := by
  have hb := h.byte
  obtain ⟨hl, hs, _, hle, hm, _⟩ := h
  unfold maxLen at hm
  have HC := Lib.hid (fun W : World => get_any w.heap.size a l len cap w hl (by omega) hs hb)
  have HR := Lib.hid (fun W : World => getr_any w.heap.size a l len cap w hl (by omega) hs hb)
  clear hb hl hs
  have hlen : len ≤ 9223372036854775807 := by omega
  by_cases h300 : 300 < len
  · go_enter Try.func4, Try.ntmps4
    go_wp2_with fail
    refine (awake_any _).mono ?_
    rintro e w1 ⟨rfl, hb⟩
    have HB := Lib.hid hb
    clear hb
    go_wp2_with fail
    go_ret
    exact ⟨rfl, HB.out⟩
  · go_enter Try.func4, Try.ntmps4
    go_wp2_with fail
    refine (HC.out w).mono ?_
    rintro e w1 ⟨rfl, rfl⟩
    go_wp2_with fail
    refine (HR.out w).mono ?_
    rintro e w1 ⟨rfl, rfl⟩
    go_wp2_with fail
    refine (awake_any _).mono ?_
    rintro e w1 ⟨rfl, hb⟩
    have HB := Lib.hid hb
    clear hb
    go_wp2_with fail
    go_ret
    exact ⟨rfl, HB.out⟩
end Go.Proofs.Ytphepdaaoglofaa
