/- The walk of the law UvarZigs: it answers true, and nothing that was there has turned. -/
import Derived.Test.YtphepdaaoglofaaRef1
import Derived.Test.YtphepdaaoglofaaAwake1
import Derived.Test.YtphepdaaoglofaaFrame
namespace Go.Proofs.Ytphepdaaoglofaa
open Go.RowKit
set_option linter.unusedVariables false

set_option maxRecDepth 100000 in
set_option maxHeartbeats 400000 in
theorem uvarZigs_walk (n u : Int) (w : World) (wn : (Lit.int .i64 n).wf = true) (wu : (Lit.int .u64 u).wf = true) :
    Calls Try.prog 7 #[.int .i64 n, .int .u64 u] w fun e w' => e = .returned (.bool true) ∧ Below w.heap.size w w' := by
  obtain ⟨h1, h2⟩ := bounds_i64 wn
  obtain ⟨h3, h4⟩ := bounds_u64 wu
  clear wn wu
  obtain ⟨z1, z2⟩ := zig_bounds n h1 h2
  obtain ⟨g1, g2⟩ := zag_bounds u h3 h4
  have Ha := Lib.hid (zag_zig n)
  have Hb := Lib.hid (zig_zag u h3)
  go_enter Try.func7, Try.ntmps7
  go_wp2_with fail
  refine (zig_any _ _ h1 h2).mono ?_
  rintro e w1 ⟨rfl, rfl⟩
  go_wp2_with fail
  refine (zigr_any _ _ h1 h2).mono ?_
  rintro e w1 ⟨rfl, rfl⟩
  go_wp2_with fail
  refine (zig_any _ _ h1 h2).mono ?_
  rintro e w1 ⟨rfl, rfl⟩
  go_wp2_with fail
  refine (zag_any _ _ z1 z2).mono ?_
  rintro e w1 ⟨rfl, rfl⟩
  rw [Ha.out]
  go_wp2_with fail
  refine (zag_any _ _ h3 h4).mono ?_
  rintro e w1 ⟨rfl, rfl⟩
  go_wp2_with fail
  refine (zig_any _ _ g1 g2).mono ?_
  rintro e w1 ⟨rfl, rfl⟩
  rw [Hb.out]
  go_wp2_with fail
  refine (awake_any _).mono ?_
  rintro e w1 ⟨rfl, hb⟩
  have HB := Lib.hid hb
  clear hb
  go_wp2_with fail
  go_ret
  exact ⟨rfl, HB.out⟩
end Go.Proofs.Ytphepdaaoglofaa
