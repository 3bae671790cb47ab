/- The walk of the law UtfClips: it answers true, and nothing that was there has turned. -/
import Derived.Test.YtlelhoghbgbciaaAwake4
import Derived.Test.YtlelhoghbgbciaaParts
import Derived.Test.YtlelhoghbgbciaaFrame
namespace Go.Proofs.Ytlelhoghbgbciaa
open Go.RowKit
set_option linter.unusedVariables false

set_option maxRecDepth 100000 in
set_option maxHeartbeats 800000 in
theorem utfClips_walk (s : ByteArray) (n : Int) (w : World) (ws : s.size ≤ 9223372036854775807) (wn : (Lit.int .i64 n).wf = true) :
    Calls Try.prog 4 #[.string s, .int .i64 n] w fun e w' => e = .returned (.bool true) ∧ Below w.heap.size w w' := by
  have T := Txt.nums s
  have hsz := T.size
  obtain ⟨n1, n2⟩ := bounds_i64 wn
  clear wn
  by_cases h300 : 300 < s.size
  · clear T hsz
    go_enter Try.func4, Try.ntmps4
    go_wp2_with fail
    refine (awake4_any _).mono ?_
    rintro e w1 ⟨rfl, hb⟩
    have HB := Lib.hid hb
    clear hb
    go_wp2_with fail
    go_ret
    exact ⟨rfl, HB.out⟩
  · obtain ⟨l, Hl⟩ : ∃ l, Hid (nums s = l) := ⟨_, rfl⟩
    rw [Hl.out] at T hsz
    have C1 := Lib.hid (fun W => clip_any T (by omega) n (by omega) (by omega) W)
    have C2 := Lib.hid (fun W => clipr_any T (by omega) n (by omega) (by omega) W)
    clear hsz T
    go_enter Try.func4, Try.ntmps4
    go_wp2_with fail
    refine (C1.out _).mono ?_
    rintro e w1 ⟨rfl, hb⟩
    have HB1 := Lib.hid hb
    clear hb
    go_wp2_with fail
    refine (C2.out _).mono ?_
    rintro e w2 ⟨rfl, hb⟩
    have HB2 := Lib.hid (HB1.out.trans (hb.mono HB1.out.size))
    clear hb HB1
    go_wp2_with fail
    refine (awake4_any _).mono ?_
    rintro e w5 ⟨rfl, hb⟩
    have HB5 := Lib.hid (HB2.out.trans (hb.mono HB2.out.size))
    clear hb HB2
    go_wp2_with fail
    go_ret
    exact ⟨rfl, HB5.out⟩
end Go.Proofs.Ytlelhoghbgbciaa
