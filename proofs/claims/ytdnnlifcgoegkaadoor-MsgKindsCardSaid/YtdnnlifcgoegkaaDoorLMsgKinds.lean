/- The walk of the law MsgKinds. -/
import Derived.Test.YtdnnlifcgoegkaaDoorAwake8
import Derived.Test.YtdnnlifcgoegkaaDoorRef8
namespace Go.Proofs.YtdnnlifcgoegkaaDoor
open Go.RowKit
set_option linter.unusedVariables false
open Gm

set_option maxRecDepth 100000 in
theorem msgKinds_walk (k r : Int) (s : ByteArray) (w : World) (hk0 : (Lit.int .i64 k).wf = true) (hr0 : (Lit.int .i64 r).wf = true) (hs : s.size ≤ maxLen) (T : Tab w) :
    Calls Tryd.prog 5 #[.int .i64 k, .int .i64 r, .string s] w fun e w' => e = .returned (.bool true) ∧ Below w.heap.size w w' := by
  have hk := bounds_i64 hk0
  have hr := bounds_i64 hr0
  have HT := Lib.hid T
  clear hk0 hr0 T hs
  have C1 := Lib.hid (fun W (h : Tab W) => name_any k hk W h)
  have C2 := Lib.hid (fun W => rname_any k hk W)
  obtain ⟨nm, hnm⟩ : ∃ nm, Hid ((at_ k).name = nm) := ⟨_, rfl⟩
  rw [hnm.out] at C1 C2
  go_enter Tryd.func5, Tryd.ntmps5
  go_wp2_with fail
  refine (C1.out _ HT.out).mono ?_
  rintro e w1 ⟨rfl, hb1⟩
  have HT1 := Lib.hid (HT.out.kept hb1)
  have HB1 := Lib.hid hb1
  clear hb1
  go_wp2_with fail
  refine (C2.out _).mono ?_
  rintro e w2 ⟨rfl, hb2⟩
  have HT2 := Lib.hid (HT1.out.kept hb2)
  have HB2 := Lib.hid (HB1.out.trans (hb2.mono HB1.out.size))
  clear hb2
  go_wp2_with fail
  refine (kind_any s _ HT2.out).mono ?_
  rintro e w3 ⟨rfl, hb3⟩
  have HT3 := Lib.hid (HT2.out.kept hb3)
  have HB3 := Lib.hid (HB2.out.trans (hb3.mono HB2.out.size))
  clear hb3
  go_wp2_with fail
  refine (rkind_any s _).mono ?_
  rintro e w4 ⟨rfl, hb4⟩
  have HT4 := Lib.hid (HT3.out.kept hb4)
  have HB4 := Lib.hid (HB3.out.trans (hb4.mono HB3.out.size))
  clear hb4
  go_wp2_with fail
  refine (asks_any k hk _ HT4.out).mono ?_
  rintro e w5 ⟨rfl, hb5⟩
  have HT5 := Lib.hid (HT4.out.kept hb5)
  have HB5 := Lib.hid (HB4.out.trans (hb5.mono HB4.out.size))
  clear hb5
  go_wp2_with fail
  refine (rasks_any k hk _).mono ?_
  rintro e w6 ⟨rfl, hw6⟩
  subst hw6
  go_wp2_with fail
  refine (answers_any k hk r hr _ HT5.out).mono ?_
  rintro e w7 ⟨rfl, hb7⟩
  have HT7 := Lib.hid (HT5.out.kept hb7)
  have HB7 := Lib.hid (HB5.out.trans (hb7.mono HB5.out.size))
  clear hb7
  go_wp2_with fail
  refine (ranswers_any k hk r hr _).mono ?_
  rintro e w8 ⟨rfl, hw8⟩
  subst hw8
  go_wp2_with fail
  refine (awake8 _ HT7.out).mono ?_
  rintro e w9 ⟨rfl, hb9⟩
  have HB9 := Lib.hid (HB7.out.trans (hb9.mono HB7.out.size))
  clear hb9
  go_wp2_with fail
  go_ret
  exact ⟨rfl, HB9.out⟩
end Go.Proofs.YtdnnlifcgoegkaaDoor
