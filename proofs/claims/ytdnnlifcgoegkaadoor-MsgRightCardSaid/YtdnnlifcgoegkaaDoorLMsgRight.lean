/- The walk of the law MsgRight. -/
import Derived.Test.YtdnnlifcgoegkaaDoorAwake8
import Derived.Test.YtdnnlifcgoegkaaDoorRright8
import Derived.Test.YtdnnlifcgoegkaaDoorLarge8
namespace Go.Proofs.YtdnnlifcgoegkaaDoor
open Go.RowKit
set_option linter.unusedVariables false
open Gm

set_option maxRecDepth 100000 in
set_option maxHeartbeats 1000000 in
theorem msgRight_walk (m : Ms) (v : Value) (s : ByteArray) (w : World) (H : Mv w w.heap.size m v) (hs : s.size ≤ maxLen) (T : Tab w) :
    Calls Tryd.prog 3 #[v, .string s] w fun e w' => e = .returned (.bool true) ∧ Below w.heap.size w w' := by
  obtain ⟨b, vp, vq, w00, rfl, hb, hal, hsz, hx, hb0⟩ := boxed H
  have hT0 := T.below hb0 (by rw [← hb]; exact T.lt)
  have hs' : s.size ≤ 9223372036854775807 := hs
  have hx00 := Lib.hid hx
  obtain ⟨c0, c1, c2, c3, c4, c5, c6, c7, c8, c9, c10⟩ := hx.cells
  have HB0 := Lib.hid hb0
  have HT0 := Lib.hid hT0
  have HS := Lib.hid hs
  obtain ⟨Ap, cp, rfl, _⟩ := hx.peers.ex
  obtain ⟨Aq, cq, rfl, _⟩ := hx.pairs.ex
  clear hx hb0 H T hT0 hs
  go_enter Tryd.func3, Tryd.ntmps3
  go_wp2_with fail
  refine (large_any hx00.out.mv).mono ?_
  rintro e w0 ⟨rfl, hb1⟩
  have HBs : Hid (Below b w w0) := Lib.hid (HB0.out.trans (hb1.mono (by omega)))
  have HX0 := Lib.hid (hx00.out.kept hb1)
  have HT1 := Lib.hid (HT0.out.kept hb1)
  clear hb1 c0 c1 c2 c3 c4 c5 c6 c7 c8 c9 c10
  cases hL : large m
  case true =>
    go_wp2_with fail
    refine (awake8 _ HT1.out).mono ?_
    rintro e w2 ⟨rfl, hb2⟩
    have HB2 := Lib.hid (HBs.out.trans (hb2.mono (by have := HX0.out.lt; omega)))
    clear hb2
    go_wp2_with fail
    go_ret
    exact ⟨rfl, by first | exact HB2.out | (rw [hb]; exact HB2.out)⟩
  obtain ⟨_, _, hlp, hlq, _⟩ := large_off hL
  by_cases h300 : 300 < s.size
  · go_wp2_with fail
    refine (awake8 _ HT1.out).mono ?_
    rintro e w2 ⟨rfl, hb2⟩
    have HB2 := Lib.hid (HBs.out.trans (hb2.mono (by have := HX0.out.lt; omega)))
    clear hb2
    go_wp2_with fail
    go_ret
    exact ⟨rfl, by first | exact HB2.out | (rw [hb]; exact HB2.out)⟩
  obtain ⟨B0, hB0⟩ : ∃ B0, B0 = w0.heap.size := ⟨_, rfl⟩
  have HX : Hid (Box w0 b m (.slice Ap m.peers.length cp) (.slice Aq m.pairs.length cq)) := HX0
  have HBd : Hid (Below B0 w0 w0.drew) := Lib.hid (Below.refl _ _).drew
  have HKp : ∀ W, Below B0 w0 W → Box W b m (.slice Ap m.peers.length cp) (.slice Aq m.pairs.length cq) := fun W h => HX.out.kept (by rw [← hB0]; exact h)
  have HTp : ∀ W, Below B0 w0 W → Tab W := fun W h => HT1.out.kept (by rw [← hB0]; exact h)
  have HK' := Lib.hid HKp
  have HT' := Lib.hid HTp
  have HBsz := Lib.hid hB0
  obtain ⟨r, hr⟩ : ∃ r, Hid (right m = r) := ⟨_, rfl⟩
  obtain ⟨kk, hkk⟩ : ∃ kk, Hid (isKey s = kk) := ⟨_, rfl⟩
  have C1 := Lib.hid (fun W (h : Below B0 w0 W) => right_any (HK'.out W h).mv (HT'.out W h))
  have C2 := Lib.hid (fun W (h : Below B0 w0 W) => rright_any (HK'.out W h).mv (by omega) (by omega))
  have C3 := Lib.hid (fun W => key_any s HS.out W)
  have C4 := Lib.hid (fun W => rkey_any s HS.out W)
  rw [hr.out] at C1 C2
  rw [hkk.out] at C3 C4
  clear hB0 HKp HTp
  have HB1 := HBd
  go_wp2_with fail
  refine wp_region_plan (S := fun W => Box W b m (.slice Ap m.peers.length cp) (.slice Aq m.pairs.length cq)) [(0, true), (2, true), (1, false), (3, false), (4, true), (5, true), (6, true), (8, true), (7, false), (9, false), (10, true), (11, true), (12, true), (13, false), (14, true), (15, true)] (by kernel_rfl) (by kernel_rfl) rfl (by kernel_rfl) (fun _ _ _ _ _ h => h) (HK'.out _ HBd.out) ?_
  iterate 2
    refine along_take (v := ?_) rfl (by rfl) ?_ ?_
    rotate_left
    · intro W hW; have hW' : Box W b m (.slice Ap m.peers.length cp) (.slice Aq m.pairs.length cq) := hW; obtain ⟨c0, c1, c2, c3, c4, c5, c6, c7, c8, c9, c10⟩ := hW'.cells; clear hW hW'; go_simp; try with_reducible rfl
    simp only [Act.put, List.setIfInBounds_toArray, List.set_cons_zero, List.set_cons_succ]
  refine along_step rfl (fun K hK => ?_)
  go_simp
  refine (C1.out _ HB1.out).mono ?_
  rintro e w2 ⟨rfl, hb2⟩
  have HB2 : Hid (Below B0 w0 w2) := Lib.hid (HB1.out.trans (hb2.mono (by have h1 := HB1.out.size; have h2 := HBsz.out; omega)))
  clear hb2
  refine hK.out _ _ (HK'.out _ HB2.out) ?_
  clear hK K
  try simp only [Act.put, List.setIfInBounds_toArray, List.set_cons_zero, List.set_cons_succ]
  refine along_step rfl (fun K hK => ?_)
  go_simp
  refine (C2.out _ HB2.out).mono ?_
  rintro e w3 ⟨rfl, hb3⟩
  have HB3 : Hid (Below B0 w0 w3) := Lib.hid (HB2.out.trans (hb3.mono (by have h1 := HB2.out.size; have h2 := HBsz.out; omega)))
  clear hb3
  refine hK.out _ _ (HK'.out _ HB3.out) ?_
  clear hK K
  try simp only [Act.put, List.setIfInBounds_toArray, List.set_cons_zero, List.set_cons_succ]
  iterate 4
    refine along_take (v := ?_) rfl (by rfl) ?_ ?_
    rotate_left
    · intro W hW; clear hW; go_simp; try with_reducible rfl
    simp only [Act.put, List.setIfInBounds_toArray, List.set_cons_zero, List.set_cons_succ]
  refine along_step rfl (fun K hK => ?_)
  go_simp
  refine (C3.out _).mono ?_
  rintro e w4 ⟨rfl, hb4⟩
  have HB4 : Hid (Below B0 w0 w4) := Lib.hid (HB3.out.trans (hb4.mono (by have h1 := HB3.out.size; have h2 := HBsz.out; omega)))
  clear hb4
  refine hK.out _ _ (HK'.out _ HB4.out) ?_
  clear hK K
  try simp only [Act.put, List.setIfInBounds_toArray, List.set_cons_zero, List.set_cons_succ]
  refine along_step rfl (fun K hK => ?_)
  go_simp
  refine (C4.out _).mono ?_
  rintro e w5 ⟨rfl, hb5⟩
  have HB5 : Hid (Below B0 w0 w5) := Lib.hid (HB4.out.trans (hb5.mono (by have h1 := HB4.out.size; have h2 := HBsz.out; omega)))
  clear hb5
  refine hK.out _ _ (HK'.out _ HB5.out) ?_
  clear hK K
  try simp only [Act.put, List.setIfInBounds_toArray, List.set_cons_zero, List.set_cons_succ]
  iterate 3
    refine along_take (v := ?_) rfl (by rfl) ?_ ?_
    rotate_left
    · intro W hW; clear hW; go_simp; try with_reducible rfl
    simp only [Act.put, List.setIfInBounds_toArray, List.set_cons_zero, List.set_cons_succ]
  refine along_step rfl (fun K hK => ?_)
  go_simp
  refine (awake8 _ (HT'.out _ HB5.out)).mono ?_
  rintro e w6 ⟨rfl, hb6⟩
  have HB6 : Hid (Below B0 w0 w6) := Lib.hid (HB5.out.trans (hb6.mono (by have h1 := HB5.out.size; have h2 := HBsz.out; omega)))
  clear hb6
  refine hK.out _ _ (HK'.out _ HB6.out) ?_
  clear hK K
  try simp only [Act.put, List.setIfInBounds_toArray, List.set_cons_zero, List.set_cons_succ]
  iterate 2
    refine along_take (v := ?_) rfl (by rfl) ?_ ?_
    rotate_left
    · intro W hW; clear hW; go_simp; try with_reducible rfl
    simp only [Act.put, List.setIfInBounds_toArray, List.set_cons_zero, List.set_cons_succ]
  refine along_done ?_
  have HF : Hid (Below b w w6) := Lib.hid (HBs.out.trans (HB6.out.mono (by have h1 := HX.out.lt; have h2 := HBsz.out; omega)))
  go_wp2_with fail
  go_ret
  exact ⟨rfl, by first | exact HF.out | (rw [hb]; exact HF.out)⟩
end Go.Proofs.YtdnnlifcgoegkaaDoor
