/- The walk of the law MsgClean. -/
import Derived.Test.YtdnnlifcgoegkaaDoorAwake8
import Derived.Test.YtdnnlifcgoegkaaDoorVar8
import Derived.Test.YtdnnlifcgoegkaaDoorSame8
import Derived.Test.YtdnnlifcgoegkaaDoorLarge8
namespace Go.Proofs.YtdnnlifcgoegkaaDoor
open Go.RowKit
set_option linter.unusedVariables false
open Gm

set_option maxRecDepth 100000 in
set_option maxHeartbeats 1000000 in
theorem msgClean_walk (m : Ms) (v : Value) (w : World) (H : Mv w w.heap.size m v) (T : Tab w) :
    Calls Tryd.prog 6 #[v] w fun e w' => e = .returned (.bool true) ∧ Below w.heap.size w w' := by
  obtain ⟨b, vp, vq, w00, rfl, hb, hal, hsz, hx, hb0⟩ := boxed H
  have hT0 := T.below hb0 (by rw [← hb]; exact T.lt)
  have hx00 := Lib.hid hx
  obtain ⟨c0, c1, c2, c3, c4, c5, c6, c7, c8, c9, c10⟩ := hx.cells
  have HB0 := Lib.hid hb0
  have HT0 := Lib.hid hT0
  clear hx hb0 H T hT0
  go_enter Tryd.func6, Tryd.ntmps6
  go_wp2_with fail
  refine (large_any hx00.out.mv).mono ?_
  rintro e w0 ⟨rfl, hb1⟩
  have HBs : Hid (Below b w w0) := Lib.hid (HB0.out.trans (hb1.mono (by omega)))
  have HX0 := Lib.hid (hx00.out.kept hb1)
  have HT1 := Lib.hid (HT0.out.kept hb1)
  clear hb1 c0 c1 c2 c3 c4 c5 c6 c7 c8 c9 c10
  cases hL : large m
  case true =>
    go_wp2_with fail
    refine (awake8 _ HT1.out).mono ?_
    rintro e w2 ⟨rfl, hb2⟩
    have HB2 := Lib.hid (HBs.out.trans (hb2.mono (by have := HX0.out.lt; omega)))
    clear hb2
    go_wp2_with fail
    go_ret
    exact ⟨rfl, by first | exact HB2.out | (rw [hb]; exact HB2.out)⟩
  obtain ⟨_, _, hlp, hlq, _⟩ := large_off hL
  obtain ⟨c0, c1, c2, c3, c4, c5, c6, c7, c8, c9, c10⟩ := HX0.out.cells
  go_wp2_with fail
  refine (bare_any HX0.out.mv HT1.out (by omega) (by omega)).mono ?_
  rintro e w1 ⟨vb, rfl, hmo, hb1⟩
  have HB1 : Hid (Below b w w1) := Lib.hid (HBs.out.trans (hb1.mono (by have := HX0.out.lt; omega)))
  have HX1 := Lib.hid (HX0.out.kept hb1)
  have HT2 := Lib.hid (HT1.out.kept hb1)
  obtain ⟨g, up, uq, w1', w2, rfl, hg, hal2, hW, hw2, hx2, hb2, hsz2, ou, ov⟩ := var_msg hmo.mv
  have HW := Lib.hid hW
  have Hg := Lib.hid hg
  have hlt1 := HX1.out.lt
  have HB2 : Hid (Below b w w2) := Lib.hid (HB1.out.trans (hb2.mono (by omega)))
  have HX2 := Lib.hid (HX1.out.below hb2 (by omega))
  have HT3 := Lib.hid (HT2.out.below hb2 (by have := HT2.out.lt; omega))
  have HY2 := Lib.hid hx2
  have OU := Lib.hid ou
  have OV := Lib.hid ov
  have hok := hx2.ok
  clear hb1 hmo hW hx2 hb2 ou ov c0 c1 c2 c3 c4 c5 c6 c7 c8 c9 c10
  have hlpX : (bare m).peers.length ≤ 40 := by show (oi (oPeers m) m.peers []).length ≤ _; cases oPeers m; exact Nat.zero_le _; exact hlp
  have hlqX : (bare m).pairs.length ≤ 20 := by show (oi (oPairs m) m.pairs []).length ≤ _; cases oPairs m; exact Nat.zero_le _; exact hlq
  have RB := Lib.hid (right_bare m)
  have RZ := Lib.hid (fun h => right_zero (m := m) h)
  have SB : Hid (same (bare (bare m)) (bare m) = true) := Lib.hid (by rw [bare_bare]; exact same_refl _)
  have C1 := Lib.hid (fun W h => right_any (m := m) (HX2.out.kept (w' := W) h).mv (HT3.out.kept h))
  have C2 := Lib.hid (fun W h => right_any (m := bare m) (HY2.out.kept (w' := W) h).mv (HT3.out.kept h))
  have C3 := Lib.hid (fun W h => bare_any (m := bare m) (HY2.out.kept (w' := W) h).mv (HT3.out.kept h) (by omega) (by omega))
  have C4 := Lib.hid (fun W h => msame_any (HX2.out.kept (w' := W) h).mv (HY2.out.kept (w' := W) h).mv)
  obtain ⟨X, hX⟩ : ∃ X, Hid (bare m = X) := ⟨_, rfl⟩
  rw [hX.out] at HY2 hok RB RZ SB C2 C3 C4 hw2
  obtain ⟨rm, hrm⟩ : ∃ rm, Hid (right m = rm) := ⟨_, rfl⟩
  rw [hrm.out] at C1 RZ
  obtain ⟨rx, hrx⟩ : ∃ rx, Hid (right X = rx) := ⟨_, rfl⟩
  rw [hrx.out] at C2 RB
  rw [hX.out]
  obtain ⟨Ap, cp, rfl, _⟩ := HY2.out.peers.ex
  obtain ⟨Aq, cq, rfl, _⟩ := HY2.out.pairs.ex
  obtain ⟨Bp, dp, rfl, _⟩ := HX2.out.peers.ex
  obtain ⟨Bq, dq, rfl, _⟩ := HX2.out.pairs.ex
  go_wp2_with (refine wpList_store_whole rfl rfl rfl rfl rfl HW.out (msgI rfl) rfl (by simp [Value.oneCell']) ?_)
  rw [hw2]
  refine wp_region_plan (S := fun W => Below w2.heap.size w2 W) [(0, true), (2, true), (1, false), (3, false), (4, true), (5, true), (6, true), (7, false), (8, true), (9, true)] (by kernel_rfl) (by kernel_rfl) rfl (by kernel_rfl) (fun _ _ _ _ _ h => h) (Below.refl _ _).drew ?_
  iterate 2
    refine along_take (v := ?_) rfl (by rfl) ?_ ?_
    rotate_left
    · intro W hW; have hW' : Box W g X (.slice Ap X.peers.length cp) (.slice Aq X.pairs.length cq) := HY2.out.kept hW; obtain ⟨c0, c1, c2, c3, c4, c5, c6, c7, c8, c9, c10⟩ := hW'.cells; clear hW hW'; go_simp; try with_reducible rfl
    simp only [Act.put, List.setIfInBounds_toArray, List.set_cons_zero, List.set_cons_succ]
  refine along_step rfl (fun K hK => ?_)
  go_simp
  refine (C3.out _ (Below.refl _ _).drew).mono ?_
  rintro e w3 ⟨vbb, rfl, hmo3, hb3⟩
  have HB3 : Hid (Below w2.heap.size w2 w3) := Lib.hid ((Below.refl _ _).drew.trans hb3)
  have HM3 := Lib.hid hmo3.mv
  clear hb3 hmo3
  refine hK.out _ _ HB3.out ?_
  clear hK K
  try simp only [Act.put, List.setIfInBounds_toArray, List.set_cons_zero, List.set_cons_succ]
  refine along_step rfl (fun K hK => ?_)
  go_simp
  refine (msame_any HM3.out (HY2.out.kept HB3.out).mv).mono ?_
  rintro e w4 ⟨rfl, hb4⟩
  have HB4 : Hid (Below w2.heap.size w2 w4) := Lib.hid (HB3.out.trans (hb4.mono HB3.out.size))
  clear hb4
  rw [SB.out]
  refine hK.out _ _ HB4.out ?_
  clear hK K
  try simp only [Act.put, List.setIfInBounds_toArray, List.set_cons_zero, List.set_cons_succ]
  iterate 2
    refine along_take (v := ?_) rfl (by rfl) ?_ ?_
    rotate_left
    · intro W hW; clear hW; go_simp; try with_reducible rfl
    simp only [Act.put, List.setIfInBounds_toArray, List.set_cons_zero, List.set_cons_succ]
  iterate 1
    refine along_take (v := ?_) rfl (by rfl) ?_ ?_
    rotate_left
    · intro W hW; have hW' : Box W g X (.slice Ap X.peers.length cp) (.slice Aq X.pairs.length cq) := HY2.out.kept hW; obtain ⟨c0, c1, c2, c3, c4, c5, c6, c7, c8, c9, c10⟩ := hW'.cells; clear hW hW'; go_simp; try with_reducible rfl
    simp only [Act.put, List.setIfInBounds_toArray, List.set_cons_zero, List.set_cons_succ]
  refine along_step rfl (fun K hK => ?_)
  go_simp
  refine (C2.out _ HB4.out).mono ?_
  rintro e w5 ⟨rfl, hb5⟩
  have HB5 : Hid (Below w2.heap.size w2 w5) := Lib.hid (HB4.out.trans (hb5.mono HB4.out.size))
  clear hb5
  refine hK.out _ _ HB5.out ?_
  clear hK K
  try simp only [Act.put, List.setIfInBounds_toArray, List.set_cons_zero, List.set_cons_succ]
  have hr1 : ((rx : Int) == 1) = false := by rw [beq_eq_false_iff_ne]; have := RB.out; omega
  have hr1' : ¬ rx = 1 := RB.out
  iterate 2
    refine along_take (v := ?_) rfl (by rfl) ?_ ?_
    rotate_left
    · intro W hW; clear hW; go_simp; try with_reducible rfl
    simp only [Act.put, List.setIfInBounds_toArray, List.set_cons_zero, List.set_cons_succ]
  refine along_done ?_
  obtain ⟨c0, c1, c2, c3, c4, c5, c6, c7, c8, c9, c10⟩ := (HX2.out.kept HB5.out).cells
  obtain ⟨d0, d1, d2, d3, d4, d5, d6, d7, d8, d9, d10⟩ := (HY2.out.kept HB5.out).cells
  go_wp2_with fail
  refine (C1.out _ HB5.out).mono ?_
  rintro e w6 ⟨rfl, hb6⟩
  have HB6 : Hid (Below w2.heap.size w2 w6) := Lib.hid (HB5.out.trans (hb6.mono HB5.out.size))
  clear hb6 c0 c1 c2 c3 c4 c5 c6 c7 c8 c9 c10 d0 d1 d2 d3 d4 d5 d6 d7 d8 d9 d10
  by_cases hz : rm = 0
  · have hs := Lib.hid (RZ.out hz)
    subst hz
    obtain ⟨c0, c1, c2, c3, c4, c5, c6, c7, c8, c9, c10⟩ := (HX2.out.kept HB6.out).cells
    obtain ⟨d0, d1, d2, d3, d4, d5, d6, d7, d8, d9, d10⟩ := (HY2.out.kept HB6.out).cells
    go_wp2_with fail
    refine (C4.out _ HB6.out).mono ?_
    rintro e w7 ⟨rfl, hb7⟩
    rw [hs.out]
    have HB7 : Hid (Below w2.heap.size w2 w7) := Lib.hid (HB6.out.trans (hb7.mono HB6.out.size))
    clear hb7 c0 c1 c2 c3 c4 c5 c6 c7 c8 c9 c10 d0 d1 d2 d3 d4 d5 d6 d7 d8 d9 d10
    go_wp2_with fail
    refine (awake8 _ (HT3.out.kept HB7.out)).mono ?_
    rintro e w8 ⟨rfl, hb8⟩
    have HF : Hid (Below b w w8) := Lib.hid (HB2.out.trans ((HB7.out.trans (hb8.mono HB7.out.size)).mono (by omega)))
    clear hb8
    go_wp2_with fail
    go_ret
    exact ⟨rfl, by first | exact HF.out | (rw [hb]; exact HF.out)⟩
  · have hz' : ((rm : Int) == 0) = false := by rw [beq_eq_false_iff_ne]; omega
    have hz2 : ((rm : Int) != 0) = true := by rw [bne, hz']; rfl
    go_wp2_with fail
    refine (awake8 _ (HT3.out.kept HB6.out)).mono ?_
    rintro e w8 ⟨rfl, hb8⟩
    have HF : Hid (Below b w w8) := Lib.hid (HB2.out.trans ((HB6.out.trans (hb8.mono HB6.out.size)).mono (by omega)))
    clear hb8
    go_wp2_with fail
    go_ret
    exact ⟨rfl, by first | exact HF.out | (rw [hb]; exact HF.out)⟩
end Go.Proofs.YtdnnlifcgoegkaaDoor
