/- The walk of the law DictMessages. -/
import Derived.Test.YtldjdoebappkoaaGreatDoorAwake13
import Derived.Test.YtldjdoebappkoaaGreatDoorRfrom13
namespace Go.Proofs.YtldjdoebappkoaaGreatDoor
open Go.RowKit
set_option linter.unusedVariables false
set_option maxRecDepth 100000
set_option linter.unusedSimpArgs false
open Gm

set_option maxHeartbeats 2000000 in
theorem dictMessages_walk (t : Tn) (vk vq : Value) (w : World) (H : Tv w w.heap.size t vk vq) (T : Tab w) :
    Calls Tryz.prog 3 #[tval t vk vq] w fun e w' => e = .returned (.bool true) ∧ Below w.heap.size w w' := by
  obtain ⟨b, w1, hs, hal, hT, hb1⟩ := boxedT H
  have hb1s : Below w.heap.size w w1 := by rw [hs]; exact hb1
  have HT := Lib.hid hT
  have HB1 := Lib.hid hb1s
  have HTb := Lib.hid (fun W (h : Below w.heap.size w W) => T.below h T.lt)
  obtain ⟨t0, t1, t2, t3, t4⟩ := hT.cells
  have HCt := Lib.hid (fun W (h : Below w1.heap.size w1 W) => (HT.out.keep h).cells)
  have HL := Lib.hid (large11_any (level := 1) (by omega) hT.tv)
  have HLm := Lib.hid (fun h => (Tn.small_of (t := t) h).lim)
  have Q1 := Lib.hid (fun (h : ¬ t.room 1 400 < 0) W (hW : Below w1.heap.size w1 W) => dfrom13_any (HT.out.keep hW).tv (HTb.out W (HB1.out.trans (hW.mono HB1.out.size))) (HLm.out h).fw)
  have Q2 := Lib.hid (fun (h : ¬ t.room 1 400 < 0) W (hW : Below w1.heap.size w1 W) => rfrom13_any (HT.out.keep hW).tv (by have := (Dm.field_lim (HLm.out h) Dm.kP).kids; omega) (by have := (Dm.field_lim (HLm.out h) Dm.kT).kids; omega))
  have HAw := Lib.hid (fun W (h : Below w.heap.size w W) => awake13 W (HTb.out W h))
  obtain ⟨Ak0, ck0, ek, _⟩ := hT.tv.keys
  obtain ⟨At0, ct0, eq, _⟩ := hT.tv.kids
  subst ek eq
  obtain ⟨rm, hrm⟩ : ∃ rm, Hid (t.room 1 400 = rm) := ⟨_, rfl⟩
  rw [hrm.out] at HL Q1 Q2
  obtain ⟨P, hP⟩ : ∃ P, Hid (Dm.told t = P) := ⟨_, Lib.hid rfl⟩
  rw [hP.out] at Q1 Q2
  obtain ⟨m, pe⟩ := P
  have S1 := Lib.hid (fun W (C D : Nat) (u v : Value) (h : Mv W C m u) (h' : Mv W D m v) => rmsame_any h h')
  rw [msame_self] at S1
  unfold tcells at hal
  unfold tval at HL Q1 Q2 ⊢
  clear hT H hb1 hb1s
  by_cases hr : rm < 0
  case pos =>
    rw [decide_eq_true hr] at HL
    go_enter Tryz.func3, Tryz.ntmps3
    go_wp2_with fail
    refine (HL.out).mono ?_
    rintro e w2 ⟨rfl, hb2⟩
    have HB2 := Lib.hid (HB1.out.trans (hb2.mono HB1.out.size))
    clear hb2
    go_wp2_with fail
    refine (HAw.out _ HB2.out).mono ?_
    rintro e w3 ⟨rfl, hb3⟩
    have HB3 := Lib.hid (HB2.out.trans (hb3.mono HB2.out.size))
    clear hb3
    go_wp2_with fail
    go_ret
    exact ⟨rfl, HB3.out⟩
  rw [decide_eq_false hr] at HL
  go_enter Tryz.func3, Tryz.ntmps3
  go_wp2_with fail
  refine (HL.out).mono ?_
  rintro e w2 ⟨rfl, hb2⟩
  have HC2 := Lib.hid hb2
  clear hb2 t0 t1 t2 t3 t4
  obtain ⟨t0, t1, t2, t3, t4⟩ := HCt.out w2 HC2.out
  go_wp2_with fail
  refine (Q1.out hr _ HC2.out).mono ?_
  rintro e w3 ⟨v3, rfl, hm3, hb3⟩
  obtain ⟨Ap, cp, Aq, cq, g, u0, u1, rfl, hg, hal1, hW, hst, hU, hc⟩ := varm13 hm3
  have HC3 := Lib.hid ((HC2.out.trans (hb3.mono HC2.out.size)).trans (hc.mono (by have := hb3.size; have := HC2.out.size; omega)))
  have HW := Lib.hid hW
  have HU := Lib.hid hU
  clear hb3 hm3 hc hW hU t0 t1 t2 t3 t4
  obtain ⟨t0, t1, t2, t3, t4⟩ := HCt.out u1 HC3.out
  go_wp2_with (refine wpList_store_whole rfl rfl rfl rfl rfl HW.out (msgI rfl) rfl (by simp [Value.oneCell']) ?_; try rw [hst])
  refine (Q2.out hr _ HC3.out).mono ?_
  rintro e w4 ⟨v4, rfl, hm4, hb4⟩
  obtain ⟨Bp, dp, Bq, dq, g2, u2, u3, rfl, hg2, hal2, hW2, hst2, hU2, hc2⟩ := varm13 hm4.mv
  have HW2 := Lib.hid hW2
  have HU2 := Lib.hid hU2
  have z4 := hb4.size
  have HC4 := Lib.hid ((HC3.out.trans (hb4.mono HC3.out.size)).trans (hc2.mono (by have := HC3.out.size; omega)))
  have HU1 := Lib.hid ((HU.out.kept hb4).kept hc2)
  have HB4 := Lib.hid (HB1.out.trans (HC4.out.mono HB1.out.size))
  have CS := Lib.hid (S1.out _ _ _ _ _ HU1.out.mv HU2.out.mv)
  obtain ⟨c0, c1, c2, c3, c4, c5, c6, c7, c8, c9, c10⟩ := HU1.out.cells
  obtain ⟨d0, d1, d2, d3, d4, d5, d6, d7, d8, d9, d10⟩ := HU2.out.cells
  clear hb4 hm4 hc2 hW2 hU2 t0 t1 t2 t3 t4 z4
  go_wp2_with (refine wpList_store_whole rfl rfl rfl rfl rfl HW2.out (msgI rfl) rfl (by simp [Value.oneCell']) ?_; try rw [hst2])
  refine (CS.out).mono ?_
  rintro e w5 ⟨rfl, hb5⟩
  have HB5 := Lib.hid (HB4.out.trans (hb5.mono HB4.out.size))
  clear hb5
  go_wp2_with fail
  refine (HAw.out _ HB5.out).mono ?_
  rintro e w6 ⟨rfl, hb6⟩
  have HB6 := Lib.hid (HB5.out.trans (hb6.mono HB5.out.size))
  clear hb6
  go_wp2_with fail
  go_ret
  exact ⟨rfl, HB6.out⟩
end Go.Proofs.YtldjdoebappkoaaGreatDoor
