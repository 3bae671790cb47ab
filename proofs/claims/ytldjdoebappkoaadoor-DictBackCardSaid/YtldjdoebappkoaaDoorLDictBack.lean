/- The walk of the law DictBack. -/
import Derived.Test.YtldjdoebappkoaaDoorAwake13
namespace Go.Proofs.YtldjdoebappkoaaDoor
open Go.RowKit
set_option linter.unusedVariables false
set_option maxRecDepth 100000
set_option linter.unusedSimpArgs false
open Gm

set_option maxHeartbeats 4000000 in
theorem dictBack_walk (m : Ms) (v : Value) (t : Tn) (vk vq : Value) (w : World) (H : Mv w w.heap.size m v) (HV : Tv w w.heap.size t vk vq) (T : Tab w) :
    Calls Tryd.prog 4 #[v, tval t vk vq] w fun e w' => e = .returned (.bool true) ∧ Below w.heap.size w w' := by
  obtain ⟨b, vp, vq', w1, rfl, hb, hal, hsz, hx, hb1⟩ := boxed H
  have hb1' : Below w.heap.size w w1 := by rw [hb]; exact hb1
  have HV1 := HV.keep hb1'
  obtain ⟨b2, w2, hs2, hal2, hT, hb2⟩ := boxedT HV1
  have hb2' : Below w1.heap.size w1 w2 := by rw [hs2]; exact hb2
  have HX := Lib.hid (hx.kept hb2')
  have HT := Lib.hid hT
  have HB2 := Lib.hid (hb1'.trans (hb2'.mono hb1'.size))
  have HTb := Lib.hid (fun W (h : Below w.heap.size w W) => T.below h T.lt)
  have HCt := Lib.hid (fun W (h : Below w2.heap.size w2 W) => (HT.out.keep h).cells)
  have HCm := Lib.hid (fun W (h : Below w2.heap.size w2 W) => HX.out.kept h)
  have L1 := Lib.hid (large_any HX.out.mv)
  have L2 := Lib.hid (fun W (h : Below w2.heap.size w2 W) => large11_any (level := 1) (by omega) (HT.out.keep h).tv)
  have HO := Lib.hid (fun h => large_off (m := m) h)
  have HLm := Lib.hid (fun h => (Tn.small_of (t := t) h).lim)
  have HAw := Lib.hid (fun W (h : Below w.heap.size w W) => awake13 W (HTb.out W h))
  have TB := Lib.hid (fun W (hW : Below w2.heap.size w2 W) => HTb.out W (HB2.out.trans (hW.mono HB2.out.size)))
  have Q1 := Lib.hid (fun (h : large m = false) W (hW : Below w2.heap.size w2 W) => dto13_any (HX.out.kept hW).mv (TB.out W hW) (by have := (HO.out h).2.2.1; omega) (by have := (HO.out h).2.2.2.1; omega))
  have Q2 := Lib.hid (fun (h : large m = false) W (hW : Below w2.heap.size w2 W) (C : Nat) (uk uq : Value) (hu : Tv W C (Dm.to m).1 uk uq) => dfrom13_any hu (TB.out W hW) (Dm.to_fw (HO.out h)))
  have Q3 := Lib.hid (fun (h : ¬ t.room 1 400 < 0) W (hW : Below w2.heap.size w2 W) => dfrom13_any (HT.out.keep hW).tv (TB.out W hW) (HLm.out h).fw)
  have Q4 := Lib.hid (fun (h : ¬ t.room 1 400 < 0) W (hW : Below w2.heap.size w2 W) (C : Nat) (u : Value) (hu : Mv W C (Dm.told t).1 u) => dto13_any hu (TB.out W hW) (Dm.told_few (HLm.out h).fw).1 (Dm.told_few (HLm.out h).fw).2)
  have HPr : Hid (right m = 0 → Dm.to m = (Dm.tree m, 0) ∧ Dm.told (Dm.tree m) = (m, 0)) := Lib.hid (fun h => And.intro (Dm.to_good13 h) (Dm.told_tree h HX.out.ok.rid HX.out.ok.code HX.out.ok.id HX.out.ok.pid HX.out.ok.pad HX.out.ok.peers))
  have HPn : Hid (¬ right m = 0 → Dm.to m = (Dm.none_, right m)) := Lib.hid (fun h => Dm.to_bad13 h)
  have HPy := Lib.hid (fun h => Dm.to_told (t := t) h)
  have S1 := Lib.hid (fun W (C D : Nat) (u u' : Value) (h : Mv W C m u) (h' : Mv W D m u') => rmsame_any h h')
  rw [msame_self] at S1
  have S2 := Lib.hid (fun W (hW : Below w2.heap.size w2 W) (C : Nat) (uk uq : Value) (h : Tv W C t uk uq) => rsame11_any (SizeOf.sizeOf t + 1) t (Nat.lt_succ_self _) t h (HT.out.keep hW).tv)
  rw [Tn.same_true rfl] at S2
  obtain ⟨y, g, hpy⟩ : ∃ p q, Dm.told t = (p, q) := ⟨_, _, rfl⟩
  rw [hpy] at Q3 Q4 HPy
  obtain ⟨by_, h9, hp4⟩ : ∃ p q, Dm.to y = (p, q) := ⟨_, _, rfl⟩
  rw [hp4] at Q4 HPy
  have HPy2 : Hid (g = 0 → by_ = t ∧ h9 = 0) := Lib.hid (fun h => by have e := HPy.out h; injection e with e1 e2; exact ⟨e1, e2⟩)
  obtain ⟨a, pe, hp1⟩ : ∃ p q, Dm.to m = (p, q) := ⟨_, _, rfl⟩
  rw [hp1] at Q1 Q2 HPr HPn
  obtain ⟨x, f, hp2⟩ : ∃ p q, Dm.told a = (p, q) := ⟨_, _, rfl⟩
  rw [hp2] at Q2
  have HPr2 : Hid (right m = 0 → pe = 0 ∧ x = m ∧ f = 0) := Lib.hid (fun h => by
    obtain ⟨e1, e2⟩ := HPr.out h
    injection e1 with e3 e4
    rw [← e3, hp2] at e2
    injection e2 with e5 e6
    exact ⟨e4, e5, e6⟩)
  have HPn2 : Hid (¬ right m = 0 → ¬ pe = 0) := Lib.hid (fun h e => by
    have e1 := HPn.out h
    injection e1 with e3 e4
    exact h (by rw [← e4]; exact e))
  obtain ⟨Ak0, ck0, ek, _⟩ := hT.tv.keys
  obtain ⟨At0, ct0, eq, _⟩ := hT.tv.kids
  subst ek eq
  obtain ⟨rm, hrm⟩ : ∃ rm, Hid (t.room 1 400 = rm) := ⟨_, rfl⟩
  rw [hrm.out] at L2 Q3 Q4
  obtain ⟨lg, hlg⟩ : ∃ s, Hid (large m = s) := ⟨_, Lib.hid rfl⟩
  rw [hlg.out] at L1 Q1 Q2
  unfold tcells at hal2
  unfold tval at L2 Q1 Q2 Q3 Q4 S2 ⊢
  obtain ⟨c0, c1, c2, c3, c4, c5, c6, c7, c8, c9, c10⟩ := HX.out.cells
  clear hx hT hb1 hb1' hb2 hb2' hsz H HV HV1 hpy hp4 hp1 hp2 HPr HPn HPy
  cases lg
  case' true =>
    go_enter Tryd.func4, Tryd.ntmps4
    go_wp2_with fail
    refine (L1.out).mono ?_
    rintro e w3 ⟨rfl, hb3⟩
    have HBn := Lib.hid (HB2.out.trans (hb3.mono HB2.out.size))
    clear hb3 c0 c1 c2 c3 c4 c5 c6 c7 c8 c9 c10
    go_wp2_with fail
    refine (HAw.out _ HBn.out).mono ?_
    rintro e wz ⟨rfl, hbz⟩
    have HBz := Lib.hid (HBn.out.trans (hbz.mono HBn.out.size))
    clear hbz
    go_wp2_with fail
    go_ret
    exact ⟨rfl, HBz.out⟩
  by_cases hr : rm < 0
  case pos =>
    rw [decide_eq_true hr] at L2
    go_enter Tryd.func4, Tryd.ntmps4
    go_wp2_with fail
    refine (L1.out).mono ?_
    rintro e w3 ⟨rfl, hb3⟩
    have HC3 := Lib.hid hb3
    clear hb3 c0 c1 c2 c3 c4 c5 c6 c7 c8 c9 c10
    obtain ⟨t0, t1, t2, t3, t4⟩ := HCt.out w3 HC3.out
    go_wp2_with fail
    refine (L2.out _ HC3.out).mono ?_
    rintro e w4 ⟨rfl, hb4⟩
    have HC4 := Lib.hid (HC3.out.trans (hb4.mono HC3.out.size))
    clear hb4 t0 t1 t2 t3 t4
    have HBn := Lib.hid (HB2.out.trans (HC4.out.mono HB2.out.size))
    go_wp2_with fail
    refine (HAw.out _ HBn.out).mono ?_
    rintro e wz ⟨rfl, hbz⟩
    have HBz := Lib.hid (HBn.out.trans (hbz.mono HBn.out.size))
    clear hbz
    go_wp2_with fail
    go_ret
    exact ⟨rfl, HBz.out⟩
  rw [decide_eq_false hr] at L2
  by_cases e0 : right m = 0
  · obtain ⟨e2, e3, e4⟩ := HPr2.out e0
    subst e2 e3 e4
    clear HPr2 HPn2 e0
    by_cases e1 : g = 0
    · obtain ⟨e2, e3⟩ := HPy2.out e1
      subst e2 e3 e1
      clear HPy2
      go_enter Tryd.func4, Tryd.ntmps4
      go_wp2_with fail
      refine (L1.out).mono ?_
      rintro e w3 ⟨rfl, hb3⟩
      have HC3 := Lib.hid hb3
      clear hb3 c0 c1 c2 c3 c4 c5 c6 c7 c8 c9 c10
      obtain ⟨t0, t1, t2, t3, t4⟩ := HCt.out w3 HC3.out
      go_wp2_with fail
      refine (L2.out _ HC3.out).mono ?_
      rintro e w4 ⟨rfl, hb4⟩
      have HC4 := Lib.hid (HC3.out.trans (hb4.mono HC3.out.size))
      clear hb4 t0 t1 t2 t3 t4
      obtain ⟨c0, c1, c2, c3, c4, c5, c6, c7, c8, c9, c10⟩ := (HCm.out w4 HC4.out).cells
      go_wp2_with fail
      refine (Q1.out (by first | rfl | trivial) _ HC4.out).mono ?_
      rintro e w5 ⟨uk, uq, rfl, ht, hb5⟩
      obtain ⟨Bk, dk, Bq, dq, g1, u0, u1, rfl, rfl, hg1, hal3, hW, hst, hU, hc, _⟩ := var13 ht
      have z5 := hb5.size
      have HC5 := Lib.hid ((HC4.out.trans (hb5.mono HC4.out.size)).trans (hc.mono (by have := HC4.out.size; omega)))
      have HW := Lib.hid hW
      have HU := Lib.hid hU
      clear hb5 ht hc hW hU z5 c0 c1 c2 c3 c4 c5 c6 c7 c8 c9 c10
      obtain ⟨d0, d1, d2, d3, d4⟩ := HU.out.cells
      go_wp2_with (refine wpList_store_whole rfl rfl rfl rfl rfl HW.out (treeI rfl) rfl (by simp [Value.oneCell']) ?_; try rw [hst])
      refine (Q2.out (by first | rfl | trivial) _ HC5.out _ _ _ HU.out.tv).mono ?_
      rintro e w6 ⟨v6, rfl, hm6, hb6⟩
      obtain ⟨Bp, ep, Bq2, eq2, g2, u2, u3, rfl, hg2, hal4, hW2, hst2, hU2, hc2⟩ := varm13 hm6
      have z6 := hb6.size
      have HC6 := Lib.hid ((HC5.out.trans (hb6.mono HC5.out.size)).trans (hc2.mono (by have := HC5.out.size; omega)))
      have HW2 := Lib.hid hW2
      have HU2 := Lib.hid hU2
      clear hb6 hm6 hc2 hW2 hU2 z6 d0 d1 d2 d3 d4 hst hal3 hg1
      have CS := Lib.hid (S1.out _ _ _ _ _ HU2.out.mv (HCm.out u3 HC6.out).mv)
      obtain ⟨c0, c1, c2, c3, c4, c5, c6, c7, c8, c9, c10⟩ := (HCm.out u3 HC6.out).cells
      obtain ⟨d0, d1, d2, d3, d4, d5, d6, d7, d8, d9, d10⟩ := HU2.out.cells
      go_wp2_with (refine wpList_store_whole rfl rfl rfl rfl rfl HW2.out (msgI rfl) rfl (by simp [Value.oneCell']) ?_; try rw [hst2])
      refine (CS.out).mono ?_
      rintro e w7 ⟨rfl, hb7⟩
      have HC7 := Lib.hid (HC6.out.trans (hb7.mono HC6.out.size))
      clear hb7 c0 c1 c2 c3 c4 c5 c6 c7 c8 c9 c10 d0 d1 d2 d3 d4 d5 d6 d7 d8 d9 d10
      obtain ⟨t0, t1, t2, t3, t4⟩ := HCt.out w7 HC7.out
      go_wp2_with fail
      refine (Q3.out hr _ HC7.out).mono ?_
      rintro e w8 ⟨v8, rfl, hm8, hb8⟩
      obtain ⟨Cp, fp, Cq, fq, g3, u4, u5, rfl, hg3, hal5, hW3, hst3, hU3, hc3⟩ := varm13 hm8
      have z8 := hb8.size
      have HC8 := Lib.hid ((HC7.out.trans (hb8.mono HC7.out.size)).trans (hc3.mono (by have := HC7.out.size; omega)))
      have HW3 := Lib.hid hW3
      have HU3 := Lib.hid hU3
      clear hb8 hm8 hc3 hW3 hU3 z8 t0 t1 t2 t3 t4 hst2 hal4 hg2
      obtain ⟨c0, c1, c2, c3, c4, c5, c6, c7, c8, c9, c10⟩ := HU3.out.cells
      go_wp2_with (refine wpList_store_whole rfl rfl rfl rfl rfl HW3.out (msgI rfl) rfl (by simp [Value.oneCell']) ?_; try rw [hst3])
      refine (Q4.out hr _ HC8.out _ _ HU3.out.mv).mono ?_
      rintro e w9 ⟨uk, uq, rfl, ht, hb9⟩
      obtain ⟨Dk, gk, Dq, gq, g4, u6, u7, rfl, rfl, hg4, hal6, hW4, hst4, hU4, hc4, _⟩ := var13 ht
      have z9 := hb9.size
      have HC9 := Lib.hid ((HC8.out.trans (hb9.mono HC8.out.size)).trans (hc4.mono (by have := HC8.out.size; omega)))
      have HW4 := Lib.hid hW4
      have HU4 := Lib.hid hU4
      clear hb9 ht hc4 hW4 hU4 z9 c0 c1 c2 c3 c4 c5 c6 c7 c8 c9 c10 hst3 hal5 hg3
      have CT := Lib.hid (S2.out _ HC9.out _ _ _ HU4.out.tv)
      obtain ⟨t0, t1, t2, t3, t4⟩ := HCt.out u7 HC9.out
      obtain ⟨d0, d1, d2, d3, d4⟩ := HU4.out.cells
      go_wp2_with (refine wpList_store_whole rfl rfl rfl rfl rfl HW4.out (treeI rfl) rfl (by simp [Value.oneCell']) ?_; try rw [hst4])
      refine (CT.out).mono ?_
      rintro e w10 ⟨rfl, hb10⟩
      have HBn := Lib.hid (HB2.out.trans ((HC9.out.trans (hb10.mono HC9.out.size)).mono HB2.out.size))
      clear hb10
      go_wp2_with fail
      refine (HAw.out _ HBn.out).mono ?_
      rintro e wz ⟨rfl, hbz⟩
      have HBz := Lib.hid (HBn.out.trans (hbz.mono HBn.out.size))
      clear hbz
      go_wp2_with fail
      go_ret
      exact ⟨rfl, HBz.out⟩
    · have k3 : ((g : Int) != 0) = true := by simp; omega
      have k4 : ((g : Int) == 0) = false := by simp; omega
      clear HPy2
      go_enter Tryd.func4, Tryd.ntmps4
      go_wp2_with fail
      refine (L1.out).mono ?_
      rintro e w3 ⟨rfl, hb3⟩
      have HC3 := Lib.hid hb3
      clear hb3 c0 c1 c2 c3 c4 c5 c6 c7 c8 c9 c10
      obtain ⟨t0, t1, t2, t3, t4⟩ := HCt.out w3 HC3.out
      go_wp2_with fail
      refine (L2.out _ HC3.out).mono ?_
      rintro e w4 ⟨rfl, hb4⟩
      have HC4 := Lib.hid (HC3.out.trans (hb4.mono HC3.out.size))
      clear hb4 t0 t1 t2 t3 t4
      obtain ⟨c0, c1, c2, c3, c4, c5, c6, c7, c8, c9, c10⟩ := (HCm.out w4 HC4.out).cells
      go_wp2_with fail
      refine (Q1.out (by first | rfl | trivial) _ HC4.out).mono ?_
      rintro e w5 ⟨uk, uq, rfl, ht, hb5⟩
      obtain ⟨Bk, dk, Bq, dq, g1, u0, u1, rfl, rfl, hg1, hal3, hW, hst, hU, hc, _⟩ := var13 ht
      have z5 := hb5.size
      have HC5 := Lib.hid ((HC4.out.trans (hb5.mono HC4.out.size)).trans (hc.mono (by have := HC4.out.size; omega)))
      have HW := Lib.hid hW
      have HU := Lib.hid hU
      clear hb5 ht hc hW hU z5 c0 c1 c2 c3 c4 c5 c6 c7 c8 c9 c10
      obtain ⟨d0, d1, d2, d3, d4⟩ := HU.out.cells
      go_wp2_with (refine wpList_store_whole rfl rfl rfl rfl rfl HW.out (treeI rfl) rfl (by simp [Value.oneCell']) ?_; try rw [hst])
      refine (Q2.out (by first | rfl | trivial) _ HC5.out _ _ _ HU.out.tv).mono ?_
      rintro e w6 ⟨v6, rfl, hm6, hb6⟩
      obtain ⟨Bp, ep, Bq2, eq2, g2, u2, u3, rfl, hg2, hal4, hW2, hst2, hU2, hc2⟩ := varm13 hm6
      have z6 := hb6.size
      have HC6 := Lib.hid ((HC5.out.trans (hb6.mono HC5.out.size)).trans (hc2.mono (by have := HC5.out.size; omega)))
      have HW2 := Lib.hid hW2
      have HU2 := Lib.hid hU2
      clear hb6 hm6 hc2 hW2 hU2 z6 d0 d1 d2 d3 d4 hst hal3 hg1
      have CS := Lib.hid (S1.out _ _ _ _ _ HU2.out.mv (HCm.out u3 HC6.out).mv)
      obtain ⟨c0, c1, c2, c3, c4, c5, c6, c7, c8, c9, c10⟩ := (HCm.out u3 HC6.out).cells
      obtain ⟨d0, d1, d2, d3, d4, d5, d6, d7, d8, d9, d10⟩ := HU2.out.cells
      go_wp2_with (refine wpList_store_whole rfl rfl rfl rfl rfl HW2.out (msgI rfl) rfl (by simp [Value.oneCell']) ?_; try rw [hst2])
      refine (CS.out).mono ?_
      rintro e w7 ⟨rfl, hb7⟩
      have HC7 := Lib.hid (HC6.out.trans (hb7.mono HC6.out.size))
      clear hb7 c0 c1 c2 c3 c4 c5 c6 c7 c8 c9 c10 d0 d1 d2 d3 d4 d5 d6 d7 d8 d9 d10
      obtain ⟨t0, t1, t2, t3, t4⟩ := HCt.out w7 HC7.out
      go_wp2_with fail
      refine (Q3.out hr _ HC7.out).mono ?_
      rintro e w8 ⟨v8, rfl, hm8, hb8⟩
      obtain ⟨Cp, fp, Cq, fq, g3, u4, u5, rfl, hg3, hal5, hW3, hst3, hU3, hc3⟩ := varm13 hm8
      have z8 := hb8.size
      have HC8 := Lib.hid ((HC7.out.trans (hb8.mono HC7.out.size)).trans (hc3.mono (by have := HC7.out.size; omega)))
      have HW3 := Lib.hid hW3
      have HU3 := Lib.hid hU3
      clear hb8 hm8 hc3 hW3 hU3 z8 t0 t1 t2 t3 t4 hst2 hal4 hg2
      obtain ⟨c0, c1, c2, c3, c4, c5, c6, c7, c8, c9, c10⟩ := HU3.out.cells
      go_wp2_with (refine wpList_store_whole rfl rfl rfl rfl rfl HW3.out (msgI rfl) rfl (by simp [Value.oneCell']) ?_; try rw [hst3])
      refine (Q4.out hr _ HC8.out _ _ HU3.out.mv).mono ?_
      rintro e w9 ⟨uk, uq, rfl, ht, hb9⟩
      obtain ⟨Dk, gk, Dq, gq, g4, u6, u7, rfl, rfl, hg4, hal6, hW4, hst4, hU4, hc4, _⟩ := var13 ht
      have z9 := hb9.size
      have HC9 := Lib.hid ((HC8.out.trans (hb9.mono HC8.out.size)).trans (hc4.mono (by have := HC8.out.size; omega)))
      have HW4 := Lib.hid hW4
      have HU4 := Lib.hid hU4
      clear hb9 ht hc4 hW4 hU4 z9 c0 c1 c2 c3 c4 c5 c6 c7 c8 c9 c10 hst3 hal5 hg3
      have HBn := Lib.hid (HB2.out.trans (HC9.out.mono HB2.out.size))
      go_wp2_with (refine wpList_store_whole rfl rfl rfl rfl rfl HW4.out (treeI rfl) rfl (by simp [Value.oneCell']) ?_; try rw [hst4])
      refine (HAw.out _ HBn.out).mono ?_
      rintro e wz ⟨rfl, hbz⟩
      have HBz := Lib.hid (HBn.out.trans (hbz.mono HBn.out.size))
      clear hbz
      go_wp2_with fail
      go_ret
      exact ⟨rfl, HBz.out⟩
  · have hpe := HPn2.out e0
    have k1 : ((pe : Int) == 0) = false := by simp; omega
    have k2 : ((pe : Int) != 0) = true := by simp; omega
    clear HPr2 HPn2 e0
    by_cases e1 : g = 0
    · obtain ⟨e2, e3⟩ := HPy2.out e1
      subst e2 e3 e1
      clear HPy2
      go_enter Tryd.func4, Tryd.ntmps4
      go_wp2_with fail
      refine (L1.out).mono ?_
      rintro e w3 ⟨rfl, hb3⟩
      have HC3 := Lib.hid hb3
      clear hb3 c0 c1 c2 c3 c4 c5 c6 c7 c8 c9 c10
      obtain ⟨t0, t1, t2, t3, t4⟩ := HCt.out w3 HC3.out
      go_wp2_with fail
      refine (L2.out _ HC3.out).mono ?_
      rintro e w4 ⟨rfl, hb4⟩
      have HC4 := Lib.hid (HC3.out.trans (hb4.mono HC3.out.size))
      clear hb4 t0 t1 t2 t3 t4
      obtain ⟨c0, c1, c2, c3, c4, c5, c6, c7, c8, c9, c10⟩ := (HCm.out w4 HC4.out).cells
      go_wp2_with fail
      refine (Q1.out (by first | rfl | trivial) _ HC4.out).mono ?_
      rintro e w5 ⟨uk, uq, rfl, ht, hb5⟩
      obtain ⟨Bk, dk, Bq, dq, g1, u0, u1, rfl, rfl, hg1, hal3, hW, hst, hU, hc, _⟩ := var13 ht
      have z5 := hb5.size
      have HC5 := Lib.hid ((HC4.out.trans (hb5.mono HC4.out.size)).trans (hc.mono (by have := HC4.out.size; omega)))
      have HW := Lib.hid hW
      have HU := Lib.hid hU
      clear hb5 ht hc hW hU z5 c0 c1 c2 c3 c4 c5 c6 c7 c8 c9 c10
      obtain ⟨d0, d1, d2, d3, d4⟩ := HU.out.cells
      go_wp2_with (refine wpList_store_whole rfl rfl rfl rfl rfl HW.out (treeI rfl) rfl (by simp [Value.oneCell']) ?_; try rw [hst])
      refine (Q2.out (by first | rfl | trivial) _ HC5.out _ _ _ HU.out.tv).mono ?_
      rintro e w6 ⟨v6, rfl, hm6, hb6⟩
      obtain ⟨Bp, ep, Bq2, eq2, g2, u2, u3, rfl, hg2, hal4, hW2, hst2, hU2, hc2⟩ := varm13 hm6
      have z6 := hb6.size
      have HC6 := Lib.hid ((HC5.out.trans (hb6.mono HC5.out.size)).trans (hc2.mono (by have := HC5.out.size; omega)))
      have HW2 := Lib.hid hW2
      have HU2 := Lib.hid hU2
      clear hb6 hm6 hc2 hW2 hU2 z6 d0 d1 d2 d3 d4 hst hal3 hg1
      have HC7 := HC6
      obtain ⟨t0, t1, t2, t3, t4⟩ := HCt.out u3 HC7.out
      go_wp2_with (refine wpList_store_whole rfl rfl rfl rfl rfl HW2.out (msgI rfl) rfl (by simp [Value.oneCell']) ?_; try rw [hst2])
      refine (Q3.out hr _ HC7.out).mono ?_
      rintro e w8 ⟨v8, rfl, hm8, hb8⟩
      obtain ⟨Cp, fp, Cq, fq, g3, u4, u5, rfl, hg3, hal5, hW3, hst3, hU3, hc3⟩ := varm13 hm8
      have z8 := hb8.size
      have HC8 := Lib.hid ((HC7.out.trans (hb8.mono HC7.out.size)).trans (hc3.mono (by have := HC7.out.size; omega)))
      have HW3 := Lib.hid hW3
      have HU3 := Lib.hid hU3
      clear hb8 hm8 hc3 hW3 hU3 z8 t0 t1 t2 t3 t4 hst2 hal4 hg2
      obtain ⟨c0, c1, c2, c3, c4, c5, c6, c7, c8, c9, c10⟩ := HU3.out.cells
      go_wp2_with (refine wpList_store_whole rfl rfl rfl rfl rfl HW3.out (msgI rfl) rfl (by simp [Value.oneCell']) ?_; try rw [hst3])
      refine (Q4.out hr _ HC8.out _ _ HU3.out.mv).mono ?_
      rintro e w9 ⟨uk, uq, rfl, ht, hb9⟩
      obtain ⟨Dk, gk, Dq, gq, g4, u6, u7, rfl, rfl, hg4, hal6, hW4, hst4, hU4, hc4, _⟩ := var13 ht
      have z9 := hb9.size
      have HC9 := Lib.hid ((HC8.out.trans (hb9.mono HC8.out.size)).trans (hc4.mono (by have := HC8.out.size; omega)))
      have HW4 := Lib.hid hW4
      have HU4 := Lib.hid hU4
      clear hb9 ht hc4 hW4 hU4 z9 c0 c1 c2 c3 c4 c5 c6 c7 c8 c9 c10 hst3 hal5 hg3
      have CT := Lib.hid (S2.out _ HC9.out _ _ _ HU4.out.tv)
      obtain ⟨t0, t1, t2, t3, t4⟩ := HCt.out u7 HC9.out
      obtain ⟨d0, d1, d2, d3, d4⟩ := HU4.out.cells
      go_wp2_with (refine wpList_store_whole rfl rfl rfl rfl rfl HW4.out (treeI rfl) rfl (by simp [Value.oneCell']) ?_; try rw [hst4])
      refine (CT.out).mono ?_
      rintro e w10 ⟨rfl, hb10⟩
      have HBn := Lib.hid (HB2.out.trans ((HC9.out.trans (hb10.mono HC9.out.size)).mono HB2.out.size))
      clear hb10
      go_wp2_with fail
      refine (HAw.out _ HBn.out).mono ?_
      rintro e wz ⟨rfl, hbz⟩
      have HBz := Lib.hid (HBn.out.trans (hbz.mono HBn.out.size))
      clear hbz
      go_wp2_with fail
      go_ret
      exact ⟨rfl, HBz.out⟩
    · have k3 : ((g : Int) != 0) = true := by simp; omega
      have k4 : ((g : Int) == 0) = false := by simp; omega
      clear HPy2
      go_enter Tryd.func4, Tryd.ntmps4
      go_wp2_with fail
      refine (L1.out).mono ?_
      rintro e w3 ⟨rfl, hb3⟩
      have HC3 := Lib.hid hb3
      clear hb3 c0 c1 c2 c3 c4 c5 c6 c7 c8 c9 c10
      obtain ⟨t0, t1, t2, t3, t4⟩ := HCt.out w3 HC3.out
      go_wp2_with fail
      refine (L2.out _ HC3.out).mono ?_
      rintro e w4 ⟨rfl, hb4⟩
      have HC4 := Lib.hid (HC3.out.trans (hb4.mono HC3.out.size))
      clear hb4 t0 t1 t2 t3 t4
      obtain ⟨c0, c1, c2, c3, c4, c5, c6, c7, c8, c9, c10⟩ := (HCm.out w4 HC4.out).cells
      go_wp2_with fail
      refine (Q1.out (by first | rfl | trivial) _ HC4.out).mono ?_
      rintro e w5 ⟨uk, uq, rfl, ht, hb5⟩
      obtain ⟨Bk, dk, Bq, dq, g1, u0, u1, rfl, rfl, hg1, hal3, hW, hst, hU, hc, _⟩ := var13 ht
      have z5 := hb5.size
      have HC5 := Lib.hid ((HC4.out.trans (hb5.mono HC4.out.size)).trans (hc.mono (by have := HC4.out.size; omega)))
      have HW := Lib.hid hW
      have HU := Lib.hid hU
      clear hb5 ht hc hW hU z5 c0 c1 c2 c3 c4 c5 c6 c7 c8 c9 c10
      obtain ⟨d0, d1, d2, d3, d4⟩ := HU.out.cells
      go_wp2_with (refine wpList_store_whole rfl rfl rfl rfl rfl HW.out (treeI rfl) rfl (by simp [Value.oneCell']) ?_; try rw [hst])
      refine (Q2.out (by first | rfl | trivial) _ HC5.out _ _ _ HU.out.tv).mono ?_
      rintro e w6 ⟨v6, rfl, hm6, hb6⟩
      obtain ⟨Bp, ep, Bq2, eq2, g2, u2, u3, rfl, hg2, hal4, hW2, hst2, hU2, hc2⟩ := varm13 hm6
      have z6 := hb6.size
      have HC6 := Lib.hid ((HC5.out.trans (hb6.mono HC5.out.size)).trans (hc2.mono (by have := HC5.out.size; omega)))
      have HW2 := Lib.hid hW2
      have HU2 := Lib.hid hU2
      clear hb6 hm6 hc2 hW2 hU2 z6 d0 d1 d2 d3 d4 hst hal3 hg1
      have HC7 := HC6
      obtain ⟨t0, t1, t2, t3, t4⟩ := HCt.out u3 HC7.out
      go_wp2_with (refine wpList_store_whole rfl rfl rfl rfl rfl HW2.out (msgI rfl) rfl (by simp [Value.oneCell']) ?_; try rw [hst2])
      refine (Q3.out hr _ HC7.out).mono ?_
      rintro e w8 ⟨v8, rfl, hm8, hb8⟩
      obtain ⟨Cp, fp, Cq, fq, g3, u4, u5, rfl, hg3, hal5, hW3, hst3, hU3, hc3⟩ := varm13 hm8
      have z8 := hb8.size
      have HC8 := Lib.hid ((HC7.out.trans (hb8.mono HC7.out.size)).trans (hc3.mono (by have := HC7.out.size; omega)))
      have HW3 := Lib.hid hW3
      have HU3 := Lib.hid hU3
      clear hb8 hm8 hc3 hW3 hU3 z8 t0 t1 t2 t3 t4 hst2 hal4 hg2
      obtain ⟨c0, c1, c2, c3, c4, c5, c6, c7, c8, c9, c10⟩ := HU3.out.cells
      go_wp2_with (refine wpList_store_whole rfl rfl rfl rfl rfl HW3.out (msgI rfl) rfl (by simp [Value.oneCell']) ?_; try rw [hst3])
      refine (Q4.out hr _ HC8.out _ _ HU3.out.mv).mono ?_
      rintro e w9 ⟨uk, uq, rfl, ht, hb9⟩
      obtain ⟨Dk, gk, Dq, gq, g4, u6, u7, rfl, rfl, hg4, hal6, hW4, hst4, hU4, hc4, _⟩ := var13 ht
      have z9 := hb9.size
      have HC9 := Lib.hid ((HC8.out.trans (hb9.mono HC8.out.size)).trans (hc4.mono (by have := HC8.out.size; omega)))
      have HW4 := Lib.hid hW4
      have HU4 := Lib.hid hU4
      clear hb9 ht hc4 hW4 hU4 z9 c0 c1 c2 c3 c4 c5 c6 c7 c8 c9 c10 hst3 hal5 hg3
      have HBn := Lib.hid (HB2.out.trans (HC9.out.mono HB2.out.size))
      go_wp2_with (refine wpList_store_whole rfl rfl rfl rfl rfl HW4.out (treeI rfl) rfl (by simp [Value.oneCell']) ?_; try rw [hst4])
      refine (HAw.out _ HBn.out).mono ?_
      rintro e wz ⟨rfl, hbz⟩
      have HBz := Lib.hid (HBn.out.trans (hbz.mono HBn.out.size))
      clear hbz
      go_wp2_with fail
      go_ret
      exact ⟨rfl, HBz.out⟩
end Go.Proofs.YtldjdoebappkoaaDoor
