/- The walk of the law DictTrees. -/
import Derived.Test.YtldjdoebappkoaaDoorAwake13
import Derived.Test.YtldjdoebappkoaaDoorRto13
namespace Go.Proofs.YtldjdoebappkoaaDoor
open Go.RowKit
set_option linter.unusedVariables false
set_option maxRecDepth 100000
set_option linter.unusedSimpArgs false
open Gm

set_option maxHeartbeats 2000000 in
theorem dictTrees_walk (m : Ms) (v : Value) (w : World) (H : Mv w w.heap.size m v) (T : Tab w) :
    Calls Tryd.prog 3 #[v] w fun e w' => e = .returned (.bool true) ∧ Below w.heap.size w w' := by
  obtain ⟨b, vp, vq, w1, rfl, hb, hal, hsz, hx, hb1⟩ := boxed H
  have hb1' : Below w.heap.size w w1 := by rw [hb]; exact hb1
  have HX := Lib.hid hx
  have HB1 := Lib.hid hb1'
  have HTb := Lib.hid (fun W (h : Below w.heap.size w W) => T.below h T.lt)
  have HL := Lib.hid (large_any hx.mv)
  have HO := Lib.hid (fun h => large_off (m := m) h)
  have Q1 := Lib.hid (fun (h : large m = false) W (hW : Below w1.heap.size w1 W) => dto13_any (HX.out.kept hW).mv (HTb.out W (HB1.out.trans (hW.mono HB1.out.size))) (by have := (HO.out h).2.2.1; omega) (by have := (HO.out h).2.2.2.1; omega))
  have Q2 := Lib.hid (fun (h : large m = false) W (hW : Below w1.heap.size w1 W) => rto13_any (HX.out.kept hW).mv (by have := (HO.out h).2.2.1; omega) (by have := (HO.out h).2.2.2.1; omega))
  have HAw := Lib.hid (fun W (h : Below w.heap.size w W) => awake13 W (HTb.out W h))
  obtain ⟨P, hP⟩ : ∃ P, Hid (Dm.to m = P) := ⟨_, Lib.hid rfl⟩
  rw [hP.out] at Q1 Q2
  obtain ⟨a, pe⟩ := P
  have S1 := Lib.hid (fun W (C D : Nat) (vk vq uk uq : Value) (h : Tv W C a vk vq) (h' : Tv W D a uk uq) => rsame11_any (SizeOf.sizeOf a + 1) a (Nat.lt_succ_self _) a h h')
  rw [Tn.same_true rfl] at S1
  obtain ⟨lg, hlg⟩ : ∃ s, Hid (large m = s) := ⟨_, Lib.hid rfl⟩
  rw [hlg.out] at HL Q1 Q2
  obtain ⟨c0, c1, c2, c3, c4, c5, c6, c7, c8, c9, c10⟩ := hx.cells
  clear hx hb1 hb1' hsz H
  unfold tval at Q1 Q2 S1
  cases lg
  case' true =>
    go_enter Tryd.func3, Tryd.ntmps3
    go_wp2_with fail
    refine (HL.out).mono ?_
    rintro e w2 ⟨rfl, hb2⟩
    have HB2 := Lib.hid (HB1.out.trans (hb2.mono HB1.out.size))
    clear hb2 c0 c1 c2 c3 c4 c5 c6 c7 c8 c9 c10
    go_wp2_with fail
    refine (HAw.out _ HB2.out).mono ?_
    rintro e w3 ⟨rfl, hb3⟩
    have HB3 := Lib.hid (HB2.out.trans (hb3.mono HB2.out.size))
    clear hb3
    go_wp2_with fail
    go_ret
    exact ⟨rfl, HB3.out⟩
  go_enter Tryd.func3, Tryd.ntmps3
  go_wp2_with fail
  refine (HL.out).mono ?_
  rintro e w2 ⟨rfl, hb2⟩
  have HC2 := Lib.hid hb2
  clear hb2 c0 c1 c2 c3 c4 c5 c6 c7 c8 c9 c10
  obtain ⟨c0, c1, c2, c3, c4, c5, c6, c7, c8, c9, c10⟩ := (HX.out.kept HC2.out).cells
  go_wp2_with fail
  refine (Q1.out (by first | rfl | trivial) _ HC2.out).mono ?_
  rintro e w3 ⟨vk, vq, rfl, ht, hb3⟩
  obtain ⟨Ak, ck, Aq, cq, g, u0, u1, rfl, rfl, hg, hal1, hW, hst, hU, hc, _⟩ := var13 ht
  have HC3 := Lib.hid ((HC2.out.trans (hb3.mono HC2.out.size)).trans (hc.mono (by have := hb3.size; have := HC2.out.size; omega)))
  have HW := Lib.hid hW
  have HU := Lib.hid hU
  clear hb3 ht hc hW hU c0 c1 c2 c3 c4 c5 c6 c7 c8 c9 c10
  obtain ⟨c0, c1, c2, c3, c4, c5, c6, c7, c8, c9, c10⟩ := (HX.out.kept HC3.out).cells
  go_wp2_with (refine wpList_store_whole rfl rfl rfl rfl rfl HW.out (treeI rfl) rfl (by simp [Value.oneCell']) ?_; try rw [hst])
  refine (Q2.out (by first | rfl | trivial) _ HC3.out).mono ?_
  rintro e w4 ⟨vk, vq, rfl, ht, hb4⟩
  obtain ⟨Bk, dk, Bq, dq, g2, u2, u3, rfl, rfl, hg2, hal2, hW2, hst2, hU2, hc2, _⟩ := var13 ht.tv
  have HW2 := Lib.hid hW2
  have HU2 := Lib.hid hU2
  have z4 := hb4.size
  have HC4 := Lib.hid ((HC3.out.trans (hb4.mono HC3.out.size)).trans (hc2.mono (by have := HC3.out.size; omega)))
  have HU1 := Lib.hid ((HU.out.keep hb4).keep hc2)
  have HB4 := Lib.hid (HB1.out.trans (HC4.out.mono HB1.out.size))
  have CS := Lib.hid (S1.out _ _ _ _ _ _ _ HU1.out.tv HU2.out.tv)
  obtain ⟨d0, d1, d2, d3, d4⟩ := HU1.out.cells
  obtain ⟨k0, k1, k2, k3, k4⟩ := HU2.out.cells
  clear hb4 ht hc2 hW2 hU2 c0 c1 c2 c3 c4 c5 c6 c7 c8 c9 c10 z4
  go_wp2_with (refine wpList_store_whole rfl rfl rfl rfl rfl HW2.out (treeI rfl) rfl (by simp [Value.oneCell']) ?_; try rw [hst2])
  refine (CS.out).mono ?_
  rintro e w5 ⟨rfl, hb5⟩
  have HB5 := Lib.hid (HB4.out.trans (hb5.mono HB4.out.size))
  clear hb5
  go_wp2_with fail
  refine (HAw.out _ HB5.out).mono ?_
  rintro e w6 ⟨rfl, hb6⟩
  have HB6 := Lib.hid (HB5.out.trans (hb6.mono HB5.out.size))
  clear hb6
  go_wp2_with fail
  go_ret
  exact ⟨rfl, HB6.out⟩
end Go.Proofs.YtldjdoebappkoaaDoor
