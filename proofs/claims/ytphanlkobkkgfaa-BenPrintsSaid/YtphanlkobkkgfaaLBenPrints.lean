/- The walk of the law BenPrints. -/
import Derived.Test.YtphanlkobkkgfaaAwake12
import Derived.Test.YtphanlkobkkgfaaRoom11
import Derived.Test.YtphanlkobkkgfaaPA
namespace Go.Proofs.Ytphanlkobkkgfaa
open Go.RowKit
set_option linter.unusedVariables false
set_option maxRecDepth 100000
set_option linter.unusedSimpArgs false

set_option maxHeartbeats 2000000 in
theorem benPrints_walk (t : Tn) (vk vq : Value) (w : World) (H : Tv w w.heap.size t vk vq) :
    Calls Try.prog 3 #[tval t vk vq] w fun e w' => e = .returned (.bool true) ∧ Below w.heap.size w w' := by
  obtain ⟨b, w1, hs, hal, hT, hb1⟩ := boxedT H
  have hb1s : Below w.heap.size w w1 := by rw [hs]; exact hb1
  have HT := Lib.hid hT
  have HB1 := Lib.hid hb1s
  obtain ⟨c0, c1, c2, c3, c4⟩ := hT.cells
  have HCt := Lib.hid (fun W (h : Below w1.heap.size w1 W) => (HT.out.keep h).cells)
  have HL := Lib.hid (large11_any (level := 1) (by omega) hT.tv)
  have HIn := Lib.hid (Bn.Ints.of_tv hT.tv)
  have HNo := Lib.hid (fun h => Tn.small_nodes (t := t) h)
  have HLm := Lib.hid (fun h => (Tn.small_of (t := t) h).lim)
  have R1 := Lib.hid (fun (h : ¬ t.room 1 400 < 0) W (hW : Below w1.heap.size w1 W) => cprint12_any (HT.out.keep hW).tv (by have := Bn.ben_len t (HLm.out h) HIn.out; have := HNo.out h; omega))
  have R2 := Lib.hid (fun (h : ¬ t.room 1 400 < 0) W (hW : Below w1.heap.size w1 W) => rprint12_any (HLm.out h) HIn.out (HNo.out h) (HT.out.keep hW).tv)
  obtain ⟨Ak, ck, ek, _⟩ := hT.tv.keys
  obtain ⟨A, c, eq, _⟩ := hT.tv.kids
  subst ek eq
  obtain ⟨rm, hrm⟩ : ∃ rm, Hid (t.room 1 400 = rm) := ⟨_, rfl⟩
  rw [hrm.out] at HL R1 R2
  obtain ⟨P, hP⟩ : ∃ P, Hid (Bn.print t = P) := ⟨_, rfl⟩
  rw [hP.out] at R1 R2
  obtain ⟨l, pe⟩ := P
  unfold tcells at hal
  unfold tval at HL R1 R2
  unfold tval
  clear hT H hb1 hb1s hP HIn HNo HLm
  by_cases hr : rm < 0
  case pos =>
    rw [decide_eq_true hr] at HL
    go_enter Try.func3, Try.ntmps3
    go_wp2_with fail
    refine (HL.out).mono ?_
    rintro e w2 ⟨rfl, hb2⟩
    have HB2 := Lib.hid (HB1.out.trans (hb2.mono HB1.out.size))
    clear hb2
    go_wp2_with fail
    refine (awake12 _).mono ?_
    rintro e w3 ⟨rfl, hb3⟩
    have HB3 := Lib.hid (HB2.out.trans (hb3.mono HB2.out.size))
    clear hb3
    go_wp2_with fail
    go_ret
    exact ⟨rfl, HB3.out⟩
  rw [decide_eq_false hr] at HL
  have Q1 := Lib.hid (R1.out hr)
  have Q2 := Lib.hid (R2.out hr)
  clear R1 R2
  go_enter Try.func3, Try.ntmps3
  go_wp2_with fail
  refine (HL.out).mono ?_
  rintro e w2 ⟨rfl, hb2⟩
  have HC2 := Lib.hid hb2
  obtain ⟨d0, d1, d2, d3, d4⟩ := HCt.out w2 HC2.out
  clear hb2 c0 c1 c2 c3 c4
  go_wp2_with fail
  refine (Q1.out _ HC2.out).mono ?_
  rintro e w3 ⟨v3, rfl, hp3, hb3⟩
  obtain ⟨A3, k3, rfl, hs3, _⟩ := hp3
  have HC3 := Lib.hid (HC2.out.trans (hb3.mono HC2.out.size))
  have HS3 := Lib.hid hs3
  obtain ⟨c0, c1, c2, c3, c4⟩ := HCt.out w3 HC3.out
  clear hb3 hs3 d0 d1 d2 d3 d4
  go_wp2_with fail
  refine (Q2.out _ HC3.out).mono ?_
  rintro e w4 ⟨v4, rfl, hp4, hb4⟩
  obtain ⟨A4, k4, rfl, hs4, _⟩ := hp4
  have HC4 := Lib.hid (HC3.out.trans (hb4.mono HC3.out.size))
  have hcv1 := conv_sees (P := Try.prog) Try.underlying28 Try.underlying5 Try.underlying9 l.length k3 rfl (HS3.out.below hb4)
  have hcv2 := conv_sees (P := Try.prog) Try.underlying28 Try.underlying5 Try.underlying9 l.length k4 rfl hs4
  obtain ⟨sx, hsx⟩ : ∃ s, Hid (strOf l = s) := ⟨_, rfl⟩
  rw [hsx.out] at hcv1 hcv2
  obtain ⟨n, hn⟩ : ∃ n, Hid (l.length = n) := ⟨_, rfl⟩
  rw [hn.out] at hcv1 hcv2
  try rw [hn.out]
  clear hb4 hs4 c0 c1 c2 c3 c4
  have HB4 := Lib.hid (HB1.out.trans (HC4.out.mono HB1.out.size))
  go_wp2_with fail
  refine (awake12 _).mono ?_
  rintro e w5 ⟨rfl, hb5⟩
  have HB5 := Lib.hid (HB4.out.trans (hb5.mono HB4.out.size))
  clear hb5
  go_wp2_with fail
  go_ret
  exact ⟨rfl, HB5.out⟩
end Go.Proofs.Ytphanlkobkkgfaa
