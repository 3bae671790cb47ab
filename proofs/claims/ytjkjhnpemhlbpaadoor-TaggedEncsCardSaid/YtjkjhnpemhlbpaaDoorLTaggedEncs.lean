/- The walk of the law TaggedEncs. -/
import Derived.Test.YtjkjhnpemhlbpaaDoorAwake10
import Derived.Test.YtjkjhnpemhlbpaaDoorRenc10
import Derived.Test.YtjkjhnpemhlbpaaDoorPF
namespace Go.Proofs.YtjkjhnpemhlbpaaDoor
open Go.RowKit
set_option linter.unusedVariables false
set_option maxRecDepth 100000
open Gm

set_option maxHeartbeats 1000000 in
theorem taggedEncs_walk (m : Ms) (v : Value) (w : World) (H : Mv w w.heap.size m v) (T : Tab w) :
    Calls Tryd.prog 3 #[v] w fun e w' => e = .returned (.bool true) ∧ Below w.heap.size w w' := by
  obtain ⟨b, vp, vq, w00, rfl, hb, hal, hsz, hx, hb0⟩ := boxed H
  have hT0 := T.below hb0 (by rw [← hb]; exact T.lt)
  have hx00 := Lib.hid hx
  obtain ⟨c0, c1, c2, c3, c4, c5, c6, c7, c8, c9, c10⟩ := hx.cells
  have HB0 := Lib.hid hb0
  have HT0 := Lib.hid hT0
  clear hx hb0 H T hT0
  go_enter Tryd.func3, Tryd.ntmps3
  go_wp2_with fail
  refine (large_any hx00.out.mv).mono ?_
  rintro e w0 ⟨rfl, hb1⟩
  have HBs : Hid (Below b w w0) := Lib.hid (HB0.out.trans (hb1.mono (by omega)))
  have HX0 := Lib.hid (hx00.out.kept hb1)
  have HT1 := Lib.hid (HT0.out.kept hb1)
  clear hb1 c0 c1 c2 c3 c4 c5 c6 c7 c8 c9 c10
  cases hL : large m
  case true =>
    go_wp2_with fail
    refine (awake10 _ HT1.out).mono ?_
    rintro e w2 ⟨rfl, hb2⟩
    have HB2 := Lib.hid (HBs.out.trans (hb2.mono (by have := HX0.out.lt; omega)))
    clear hb2
    go_wp2_with fail
    go_ret
    exact ⟨rfl, by first | exact HB2.out | (rw [hb]; exact HB2.out)⟩
  obtain ⟨hke, _, hlp, hlq, _⟩ := large_off hL
  have C1 := Lib.hid (tenc_any HX0.out.mv HT1.out (by omega))
  have C2 := Lib.hid (fun W (h : Below w0.heap.size w0 W) => renc10_any (HX0.out.kept h).mv (by omega) (by omega) (by omega))
  have HC := Lib.hid (fun W (h : Below w0.heap.size w0 W) => (HX0.out.kept h).cells)
  obtain ⟨q, hq⟩ : ∃ q, Hid (Tg.enc m = q) := ⟨_, rfl⟩
  obtain ⟨l, r⟩ := q
  rw [hq.out] at C1 C2
  obtain ⟨c0, c1, c2, c3, c4, c5, c6, c7, c8, c9, c10⟩ := HC.out w0 (Below.refl _ _)
  go_wp2_with fail
  refine (C1.out).mono ?_
  rintro e w1 ⟨v1, rfl, ho1, hb1⟩
  have HO1 := Lib.hid ho1
  have HB1 := Lib.hid hb1
  clear ho1 hb1 c0 c1 c2 c3 c4 c5 c6 c7 c8 c9 c10
  obtain ⟨c0, c1, c2, c3, c4, c5, c6, c7, c8, c9, c10⟩ := HC.out w1 HB1.out
  go_wp2_with fail
  refine (C2.out _ HB1.out).mono ?_
  rintro e w2 ⟨v2, rfl, ho2, hb2⟩
  have hcv1 : (convert 33 9 v1).run Tryd.prog w2 = .ok (.string (strOf l)) w2 := conv_own Tryd.underlying33 Tryd.underlying5 Tryd.underlying9 (own_below HO1.out hb2)
  have hcv2 : (convert 33 9 v2).run Tryd.prog w2 = .ok (.string (strOf l)) w2 := conv_own Tryd.underlying33 Tryd.underlying5 Tryd.underlying9 ho2
  have HB2 : Hid (Below w0.heap.size w0 w2) := Lib.hid (HB1.out.trans (hb2.mono HB1.out.size))
  obtain ⟨S, hS⟩ : ∃ S, Hid (strOf l = S) := ⟨_, rfl⟩
  rw [hS.out] at hcv1 hcv2
  have he : (S.toList == S.toList) = true := beq_self_eq_true _
  have A := Lib.hid (awake10 w2 (HT1.out.kept HB2.out))
  clear ho2 hb2 c0 c1 c2 c3 c4 c5 c6 c7 c8 c9 c10
  go_wp2_with fail
  refine (A.out).mono ?_
  rintro e w3 ⟨rfl, hb3⟩
  have HB3 : Hid (Below b w w3) := Lib.hid (HBs.out.trans ((HB2.out.trans (hb3.mono HB2.out.size)).mono (by have := HX0.out.lt; omega)))
  clear hb3
  go_wp2_with fail
  go_ret
  exact ⟨rfl, by first | exact HB3.out | (rw [hb]; exact HB3.out)⟩
end Go.Proofs.YtjkjhnpemhlbpaaDoor
