/- The walk of the law TaggedDecs. -/
import Derived.Test.YtjkjhnpemhlbpaaDoorAwake10
import Derived.Test.YtjkjhnpemhlbpaaDoorRdec10
import Derived.Test.YtjkjhnpemhlbpaaDoorPF
import Derived.Test.YtjkjhnpemhlbpaaDoorPA
namespace Go.Proofs.YtjkjhnpemhlbpaaDoor
open Go.RowKit
set_option linter.unusedVariables false
set_option maxRecDepth 100000
open Gm

set_option maxHeartbeats 1000000 in
theorem taggedDecs_walk (a : Option Addr) (len cap : Nat) (l : List Nat) (w : World) (R : Row .u8 w a len cap l) (T : Tab w) :
    Calls Tryd.prog 4 #[.slice a len cap] w fun e w' => e = .returned (.bool true) ∧ Below w.heap.size w w' := by
  obtain ⟨hP, hlen, hby⟩ := row_piece R
  have HT := Lib.hid T
  have HP := Lib.hid hP
  have HBy := Lib.hid hby
  have Hlen := Lib.hid hlen
  have hcap : len ≤ 9223372036854775807 := by
    obtain ⟨A, c, _, _, _, h1, h2⟩ := hP
    unfold maxLen at h2
    omega
  clear R T hP hby hlen
  by_cases h6 : 6000 < len
  · go_enter Tryd.func4, Tryd.ntmps4
    go_wp2_with fail
    refine (awake10 _ HT.out).mono ?_
    rintro e w1 ⟨rfl, hb1⟩
    have HB1 := Lib.hid hb1
    clear hb1
    go_wp2_with fail
    go_ret
    exact ⟨rfl, HB1.out⟩
  have C1 := Lib.hid (tdec_any HP.out (by have := Hlen.out; omega) HBy.out HT.out)
  have C2 := Lib.hid (fun W (h : Below w.heap.size w W) => rdec10_any (HP.out.kept h) (by have := Hlen.out; omega) HBy.out)
  obtain ⟨q, hq⟩ : ∃ q, Hid (Tg.dec l = q) := ⟨_, rfl⟩
  obtain ⟨M, x⟩ := q
  rw [hq.out] at C1 C2
  go_enter Tryd.func4, Tryd.ntmps4
  go_wp2_with fail
  refine (C1.out).mono ?_
  rintro e w1 ⟨v1, rfl, hm1, hb1⟩
  have HB1 := Lib.hid hb1
  obtain ⟨g1, Ap, cp, Aq, cq, u0, u1, rfl, hg1, hal1, hW1, hst1, hx1, hc1, hz1⟩ := var9 hm1
  have HW1 := Lib.hid hW1
  have HX1 := Lib.hid hx1
  have HC1 : Hid (Below w.heap.size w u1) := Lib.hid (HB1.out.trans (hc1.mono (by rw [← hg1]; exact HB1.out.size)))
  clear hm1 hb1 hW1 hx1 hc1 hz1
  go_wp2_with (refine wpList_store_whole rfl rfl rfl rfl rfl HW1.out (msgI rfl) rfl (by simp [Value.oneCell']) ?_; rw [hst1])
  refine (C2.out u1 HC1.out).mono ?_
  rintro e w2 ⟨v2, rfl, hm2, hb2⟩
  have HB2 := Lib.hid hb2
  obtain ⟨g2, Bp, dp, Bq, dq, u2, u3, rfl, hg2, hal2, hW2, hst2, hx2, hc2, hz2⟩ := var9 hm2
  have HW2 := Lib.hid hW2
  have HC2 : Hid (Below u1.heap.size u1 u3) := Lib.hid (HB2.out.trans (hc2.mono (by rw [← hg2]; exact HB2.out.size)))
  have HX2 := Lib.hid hx2
  have HX13 := Lib.hid (HX1.out.kept HC2.out)
  have HC3 : Hid (Below w.heap.size w u3) := Lib.hid (HC1.out.trans (HC2.out.mono HC1.out.size))
  have SM := Lib.hid (rmsame_any HX13.out.mv HX2.out.mv)
  rw [same_refl] at SM
  clear hm2 hb2 hW2 hx2 hc2 hz2
  go_wp2_with (first | (refine wpList_store_whole rfl rfl rfl rfl rfl HW2.out (msgI rfl) rfl (by simp [Value.oneCell']) ?_; rw [hst2]) | (refine wpList_load_struct Tryd.underlying30 (msgI rfl) rfl rfl rfl HX13.out.bx.load ?_) | (refine wpList_load_struct Tryd.underlying30 (msgI rfl) rfl rfl rfl HX2.out.bx.load ?_))
  refine (SM.out).mono ?_
  rintro e w4 ⟨rfl, hb4⟩
  have HC4 : Hid (Below w.heap.size w w4) := Lib.hid (HC3.out.trans (hb4.mono HC3.out.size))
  have A := Lib.hid (awake10 w4 (HT.out.kept HC4.out))
  clear hb4
  go_wp2_with fail
  refine (A.out).mono ?_
  rintro e w5 ⟨rfl, hb5⟩
  have HC5 : Hid (Below w.heap.size w w5) := Lib.hid (HC4.out.trans (hb5.mono HC4.out.size))
  clear hb5
  go_wp2_with fail
  go_ret
  exact ⟨rfl, HC5.out⟩
end Go.Proofs.YtjkjhnpemhlbpaaDoor
