/- The walk of the law BenParses. -/
import Derived.Test.YtphanlkobkkgfaaAwake12
import Derived.Test.YtphanlkobkkgfaaRparse12
import Derived.Test.YtphanlkobkkgfaaRsame11
import Derived.Test.YtphanlkobkkgfaaMk11
import Derived.Test.YtphanlkobkkgfaaPA
namespace Go.Proofs.Ytphanlkobkkgfaa
open Go.RowKit
set_option linter.unusedVariables false
set_option maxRecDepth 100000
set_option linter.unusedSimpArgs false

theorem pc_row12 {w : World} {a : Option Addr} {len cap : Nat} {l : List Nat} (h : Row .u8 w a len cap l) : Pc w w.heap.size (.slice a len cap) l := by
  obtain ⟨rfl, h1, h2, h3, h4, h5⟩ := h
  exact ⟨a, cap, rfl, h1, h5, h3, h4⟩
/-- both Parses answer so, without a word on where the tree lies -/
theorem ParsePost.simple {l : List Nat} {w : World} {e : Ending} {w' : World} (h : ParsePost l w e w') {t : Tn} {pe : Nat} (hp : Bn.parse l = (t, pe)) :
    ∃ vk vq, e = .returned (.tuple #[.agg #[.int .i64 t.kind, .int .i64 t.n, .string t.s, vk, vq], .int .i64 (pe : Int)]) ∧ Tv w' w'.heap.size t vk vq ∧ Below w.heap.size w w' := by
  obtain ⟨vk, vq, h1, h2, h3⟩ := h
  rw [hp] at h1 h2
  exact ⟨vk, vq, h1, h2.tv.all, h3⟩
theorem same_self12 (t : Tn) : Tn.same t t = true := Tn.same_true rfl

set_option maxHeartbeats 2000000 in
theorem benParses_walk (a : Option Addr) (len cap : Nat) (l : List Nat) (w : World) (H : Row .u8 w a len cap l) :
    Calls Try.prog 4 #[.slice a len cap] w fun e w' => e = .returned (.bool true) ∧ Below w.heap.size w w' := by
  have HP := Lib.hid (pc_row12 H)
  have HBy := Lib.hid H.byte
  have HLe := Lib.hid H.len_eq
  have hlm : len ≤ 9223372036854775807 := by have h1 := H.le; have h2 := H.max; unfold maxLen at h2; omega
  clear H
  by_cases hl : 2000 < len
  case pos =>
    go_enter Try.func4, Try.ntmps4
    go_wp2_with fail
    refine (awake12 _).mono ?_
    rintro e w3 ⟨rfl, hb3⟩
    have HB3 := Lib.hid hb3
    clear hb3
    go_wp2_with fail
    go_ret
    exact ⟨rfl, HB3.out⟩
  have C1 := Lib.hid (parse12_any HP.out (Nat.le_refl _) HBy.out (by have := HLe.out; omega))
  have C2 := Lib.hid (fun W (h : Below w.heap.size w W) => rparse12_any (HP.out.below h) h.size HBy.out (by have := HLe.out; omega))
  obtain ⟨t, pe, hp⟩ : ∃ t pe, Bn.parse l = (t, pe) := ⟨_, _, rfl⟩
  have HP' := Lib.hid hp
  clear hp
  go_enter Try.func4, Try.ntmps4
  go_wp2_with fail
  refine (C1.out).mono ?_
  rintro e w2 hpost
  obtain ⟨vk, vq, rfl, hx2, hb2⟩ := hpost.simple HP'.out
  clear hpost
  obtain ⟨Ak, ck, Aq, cq, g, u0, u1, rfl, rfl, hg, hal, hW, hst, hU, hc, hz⟩ := var11 hx2
  have HB2 := Lib.hid (hb2.trans (hc.mono (by have := hb2.size; omega)))
  have HW := Lib.hid hW
  have HU := Lib.hid hU
  have C2' := Lib.hid (C2.out u1 HB2.out)
  clear hb2 hx2 hc hW hU
  go_wp2_with (refine wpList_store_whole rfl rfl rfl rfl rfl HW.out (treeI rfl) rfl (by simp [Value.oneCell']) ?_; try rw [hst])
  refine (C2'.out).mono ?_
  rintro e w3 hpost
  obtain ⟨vk, vq, rfl, hx3, hb3⟩ := hpost.simple HP'.out
  clear hpost
  obtain ⟨Bk, dk, Bq, dq, g2, u2, u3, rfl, rfl, hg2, hal2, hW2, hst2, hU2, hc2, hz2⟩ := var11 hx3
  have HB3 := Lib.hid ((HB2.out.trans (hb3.mono HB2.out.size)).trans (hc2.mono (by have := hb3.size; have := HB2.out.size; omega)))
  have HW2 := Lib.hid hW2
  have HU2 := Lib.hid hU2
  have HU1 := Lib.hid ((HU.out.keep hb3).below hc2 (by have := hb3.size; omega))
  clear hb3 hx3 hc2 hW2 hU2
  have CS := Lib.hid (rsame11_any (SizeOf.sizeOf t + 1) t (Nat.lt_succ_self _) t HU1.out.tv HU2.out.tv)
  rw [same_self12] at CS
  obtain ⟨c0, c1, c2, c3, c4⟩ := HU1.out.cells
  obtain ⟨d0, d1, d2, d3, d4⟩ := HU2.out.cells
  unfold tval at CS
  go_wp2_with (refine wpList_store_whole rfl rfl rfl rfl rfl HW2.out (treeI rfl) rfl (by simp [Value.oneCell']) ?_; try rw [hst2])
  refine (CS.out).mono ?_
  rintro e w4 ⟨rfl, hb4⟩
  have HB4 := Lib.hid (HB3.out.trans (hb4.mono HB3.out.size))
  clear hb4
  go_wp2_with fail
  refine (awake12 _).mono ?_
  rintro e w5 ⟨rfl, hb5⟩
  have HB5 := Lib.hid (HB4.out.trans (hb5.mono HB4.out.size))
  clear hb5
  go_wp2_with fail
  go_ret
  exact ⟨rfl, HB5.out⟩
end Go.Proofs.Ytphanlkobkkgfaa
