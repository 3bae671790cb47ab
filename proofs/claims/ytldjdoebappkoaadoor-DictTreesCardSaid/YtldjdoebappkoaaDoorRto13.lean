/- Contract of layer 13's reference's To. -/
import Derived.Test.YtldjdoebappkoaaDoorRtr13
import Derived.Test.YtldjdoebappkoaaDoorRright8
import Derived.Test.YtldjdoebappkoaaDoorPJ
namespace Go.Proofs.YtldjdoebappkoaaDoor
open Go.RowKit
set_option linter.unusedVariables false
set_option maxRecDepth 100000
set_option linter.unusedSimpArgs false
open Gm

theorem Dm.to_bad {m : Ms} (h : ¬ right m = 0) : Dm.to m = (Dm.none_, right m) := by unfold Dm.to; rw [if_neg h]
theorem Dm.to_good {m : Ms} (h : right m = 0) : Dm.to m = (Dm.tree m, 0) := by unfold Dm.to; rw [if_pos h]
set_option maxHeartbeats 2000000 in
theorem rto13_any {w : World} {B : Nat} {m : Ms} {v : Value} (H : Mv w B m v) (hlp : m.peers.length ≤ 100000) (hlq : m.pairs.length ≤ 100000) :
    Calls Tryd.prog 8 #[v] w fun e w' => ∃ vk vq, e = .returned (.tuple #[tval (Dm.to m).1 vk vq, .int .i64 ((Dm.to m).2 : Int)]) ∧ Tp w' (fun x => w.heap.size ≤ x) (Dm.to m).1 vk vq ∧ Below w.heap.size w w' := by
  obtain ⟨b, vp, vq, w1, rfl, hb, hal, hsz, hx, hb1⟩ := boxed H
  obtain ⟨r, w2, hr, hal2, hR, hb2, hs2⟩ := var_tree w1
  have hbr : b < r := by rw [← hr]; exact hx.lt
  have hwb : w.heap.size ≤ b := by omega
  have hb1' : Below w.heap.size w w1 := by rw [hb]; exact hb1
  have hb2' : Below w1.heap.size w1 w2 := by rw [hr]; exact hb2
  have HX := Lib.hid (hx.kept hb2')
  have HR := Lib.hid hR
  have HB := Lib.hid (hb1'.trans (hb2'.mono hb1'.size))
  have hrl := hR.lt
  have C1 := Lib.hid (rright_any HX.out.mv (by omega) (by omega))
  have C2 := Lib.hid (fun W (h : Below w2.heap.size w2 W) => rtree13_any (HX.out.kept h).mv hlp hlq)
  have D1 := Lib.hid (fun h => Dm.to_bad (m := m) h)
  have D2 := Lib.hid (fun h => Dm.to_good (m := m) h)
  obtain ⟨P, hP⟩ : ∃ P, Hid (Dm.to m = P) := ⟨_, Lib.hid rfl⟩
  rw [hP.out] at D1 D2 ⊢
  obtain ⟨e0, he0⟩ : ∃ x, Hid (right m = x) := ⟨_, Lib.hid rfl⟩
  rw [he0.out] at C1 D1 D2
  obtain ⟨T, hT⟩ : ∃ T, Hid (Dm.tree m = T) := ⟨_, Lib.hid rfl⟩
  rw [hT.out] at C2 D2
  obtain ⟨Ap, cp, rfl, _⟩ := HX.out.peers.ex
  obtain ⟨Aq, cq, rfl, _⟩ := HX.out.pairs.ex
  obtain ⟨c0, c1, c2, c3, c4, c5, c6, c7, c8, c9, c10⟩ := HX.out.cells
  clear hx hR hb1 hb2 hb1' hb2' hs2 hsz H
  by_cases h0 : e0 = 0
  case neg =>
    have hp := D1.out h0
    subst hp
    have q1 : ((e0 : Int) != 0) = true := by simp; omega
    have q2 : ((e0 : Int) == 0) = false := by simp; omega
    go_enter Tryd.func8, Tryd.ntmps8
    go_wp2_with fail
    refine (C1.out).mono ?_
    rintro e w3 ⟨rfl, hb3⟩
    have HR3 := Lib.hid (HR.out.below hb3 hrl)
    have HB3 := Lib.hid (HB.out.trans (hb3.mono HB.out.size))
    clear hb3 c0 c1 c2 c3 c4 c5 c6 c7 c8 c9 c10 hb hal hr hal2
    go_wp2_with (refine wpList_store_whole rfl rfl rfl rfl rfl HR3.out (treeI rfl) rfl (by simp [Value.oneCell']) ?_)
    refine bodyPost_ret (v := .tuple #[.agg #[.int .i64 0, .int .i64 0, .string ⟨#[]⟩, .slice none 0 0, .slice none 0 0], .int .i64 (e0 : Int)]) ?_ rfl ⟨_, _, rfl, Tp.leaf _ _ (by omega) (by omega) (by show (0 : Nat) ≤ maxLen; omega), below_row HB3.out (by omega) _⟩
    exact results_tree2 rfl rfl rfl (HR3.out.row _) rfl
  have hp := D2.out h0
  subst hp h0
  go_enter Tryd.func8, Tryd.ntmps8
  go_wp2_with fail
  refine (C1.out).mono ?_
  rintro e w3 ⟨rfl, hb3⟩
  have HC3 := Lib.hid hb3
  have HR3 := Lib.hid (HR.out.below hb3 hrl)
  have HB3 := Lib.hid (HB.out.trans (hb3.mono HB.out.size))
  have HX3 := Lib.hid (HX.out.kept hb3)
  clear hb3 c0 c1 c2 c3 c4 c5 c6 c7 c8 c9 c10 hb hal hr hal2
  obtain ⟨c0, c1, c2, c3, c4, c5, c6, c7, c8, c9, c10⟩ := HX3.out.cells
  go_wp2_with fail
  refine (C2.out _ HC3.out).mono ?_
  rintro e w4 ⟨vk, vq, rfl, ht, hb4⟩
  have HR4 := Lib.hid (HR3.out.below hb4 HR3.out.lt)
  have HB4 := Lib.hid (HB3.out.trans (hb4.mono HB3.out.size))
  have hwr : r < w3.heap.size := HR3.out.lt
  obtain ⟨Ak, ck, rfl, _⟩ := ht.tv.keys
  obtain ⟨At, ct, rfl, _⟩ := ht.tv.kids
  have HT4 := Lib.hid ht
  have hle := HB3.out.size
  unfold tval
  clear hb4 ht c0 c1 c2 c3 c4 c5 c6 c7 c8 c9 c10
  go_wp2_with (refine wpList_store_whole rfl rfl rfl rfl rfl HR4.out (treeI rfl) rfl (by simp [Value.oneCell']) ?_)
  refine bodyPost_ret (v := .tuple #[.agg #[.int .i64 T.kind, .int .i64 T.n, .string T.s, .slice Ak T.keys.length ck, .slice At T.kids.length ct], .int .i64 0]) ?_ rfl ⟨_, _, rfl, ?_, below_row HB4.out (by omega) _⟩
  · exact results_tree2 rfl rfl rfl (HR4.out.row _) rfl
  · exact HT4.out.keep (fun x p q => ⟨by omega, setRow_other w4 r x _ (by omega)⟩)
end Go.Proofs.YtldjdoebappkoaaDoor
