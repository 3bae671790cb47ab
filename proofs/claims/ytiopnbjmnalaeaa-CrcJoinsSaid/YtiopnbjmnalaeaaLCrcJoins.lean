/- The walk of the law CrcJoins: it answers true, and nothing that was there has turned. -/
import Derived.Test.YtiopnbjmnalaeaaRef2
import Derived.Test.YtiopnbjmnalaeaaAwake2
import Derived.Test.YtiopnbjmnalaeaaFrame
namespace Go.Proofs.Ytiopnbjmnalaeaa
open Go.RowKit
set_option linter.unusedVariables false

theorem box2 {w W : World} {t : TypeId} {u v : Value} (h : Below (w.heap.size + 1) (w.alloc (.cells #[u, v] t)) W) : W.cell? ⟨w.heap.size, 0, none⟩ = some u ∧ W.cell? ⟨w.heap.size, 1, none⟩ = some v := by
  have h1 := Whole.made w t #[u, v]
  have h2 := h1.below h (by omega)
  exact ⟨by rw [h2.at_ 0]; rfl, by rw [h2.at_ 1]; rfl⟩

set_option maxRecDepth 100000 in
set_option maxHeartbeats 1000000 in
theorem crcJoins_walk (a b n f0 f1 : Int) (w : World) (wa : (Lit.int .u32 a).wf = true) (wb : (Lit.int .u32 b).wf = true) (wn : (Lit.int .i64 n).wf = true) (w0 : (Lit.int .u32 f0).wf = true) (w1 : (Lit.int .u32 f1).wf = true) :
    Calls Try.prog 5 #[.int .u32 a, .int .u32 b, .int .i64 n, .agg #[.int .u32 f0, .int .u32 f1]] w fun e w' => e = .returned (.bool true) ∧ Below w.heap.size w w' := by
  obtain ⟨a0, a1⟩ := bounds_u32 wa
  obtain ⟨b0, b1⟩ := bounds_u32 wb
  obtain ⟨f00, f01⟩ := bounds_u32 w0
  obtain ⟨f10, f11⟩ := bounds_u32 w1
  obtain ⟨n0, n1⟩ := bounds_i64 wn
  clear wa wb wn w0 w1
  obtain ⟨a, rfl⟩ := Int.eq_ofNat_of_zero_le a0
  obtain ⟨b, rfl⟩ := Int.eq_ofNat_of_zero_le b0
  obtain ⟨f0, rfl⟩ := Int.eq_ofNat_of_zero_le f00
  obtain ⟨f1, rfl⟩ := Int.eq_ofNat_of_zero_le f10
  have Hbb := Lib.hid ((Below.refl w.heap.size w).alloc (Nat.le_refl _) (.cells #[.int .u32 (f0 : Int), .int .u32 (f1 : Int)] 30))
  have Hbox := Lib.hid (fun W => box2 (w := w) (W := W) (t := 30) (u := .int .u32 (f0 : Int)) (v := .int .u32 (f1 : Int)))
  have HJ0 := Lib.hid (Cm.join_lt a 0 f0 (by omega) (by omega))
  have HJJ := Lib.hid (Cm.join_join a b f0 f1)
  have j1 := fun W => join_any a 0 (f0 : Int) W (by omega) (by omega) (by omega) (by omega)
  have j2 := fun W => join_any (Cm.join a 0 f0) b (f1 : Int) W HJ0.out (by omega) (by omega) (by omega)
  have j3 := fun W => join_any a b ((f0 : Int) + (f1 : Int)) W (by omega) (by omega) (by omega) (by omega)
  rw [Int.toNat_natCast] at j1 j2
  rw [show ((f0 : Int) + (f1 : Int)).toNat = f0 + f1 by omega] at j3
  rw [HJJ.out] at j2
  rw [show ((0 : Nat) : Int) = 0 from rfl] at j1
  have J1 := Lib.hid j1
  have J2 := Lib.hid j2
  have J3 := Lib.hid j3
  have HW : Hid (IntKind.i64.wrap (f0 : Int) = (f0 : Int) ∧ IntKind.i64.wrap (f1 : Int) = (f1 : Int) ∧ IntKind.i64.wrap ((f0 : Int) + (f1 : Int)) = (f0 : Int) + (f1 : Int)) := ⟨IntWalk.i64_in _ (by omega), IntWalk.i64_in _ (by omega), IntWalk.i64_in _ (by omega)⟩
  clear j1 j2 j3
  obtain ⟨wq, Hwq⟩ : ∃ wq, Hid (w.alloc (.cells #[.int .u32 (f0 : Int), .int .u32 (f1 : Int)] 30) = wq) := ⟨_, rfl⟩
  have Hsz : Hid (wq.heap.size = w.heap.size + 1) := by show _ = _; rw [← Hwq.out]; simp
  rw [Hwq.out] at Hbb Hbox
  by_cases hn : n ≤ 2000
  · have C2 := Lib.hid (fun W => refJoin_any a b n W (by omega) (by omega) hn)
    go_enter Try.func5, Try.ntmps5
    go_wp2_with fail
    rw [Hwq.out]
    refine (join_any a b n _ (by omega) (by omega) n0 n1).mono ?_
    rintro e w2 ⟨rfl, hb2⟩
    have Hb2 := Lib.hid hb2
    clear hb2
    go_wp2_with fail
    refine (C2.out _).mono ?_
    rintro e wr ⟨rfl, hb3⟩
    have Hbr0 := Lib.hid (Hb2.out.trans (hb3.mono Hb2.out.size))
    clear hb3
    have Hbr := Lib.hid (Hbb.out.trans (Hbr0.out.mono Hbb.out.size))
    have HS := Lib.hid (fun W (h : Below wr.heap.size wr W) => Hbox.out W ((Hbr0.out.trans (h.mono Hbr0.out.size)).mono (by rw [Hsz.out]; exact Nat.le_refl _)))
    have hw0 := HW.out.1
    have hw1 := HW.out.2.1
    have hsum := HW.out.2.2
    go_wp2_with fail
    refine wp_region_plan (S := fun W => W.cell? ⟨w.heap.size, 0, none⟩ = some (.int .u32 (f0 : Int)) ∧ W.cell? ⟨w.heap.size, 1, none⟩ = some (.int .u32 (f1 : Int))) [(0, true), (1, true), (2, true), (3, true), (5, true), (6, true), (7, true), (8, true), (10, true), (11, true), (12, true), (13, true), (14, true), (15, true), (16, true), (17, true), (18, true), (4, false), (9, false), (19, false), (20, true), (21, true), (22, false), (23, true), (24, true)] (by kernel_rfl) (by kernel_rfl) rfl (by kernel_rfl) (fun _ _ _ _ _ h => h) (HS.out _ (Below.refl _ _).drew) ?_
    iterate 17
      refine along_take (v := ?_) rfl (by rfl) ?_ ?_
      rotate_left
      · intro W hW
        obtain ⟨hW0, hW1⟩ := hW
        go_simp
        try with_reducible rfl
      simp only [Act.put, List.setIfInBounds_toArray, List.set_cons_zero, List.set_cons_succ]
    refine along_step rfl (fun K hK => ?_)
    go_simp
    refine (J1.out _).mono ?_
    rintro e w4 ⟨rfl, hb4⟩
    have hb4' : Below wr.heap.size wr w4 := (Below.refl _ _).drew.trans hb4
    refine hK.out _ _ (HS.out _ hb4') ?_
    clear hK K hb4
    refine along_step rfl (fun K hK => ?_)
    go_simp
    refine (J2.out _).mono ?_
    rintro e w5 ⟨rfl, hb5⟩
    have hb5' : Below wr.heap.size wr w5 := hb4'.trans (hb5.mono hb4'.size)
    refine hK.out _ _ (HS.out _ hb5') ?_
    clear hK K hb5 hb4'
    refine along_step rfl (fun K hK => ?_)
    go_simp
    refine (J3.out _).mono ?_
    rintro e w6 ⟨rfl, hb6⟩
    have hb6' : Below wr.heap.size wr w6 := hb5'.trans (hb6.mono hb5'.size)
    refine hK.out _ _ (HS.out _ hb6') ?_
    clear hK K hb6 hb5'
    iterate 2
      refine along_take (v := ?_) rfl (by rfl) ?_ ?_
      rotate_left
      · intro W hW; go_simp; try with_reducible rfl
      simp only [Act.put, List.setIfInBounds_toArray, List.set_cons_zero, List.set_cons_succ]
    refine along_step rfl (fun K hK => ?_)
    go_simp
    refine (awake2_any _).mono ?_
    rintro e w7 ⟨rfl, hb7⟩
    have hb7' : Below wr.heap.size wr w7 := hb6'.trans (hb7.mono hb6'.size)
    refine hK.out _ _ (HS.out _ hb7') ?_
    clear hK K hb7 hb6'
    iterate 2
      refine along_take (v := ?_) rfl (by rfl) ?_ ?_
      rotate_left
      · intro W hW; go_simp; try with_reducible rfl
      simp only [Act.put, List.setIfInBounds_toArray, List.set_cons_zero, List.set_cons_succ]
    refine along_done ?_
    have HB := Lib.hid (Hbr.out.trans (hb7'.mono Hbr.out.size))
    clear hb7'
    go_wp2_with fail
    go_ret
    exact ⟨rfl, HB.out⟩
  · go_enter Try.func5, Try.ntmps5
    have hw0 := HW.out.1
    have hw1 := HW.out.2.1
    have hsum := HW.out.2.2
    go_wp2_with fail
    rw [Hwq.out]
    have Hbr := Hbb
    have HS := Lib.hid (fun W (h : Below wq.heap.size wq W) => Hbox.out W (h.mono (by rw [Hsz.out]; exact Nat.le_refl _)))
    obtain ⟨wr, rfl⟩ : ∃ wr, wr = wq := ⟨_, rfl⟩
    refine wp_region_plan (S := fun W => W.cell? ⟨w.heap.size, 0, none⟩ = some (.int .u32 (f0 : Int)) ∧ W.cell? ⟨w.heap.size, 1, none⟩ = some (.int .u32 (f1 : Int))) [(0, true), (1, true), (2, true), (3, true), (5, true), (6, true), (7, true), (8, true), (10, true), (11, true), (12, true), (13, true), (14, true), (15, true), (16, true), (17, true), (18, true), (4, false), (9, false), (19, false), (20, true), (21, true), (22, false), (23, true), (24, true)] (by kernel_rfl) (by kernel_rfl) rfl (by kernel_rfl) (fun _ _ _ _ _ h => h) (HS.out _ (Below.refl _ _).drew) ?_
    iterate 17
      refine along_take (v := ?_) rfl (by rfl) ?_ ?_
      rotate_left
      · intro W hW
        obtain ⟨hW0, hW1⟩ := hW
        go_simp
        try with_reducible rfl
      simp only [Act.put, List.setIfInBounds_toArray, List.set_cons_zero, List.set_cons_succ]
    refine along_step rfl (fun K hK => ?_)
    go_simp
    refine (J1.out _).mono ?_
    rintro e w4 ⟨rfl, hb4⟩
    have hb4' : Below wr.heap.size wr w4 := (Below.refl _ _).drew.trans hb4
    refine hK.out _ _ (HS.out _ hb4') ?_
    clear hK K hb4
    refine along_step rfl (fun K hK => ?_)
    go_simp
    refine (J2.out _).mono ?_
    rintro e w5 ⟨rfl, hb5⟩
    have hb5' : Below wr.heap.size wr w5 := hb4'.trans (hb5.mono hb4'.size)
    refine hK.out _ _ (HS.out _ hb5') ?_
    clear hK K hb5 hb4'
    refine along_step rfl (fun K hK => ?_)
    go_simp
    refine (J3.out _).mono ?_
    rintro e w6 ⟨rfl, hb6⟩
    have hb6' : Below wr.heap.size wr w6 := hb5'.trans (hb6.mono hb5'.size)
    refine hK.out _ _ (HS.out _ hb6') ?_
    clear hK K hb6 hb5'
    iterate 2
      refine along_take (v := ?_) rfl (by rfl) ?_ ?_
      rotate_left
      · intro W hW; go_simp; try with_reducible rfl
      simp only [Act.put, List.setIfInBounds_toArray, List.set_cons_zero, List.set_cons_succ]
    refine along_step rfl (fun K hK => ?_)
    go_simp
    refine (awake2_any _).mono ?_
    rintro e w7 ⟨rfl, hb7⟩
    have hb7' : Below wr.heap.size wr w7 := hb6'.trans (hb7.mono hb6'.size)
    refine hK.out _ _ (HS.out _ hb7') ?_
    clear hK K hb7 hb6'
    iterate 2
      refine along_take (v := ?_) rfl (by rfl) ?_ ?_
      rotate_left
      · intro W hW; go_simp; try with_reducible rfl
      simp only [Act.put, List.setIfInBounds_toArray, List.set_cons_zero, List.set_cons_succ]
    refine along_done ?_
    have HB := Lib.hid (Hbr.out.trans (hb7'.mono Hbr.out.size))
    clear hb7'
    go_wp2_with fail
    go_ret
    exact ⟨rfl, HB.out⟩
end Go.Proofs.Ytiopnbjmnalaeaa
