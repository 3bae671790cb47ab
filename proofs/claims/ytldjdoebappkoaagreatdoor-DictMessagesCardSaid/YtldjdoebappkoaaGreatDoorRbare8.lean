/- Contract of the reference's Bare. -/
import Derived.Test.YtldjdoebappkoaaGreatDoorPF
namespace Go.Proofs.YtldjdoebappkoaaGreatDoor
open Go.RowKit
set_option linter.unusedVariables false
set_option maxRecDepth 100000
open Gm

/-- behind the append onto a new row: the message's variable (block s) takes it up -/
theorem rb_step {w1 w2 : World} {b i s t : Nat} {X zs : Array Value} {E n : Nat} {v2 : Value} {xs : List Value} {m : Ms} {vp vq : Value} (hs : w1.heap.size = s) (hz : b + 1 < s) (hx : Box w1 b m vp vq) (hy : Whole w1 (b + 1) t zs)
    (hg : ((w1.alloc (.cells X t)).alloc (.cells #[] E)).grownBy w2 (some (s + 1))) (ho : w2.ownsRow (s + 1) E 2 v2 n xs) :
    ∃ A c w3, v2 = .slice A n c ∧ w2.setCell ⟨s, i, none⟩ (.slice A n c) = w3 ∧ (∀ j, w2.cell? ⟨s, j, none⟩ = X[j]?) ∧ (∀ j, w2.frozen? ⟨s, j, none⟩ = false) ∧ Whole w3 s t (X.setIfInBounds i (.slice A n c)) ∧ Whole w3 (b + 1) t zs ∧ Box w3 b m vp vq ∧
      w3.ownsRow (s + 1) E 2 (.slice A n c) n xs ∧ Below s w1 w3 ∧ s < w3.heap.size := by
  obtain ⟨A, c, rfl⟩ := own_shape ho
  have hW : Whole ((w1.alloc (.cells X t)).alloc (.cells #[] E)) s t X := by
    have := (Whole.made w1 t X).alloc (.cells #[] E)
    rwa [hs] at this
  have hb2 : Below (s + 1) ((w1.alloc (.cells X t)).alloc (.cells #[] E)) w2 := (Below.refl _ _).grown hg (by simp; omega) (fun k hk => by cases hk; omega)
  have hW2 := hW.below hb2 (by omega)
  have hb1 : Below s w1 w2 := (((Below.refl s w1).alloc (by omega) _).alloc (by simp; omega) _).trans (hb2.mono (by omega))
  have hb3 : Below s w1 (w2.setCell ⟨s, i, none⟩ (.slice A n c)) := hb1.setCell (p := ⟨s, i, none⟩) (Nat.le_refl s) _
  refine ⟨A, c, _, rfl, rfl, hW2.at_, hW2.free, hW2.put i _, hy.below hb3 hz, hx.below hb3 (by omega), ownsRow_setCell_below ho (a := ⟨s, i, none⟩) (by show s < s + 1; omega) _, hb3, ?_⟩
  have := hb2.size
  simp at this
  simp [World.setCell]
  omega
theorem own2_empty (w1 : World) (o : Obj) (E s : Nat) (hs : w1.heap.size = s) : ((w1.alloc o).alloc (.cells #[] E)).ownsRow (s + 1) E 2 (.slice (some ⟨s + 1, 0, none⟩) 0 0) 0 [] := by
  have := World.ownsRow_lit (base := s + 1) (e := E) (size := 2) (w1.alloc o) #[] 0 (by simp; omega) (by decide) rfl
  rw [show (w1.alloc o).heap.size = s + 1 by simp; omega] at this
  exact this

set_option maxRecDepth 100000 in
set_option maxHeartbeats 1000000 in
theorem rbare_any {w : World} {B : Nat} {m : Ms} {v : Value} (H : Mv w B m v) (hlp : m.peers.length ≤ 1000000000) (hlq : m.pairs.length ≤ 1000000000) :
    Calls Tryz.prog 64 #[v] w fun e w' => ∃ v', e = .returned v' ∧ Mv w' w'.heap.size (bare m) v' ∧ Below w.heap.size w w' := by
  obtain ⟨b, vp, vq, w0, rfl, hb, hal, hsz, hx, hb0⟩ := boxed H
  obtain ⟨b2, w1, hb2, hal2, hsz2, hy, hb1⟩ := msg_box w0
  have e2 : b2 = b + 1 := by omega
  subst e2
  have hx1 := hx.below hb1 (by omega)
  have hB1 := hb0.trans (hb1.mono (by omega))
  have hA : ∀ o, Below w1.heap.size w1 (w1.alloc o) := fun o => (Below.refl _ _).alloc (Nat.le_refl _) o
  have HX := Lib.hid hx1
  have HXA := Lib.hid (fun o => hx1.kept (hA o))
  have HYA := Lib.hid (fun o => hy.below (hA o) (by omega))
  have HBB := Lib.hid hB1
  have HSZ := Lib.hid hsz2
  obtain ⟨Ap, cp, rfl, hpp⟩ := hx1.peers.ex
  obtain ⟨Aq, cq, rfl, hqq⟩ := hx1.pairs.ex
  obtain ⟨mk, mr, mc, mh, mi, ms, mv, mp, ma, ml, mq⟩ := m
  simp only at *
  have c0 : ∀ o, (w1.alloc o).cell? ⟨b, 0, none⟩ = some (.int .i64 mk) := fun o => (HXA.out o).bx.at_ 0
  have c1 : ∀ o, (w1.alloc o).cell? ⟨b, 1, none⟩ = some (.int .u32 (mr : Int)) := fun o => (HXA.out o).bx.at_ 1
  have c2 : ∀ o, (w1.alloc o).cell? ⟨b, 2, none⟩ = some (.int .u8 (mc : Int)) := fun o => (HXA.out o).bx.at_ 2
  have c3 : ∀ o, (w1.alloc o).cell? ⟨b, 3, none⟩ = some (.bool mh) := fun o => (HXA.out o).bx.at_ 3
  have c4 : ∀ o, (w1.alloc o).cell? ⟨b, 4, none⟩ = some (.int .u64 (mi : Int)) := fun o => (HXA.out o).bx.at_ 4
  have c5 : ∀ o, (w1.alloc o).cell? ⟨b, 5, none⟩ = some (.string ms) := fun o => (HXA.out o).bx.at_ 5
  have c6 : ∀ o, (w1.alloc o).cell? ⟨b, 6, none⟩ = some (.string mv) := fun o => (HXA.out o).bx.at_ 6
  have c7 : ∀ o, (w1.alloc o).cell? ⟨b, 7, none⟩ = some (.int .u64 (mp : Int)) := fun o => (HXA.out o).bx.at_ 7
  have c8 : ∀ o, (w1.alloc o).cell? ⟨b, 8, none⟩ = some (.int .u16 (ma : Int)) := fun o => (HXA.out o).bx.at_ 8
  have c9 : ∀ o, (w1.alloc o).cell? ⟨b, 9, none⟩ = some (.slice Ap ml.length cp) := fun o => (HXA.out o).bx.at_ 9
  have c10 : ∀ o, (w1.alloc o).cell? ⟨b, 10, none⟩ = some (.slice Aq mq.length cq) := fun o => (HXA.out o).bx.at_ 10
  have hA2 : ∀ o o', Below (w1.alloc o).heap.size (w1.alloc o) ((w1.alloc o).alloc o') := fun o o' => (Below.refl _ _).alloc (Nat.le_refl _) o'
  have e9 : ∀ o o', ((w1.alloc o).alloc o').cell? ⟨b, 9, none⟩ = some (.slice Ap ml.length cp) := fun o o' => ((HXA.out o).kept (hA2 o o')).bx.at_ 9
  have e10 : ∀ o o', ((w1.alloc o).alloc o').cell? ⟨b, 10, none⟩ = some (.slice Aq mq.length cq) := fun o o' => ((HXA.out o).kept (hA2 o o')).bx.at_ 10
  have d0 : w1.cell? ⟨b, 0, none⟩ = some (.int .i64 mk) := HX.out.cells.1
  have d1 : w1.cell? ⟨b, 1, none⟩ = some (.int .u32 (mr : Int)) := HX.out.cells.2.1
  have H9N := Lib.hid hpp.2.2.2
  have H10N := Lib.hid hqq.2.2.2
  have HY := Lib.hid hy
  have HTW := Lib.hid (fun o => (hpp.1.below (((Below.refl b w1).alloc (by omega) o).alloc (by simp; omega) (.cells #[] 32))))
  have HTQ := Lib.hid (fun o => (hqq.1.below (((Below.refl b w1).alloc (by omega) o).alloc (by simp; omega) (.cells #[] 65))))
  clear hx hx1 hy hb0 hb1 hb2 H hB1 hA hA2 hpp hqq hsz2
  have HOK := Lib.hid HX.out.ok.bare
  have HFB := Lib.hid (fun o cs => below_row (HBB.out.trans ((((Below.refl w1.heap.size w1).alloc (Nat.le_refl _) o)).mono (by have := HSZ.out; omega))) (show b ≤ b + 1 by omega) cs)
  have HK := kinds mk
  rcases HK with rfl | rfl | rfl | rfl | rfl | rfl | rfl | rfl | rfl | rfl | rfl | rfl | ⟨h1, h⟩
  case inr.inr.inr.inr.inr.inr.inr.inr.inr.inr.inr.inr =>
    have hbr : bare ⟨mk, mr, mc, mh, mi, ms, mv, mp, ma, ml, mq⟩ = ⟨mk, mr, 0, false, 0, ⟨#[]⟩, ⟨#[]⟩, 0, 0, [], []⟩ := by
      have a1 : ¬ mk = 12 := by omega
      have a2 : ¬ mk = 2 := by omega
      have a3 : ¬ mk = 4 := by omega
      have a4 : ¬ mk = 9 := by omega
      have a5 : ¬ mk = 10 := by omega
      have a6 : ¬ mk = 1 := by omega
      have a7 : ¬ mk = 5 := by omega
      have a8 : ¬ mk = 7 := by omega
      have a9 : ¬ mk = 8 := by omega
      simp [bare, bareBy, oCode, oHas, oId, oPeer, oPeers, oKey, oVal, oPairs, a1, a2, a3, a4, a5, a6, a7, a8, a9, oi_false]
    rw [hbr] at HOK ⊢
    clear h1 hbr
    have a1 : (mk == 12) = false := by rw [beq_eq_false_iff_ne]; omega
    have a2 : (mk == 2) = false := by rw [beq_eq_false_iff_ne]; omega
    have a3 : (mk == 4) = false := by rw [beq_eq_false_iff_ne]; omega
    have a4 : (mk == 9) = false := by rw [beq_eq_false_iff_ne]; omega
    have a5 : (mk == 10) = false := by rw [beq_eq_false_iff_ne]; omega
    have a6 : (mk == 1) = false := by rw [beq_eq_false_iff_ne]; omega
    have a7 : (mk == 5) = false := by rw [beq_eq_false_iff_ne]; omega
    have a8 : (mk == 7) = false := by rw [beq_eq_false_iff_ne]; omega
    have a9 : (mk == 8) = false := by rw [beq_eq_false_iff_ne]; omega
    go_enter Tryz.func64, Tryz.ntmps64
    go_wp2_with (refine wpList_store_whole rfl rfl rfl rfl rfl (HYA.out _) (msgI rfl) rfl (by simp [Value.oneCell']) ?_)
    refine bodyPost_ret ?_ rfl ⟨_, rfl, ⟨⟨_, _, rfl, Sl.empty _ _, Sl.empty _ _⟩, HOK.out⟩, ?_⟩
    · exact results_cell_row rfl _ _ _ _ _ (0, 0) _ rfl ((HYA.out _).row _) Tryz.underlying36 rfl (msgI rfl)
    · rw [hb]; exact HFB.out _ _
  case inr.inl =>
    obtain ⟨s, hs⟩ : ∃ s, w1.heap.size = s := ⟨_, rfl⟩
    have hs' : w1.heap.size = s := hs
    have HO0 := Lib.hid (fun o => own2_empty w1 o 32 s hs)
    have HP := Lib.hid (fun o => ((HXA.out o).peers.below ((Below.refl b (w1.alloc o)).alloc (by have := HSZ.out; simp; omega) (.cells #[] 32))).ex)
    have HSs := Lib.hid (show b + 1 < s by have := HSZ.out; omega)
    have HSZs := Lib.hid hs
    have HST := Lib.hid (fun w2 v2 hg ho => rb_step (w2 := w2) (v2 := v2) (i := 9) (X := #[.int .i64 2, .int .u32 (mr : Int), .int .u8 0, .bool mh, .int .u64 0, .string ⟨#[]⟩, .string ⟨#[]⟩, .int .u64 0, .int .u16 0, .slice none 0 0, .slice none 0 0]) (E := 32) (n := ml.length) (xs := two fPeer ml) hs HSs.out HX.out HY.out hg ho)
    go_enter Tryz.func64, Tryz.ntmps64
    go_wp2_with (first
      | (at_builtin; refine wpList_append_two peerT2 fPeer_one _ _ rfl rfl (s + 1) _ 0 [] rfl (HO0.out _) ml.length cp rfl rfl H9N.out (HTW.out _) (by omega) (by simp; omega) ?_; intro v2 w2 ho2 hg2; rw [Nat.zero_add, List.nil_append] at ho2; obtain ⟨A2, c2', w3, rfl, hw3, hcc, hff, hl3, hy3, hx3, ho3, hb3, hz3⟩ := HST.out w2 v2 hg2 ho2; have k9 := hcc 9; have g9 := hff 9; simp only [List.getElem?_toArray, List.getElem?_cons_succ, List.getElem?_cons_zero] at k9; simp only [List.setIfInBounds_toArray, List.set_cons_succ, List.set_cons_zero] at hl3; clear hcc hff ho2 hg2)
      | (refine wpList_load_struct Tryz.underlying36 (msgI rfl) rfl rfl rfl hl3 ?_)
      | (refine wpList_store_whole rfl rfl rfl rfl rfl hy3 (msgI rfl) rfl (by simp [Value.oneCell']) ?_))
    refine bodyPost_ret ?_ rfl ⟨_, rfl, ⟨⟨.slice A2 ml.length c2', _, rfl, ?_, Sl.empty _ _⟩, HOK.out⟩, ?_⟩
    · exact results_cell_row rfl _ _ _ _ _ (0, 0) _ rfl (hy3.row _) Tryz.underlying36 rfl (msgI rfl)
    · exact Sl.of_own (own2_from ho3 (fun i hi _ => setRow_other w3 (b + 1) i _ (by have := HSs.out; omega)))
    · first | exact below_row (HBB.out.trans (hb3.mono (by have := HSs.out; omega))) (by omega) _ | (rw [hb]; exact below_row (HBB.out.trans (hb3.mono (by have := HSs.out; omega))) (by omega) _)
  case inr.inr.inr.inl =>
    cases mh
    case false =>
      obtain ⟨s, hs⟩ : ∃ s, w1.heap.size = s := ⟨_, rfl⟩
      have hs' : w1.heap.size = s := hs
      have HO0 := Lib.hid (fun o => own2_empty w1 o 32 s hs)
      have HP := Lib.hid (fun o => ((HXA.out o).peers.below ((Below.refl b (w1.alloc o)).alloc (by have := HSZ.out; simp; omega) (.cells #[] 32))).ex)
      have HSs := Lib.hid (show b + 1 < s by have := HSZ.out; omega)
      have HSZs := Lib.hid hs
      have HST := Lib.hid (fun w2 v2 hg ho => rb_step (w2 := w2) (v2 := v2) (i := 9) (X := #[.int .i64 4, .int .u32 (mr : Int), .int .u8 0, .bool false, .int .u64 0, .string ⟨#[]⟩, .string ⟨#[]⟩, .int .u64 0, .int .u16 0, .slice none 0 0, .slice none 0 0]) (E := 32) (n := ml.length) (xs := two fPeer ml) hs HSs.out HX.out HY.out hg ho)
      go_enter Tryz.func64, Tryz.ntmps64
      go_wp2_with (first
        | (at_builtin; refine wpList_append_two peerT2 fPeer_one _ _ rfl rfl (s + 1) _ 0 [] rfl (HO0.out _) ml.length cp rfl rfl H9N.out (HTW.out _) (by omega) (by simp; omega) ?_; intro v2 w2 ho2 hg2; rw [Nat.zero_add, List.nil_append] at ho2; obtain ⟨A2, c2', w3, rfl, hw3, hcc, hff, hl3, hy3, hx3, ho3, hb3, hz3⟩ := HST.out w2 v2 hg2 ho2; have k9 := hcc 9; have g9 := hff 9; simp only [List.getElem?_toArray, List.getElem?_cons_succ, List.getElem?_cons_zero] at k9; simp only [List.setIfInBounds_toArray, List.set_cons_succ, List.set_cons_zero] at hl3; have c3' : w3.cell? ⟨b, 3, none⟩ = some (.bool false) := hx3.bx.at_ 3; clear hcc hff ho2 hg2)
        | (refine wpList_load_struct Tryz.underlying36 (msgI rfl) rfl rfl rfl hl3 ?_)
        | (refine wpList_store_whole rfl rfl rfl rfl rfl hy3 (msgI rfl) rfl (by simp [Value.oneCell']) ?_))
      refine bodyPost_ret ?_ rfl ⟨_, rfl, ⟨⟨.slice A2 ml.length c2', _, rfl, ?_, Sl.empty _ _⟩, HOK.out⟩, ?_⟩
      · exact results_cell_row rfl _ _ _ _ _ (0, 0) _ rfl (hy3.row _) Tryz.underlying36 rfl (msgI rfl)
      · exact Sl.of_own (own2_from ho3 (fun i hi _ => setRow_other w3 (b + 1) i _ (by have := HSs.out; omega)))
      · first | exact below_row (HBB.out.trans (hb3.mono (by have := HSs.out; omega))) (by omega) _ | (rw [hb]; exact below_row (HBB.out.trans (hb3.mono (by have := HSs.out; omega))) (by omega) _)
    case true =>
      obtain ⟨s, hs⟩ : ∃ s, w1.heap.size = s := ⟨_, rfl⟩
      have hs' : w1.heap.size = s := hs
      have HO0 := Lib.hid (fun o => own2_empty w1 o 32 s hs)
      have HP := Lib.hid (fun o => ((HXA.out o).peers.below ((Below.refl b (w1.alloc o)).alloc (by have := HSZ.out; simp; omega) (.cells #[] 32))).ex)
      have HSs := Lib.hid (show b + 1 < s by have := HSZ.out; omega)
      have HSZs := Lib.hid hs
      have HST := Lib.hid (fun w2 v2 hg ho => rb_step (w2 := w2) (v2 := v2) (i := 9) (X := #[.int .i64 4, .int .u32 (mr : Int), .int .u8 0, .bool true, .int .u64 0, .string ⟨#[]⟩, .string ⟨#[]⟩, .int .u64 0, .int .u16 0, .slice none 0 0, .slice none 0 0]) (E := 32) (n := ml.length) (xs := two fPeer ml) hs HSs.out HX.out HY.out hg ho)
      go_enter Tryz.func64, Tryz.ntmps64
      go_wp2_with (first
        | (at_builtin; refine wpList_append_two peerT2 fPeer_one _ _ rfl rfl (s + 1) _ 0 [] rfl (HO0.out _) ml.length cp rfl rfl H9N.out (HTW.out _) (by omega) (by simp; omega) ?_; intro v2 w2 ho2 hg2; rw [Nat.zero_add, List.nil_append] at ho2; obtain ⟨A2, c2', w3, rfl, hw3, hcc, hff, hl3, hy3, hx3, ho3, hb3, hz3⟩ := HST.out w2 v2 hg2 ho2; have k9 := hcc 9; have g9 := hff 9; simp only [List.getElem?_toArray, List.getElem?_cons_succ, List.getElem?_cons_zero] at k9; simp only [List.setIfInBounds_toArray, List.set_cons_succ, List.set_cons_zero] at hl3; have c3' : w3.cell? ⟨b, 3, none⟩ = some (.bool true) := hx3.bx.at_ 3; have c7' : w3.cell? ⟨b, 7, none⟩ = some (.int .u64 (mp : Int)) := hx3.bx.at_ 7; have c8' : w3.cell? ⟨b, 8, none⟩ = some (.int .u16 (ma : Int)) := hx3.bx.at_ 8;
            have k7 : w3.cell? ⟨s, 7, none⟩ = some (.int .u64 0) := hl3.at_ 7; have g7 := hl3.free 7; have hl4 := hl3.put 7 (.int .u64 (mp : Int)); have k8 : (w3.setCell ⟨s, 7, none⟩ (.int .u64 (mp : Int))).cell? ⟨s, 8, none⟩ = some (.int .u16 0) := hl4.at_ 8; have g8 := hl4.free 8;
            have hl5 := hl4.put 8 (.int .u16 (ma : Int)); simp only [List.setIfInBounds_toArray, List.set_cons_succ, List.set_cons_zero] at hl5; have hy5 := (hy3.other (p := ⟨s, 7, none⟩) (by show b + 1 ≠ s; have := HSs.out; omega) (.int .u64 (mp : Int))).other (p := ⟨s, 8, none⟩) (by show b + 1 ≠ s; have := HSs.out; omega) (.int .u16 (ma : Int));
            have ho5 := ownsRow_setCell_below (ownsRow_setCell_below ho3 (a := ⟨s, 7, none⟩) (by show s < s + 1; omega) (.int .u64 (mp : Int))) (a := ⟨s, 8, none⟩) (by show s < s + 1; omega) (.int .u16 (ma : Int)); have hb5 := (hb3.setCell (p := ⟨s, 7, none⟩) (Nat.le_refl s) (.int .u64 (mp : Int))).setCell (p := ⟨s, 8, none⟩) (Nat.le_refl s) (.int .u16 (ma : Int));
            obtain ⟨w5, hw5⟩ : ∃ w5, (w3.setCell ⟨s, 7, none⟩ (.int .u64 (mp : Int))).setCell ⟨s, 8, none⟩ (.int .u16 (ma : Int)) = w5 := ⟨_, rfl⟩; rw [hw5] at hl5 hy5 ho5 hb5; clear hcc hff hl4 ho2 hg2)
        | (refine wpList_load_struct Tryz.underlying36 (msgI rfl) rfl rfl rfl hl5 ?_)
        | (refine wpList_store_whole rfl rfl rfl rfl rfl hy5 (msgI rfl) rfl (by simp [Value.oneCell']) ?_))
      refine bodyPost_ret ?_ rfl ⟨_, rfl, ⟨⟨.slice A2 ml.length c2', _, rfl, ?_, Sl.empty _ _⟩, HOK.out⟩, ?_⟩
      · exact results_cell_row rfl _ _ _ _ _ (0, 0) _ rfl (hy5.row _) Tryz.underlying36 rfl (msgI rfl)
      · exact Sl.of_own (own2_from ho5 (fun i hi _ => setRow_other w5 (b + 1) i _ (by have := HSs.out; omega)))
      · first | exact below_row (HBB.out.trans (hb5.mono (by have := HSs.out; omega))) (by omega) _ | (rw [hb]; exact below_row (HBB.out.trans (hb5.mono (by have := HSs.out; omega))) (by omega) _)
  case inr.inr.inr.inr.inr.inr.inr.inr.inl =>
    cases mh
    all_goals
      go_enter Tryz.func64, Tryz.ntmps64
      go_wp2_with (refine wpList_store_whole rfl rfl rfl rfl rfl (HYA.out _) (msgI rfl) rfl (by simp [Value.oneCell']) ?_)
      refine bodyPost_ret ?_ rfl ⟨_, rfl, ⟨⟨_, _, rfl, Sl.empty _ _, Sl.empty _ _⟩, HOK.out⟩, ?_⟩
      · exact results_cell_row rfl _ _ _ _ _ (0, 0) _ rfl ((HYA.out _).row _) Tryz.underlying36 rfl (msgI rfl)
      · rw [hb]; exact HFB.out _ _
  case inr.inr.inr.inr.inr.inr.inr.inr.inr.inl =>
    obtain ⟨s, hs⟩ : ∃ s, w1.heap.size = s := ⟨_, rfl⟩
    have hs' : w1.heap.size = s := hs
    have HO0 := Lib.hid (fun o => own2_empty w1 o 65 s hs)
    have HP := Lib.hid (fun o => ((HXA.out o).pairs.below ((Below.refl b (w1.alloc o)).alloc (by have := HSZ.out; simp; omega) (.cells #[] 65))).ex)
    have HSs := Lib.hid (show b + 1 < s by have := HSZ.out; omega)
    have HSZs := Lib.hid hs
    have HST := Lib.hid (fun w2 v2 hg ho => rb_step (w2 := w2) (v2 := v2) (i := 10) (X := #[.int .i64 10, .int .u32 (mr : Int), .int .u8 0, .bool mh, .int .u64 0, .string ⟨#[]⟩, .string ⟨#[]⟩, .int .u64 0, .int .u16 0, .slice none 0 0, .slice none 0 0]) (E := 65) (n := mq.length) (xs := two fPair mq) hs HSs.out HX.out HY.out hg ho)
    go_enter Tryz.func64, Tryz.ntmps64
    go_wp2_with (first
      | (at_builtin; refine wpList_append_two pairT2 fPair_one _ _ rfl rfl (s + 1) _ 0 [] rfl (HO0.out _) mq.length cq rfl rfl H10N.out (HTQ.out _) (by omega) (by simp; omega) ?_; intro v2 w2 ho2 hg2; rw [Nat.zero_add, List.nil_append] at ho2; obtain ⟨A2, c2', w3, rfl, hw3, hcc, hff, hl3, hy3, hx3, ho3, hb3, hz3⟩ := HST.out w2 v2 hg2 ho2; have k9 := hcc 10; have g9 := hff 10; simp only [List.getElem?_toArray, List.getElem?_cons_succ, List.getElem?_cons_zero] at k9; simp only [List.setIfInBounds_toArray, List.set_cons_succ, List.set_cons_zero] at hl3; clear hcc hff ho2 hg2)
      | (refine wpList_load_struct Tryz.underlying36 (msgI rfl) rfl rfl rfl hl3 ?_)
      | (refine wpList_store_whole rfl rfl rfl rfl rfl hy3 (msgI rfl) rfl (by simp [Value.oneCell']) ?_))
    refine bodyPost_ret ?_ rfl ⟨_, rfl, ⟨⟨_, .slice A2 mq.length c2', rfl, Sl.empty _ _, ?_⟩, HOK.out⟩, ?_⟩
    · exact results_cell_row rfl _ _ _ _ _ (0, 0) _ rfl (hy3.row _) Tryz.underlying36 rfl (msgI rfl)
    · exact Sl.of_own (own2_from ho3 (fun i hi _ => setRow_other w3 (b + 1) i _ (by have := HSs.out; omega)))
    · first | exact below_row (HBB.out.trans (hb3.mono (by have := HSs.out; omega))) (by omega) _ | (rw [hb]; exact below_row (HBB.out.trans (hb3.mono (by have := HSs.out; omega))) (by omega) _)
  all_goals
    go_enter Tryz.func64, Tryz.ntmps64
    go_wp2_with (refine wpList_store_whole rfl rfl rfl rfl rfl (HYA.out _) (msgI rfl) rfl (by simp [Value.oneCell']) ?_)
    refine bodyPost_ret ?_ rfl ⟨_, rfl, ⟨⟨_, _, rfl, Sl.empty _ _, Sl.empty _ _⟩, HOK.out⟩, ?_⟩
    · exact results_cell_row rfl _ _ _ _ _ (0, 0) _ rfl ((HYA.out _).row _) Tryz.underlying36 rfl (msgI rfl)
    · rw [hb]; exact HFB.out _ _
end Go.Proofs.YtldjdoebappkoaaGreatDoor
