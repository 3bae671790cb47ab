/- Contracts of dict's small builders: setIf, idTree, peerTree. -/
import Derived.Test.YtldjdoebappkoaaGreatDoorLs13
import Derived.Test.YtldjdoebappkoaaGreatDoorDx
import Derived.Test.YtldjdoebappkoaaGreatDoorPC
namespace Go.Proofs.YtldjdoebappkoaaGreatDoor
open Go.RowKit
set_option linter.unusedVariables false
set_option maxRecDepth 100000
set_option linter.unusedSimpArgs false
open Gm

set_option maxHeartbeats 1000000 in
theorem setif13_at {t x : Tn} {q : Bool} (ft : t.Few) (fx : x.Few) {w : World} {P : Nat → Prop} {C : Nat} {vk vq xk xq : Value} (H0 : Tp w P t vk vq) (hP : ∀ y, w.heap.size ≤ y → P y) (key : ByteArray) (hkey : key.size ≤ maxLen) (HX : Tv w C x xk xq) :
    Calls Tryz.prog 39 #[.bool q, tval t vk vq, .string key, tval x xk xq] w fun e w' => ∃ uk uq, e = .returned (tval (Dm.put q key x t) uk uq) ∧ Tp w' P (Dm.put q key x t) uk uq ∧ Below w.heap.size w w' := by
  have H := H0.tv
  have HP := Lib.hid H0
  have HPn := Lib.hid hP
  clear H0 hP
  obtain ⟨Axk, cxk, rfl, _⟩ := HX.keys
  obtain ⟨Axq, cxq, rfl, _⟩ := HX.kids
  obtain ⟨Ak, ck, rfl, _⟩ := H.keys
  obtain ⟨A, c, rfl, _⟩ := H.kids
  obtain ⟨b, w1, hs, hal, hT1, hb1⟩ := boxedT H
  have HX1 : Tv w1 w1.heap.size x (.slice Axk x.keys.length cxk) (.slice Axq x.kids.length cxq) := (HX.all.keep (by rw [hs]; exact hb1)).all
  obtain ⟨b2, w2, hs2, hal2, hX2, hb2⟩ := boxedT HX1
  obtain ⟨g, w3, hg, hal3, hY, hb3, hs3⟩ := var_tree w2
  have hbb : b < b2 := by rw [← hs2]; exact hT1.lt
  have hbg : b2 < g := by rw [← hg]; exact hX2.lt
  have hT := (hT1.below hb2 hbb).below hb3 (by omega)
  have hX := hX2.below hb3 hbg
  have HT := Lib.hid hT
  have HY := Lib.hid hY
  have HB3 : Hid (Below b w w3) := Lib.hid (hb1.trans ((hb2.trans (hb3.mono (by omega))).mono (by omega)))
  obtain ⟨c0, c1, c2, c3, c4⟩ := hT.cells
  obtain ⟨d0, d1, d2, d3, d4⟩ := hX.cells
  have CS := Lib.hid (set11_at ft fx hT.tv key hkey hX.tv)
  unfold tcells at hal hal2
  unfold tval at CS
  unfold tval
  clear hT1 hT hX2 hX H HX HX1 hY hb1 hb2 hb3 ft fx
  cases q with
  | false =>
    rw [Dm.put_no rfl]
    go_enter Tryz.func39, Tryz.ntmps39
    go_wp2_with (refine wpList_store_whole rfl rfl rfl rfl rfl HY.out (treeI rfl) rfl (by simp [Value.oneCell']) ?_)
    refine bodyPost_ret (v := tval t (.slice Ak t.keys.length ck) (.slice A t.kids.length c)) ?_ rfl ⟨_, _, rfl, ?_, ?_⟩
    · exact results_tree rfl rfl (HY.out.row _) rfl
    · exact HP.out.keep (fun y p q => ⟨p, (below_row HB3.out (by omega) _).block y (by omega)⟩)
    · rw [hs]; exact below_row HB3.out (by omega) _
  | true =>
    rw [Dm.put_yes rfl]
    obtain ⟨t', ht'⟩ : ∃ u, t.set key x = u := ⟨_, rfl⟩
    rw [ht'] at CS ⊢
    go_enter Tryz.func39, Tryz.ntmps39
    go_wp2_with fail
    refine (CS.out).mono ?_
    rintro e w4 ⟨yk, yq, rfl, hv, hb4⟩
    obtain ⟨A1, e1, rfl, _⟩ := hv.tv.keys
    obtain ⟨A2, e2, rfl, _⟩ := hv.tv.kids
    have HY4 := Lib.hid (HY.out.below hb4 (by omega))
    have HB4 := Lib.hid (HB3.out.trans (hb4.mono (by omega)))
    have HV : Hid (∀ cs, Tp (w4.setRow g cs) P t' (.slice A1 t'.keys.length e1) (.slice A2 t'.kids.length e2)) := Lib.hid (fun cs => ((hv.from_ ((From.refl w3.heap.size w4).setRow (by omega) cs)).tp).any (fun y hy => HPn.out y (by omega)))
    clear c0 c1 c2 c3 c4 d0 d1 d2 d3 d4 CS hb4 hv
    go_wp2_with (refine wpList_store_whole rfl rfl rfl rfl rfl HY4.out (treeI rfl) rfl (by simp [Value.oneCell']) ?_)
    refine bodyPost_ret (v := tval t' (.slice A1 t'.keys.length e1) (.slice A2 t'.kids.length e2)) ?_ rfl ⟨_, _, rfl, HV.out _, ?_⟩
    · exact results_tree rfl rfl (HY4.out.row _) rfl
    · rw [hs]; exact below_row HB4.out (by omega) _

theorem int13_any (n : Int) (w : World) : Calls Tryz.prog 40 #[.int .i64 n] w fun e w' => e = .returned (.agg #[.int .i64 1, .int .i64 n, .string ⟨#[]⟩, .slice none 0 0, .slice none 0 0]) ∧ Below w.heap.size w w' := int11_any n w
theorem text13_any (s : ByteArray) (w : World) : Calls Tryz.prog 37 #[.string s] w fun e w' => e = .returned (.agg #[.int .i64 2, .int .i64 0, .string s, .slice none 0 0, .slice none 0 0]) ∧ Below w.heap.size w w' := text11_any s w
theorem idtree13_any (u : Nat) (hu : u < 18446744073709551616) (w : World) :
    Calls Tryz.prog 41 #[.int .u64 (u : Int)] w fun e w' => e = .returned (tval (Dm.text (Dm.idS u)) (.slice none 0 0) (.slice none 0 0)) ∧ Below w.heap.size w w' := by
  obtain ⟨g, w2, hg, hal2, hY, hb2, hs2⟩ := var_tree w
  have HY := Lib.hid hY
  have HB := Lib.hid hb2
  clear hY hb2
  have CF := Lib.hid (fix_any w2.heap.size (.slice none 0 0) [] u 8 w2 hu (by omega) (by omega) (World.ownsRow_nil _ _ 5 1) (Nat.le_refl _) (by simp))
  rw [List.nil_append, show Bm.fixI u 8 = Bm.fix 8 u from Bm.fixI_good (n := u) (k := 8) (by omega) (by omega)] at CF
  obtain ⟨S, hS⟩ : ∃ S, Hid (Dm.idS u = S) := ⟨_, Lib.hid rfl⟩
  have HC := Lib.hid (fun (W : World) (v : Value) (h : W.ownsRow w2.heap.size 5 1 v (Bm.fix 8 u).length (ints .u8 (Bm.fix 8 u))) => conv_own (P := Tryz.prog) Tryz.underlying59 Tryz.underlying5 Tryz.underlying9 h)
  rw [show strOf (Bm.fix 8 u) = Dm.idS u from rfl, hS.out] at HC
  rw [hS.out]
  unfold Dm.text
  go_enter Tryz.func41, Tryz.ntmps41
  go_wp2_with fail
  refine (CF.out).mono ?_
  rintro e w3 ⟨v, rfl, ho, hb3⟩
  have hcv := HC.out _ _ ho
  have HB3 := Lib.hid (HB.out.trans (hb3.mono (by omega)))
  have HY3 := Lib.hid (HY.out.below hb3 (by omega))
  clear ho hb3 CF HC
  go_wp2_with fail
  refine (text11_any S _).mono ?_
  rintro e w4 ⟨rfl, hb4⟩
  have HB4 := Lib.hid (HB3.out.trans (hb4.mono (by have := HY3.out.lt; omega)))
  have HY4 := Lib.hid (HY3.out.below hb4 HY3.out.lt)
  clear hb4 hcv
  go_wp2_with (refine wpList_store_whole rfl rfl rfl rfl rfl HY4.out (treeI rfl) rfl (by simp [Value.oneCell']) ?_)
  refine bodyPost_ret (v := tval (.mk 2 0 S [] []) (.slice none 0 0) (.slice none 0 0)) ?_ rfl ⟨rfl, by rw [hg]; exact below_row HB4.out (Nat.le_refl _) _⟩
  exact results_tree rfl rfl (HY4.out.row _) rfl

set_option maxHeartbeats 1000000 in
theorem peertree13_any (p : Nat × Nat) (h1 : p.1 < 18446744073709551616) (h2 : p.2 < 65536) (w : World) :
    Calls Tryz.prog 42 #[.agg #[.int .u64 (p.1 : Int), .int .u16 (p.2 : Int)]] w fun e w' => e = .returned (tval (Dm.peerT p) (.slice none 0 0) (.slice none 0 0)) ∧ Below w.heap.size w w' := by
  obtain ⟨p1, p2⟩ := p
  change p1 < 18446744073709551616 at h1
  change p2 < 65536 at h2
  obtain ⟨S, hS⟩ : ∃ S, Hid (Dm.peerS (p1, p2) = S) := ⟨_, Lib.hid rfl⟩
  unfold Dm.peerT
  rw [hS.out]
  show Calls Tryz.prog 42 #[.agg #[.int .u64 (p1 : Int), .int .u16 (p2 : Int)]] w fun e w' => e = .returned (tval (Dm.text S) (.slice none 0 0) (.slice none 0 0)) ∧ Below w.heap.size w w'
  obtain ⟨b, w1, hb, hal, hW, hB⟩ : ∃ b w1, w.heap.size = b ∧ w.alloc (.cells #[.int .u64 (p1 : Int), .int .u16 (p2 : Int)] 32) = w1 ∧ Whole w1 b 32 #[.int .u64 (p1 : Int), .int .u16 (p2 : Int)] ∧ Below b w w1 := ⟨_, _, rfl, rfl, Whole.made _ _ _, (Below.refl _ _).alloc (Nat.le_refl _) _⟩
  obtain ⟨g, w2, hg, hal2, hY, hb2, hs2⟩ := var_tree w1
  have hbg : b < g := by rw [← hg]; exact hW.lt
  have hW2 := hW.below hb2 hbg
  have HW := Lib.hid hW2
  have HY := Lib.hid hY
  have HB : Hid (Below b w w2) := Lib.hid (hB.trans (hb2.mono (by omega)))
  have CF := Lib.hid (fix_any w2.heap.size (.slice none 0 0) [] p1 8 w2 h1 (by omega) (by omega) (World.ownsRow_nil _ _ 5 1) (Nat.le_refl _) (by simp))
  rw [List.nil_append, show Bm.fixI p1 8 = Bm.fix 8 p1 from Bm.fixI_good (n := p1) (k := 8) (by omega) (by omega)] at CF
  have e0 := hW2.at_ 0
  simp at e0
  have hwr : IntKind.u64.wrap (p2 : Int) = (p2 : Int) := by rw [IntKind.wrap_u64]; omega
  unfold Dm.text
  clear hY hb2 hW hB hW2
  go_enter Tryz.func42, Tryz.ntmps42
  go_wp2_with fail
  refine (CF.out).mono ?_
  rintro e w3 ⟨v, rfl, ho, hb3⟩
  have e1 := (HW.out.below hb3 (by omega)).at_ 1
  simp at e1
  have CG := Lib.hid (fix_any w2.heap.size v (Bm.fix 8 p1) p2 2 w3 (by omega) (by omega) (by omega) ho hb3.size (by rw [Bm.fix_length]; omega))
  rw [show Bm.fixI p2 2 = Bm.fix 2 p2 from Bm.fixI_good (n := p2) (k := 2) (by omega) (by omega)] at CG
  have HB3 := Lib.hid (HB.out.trans (hb3.mono (by omega)))
  have HY3 := Lib.hid (HY.out.below hb3 (by omega))
  clear ho hb3 CF e0
  go_wp2_with fail
  refine (CG.out).mono ?_
  rintro e w4 ⟨v2, rfl, ho, hb4⟩
  have hcv := conv_own (P := Tryz.prog) Tryz.underlying59 Tryz.underlying5 Tryz.underlying9 ho
  rw [show strOf (Bm.fix 8 p1 ++ Bm.fix 2 p2) = Dm.peerS (p1, p2) from rfl, hS.out] at hcv
  have hB4 : Below b w w4 := HB3.out.trans (hb4.mono (by omega))
  have hY4 : Whole w4 g 25 #[.int .i64 0, .int .i64 0, .string ⟨#[]⟩, .slice none 0 0, .slice none 0 0] := HY3.out.below hb4 (by omega)
  have HB4 := Lib.hid hB4
  have HY4 := Lib.hid hY4
  clear ho hb4 CG e1 hB4 hY4
  go_wp2_with fail
  refine (text11_any S _).mono ?_
  rintro e w5 ⟨rfl, hb5⟩
  have HB5 := Lib.hid (HB4.out.trans (hb5.mono (by have := HY4.out.lt; omega)))
  have HY5 := Lib.hid (HY4.out.below hb5 HY4.out.lt)
  clear hb5 hcv
  go_wp2_with (refine wpList_store_whole rfl rfl rfl rfl rfl HY5.out (treeI rfl) rfl (by simp [Value.oneCell']) ?_)
  refine bodyPost_ret (v := tval (.mk 2 0 S [] []) (.slice none 0 0) (.slice none 0 0)) ?_ rfl ⟨rfl, by rw [hb]; exact below_row HB5.out (by omega) _⟩
  exact results_tree rfl rfl (HY5.out.row _) rfl
end Go.Proofs.YtldjdoebappkoaaGreatDoor
