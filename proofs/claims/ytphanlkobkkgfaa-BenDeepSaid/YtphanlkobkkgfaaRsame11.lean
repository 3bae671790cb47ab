/- Contracts of the reference's Same and Get of layer 11. -/
import Derived.Test.YtphanlkobkkgfaaRtree11
import Derived.Test.YtphanlkobkkgfaaPA
namespace Go.Proofs.Ytphanlkobkkgfaa
open Go.RowKit
set_option linter.unusedVariables false
set_option maxRecDepth 100000
set_option linter.unusedSimpArgs false

/-- are two trees the same? -/
noncomputable def Tn.same (a b : Tn) : Bool := @decide (a = b) (Classical.propDecidable _)
theorem Tn.same_true {a b : Tn} (h : a = b) : Tn.same a b = true := by unfold Tn.same; exact @decide_eq_true _ (Classical.propDecidable _) h
theorem Tn.same_false {a b : Tn} (h : ¬ a = b) : Tn.same a b = false := by unfold Tn.same; exact @decide_eq_false _ (Classical.propDecidable _) h
theorem Tn.same_iff {a b : Tn} : Tn.same a b = true ↔ a = b := by
  by_cases h : a = b
  · exact ⟨fun _ => h, Tn.same_true⟩
  · exact ⟨fun e => absurd (e.symm.trans (Tn.same_false h)) (by simp), fun e => absurd e h⟩
/-- the cells of a kid, at whatever world of a region -/
theorem Cell5.ld {w W : World} {B b o : Nat} {t : Tn} {vk vq : Value} (h : Cell5 w b o t vk vq) (hb : Below B w W) (hB : b < B) : W.cell? ⟨b, o, none⟩ = some (.int .i64 t.kind) ∧ W.cell? ⟨b, o + 1, none⟩ = some (.int .i64 t.n) ∧ W.cell? ⟨b, o + 2, none⟩ = some (.string t.s) ∧ W.cell? ⟨b, o + 3, none⟩ = some vk ∧ W.cell? ⟨b, o + 4, none⟩ = some vq := by
  have h' := h.below hb hB
  exact ⟨h'.c0, h'.c1, h'.c2, h'.c3, h'.c4⟩

set_option maxHeartbeats 4000000 in
theorem rsame11_any (k : Nat) : ∀ (t : Tn), SizeOf.sizeOf t < k → ∀ (u : Tn) {w : World} {B C : Nat} {vk vq uk uq : Value}, Tv w B t vk vq → Tv w C u uk uq →
    Calls Try.prog 13 #[tval t vk vq, tval u uk uq] w fun e w' => e = .returned (.bool (Tn.same t u)) ∧ Below w.heap.size w w' := by
  induction k with
  | zero => intro t h; omega
  | succ k ih =>
    intro t hk u w B C vk vq uk uq H1 H2
    obtain ⟨b, w1, hs, hal, hT1, hb1⟩ := boxedT H1
    have H2' : Tv w1 w1.heap.size u uk uq := (H2.all.keep (by rw [hs]; exact hb1)).all
    obtain ⟨b2, w2, hs2, hal2, hU, hb2⟩ := boxedT H2'
    have hT := hT1.keep (by rw [hs2]; exact hb2)
    have HT := Lib.hid hT
    have HU := Lib.hid hU
    have HB2 : Hid (Below b w w2) := Lib.hid (hb1.trans (hb2.mono (by have := hT1.lt; omega)))
    obtain ⟨A, c, rfl, h1, h2, _, K, Q, hK⟩ := hT.tv.kids
    obtain ⟨A', c', rfl, h3, h4, _, K', Q', hK'⟩ := hU.tv.kids
    unfold maxLen at h2 h4
    have HK := Lib.hid hK
    have HK' := Lib.hid hK'
    obtain ⟨Ak, ck, rfl, hSk⟩ := hT.tv.keys
    obtain ⟨Au, cu, rfl, hSu⟩ := hU.tv.keys
    have HTx := Lib.hid (fun W (h : Below w2.heap.size w2 W) => rtexts11_any (w := W) (B := W.heap.size) (C := W.heap.size) ((HT.out.keep h).tv.keys.all) ((HU.out.keep h).tv.keys.all))
    have IH := Lib.hid (fun i (hi : i < t.kids.length) (u' : Tn) {w : World} {B C : Nat} {vk vq uk uq : Value} (h : Tv w B t.kids[i] vk vq) (h' : Tv w C u' uk uq) => ih t.kids[i] (by have := Tn.kid_lt hi; omega) u' h h')
    have HE := Lib.hid (@Tn.ext_iff t u)
    have hbw := hT.lt
    have hbw2 := hU.lt
    have HCt := Lib.hid (fun W (h : Below w2.heap.size w2 W) => (HT.out.keep h).cells)
    have HCu := Lib.hid (fun W (h : Below w2.heap.size w2 W) => (HU.out.keep h).cells)
    obtain ⟨np, hnp⟩ : ∃ n, Hid (t.keys.length = n) := ⟨_, rfl⟩
    obtain ⟨nq, hnq⟩ : ∃ n, Hid (u.keys.length = n) := ⟨_, rfl⟩
    obtain ⟨n, hn⟩ : ∃ n, Hid (t.kids.length = n) := ⟨_, rfl⟩
    obtain ⟨m, hm⟩ : ∃ n, Hid (u.kids.length = n) := ⟨_, rfl⟩
    rw [hnp.out] at HTx HCt hal ⊢
    rw [hnq.out] at HTx HCu hal2 ⊢
    rw [hn.out] at h1 HCt hal ⊢
    rw [hm.out] at h3 HCu hal2 ⊢
    clear hT1 hT hU hb1 hb2 H1 H2 H2' hK hK' hSk hSu
    obtain ⟨c0, c1, c2, c3, c4⟩ := HCt.out w2 (Below.refl _ _)
    obtain ⟨d0, d1, d2, d3, d4⟩ := HCu.out w2 (Below.refl _ _)
    unfold tcells at hal hal2
    unfold tval
    by_cases e0 : t.kind = u.kind
    case neg =>
      have HF := Lib.hid (Tn.same_false (fun e => e0 (HE.out.1 e).1))
      have q1 : (t.kind == u.kind) = false := by simpa using e0
      have q2 : (t.kind != u.kind) = true := by simpa using e0
      go_enter Try.func13, Try.ntmps13
      go_wp2_with fail
      go_ret
      exact ⟨ret_bool (by rw [HF.out]), by rw [hs]; exact HB2.out⟩
    by_cases e1 : t.n = u.n
    case neg =>
      have HF := Lib.hid (Tn.same_false (fun e => e1 (HE.out.1 e).2.1))
      have q1 : (t.n == u.n) = false := by simpa using e1
      have q2 : (t.n != u.n) = true := by simpa using e1
      rw [e0] at c0 hal ⊢
      clear e0
      go_enter Try.func13, Try.ntmps13
      go_wp2_with fail
      go_ret
      exact ⟨ret_bool (by rw [HF.out]), by rw [hs]; exact HB2.out⟩
    have q3 := txt_eq t.s u.s
    by_cases e2 : t.s = u.s
    case neg =>
      have HF := Lib.hid (Tn.same_false (fun e => e2 (HE.out.1 e).2.2.1))
      rw [decide_eq_false e2] at q3
      rw [e0] at c0 hal ⊢
      rw [e1] at c1 hal ⊢
      clear e0 e1
      go_enter Try.func13, Try.ntmps13
      go_wp2_with fail
      go_ret
      exact ⟨ret_bool (by rw [HF.out]), by rw [hs]; exact HB2.out⟩
    rw [decide_eq_true e2] at q3
    rw [e0] at c0 hal ⊢
    rw [e1] at c1 hal ⊢
    by_cases e3 : t.keys = u.keys
    case neg =>
      have HF := Lib.hid (Tn.same_false (fun e => e3 (HE.out.1 e).2.2.2.1))
      have CT := HTx.out w2 (Below.refl _ _)
      rw [decide_eq_false e3] at CT
      have HCT := Lib.hid CT
      clear e0 e1 e2 CT
      go_enter Try.func13, Try.ntmps13
      go_wp2_with fail
      refine (HCT.out).mono ?_
      rintro e w3 ⟨rfl, hb3⟩
      have HB3 := Lib.hid (HB2.out.trans (hb3.mono (by omega)))
      clear hb3
      go_wp2_with fail
      go_ret
      exact ⟨ret_bool (by rw [HF.out]), by rw [hs]; exact HB3.out⟩
    have CT := HTx.out w2 (Below.refl _ _)
    rw [decide_eq_true e3] at CT
    have HCT := Lib.hid CT
    by_cases e4 : n = m
    case neg =>
      have HF := Lib.hid (Tn.same_false (fun e => e4 (by rw [← hn.out, ← hm.out, (HE.out.1 e).2.2.2.2])))
      clear e0 e1 e2 CT
      go_enter Try.func13, Try.ntmps13
      go_wp2_with fail
      refine (HCT.out).mono ?_
      rintro e w3 ⟨rfl, hb3⟩
      have HB3 := Lib.hid (HB2.out.trans (hb3.mono (by omega)))
      obtain ⟨_, _, _, _, c4'⟩ := HCt.out w3 hb3
      obtain ⟨_, _, _, _, d4'⟩ := HCu.out w3 hb3
      clear hb3
      go_wp2_with fail
      go_ret
      exact ⟨ret_bool (by rw [HF.out]), by rw [hs]; exact HB3.out⟩
    rw [← e4] at h3 HCu hal2 d4 hm ⊢
    have HX := Lib.hid (fun (h : ∀ j, j < n → ∀ (ha : j < t.kids.length) (hb : j < u.kids.length), t.kids[j] = u.kids[j]) => Tn.same_true (HE.out.2 ⟨e0, e1, e2, e3, any_eq (by rw [hn.out, hm.out]) (fun j ha hb => h j (by have := hn.out; omega) ha hb)⟩))
    have HY := Lib.hid (fun i (ha : i < t.kids.length) (hb : i < u.kids.length) (h : ¬ t.kids[i] = u.kids[i]) => Tn.same_false (fun e => any_neq ha hb h (HE.out.1 e).2.2.2.2))
    clear e0 e1 e2 e3 e4 CT HE
    go_enter Try.func13, Try.ntmps13
    go_wp2_with fail
    refine (HCT.out).mono ?_
    rintro e w3 ⟨rfl, hb3⟩
    have HB3 := Lib.hid (HB2.out.trans (hb3.mono (by omega)))
    have HC3 := Lib.hid hb3
    obtain ⟨_, _, _, _, c4'⟩ := HCt.out w3 hb3
    obtain ⟨_, _, _, _, d4'⟩ := HCu.out w3 hb3
    clear hb3
    go_wp2_with fail
    clear c0 c1 c2 c3 c4 d0 d1 d2 d3 d4 c4' d4'
    go_loopw [5] (fun vi wr => ∃ (i : Nat), i ≤ n ∧ vi = .int .i64 i ∧ Hid (∀ j, j < i → ∀ (ha : j < t.kids.length) (hb : j < u.kids.length), t.kids[j] = u.kids[j]) ∧ Hid (Below b w wr) ∧ Hid (Below w2.heap.size w2 wr)) (fun vi _ => n - (intOf vi).toNat)
    case atStart => exact ⟨0, by omega, rfl, Lib.hid (fun j hj => by omega), HB3, HC3⟩
    case round =>
      obtain ⟨i, hi, rfl, HI, HB, HC⟩ := hrel
      have c4 := (HCt.out wr HC.out).2.2.2.2
      have d4 := (HCu.out wr HC.out).2.2.2.2
      by_cases hlt : i < n
      · have hia : i < t.kids.length := by rw [hn.out]; exact hlt
        have hib : i < u.kids.length := by rw [hm.out]; exact hlt
        obtain ⟨x1, o1, rfl, hx1, h5, hv⟩ := HK.out i hia
        obtain ⟨x2, o2, rfl, hx2, h6, hv'⟩ := HK'.out i hib
        have HYi := Lib.hid (HY.out i hia hib)
        have HSi : Hid (t.kids[i] = u.kids[i] → ∀ j, j < i + 1 → ∀ (ha : j < t.kids.length) (hb : j < u.kids.length), t.kids[j] = u.kids[j]) := Lib.hid (fun h j hj ha hb => by
          by_cases e : j = i
          · subst e; exact h
          · exact HI.out j (by omega) ha hb)
        have HW : Hid (Below w2.heap.size w2 wr) := HC
        have HP : Hid (∀ W, Below wr.heap.size wr W → W.cell? ⟨b, 4, none⟩ = some (.slice (some ⟨x1, o1, none⟩) n c) ∧ W.cell? ⟨b2, 4, none⟩ = some (.slice (some ⟨x2, o2, none⟩) n c') ∧ Cell5 W x1 (o1 + i * 5) t.kids[i] (K i) (Q i) ∧ Cell5 W x2 (o2 + i * 5) u.kids[i] (K' i) (Q' i)) := Lib.hid (fun W hW => by
          have hW' := HC.out.trans (hW.mono HC.out.size)
          exact ⟨(HCt.out W hW').2.2.2.2, (HCu.out W hW').2.2.2.2, h5.below (hW'.mono (Nat.le_of_lt hbw)) hx1, h6.below (hW'.mono (Nat.le_of_lt hbw2)) hx2⟩)
        have HQ := Lib.hid (fun W (hW : Below wr.heap.size wr W) => IH.out i hia _ (hv.keep ((HC.out.trans (hW.mono HC.out.size)).mono (Nat.le_of_lt hbw))) (hv'.keep ((HC.out.trans (hW.mono HC.out.size)).mono (Nat.le_of_lt hbw2))))
        clear h5 h6 hv hv' IH
        obtain ⟨p, hp⟩ : ∃ p, Hid (t.kids[i] = p) := ⟨t.kids[i], Lib.hid rfl⟩
        obtain ⟨q, hq⟩ : ∃ q, Hid (u.kids[i] = q) := ⟨u.kids[i], Lib.hid rfl⟩
        rw [hp.out, hq.out] at HP HQ HYi HSi
        go_wp2_with fail
        refine wp_region_plan (S := fun W => Below wr.heap.size wr W) [(0, true), (1, true), (2, true), (3, true), (4, true), (5, true), (6, true), (7, true), (8, true), (9, true), (10, false), (11, true)] (by kernel_rfl) (by kernel_rfl) rfl (by kernel_rfl) (fun _ _ _ _ _ h => h) (Below.refl _ _).drew ?_
        iterate 10
          refine along_take (v := ?_) rfl (by rfl) ?_ ?_
          rotate_left
          · intro W hW
            obtain ⟨k1, k2, ⟨k3, k4, k5, k6, k7⟩, ⟨k8, k9, k10, k11, k12⟩⟩ := HP.out W hW
            go_simp; try with_reducible rfl
          simp only [Act.put, List.setIfInBounds_toArray, List.set_cons_zero, List.set_cons_succ]
        have HD : Hid (∀ W, Below wr.heap.size wr W → Below b w W ∧ Below w2.heap.size w2 W) := Lib.hid (fun W hW => ⟨HB.out.trans (hW.mono (by have := HB.out.size; omega)), HC.out.trans (hW.mono HC.out.size)⟩)
        refine along_step rfl (fun K hK => ?_)
        go_simp
        refine (HQ.out _ (Below.refl _ _).drew).mono ?_
        rintro e w4 ⟨rfl, hb4⟩
        have hb4' : Below wr.heap.size wr w4 := (Below.refl _ _).drew.trans hb4
        refine hK.out _ _ hb4' ?_
        clear hK K HP HQ hb4
        obtain ⟨y, hy⟩ : ∃ y, Hid (Tn.same p q = y) := ⟨_, rfl⟩
        rw [hy.out]
        have hHB := Lib.hid (HD.out w4 hb4')
        clear hb4'
        refine along_take (v := ?_) rfl (by rfl) ?_ ?_
        rotate_left
        · intro W hW
          go_simp; try with_reducible rfl
        simp only [Act.put, List.setIfInBounds_toArray, List.set_cons_zero, List.set_cons_succ]
        refine along_done ?_
        have c4' := (HCt.out w4 hHB.out.2).2.2.2.2
        have d4' := (HCu.out w4 hHB.out.2).2.2.2.2
        by_cases hpq : p = q
        · have hy' : y = true := by rw [← hy.out]; exact Tn.same_true hpq
          subst hy'
          have HS' := Lib.hid (HSi.out hpq)
          clear HYi HSi HI
          go_wp2_with fail
          go_roundw
          case rel => exact ⟨i + 1, by omega, by go_num, HS', Lib.hid hHB.out.1, Lib.hid hHB.out.2⟩
          case measure => simp [intOf]; omega
        · have hy' : y = false := by rw [← hy.out]; exact Tn.same_false hpq
          subst hy'
          have HS' := Lib.hid (HYi.out hpq)
          clear HYi HSi HI
          go_wp2_with fail
          go_ret
          exact ⟨ret_bool (by rw [HS'.out]), by rw [hs]; exact hHB.out.1⟩
      · have HXX := Lib.hid (HX.out (fun j hj ha hb => HI.out j (by omega) ha hb))
        go_wp2_with fail
        go_ret
        exact ⟨ret_bool (by rw [HXX.out]), by rw [hs]; exact HB.out⟩
end Go.Proofs.Ytphanlkobkkgfaa
