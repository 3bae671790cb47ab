/- Contracts of slices.Equal at strings, slices.EqualFunc at trees with tree.Same, and tree.Same. -/
import Derived.Test.YtldjdoebappkoaaGreatDoorIdx11
import Derived.Test.YtldjdoebappkoaaGreatDoorPJ
namespace Go.Proofs.YtldjdoebappkoaaGreatDoor
open Go.RowKit
set_option linter.unusedVariables false
set_option maxRecDepth 100000
set_option linter.unusedSimpArgs false

theorem equal11_any {w : World} {B C : Nat} {va vb : Value} {la lb : List ByteArray} (Ha : Sk w B va la) (Hb : Sk w C vb lb) :
    Calls Tryz.prog 33 #[va, vb] w fun e w' => e = .returned (.bool (decide (la = lb))) ∧ Below w.heap.size w w' := by
  obtain ⟨Aa, ca, rfl, Ta, h1, h2, _, _⟩ := Ha
  obtain ⟨Ab, cb, rfl, Tb, h3, h4, _, _⟩ := Hb
  have TA := Lib.hid Ta.all
  have TB := Lib.hid Tb.all
  unfold maxLen at h2 h4
  obtain ⟨n, hn⟩ : ∃ n, Hid (la.length = n) := ⟨_, rfl⟩
  obtain ⟨k, hk⟩ : ∃ k, Hid (lb.length = k) := ⟨_, rfl⟩
  rw [hn.out] at h1 ⊢
  rw [hk.out] at h3 ⊢
  clear Ta Tb
  by_cases hnk : n = k
  · subst hnk
    go_enter Tryz.func33, Tryz.ntmps33
    go_wp2_with fail
    go_loopw [13] (fun v wr => ∃ (i : Nat), i ≤ n ∧ v = .int .i64 i ∧ Hid (Below w.heap.size w wr) ∧ Hid (∀ j, j < i → ∀ (ha : j < la.length) (hb : j < lb.length), la[j] = lb[j])) (fun v _ => n - (intOf v).toNat)
    case atStart => exact ⟨0, by omega, rfl, Lib.hid (Below.refl _ _), Lib.hid (fun j hj => by omega)⟩
    case round =>
      obtain ⟨i, hi, rfl, HB, HI⟩ := hrel
      by_cases hlt : i < n
      · have hia : i < la.length := by rw [hn.out]; exact hlt
        have hib : i < lb.length := by rw [hk.out]; exact hlt
        obtain ⟨b1, o1, rfl, _, d0⟩ := TA.out.below HB.out i hia
        obtain ⟨b2, o2, rfl, _, d2⟩ := TB.out.below HB.out i hib
        have HN := Lib.hid (fun (h : ¬ la[i] = lb[i]) => any_neq hia hib h)
        have HS : Hid (la[i] = lb[i] → ∀ j, j < i + 1 → ∀ (ha : j < la.length) (hb : j < lb.length), la[j] = lb[j]) := Lib.hid (fun h j hj ha hb => by
          by_cases e : j = i
          · subst e; exact h
          · exact HI.out j (by omega) ha hb)
        obtain ⟨p, hp⟩ : ∃ p, Hid (la[i] = p) := ⟨la[i], Lib.hid rfl⟩
        obtain ⟨q, hq⟩ : ∃ q, Hid (lb[i] = q) := ⟨lb[i], Lib.hid rfl⟩
        rw [hp.out] at d0 HN HS
        rw [hq.out] at d2 HN HS
        have hs := txt_eq p q
        by_cases hpq : p = q
        · rw [decide_eq_true hpq] at hs
          have HS' := Lib.hid (HS.out hpq)
          clear HS HN HI hpq
          go_wp2_with fail
          go_quiet (fail)
          go_wp2_with fail
          go_roundw
          case rel => exact ⟨i + 1, by omega, by go_num, Lib.hid (drewn_below HB.out _), HS'⟩
          case measure => simp [intOf]; omega
        · rw [decide_eq_false hpq] at hs
          have HN' := Lib.hid (HN.out hpq)
          clear HS HN HI hpq
          go_wp2_with fail
          go_quiet (fail)
          go_wp2_with fail
          go_ret
          exact ⟨ret_bool (by rw [decide_eq_false HN'.out]), drewn_below HB.out _⟩
      · have HE : Hid (la = lb) := Lib.hid (any_eq (by rw [hn.out, hk.out]) fun j ha hb => HI.out j (by have := hn.out; omega) ha hb)
        go_wp2_with fail
        go_ret
        exact ⟨ret_bool (by rw [decide_eq_true HE.out]), HB.out⟩
  · have HE : Hid (¬ la = lb) := Lib.hid (fun e => hnk (by rw [← hn.out, ← hk.out, e]))
    go_enter Tryz.func33, Tryz.ntmps33
    go_wp2_with fail
    go_ret
    exact ⟨ret_bool (by rw [decide_eq_false HE.out]), Below.refl _ _⟩

noncomputable def Tn.sames (a b : List Tn) : Bool := @decide (a = b) (Classical.propDecidable _)
theorem Tn.sames_true {a b : List Tn} (h : a = b) : Tn.sames a b = true := by unfold Tn.sames; exact @decide_eq_true _ (Classical.propDecidable _) h
theorem Tn.sames_false {a b : List Tn} (h : ¬ a = b) : Tn.sames a b = false := by unfold Tn.sames; exact @decide_eq_false _ (Classical.propDecidable _) h

set_option maxHeartbeats 4000000 in
/-- the kids, if tree.Same does for each of them -/
theorem equalfunc_any {w : World} {B C : Nat} {va vb : Value} {la lb : List Tn} (Ha : Kv w B va la) (Hb : Kv w C vb lb)
    (IH : ∀ i (h : i < la.length) (u : Tn) {w : World} {B C : Nat} {vk vq uk uq : Value}, Tv w B la[i] vk vq → Tv w C u uk uq →
      Calls Tryz.prog 14 #[tval la[i] vk vq, tval u uk uq] w fun e w' => e = .returned (.bool (Tn.same la[i] u)) ∧ Below w.heap.size w w') :
    Calls Tryz.prog 34 #[va, vb, .func (.func 14) #[] #[]] w fun e w' => e = .returned (.bool (Tn.sames la lb)) ∧ Below w.heap.size w w' := by
  obtain ⟨A, c, rfl, h1, h2, h3, K, Q, hK⟩ := Ha
  obtain ⟨A', c', rfl, h1', h2', h3', K', Q', hK'⟩ := Hb
  have HK : Hid (∀ i (h : i < la.length), ∃ b off, A = some ⟨b, off, none⟩ ∧ b < w.heap.size ∧ Cell5 w b (off + i * 5) la[i] (K i) (Q i) ∧ Tv w w.heap.size la[i] (K i) (Q i)) := Lib.hid (fun i h => by
    obtain ⟨b, off, e, _, h5, h6⟩ := hK i h
    exact ⟨b, off, e, lt_of_cell h5.c0, h5, h6.all⟩)
  have HK' : Hid (∀ i (h : i < lb.length), ∃ b off, A' = some ⟨b, off, none⟩ ∧ b < w.heap.size ∧ Cell5 w b (off + i * 5) lb[i] (K' i) (Q' i) ∧ Tv w w.heap.size lb[i] (K' i) (Q' i)) := Lib.hid (fun i h => by
    obtain ⟨b, off, e, _, h5, h6⟩ := hK' i h
    exact ⟨b, off, e, lt_of_cell h5.c0, h5, h6.all⟩)
  have HIH := Lib.hid (fun i (h : i < la.length) u (W : World) (hW : Below w.heap.size w W) (vk vq uk uq : Value) (h1 : Tv w w.heap.size la[i] vk vq) (h2 : Tv w w.heap.size u uk uq) => IH i h u (h1.keep hW) (h2.keep hW))
  unfold maxLen at h2 h2'
  obtain ⟨n, hn⟩ : ∃ n, Hid (la.length = n) := ⟨_, rfl⟩
  obtain ⟨m, hm⟩ : ∃ n, Hid (lb.length = n) := ⟨_, rfl⟩
  rw [hn.out] at h1 ⊢
  rw [hm.out] at h1' ⊢
  obtain ⟨s0, hs0⟩ : ∃ s, w.heap.size = s := ⟨_, rfl⟩
  rw [hs0] at HK HK' HIH
  clear hK hK' IH h3 h3'
  by_cases hnk : n = m
  case neg =>
    have HE : Hid (Tn.sames la lb = false) := Lib.hid (Tn.sames_false (fun e => hnk (by rw [← hn.out, ← hm.out, e])))
    go_enter Tryz.func34, Tryz.ntmps34
    go_wp2_with fail
    go_ret
    exact ⟨ret_bool (by rw [HE.out]), Below.refl _ _⟩
  subst hnk
  go_enter Tryz.func34, Tryz.ntmps34
  go_wp2_with fail
  go_loopw [17] (fun v wr => ∃ (i : Nat), i ≤ n ∧ v = .int .i64 i ∧ Hid (Below s0 w wr) ∧ Hid (∀ j, j < i → ∀ (ha : j < la.length) (hb : j < lb.length), la[j] = lb[j])) (fun v _ => n - (intOf v).toNat)
  case atStart => exact ⟨0, by omega, rfl, Lib.hid (Below.refl _ _), Lib.hid (fun j hj => by omega)⟩
  case round =>
    obtain ⟨i, hi, rfl, HB, HI⟩ := hrel
    by_cases hlt : i < n
    · have hia : i < la.length := by rw [hn.out]; exact hlt
      have hib : i < lb.length := by rw [hm.out]; exact hlt
      obtain ⟨x1, o1, rfl, hx1, h5, hv⟩ := HK.out i hia
      obtain ⟨x2, o2, rfl, hx2, h6, hv'⟩ := HK'.out i hib
      have HN := Lib.hid (fun (h : ¬ la[i] = lb[i]) => Tn.sames_false (any_neq hia hib h))
      have HS : Hid (la[i] = lb[i] → ∀ j, j < i + 1 → ∀ (ha : j < la.length) (hb : j < lb.length), la[j] = lb[j]) := Lib.hid (fun h j hj ha hb => by
        by_cases e : j = i
        · subst e; exact h
        · exact HI.out j (by omega) ha hb)
      have HC := Lib.hid (fun W hW => HIH.out i hia lb[i] W hW _ _ _ _ hv hv')
      have g5 := h5.below HB.out hx1
      obtain ⟨A1, c1, e1, _⟩ := hv.keys
      obtain ⟨A2, c2, e2, _⟩ := hv.kids
      obtain ⟨A3, c3, e3, _⟩ := hv'.keys
      obtain ⟨A4, c4, e4, _⟩ := hv'.kids
      obtain ⟨gk, wk, hgk, halk, hYk, hbk, hsk⟩ := var_tree wr
      have hs1 := HB.out.size
      rw [e1, e2] at g5 HC
      rw [e3, e4] at h6 HC
      obtain ⟨p, hp⟩ : ∃ p, Hid (la[i] = p) := ⟨la[i], Lib.hid rfl⟩
      obtain ⟨q, hq⟩ : ∃ q, Hid (lb[i] = q) := ⟨lb[i], Lib.hid rfl⟩
      rw [hp.out] at g5 HC HN HS
      rw [hq.out] at h6 HC HN HS
      have HYk := Lib.hid hYk
      have hB7 : Below s0 w (wk.setRow gk #[.int .i64 p.kind, .int .i64 p.n, .string p.s, .slice A1 p.keys.length c1, .slice A2 p.kids.length c2]) := below_row (HB.out.trans (hbk.mono (by omega))) (by omega) _
      have g6 := h6.below hB7 hx2
      obtain ⟨w7, hw7⟩ : ∃ w7, wk.setRow gk #[.int .i64 p.kind, .int .i64 p.n, .string p.s, .slice A1 p.keys.length c1, .slice A2 p.kids.length c2] = w7 := ⟨_, rfl⟩
      have hk7 : Whole w7 gk 25 #[.int .i64 p.kind, .int .i64 p.n, .string p.s, .slice A1 p.keys.length c1, .slice A2 p.kids.length c2] := by rw [← hw7]; exact HYk.out.row _
      rw [hw7] at g6 hB7
      obtain ⟨gl, wl, hgl, hall, hYl, hbl, hsl⟩ := var_tree w7
      have hgkl : gk < gl := by rw [← hgl]; exact hk7.lt
      have HYl := Lib.hid hYl
      have hB9 : Below s0 w (wl.setRow gl #[.int .i64 q.kind, .int .i64 q.n, .string q.s, .slice A3 q.keys.length c3, .slice A4 q.kids.length c4]) := below_row (hB7.trans (hbl.mono (by omega))) (by omega) _
      obtain ⟨w9, hw9⟩ : ∃ w9, wl.setRow gl #[.int .i64 q.kind, .int .i64 q.n, .string q.s, .slice A3 q.keys.length c3, .slice A4 q.kids.length c4] = w9 := ⟨_, rfl⟩
      have hk9 : Whole w9 gk 25 #[.int .i64 p.kind, .int .i64 p.n, .string p.s, .slice A1 p.keys.length c1, .slice A2 p.kids.length c2] := by rw [← hw9]; exact (hk7.below hbl hgkl).rowOther (by omega) _
      have hl9 : Whole w9 gl 25 #[.int .i64 q.kind, .int .i64 q.n, .string q.s, .slice A3 q.keys.length c3, .slice A4 q.kids.length c4] := by rw [← hw9]; exact HYl.out.row _
      rw [hw9] at hB9
      have HB9 := Lib.hid hB9
      have HC9 := Lib.hid (HC.out _ hB9)
      obtain ⟨m0, m1, m2, m3, m4⟩ := g5
      obtain ⟨n0, n1, n2, n3, n4⟩ := g6
      have r0 := hk9.at_ 0
      have r1 := hk9.at_ 1
      have r2 := hk9.at_ 2
      have r3 := hk9.at_ 3
      have r4 := hk9.at_ 4
      have s0' := hl9.at_ 0
      have s1 := hl9.at_ 1
      have s2 := hl9.at_ 2
      have s3 := hl9.at_ 3
      have s4 := hl9.at_ 4
      simp at r0 r1 r2 r3 r4 s0' s1 s2 s3 s4
      clear h5 h6 hv hv' HC e1 e2 e3 e4 hYk hYl hbk hbl hk7 hk9 hl9 hB7 hB9
      go_wp2_with (first | (refine wpList_store_whole rfl rfl rfl rfl rfl HYk.out (treeI rfl) rfl (by simp [Value.oneCell']) ?_) | (refine wpList_store_whole rfl rfl rfl rfl rfl HYl.out (treeI rfl) rfl (by simp [Value.oneCell']) ?_))
      refine (HC9.out).mono ?_
      rintro e w10 ⟨rfl, hb10⟩
      have HB10 := Lib.hid (HB9.out.trans (hb10.mono (by have := HB9.out.size; omega)))
      clear hb10 m0 m1 m2 m3 m4 n0 n1 n2 n3 n4 r0 r1 r2 r3 r4 s0' s1 s2 s3 s4
      by_cases hpq : p = q
      · rw [Tn.same_true hpq]
        have HS' := Lib.hid (HS.out hpq)
        clear HS HN HI hpq
        go_wp2_with fail
        go_roundw
        case rel => exact ⟨i + 1, by omega, by go_num, HB10, HS'⟩
        case measure => simp [intOf]; omega
      · rw [Tn.same_false hpq]
        have HN' := Lib.hid (HN.out hpq)
        clear HS HN HI hpq
        go_wp2_with fail
        go_ret
        exact ⟨ret_bool (by rw [HN'.out]), by first | (rw [hs0]; exact HB10.out) | exact HB10.out⟩
    · have HE : Hid (Tn.sames la lb = true) := Lib.hid (Tn.sames_true (any_eq (by rw [hn.out, hm.out]) fun j ha hb => HI.out j (by have := hn.out; omega) ha hb))
      go_wp2_with fail
      go_ret
      exact ⟨ret_bool (by rw [HE.out]), by first | (rw [hs0]; exact HB.out) | exact HB.out⟩

set_option maxHeartbeats 4000000 in
theorem same11_any (k : Nat) : ∀ (t : Tn), SizeOf.sizeOf t < k → ∀ (u : Tn) {w : World} {B C : Nat} {vk vq uk uq : Value}, Tv w B t vk vq → Tv w C u uk uq →
    Calls Tryz.prog 14 #[tval t vk vq, tval u uk uq] w fun e w' => e = .returned (.bool (Tn.same t u)) ∧ Below w.heap.size w w' := by
  induction k with
  | zero => intro t h; omega
  | succ k ih =>
    intro t hk u w B C vk vq uk uq H1 H2
    obtain ⟨b, w1, hs, hal, hT1, hb1⟩ := boxedT H1
    have H2' : Tv w1 w1.heap.size u uk uq := (H2.all.keep (by rw [hs]; exact hb1)).all
    obtain ⟨b2, w2, hs2, hal2, hU, hb2⟩ := boxedT H2'
    have hT := hT1.keep (by rw [hs2]; exact hb2)
    have HT := Lib.hid hT
    have HU := Lib.hid hU
    have HB2 : Hid (Below b w w2) := Lib.hid (hb1.trans (hb2.mono (by have := hT1.lt; omega)))
    obtain ⟨A, c, rfl, h1, h2, _, K, Q, hK⟩ := hT.tv.kids
    obtain ⟨A', c', rfl, h3, h4, _, K', Q', hK'⟩ := hU.tv.kids
    unfold maxLen at h2 h4
    obtain ⟨Ak, ck, rfl, hSk⟩ := hT.tv.keys
    obtain ⟨Au, cu, rfl, hSu⟩ := hU.tv.keys
    have HTx := Lib.hid (fun W (h : Below w2.heap.size w2 W) => equal11_any (w := W) (B := W.heap.size) (C := W.heap.size) ((HT.out.keep h).tv.keys.all) ((HU.out.keep h).tv.keys.all))
    have HEf := Lib.hid (fun W (h : Below w2.heap.size w2 W) => equalfunc_any (w := W) (HT.out.keep h).tv.kv (HU.out.keep h).tv.kv (fun i hi u' {w} {B} {C} {vk} {vq} {uk} {uq} h h' => ih t.kids[i] (by have := Tn.kid_lt hi; omega) u' h h'))
    have HE := Lib.hid (@Tn.ext_iff t u)
    have hbw := hT.lt
    have hbw2 := hU.lt
    have HCt := Lib.hid (fun W (h : Below w2.heap.size w2 W) => (HT.out.keep h).cells)
    have HCu := Lib.hid (fun W (h : Below w2.heap.size w2 W) => (HU.out.keep h).cells)
    obtain ⟨np, hnp⟩ : ∃ n, Hid (t.keys.length = n) := ⟨_, rfl⟩
    obtain ⟨nq, hnq⟩ : ∃ n, Hid (u.keys.length = n) := ⟨_, rfl⟩
    obtain ⟨n, hn⟩ : ∃ n, Hid (t.kids.length = n) := ⟨_, rfl⟩
    obtain ⟨m, hm⟩ : ∃ n, Hid (u.kids.length = n) := ⟨_, rfl⟩
    rw [hnp.out] at HTx HCt hal ⊢
    rw [hnq.out] at HTx HCu hal2 ⊢
    rw [hn.out] at h1 HCt HEf hal ⊢
    rw [hm.out] at h3 HCu HEf hal2 ⊢
    clear hT1 hT hU hb1 hb2 H1 H2 H2' hK hK' hSk hSu ih
    obtain ⟨c0, c1, c2, c3, c4⟩ := HCt.out w2 (Below.refl _ _)
    obtain ⟨d0, d1, d2, d3, d4⟩ := HCu.out w2 (Below.refl _ _)
    unfold tcells at hal hal2
    unfold tval
    by_cases e0 : t.kind = u.kind
    case neg =>
      have HF := Lib.hid (Tn.same_false (fun e => e0 (HE.out.1 e).1))
      have q1 : (t.kind == u.kind) = false := by simpa using e0
      have q2 : (t.kind != u.kind) = true := by simpa using e0
      go_enter Tryz.func14, Tryz.ntmps14
      go_wp2_with fail
      go_ret
      exact ⟨ret_bool (by rw [HF.out]), by first | (rw [hs]; exact HB2.out) | exact HB2.out⟩
    by_cases e1 : t.n = u.n
    case neg =>
      have HF := Lib.hid (Tn.same_false (fun e => e1 (HE.out.1 e).2.1))
      have q1 : (t.n == u.n) = false := by simpa using e1
      have q2 : (t.n != u.n) = true := by simpa using e1
      rw [e0] at c0 hal ⊢
      clear e0
      go_enter Tryz.func14, Tryz.ntmps14
      go_wp2_with fail
      go_ret
      exact ⟨ret_bool (by rw [HF.out]), by first | (rw [hs]; exact HB2.out) | exact HB2.out⟩
    have q3 := txt_eq t.s u.s
    by_cases e2 : t.s = u.s
    case neg =>
      have HF := Lib.hid (Tn.same_false (fun e => e2 (HE.out.1 e).2.2.1))
      rw [decide_eq_false e2] at q3
      rw [e0] at c0 hal ⊢
      rw [e1] at c1 hal ⊢
      clear e0 e1
      go_enter Tryz.func14, Tryz.ntmps14
      go_wp2_with fail
      go_ret
      exact ⟨ret_bool (by rw [HF.out]), by first | (rw [hs]; exact HB2.out) | exact HB2.out⟩
    rw [decide_eq_true e2] at q3
    rw [e0] at c0 hal ⊢
    rw [e1] at c1 hal ⊢
    by_cases e3 : t.keys = u.keys
    case neg =>
      have HF := Lib.hid (Tn.same_false (fun e => e3 (HE.out.1 e).2.2.2.1))
      have CT := HTx.out w2 (Below.refl _ _)
      rw [decide_eq_false e3] at CT
      have HCT := Lib.hid CT
      clear e0 e1 e2 CT
      go_enter Tryz.func14, Tryz.ntmps14
      go_wp2_with fail
      refine (HCT.out).mono ?_
      rintro e w3 ⟨rfl, hb3⟩
      have HB3 := Lib.hid (HB2.out.trans (hb3.mono (by omega)))
      clear hb3
      go_wp2_with fail
      go_ret
      exact ⟨ret_bool (by rw [HF.out]), by first | (rw [hs]; exact HB3.out) | exact HB3.out⟩
    have CT := HTx.out w2 (Below.refl _ _)
    rw [decide_eq_true e3] at CT
    have HCT := Lib.hid CT
    have HX : Hid (Tn.same t u = Tn.sames t.kids u.kids) := Lib.hid (by
      by_cases e4 : t.kids = u.kids
      · rw [Tn.sames_true e4]
        exact Tn.same_true (HE.out.2 ⟨e0, e1, e2, e3, e4⟩)
      · rw [Tn.sames_false e4]
        exact Tn.same_false (fun e => e4 (HE.out.1 e).2.2.2.2))
    rw [HX.out]
    clear e0 e1 e2 e3 CT HE HX
    obtain ⟨y, hy⟩ : ∃ y, Hid (Tn.sames t.kids u.kids = y) := ⟨_, rfl⟩
    rw [hy.out] at HEf ⊢
    go_enter Tryz.func14, Tryz.ntmps14
    go_wp2_with fail
    refine (HCT.out).mono ?_
    rintro e w3 ⟨rfl, hb3⟩
    have HB3 := Lib.hid (HB2.out.trans (hb3.mono (by omega)))
    have HC3 := Lib.hid hb3
    obtain ⟨_, _, _, _, c4'⟩ := HCt.out w3 hb3
    obtain ⟨_, _, _, _, d4'⟩ := HCu.out w3 hb3
    clear hb3
    go_wp2_with fail
    refine (HEf.out _ HC3.out).mono ?_
    rintro e w4 ⟨rfl, hb4⟩
    have HB4 := Lib.hid (HB3.out.trans (hb4.mono (by have := HB3.out.size; omega)))
    clear hb4
    go_wp2_with fail
    go_ret
    exact ⟨rfl, by first | (rw [hs]; exact HB4.out) | exact HB4.out⟩
end Go.Proofs.YtldjdoebappkoaaGreatDoor
