/- Contract of tree.Set. -/
import Derived.Test.YtldjdoebappkoaaGreatDoorGet11
namespace Go.Proofs.YtldjdoebappkoaaGreatDoor
open Go.RowKit
set_option linter.unusedVariables false
set_option maxRecDepth 100000
set_option linter.unusedSimpArgs false

theorem Cpy.room {w : World} {base : Nat} {t : Tn} {vk vq : Value} (h : Cpy w base t vk vq) : w.ownsRow base 9 1 vk t.keys.length (txs t.keys) := by
  obtain ⟨mid, lo, L, h1, h2, h0, h3, _⟩ := h.ex
  exact h3
theorem five_one_tl {w : World} {lo : Nat} {L : List Tq} (h : ∀ x ∈ L, Tl w lo x.1 x.2.1 x.2.2) : ∀ u ∈ five L, u.oneCell' = true := five_one (w := w) (B := w.heap.size) (fun x hx => (h x hx).tv)
theorem five_take (L : List Tq) (i : Nat) : (five L).take (i * 5) = five (L.take i) := by
  induction L generalizing i with
  | nil => simp [five]
  | cons x L ih =>
    cases i with
    | zero => simp [five]
    | succ i =>
      rw [five_cons, show (i + 1) * 5 = i * 5 + 1 + 1 + 1 + 1 + 1 by omega]
      simp only [List.take_succ_cons, ih]
      rfl
theorem five_drop (L : List Tq) (i : Nat) : (five L).drop (i * 5) = five (L.drop i) := by
  induction L generalizing i with
  | nil => simp [five]
  | cons x L ih =>
    cases i with
    | zero => simp
    | succ i =>
      rw [five_cons, show (i + 1) * 5 = i * 5 + 1 + 1 + 1 + 1 + 1 by omega]
      simp only [List.drop_succ_cons, ih]
theorem five_put (L : List Tq) (i : Nat) (x : Tq) : (five L).take (i * 5) ++ (five [x] ++ (five L).drop (i * 5)) = five (Tn.put L i x) := by
  rw [five_take, five_drop]
  unfold Tn.put
  rw [five_append, show x :: L.drop i = [x] ++ L.drop i from rfl, five_append]
theorem txs_put (l : List ByteArray) (i : Nat) (x : ByteArray) : (txs l).take i ++ ([Value.string x] ++ (txs l).drop i) = txs (Tn.put l i x) := by
  unfold Tn.put txs
  rw [List.map_append, List.map_take, List.map_cons, List.map_drop]
  rfl
theorem put_map {α β : Type} (f : α → β) (l : List α) (i : Nat) (x : α) : (Tn.put l i x).map f = Tn.put (l.map f) i (f x) := by
  unfold Tn.put
  rw [List.map_append, List.map_take, List.map_cons, List.map_drop]

theorem own_grown {w w' : World} {base n sz : Nat} {t : TypeId} {v : Value} {xs : List Value} {r : Option Nat} (h : w.ownsRow base t sz v n xs) (hk : w.grownBy w' r) (hg : ∀ j, v.ownBlock = some j → some j ≠ r) : w'.ownsRow base t sz v n xs := by
  obtain ⟨h1, h2⟩ := h
  refine ⟨h1, ?_⟩
  rcases h2 with h2 | ⟨j, cap, cur, hv, hb, hh, q⟩
  · exact .inl h2
  · exact .inr ⟨j, cap, cur, hv, hb, by rw [hk.block j (Array.getElem?_eq_some_iff.1 hh).1 (hg j (by rw [hv]; rfl))]; exact hh, q⟩
theorem Whole.grown {w w' : World} {b t : Nat} {cs : Array Value} {r : Option Nat} (h : Whole w b t cs) (hk : w.grownBy w' r) (hne : some b ≠ r) : Whole w' b t cs := (hk.block b h.lt hne).trans h
theorem Cpy.lts {w : World} {base : Nat} {t : Tn} {vk vq : Value} (h : Cpy w base t vk vq) : (∀ j, vk.ownBlock = some j → base ≤ j ∧ j < w.heap.size) ∧ (∀ j, vq.ownBlock = some j → base ≤ j ∧ j < w.heap.size) := by
  obtain ⟨mid, lo, L, h1, h2, h0, h3, h4, h5, h6, h7, h8⟩ := h.ex
  exact ⟨fun j hj => h3.lt j hj, fun j hj => by have := h5.lt j hj; omega⟩
theorem five_single (x : Tn) (a b : Value) : five [(x, a, b)] = [.int .i64 x.kind, .int .i64 x.n, .string x.s, a, b] := rfl

set_option maxHeartbeats 1600000 in
theorem set11_at {t x : Tn} (ft : t.Few) (fx : x.Few) {w : World} {B C : Nat} {vk vq xk xq : Value} (H : Tv w B t vk vq) (key : ByteArray) (hkey : key.size ≤ maxLen) (HX : Tv w C x xk xq) :
    Calls Tryz.prog 35 #[tval t vk vq, .string key, tval x xk xq] w fun e w' => ∃ vk vq, e = .returned (tval (t.set key x) vk vq) ∧ Tl w' w.heap.size (t.set key x) vk vq ∧ Below w.heap.size w w' := by
  obtain ⟨Axk, cxk, rfl, _⟩ := HX.keys
  obtain ⟨Axq, cxq, rfl, _⟩ := HX.kids
  obtain ⟨b, w1, hs, hal, hT1, hb1⟩ := boxedT H
  have HX1 : Tv w1 w1.heap.size x (.slice Axk x.keys.length cxk) (.slice Axq x.kids.length cxq) := (HX.all.keep (by rw [hs]; exact hb1)).all
  obtain ⟨b2, w2, hs2, hal2, hX2, hb2⟩ := boxedT HX1
  obtain ⟨g, w3, hg, hal3, hY, hb3, hs3⟩ := var_tree w2
  have hbb : b < b2 := by rw [← hs2]; exact hT1.lt
  have hbg : b2 < g := by rw [← hg]; exact hX2.lt
  have hT := (hT1.below hb2 hbb).below hb3 (by omega)
  have hX := hX2.below hb3 hbg
  have HT := Lib.hid hT
  have HXb := Lib.hid hX.bx
  have HXv : Hid (Tv w b x (.slice Axk x.keys.length cxk) (.slice Axq x.kids.length cxq)) := Lib.hid (by rw [← hs]; exact HX.all)
  have HY := Lib.hid hY
  have HB3 : Hid (Below b w w3) := Lib.hid (hb1.trans ((hb2.trans (hb3.mono (by omega))).mono (by omega)))
  obtain ⟨c0, c1, c2, c3, c4⟩ := hT.cells
  have CT := Lib.hid (copy11_any (SizeOf.sizeOf t + 1) t (by omega) ft hT.tv)
  have hfk := ft.keys
  have hfq := ft.kids
  obtain ⟨Ak, ck, ek, _⟩ := hT.tv.keys
  obtain ⟨A, c, eq, _⟩ := hT.tv.kids
  subst ek eq
  have S1 := Lib.hid (fun h => Tn.set_same (t := t) (key := key) (x := x) h)
  have F1 := Lib.hid (fun h => Tn.fits_false (t := t) h)
  have HFx := Lib.hid fx
  obtain ⟨n, hn⟩ : ∃ n, Hid (t.kids.length = n) := ⟨_, rfl⟩
  obtain ⟨nk, hnk⟩ : ∃ n, Hid (t.keys.length = n) := ⟨_, rfl⟩
  unfold tcells at hal hal2
  unfold tval at CT
  unfold tval
  rw [hnk.out] at hfk c3 hal CT F1 ⊢
  rw [hn.out] at hfq c4 hal CT F1 ⊢
  have hX0 := HT.out.bx
  have HXw := Lib.hid hX0
  clear hT1 hT hX2 hX H HX HX1 hY hb1 hb2 hb3 ft fx hX0
  go_enter Tryz.func35, Tryz.ntmps35
  go_wp2_with fail
  refine (CT.out).mono ?_
  rintro e w4 ⟨uk, uq, rfl, hc4, hb4⟩
  obtain ⟨kA, kc, ek, _⟩ := hc4.tv.keys
  obtain ⟨qA, qc, eq, _⟩ := hc4.tv.kids
  subst ek eq
  rw [hnk.out, hn.out] at hc4 ⊢
  have hs4 := hb4.size
  have hx4 := HXw.out.below hb4 (by omega)
  have HY4 := Lib.hid (HY.out.below hb4 (by omega))
  have HZ4 := Lib.hid (HXb.out.below hb4 (by omega))
  have HB4 := Lib.hid (HB3.out.trans (hb4.mono (by omega)))
  have HC4 := Lib.hid hc4
  clear hc4 hb4 c0 c1 c2 c3 c4 CT
  go_upto_region 2 with (refine wpList_store_whole rfl rfl rfl rfl rfl hx4 (treeI rfl) rfl (by simp [Value.oneCell']) ?_)
  obtain ⟨w5, hw5⟩ : ∃ w5, w4.setRow b #[.int .i64 t.kind, .int .i64 t.n, .string t.s, .slice kA nk kc, .slice qA n qc] = w5 := ⟨_, rfl⟩
  have hx5 : Whole w5 b 25 #[.int .i64 t.kind, .int .i64 t.n, .string t.s, .slice kA nk kc, .slice qA n qc] := by rw [← hw5]; exact hx4.row _
  have HX5 := Lib.hid hx5
  have hf5 : From w3.heap.size w4 w5 := by rw [← hw5]; exact (From.refl _ _).setRow (by omega) _
  have HC5 := Lib.hid (HC4.out.from_ hf5)
  have HY5 : Hid (Whole w5 g 25 #[.int .i64 0, .int .i64 0, .string ⟨#[]⟩, .slice none 0 0, .slice none 0 0]) := Lib.hid (by rw [← hw5]; exact HY4.out.rowOther (by omega) _)
  have HB5 : Hid (Below b w w5) := Lib.hid (by rw [← hw5]; exact below_row HB4.out (Nat.le_refl _) _)
  have HZ5 : Hid (Whole w5 b2 25 (tcells x (.slice Axk x.keys.length cxk) (.slice Axq x.kids.length cxq))) := Lib.hid (by rw [← hw5]; exact HZ4.out.rowOther (by omega) _)
  have hs5 : w5.heap.size = w4.heap.size := by rw [← hw5]; exact size_setRow _ _ _
  have m0 := hx5.at_ 0
  have m1 := hx5.at_ 1
  have m2 := hx5.at_ 2
  have m3 := hx5.at_ 3
  have m4 := hx5.at_ 4
  simp at m0 m1 m2 m3 m4
  rw [hw5]
  clear hw5 hx4 hx5 hf5 HC4 HY4 HB4 HZ4
  have same : ∀ W, Hid (t.set key x = t) → w5.setRow g #[.int .i64 t.kind, .int .i64 t.n, .string t.s, .slice kA nk kc, .slice qA n qc] = W → Tl W w.heap.size (t.set key x) (.slice kA nk kc) (.slice qA n qc) ∧ Below w.heap.size w W := fun W e hW => by
    rw [e.out, ← hW, hs]
    exact ⟨(HC5.out.from_ ((From.refl _ _).setRow (show g < w3.heap.size by omega) _)).tl.less (by omega), below_row HB5.out (by omega) _⟩
  have SAME := Lib.hid same
  clear same
  by_cases e0 : t.kind = 4
  case neg =>
    have HS := Lib.hid (S1.out (F1.out (.inl e0)))
    have q : (t.kind == 4) = false := by simpa using e0
    have q1 : (t.kind != 4) = true := by simpa using e0
    go_wp2_with (refine wpList_store_whole rfl rfl rfl rfl rfl HY5.out (treeI rfl) rfl (by simp [Value.oneCell']) ?_)
    refine bodyPost_ret (v := tval t (.slice kA nk kc) (.slice qA n qc)) ?_ rfl ⟨.slice kA nk kc, .slice qA n qc, by rw [HS.out], (SAME.out _ HS rfl).1, (SAME.out _ HS rfl).2⟩
    exact results_tree rfl rfl (HY5.out.row _) rfl
  have E0 := Lib.hid e0
  by_cases e1 : nk = n
  case neg =>
    have HS := Lib.hid (S1.out (F1.out (.inr e1)))
    have q : ((n : Int) == (nk : Int)) = false := by simp; omega
    have q1 : ((n : Int) != (nk : Int)) = true := by simp; omega
    rw [e0] at m0
    clear e0
    go_wp2_with (refine wpList_store_whole rfl rfl rfl rfl rfl HY5.out (treeI rfl) rfl (by simp [Value.oneCell']) ?_)
    refine bodyPost_ret (v := tval t (.slice kA nk kc) (.slice qA n qc)) ?_ rfl ⟨.slice kA nk kc, .slice qA n qc, by rw [HS.out], (SAME.out _ HS (by rw [E0.out])).1, (SAME.out _ HS (by rw [E0.out])).2⟩
    show (results _ _).run _ _ = Result.ok (tval t (.slice kA nk kc) (.slice qA n qc)) _
    have hv : tval t (.slice kA nk kc) (.slice qA n qc) = .agg #[.int .i64 4, .int .i64 t.n, .string t.s, .slice kA nk kc, .slice qA n qc] := by rw [← E0.out]
    rw [hv]
    exact results_tree rfl rfl (HY5.out.row _) rfl
  subst e1
  rw [e0] at m0
  clear e0 S1 F1 SAME
  have HTf : Hid (t.fits = true) := Lib.hid (by unfold Tn.fits; rw [hn.out, hnk.out, E0.out]; simp)
  have CX := Lib.hid (copy11_any (SizeOf.sizeOf x + 1) x (by omega) HFx.out (HXv.out.keep HB5.out))
  unfold tval at CX
  have z0 := HZ5.out.at_ 0
  have z1 := HZ5.out.at_ 1
  have z2 := HZ5.out.at_ 2
  have z3 := HZ5.out.at_ 3
  have z4 := HZ5.out.at_ 4
  simp at z0 z1 z2 z3 z4
  go_wp2_with fail
  refine (CX.out).mono ?_
  rintro e w6 ⟨yk, yq, rfl, hc6, hb6⟩
  obtain ⟨A1, d1, ek, _⟩ := hc6.tv.keys
  obtain ⟨A2, d2, eq, _⟩ := hc6.tv.kids
  subst ek eq
  have hx6 := HX5.out.below hb6 HX5.out.lt
  have hy6 := HY5.out.below hb6 HY5.out.lt
  have HZ6 := Lib.hid (HZ5.out.below hb6 HZ5.out.lt)
  have hs6 := hb6.size
  clear z0 z1 z2 z3 z4 m0 m1 m2 m3 m4 CX
  go_upto_region 5 with (refine wpList_store_whole rfl rfl rfl rfl rfl HZ6.out (treeI rfl) rfl (by simp [Value.oneCell']) ?_)
  obtain ⟨w7, hw7⟩ : ∃ w7, w6.setRow b2 #[.int .i64 x.kind, .int .i64 x.n, .string x.s, .slice A1 x.keys.length d1, .slice A2 x.kids.length d2] = w7 := ⟨_, rfl⟩
  have hf7 : From w3.heap.size w5 w7 := by rw [← hw7]; exact (From.of_below hb6).setRow (by omega) _
  have hf7' : From w5.heap.size w6 w7 := by rw [← hw7]; exact (From.refl _ _).setRow (by omega) _
  have HCt7 := Lib.hid (HC5.out.from_ hf7)
  have HCx7 := Lib.hid (hc6.from_ hf7')
  have hx7 : Whole w7 b 25 #[.int .i64 t.kind, .int .i64 t.n, .string t.s, .slice kA nk kc, .slice qA nk qc] := by rw [← hw7]; exact hx6.rowOther (by omega) _
  have HX7 := Lib.hid hx7
  have HZ7 : Hid (Whole w7 b2 25 #[.int .i64 x.kind, .int .i64 x.n, .string x.s, .slice A1 x.keys.length d1, .slice A2 x.kids.length d2]) := Lib.hid (by rw [← hw7]; exact HZ6.out.row _)
  have HY7 : Hid (Whole w7 g 25 #[.int .i64 0, .int .i64 0, .string ⟨#[]⟩, .slice none 0 0, .slice none 0 0]) := Lib.hid (by rw [← hw7]; exact hy6.rowOther (by omega) _)
  have HB7 : Hid (Below b w w7) := Lib.hid (by rw [← hw7]; exact below_row (HB5.out.trans (hb6.mono (by omega))) (by omega) _)
  have hs7 : w7.heap.size = w6.heap.size := by rw [← hw7]; exact size_setRow _ _ _
  have n3 : w7.cell? ⟨b, 3, none⟩ = some (.slice kA nk kc) := hx7.at_ 3
  have CI := Lib.hid (indexof_any HCt7.out.tv.keys key)
  have HSp := Lib.hid (Tn.spot_place t.keys key)
  have hpl := Tn.place_le t.keys key
  have HSf := Lib.hid (fun h => Tn.set_found (t := t) (key := key) (x := x) HTf.out h)
  have HSn := Lib.hid (fun h => Tn.set_new (t := t) (key := key) (x := x) HTf.out h)
  obtain ⟨sp, hsp⟩ : ∃ sp, Hid (Tn.spot (fun k => decide (k = key)) t.keys = sp) := ⟨_, rfl⟩
  rw [hsp.out] at CI HSp
  obtain ⟨p, hp⟩ : ∃ p, Hid (Tn.place t.keys key = p) := ⟨_, rfl⟩
  rw [hp.out] at HSp hpl HSf HSn
  rw [hnk.out] at HSp hpl HSf HSn
  rw [hw7]
  clear hw7 hx6 hy6 hb6 hc6 hf7 hf7' hx7
  go_wp2_with fail
  refine (CI.out).mono ?_
  rintro e w8 ⟨rfl, hb8⟩
  have hs8 := hb8.size
  have hx8 := HX7.out.below hb8 HX7.out.lt
  have hz8 := HZ7.out.below hb8 HZ7.out.lt
  have HY8 := Lib.hid (HY7.out.below hb8 HY7.out.lt)
  have HX8 := Lib.hid hx8
  have HZ8 := Lib.hid hz8
  have HB8 := Lib.hid (HB7.out.trans (hb8.mono (by have := HX7.out.lt; omega)))
  have HCt8 := Lib.hid (HCt7.out.from_ (From.of_below hb8))
  have HCx8 := Lib.hid (HCx7.out.from_ (From.of_below hb8))
  have m0 := hx8.at_ 0
  have m1 := hx8.at_ 1
  have m2 := hx8.at_ 2
  have m3 := hx8.at_ 3
  have m4 := hx8.at_ 4
  have z0 := hz8.at_ 0
  have z1 := hz8.at_ 1
  have z2 := hz8.at_ 2
  have z3 := hz8.at_ 3
  have z4 := hz8.at_ 4
  simp at m0 m1 m2 m3 m4 z0 z1 z2 z3 z4
  rw [E0.out] at m0
  clear hb8 hx8 hz8 n3
  obtain ⟨mid, lo, L, hm1, hm2, hm0, hok, hkm, hoq, hql, hLm, hTl⟩ := HCt8.out.ex
  have hLl : L.length = nk := by rw [← hn.out, ← hLm]; simp
  rw [hnk.out] at hok
  rw [hLl] at hoq
  have HOK := Lib.hid hok
  have HOQ := Lib.hid hoq
  have HKM := Lib.hid hkm
  have HQL := Lib.hid hql
  have HTL := Lib.hid hTl
  have HLM := Lib.hid hLm
  have HLL := Lib.hid hLl
  clear hok hoq hkm hql hTl hLm hLl
  by_cases e2 : p < nk
  · have e3 : sp = (p : Int) := by rw [HSp.out, if_pos e2]
    subst e3
    have HS := Lib.hid (HSf.out e2)
    obtain ⟨gq, cq0, eq, hgq1, hgq2⟩ := HOQ.out.form (by omega)
    injection eq with eq1 _ eq2
    subst eq1 eq2
    have hgl : gq < lo := HQL.out gq rfl
    have hpL : p < L.length := by rw [HLL.out]; exact e2
    have HTh := Lib.hid (own_there HOQ.out HLL.out.symm hpL)
    have HSt := Lib.hid (own_store HOQ.out HLL.out.symm hpL (x, .slice A1 x.keys.length d1, .slice A2 x.kids.length d2))
    have hpi : ¬ ((p : Int) < 0) := by omega
    go_upto_region 8 with (refine wpList_store_mid rfl 25 _ _ rfl gq (p * 5) #[.int .i64 x.kind, .int .i64 x.n, .string x.s, .slice A1 x.keys.length d1, .slice A2 x.kids.length d2] rfl rfl HTh.out (treeI rfl) (by simp [Value.oneCell']) ?_)
    try simp only [Act.put]
    obtain ⟨w9, hw9⟩ : ∃ w9, w8.setCells gq (p * 5) (#[.int .i64 x.kind, .int .i64 x.n, .string x.s, .slice A1 x.keys.length d1, .slice A2 x.kids.length d2] : Array Value).toList = w9 := ⟨_, rfl⟩
    have hO9 : Only gq w8 w9 := by rw [← hw9]; exact Only.setCells _ _ (Only.refl _ _)
    have hgq5 : gq < w5.heap.size := by have := (HC5.out.lts).2 gq rfl; omega
    have hx9 := HX8.out.only hO9 (by omega)
    have HY9 := Lib.hid (HY8.out.only hO9 (by omega))
    have HB9 : Hid (Below b w w9) := Lib.hid (HB8.out.trans (hO9.below (by omega) (by have := HX8.out.lt; omega)))
    have HK9 := Lib.hid (own_apart HOK.out hO9 (fun j hj => by have := HKM.out j hj; omega))
    have HQ9 : Hid (w9.ownsRow mid 25 5 (.slice (some ⟨gq, 0, none⟩) nk qc) nk (five (L.set p (x, .slice A1 x.keys.length d1, .slice A2 x.kids.length d2)))) := Lib.hid (by rw [← hw9]; exact HSt.out)
    have HT9 : Hid (∀ y ∈ L.set p (x, .slice A1 x.keys.length d1, .slice A2 x.kids.length d2), Tl w9 w3.heap.size y.1 y.2.1 y.2.2) := Lib.hid (fun y hy => by
      rcases mem_set hy with rfl | hy
      · exact ((HCx8.out.tl).from_ (From.of_only hO9 hgq5)).less (by omega)
      · exact ((HTL.out y hy).from_ (From.of_only hO9 hgl)).less (by omega))
    have m0 := hx9.at_ 0
    have m1 := hx9.at_ 1
    have m2 := hx9.at_ 2
    have m3 := hx9.at_ 3
    have m4 := hx9.at_ 4
    simp at m0 m1 m2 m3 m4
    rw [E0.out] at m0
    simp only [] at hw9
    rw [hw9]
    have hm3 : w3.heap.size = g + 1 := hs3
    clear hw9 hO9 hx9 z0 z1 z2 z3 z4
    go_wp2_with (refine wpList_store_whole rfl rfl rfl rfl rfl HY9.out (treeI rfl) rfl (by simp [Value.oneCell']) ?_)
    refine bodyPost_ret (v := tval (t.set key x) (.slice kA nk kc) (.slice (some ⟨gq, 0, none⟩) nk qc)) ?_ rfl ⟨.slice kA nk kc, .slice (some ⟨gq, 0, none⟩) nk qc, rfl, ?_, ?_⟩
    · have hv : tval (Tn.mk t.kind t.n t.s t.keys (t.kids.set p x)) (.slice kA nk kc) (.slice (some ⟨gq, 0, none⟩) nk qc) = .agg #[.int .i64 4, .int .i64 t.n, .string t.s, .slice kA nk kc, .slice (some ⟨gq, 0, none⟩) nk qc] := by rw [← E0.out]; rfl
      rw [HS.out, hv]
      exact results_tree rfl rfl (HY9.out.row _) rfl
    · have hf : From w3.heap.size w9 (w9.setRow g #[.int .i64 4, .int .i64 t.n, .string t.s, .slice kA nk kc, .slice (some ⟨gq, 0, none⟩) nk qc]) := (From.refl _ _).setRow (by omega) _
      rw [HS.out]
      refine Tl.less (lo := w3.heap.size) (hl := by omega) (Tl.of_own (L := L.set p (x, .slice A1 x.keys.length d1, .slice A2 x.kids.length d2)) HCt8.out.kind HCt8.out.num HCt8.out.str ?_ HCt8.out.sizes ?_ ?_ (fun y hy => (HT9.out y hy).from_ hf))
      · show World.ownsRow _ _ _ _ _ t.keys.length (txs t.keys)
        rw [hnk.out]
        exact own_from HK9.out hf
      · rw [List.length_set, HLL.out]
        exact own_less (own_from HQ9.out (hf.less hm1)) hm1
      · rw [List.map_set, HLM.out]; rfl
    · rw [hs]
      exact below_row HB9.out (by omega) _
  · have e3 : sp = -1 := by rw [HSp.out, if_neg e2]
    subst e3
    have CG := Lib.hid (placeof_any HCt8.out.tv.keys key)
    have hgl := Tn.gap_le t.keys key
    have HS := Lib.hid (HSn.out e2)
    obtain ⟨gp, hgp⟩ : ∃ gp, Hid (Tn.gap t.keys key = gp) := ⟨_, rfl⟩
    rw [hgp.out] at CG hgl HS
    rw [hnk.out] at hgl
    go_wp2_with fail
    refine (CG.out).mono ?_
    rintro e w9 ⟨rfl, hb9⟩
    have hs9 := hb9.size
    obtain ⟨v1, hv1⟩ : ∃ v1, w9.heap.size = v1 := ⟨_, rfl⟩
    obtain ⟨wA, hwA⟩ : ∃ wA, w9.alloc (.cells #[.string key] 9) = wA := ⟨_, rfl⟩
    have hbA : Below w8.heap.size w8 wA := by rw [← hwA]; exact hb9.alloc hs9 _
    have hnA : Whole wA v1 9 [Value.string key].toArray := by rw [← hwA, ← hv1]; exact Whole.made _ _ _
    have hsA : v1 < wA.heap.size := by rw [← hwA, ← hv1]; simp
    have hfA : From w3.heap.size w8 wA := From.of_below hbA
    have hokA := own_from HOK.out hfA
    have hkl := (HC5.out.lts).1
    have hql := (HC5.out.lts).2
    have HKL := Lib.hid hkl
    have CI1 := Lib.hid (insstr_any (w := wA) (base := w3.heap.size) (vb := v1) (n := nk) (i := gp) (news := [.string key]) hokA hgl (by omega) (by omega) rfl (fun u hu => by rw [List.mem_singleton] at hu; subst hu; rfl) (txs_one _) hnA (fun j hj => by have := hkl j hj; omega))
    have hxA := HX8.out.below hbA HX8.out.lt
    have hzA := HZ8.out.below hbA HZ8.out.lt
    have hyA := HY8.out.below hbA HY8.out.lt
    have n3 : w9.cell? ⟨b, 3, none⟩ = some (.slice kA nk kc) := (HX8.out.below hb9 HX8.out.lt).at_ 3
    have HXA := Lib.hid hxA
    have HZA := Lib.hid hzA
    have HYA := Lib.hid hyA
    have HBA := Lib.hid (HB8.out.trans (hbA.mono (by have := HX8.out.lt; omega)))
    have HFA := Lib.hid hbA
    clear hb9 hbA hnA hfA hokA hkl hql hxA hzA hyA m0 m1 m2 m3 m4 z0 z1 z2 z3 z4
    go_wp2_with fail
    refine (CI1.out).mono ?_
    rintro e w10 ⟨vk', rfl, ho10, hg10, hl10⟩
    obtain ⟨k2A, k2c, rfl⟩ := own_shape ho10
    obtain ⟨uk, huk⟩ : ∃ uk, uk = Value.slice k2A (nk + 1) k2c := ⟨_, rfl⟩
    rw [← huk] at ho10 hl10
    have hs10 := hg10.size
    have hbn : some b ≠ (Value.slice kA nk kc).ownBlock := fun e => by have := HKL.out b e.symm; omega
    have hb2n : some b2 ≠ (Value.slice kA nk kc).ownBlock := fun e => by have := HKL.out b2 e.symm; omega
    have hgn : some g ≠ (Value.slice kA nk kc).ownBlock := fun e => by have := HKL.out g e.symm; omega
    have hx10 := HXA.out.grown hg10 hbn
    have hz10 := HZA.out.grown hg10 hb2n
    have hy10 := HYA.out.grown hg10 hgn
    have k3 : w10.cell? ⟨b, 3, none⟩ = some (.slice kA nk kc) := hx10.at_ 3
    have f3 : w10.frozen? ⟨b, 3, none⟩ = false := hx10.free 3
    have hfm : From mid wA w10 := From.of_grown hg10 HKM.out
    have hbb10 : Below b wA w10 := ⟨hg10.os, hg10.tape, hg10.output, hg10.size, fun j hj => hg10.block j (by omega) (fun e => by have := HKL.out j e.symm; omega)⟩
    obtain ⟨w11, hw11⟩ : ∃ w11, w10.setCell ⟨b, 3, none⟩ uk = w11 := ⟨_, rfl⟩
    have hs11 : w10.heap.size ≤ w11.heap.size := by rw [← hw11]; simp [World.setCell]
    have hf11 : From w3.heap.size w10 w11 := by rw [← hw11]; exact (From.refl _ _).setCell (p := ⟨b, 3, none⟩) (by show b < w3.heap.size; omega) uk
    have HX11 : Hid (Whole w11 b 25 #[.int .i64 t.kind, .int .i64 t.n, .string t.s, uk, .slice qA nk qc]) := Lib.hid (by rw [← hw11]; exact hx10.put 3 uk)
    have HZ11 : Hid (Whole w11 b2 25 #[.int .i64 x.kind, .int .i64 x.n, .string x.s, .slice A1 x.keys.length d1, .slice A2 x.kids.length d2]) := Lib.hid (by rw [← hw11]; exact hz10.other (p := ⟨b, 3, none⟩) (by show b2 ≠ b; omega) uk)
    have HY11 : Hid (Whole w11 g 25 #[.int .i64 0, .int .i64 0, .string ⟨#[]⟩, .slice none 0 0, .slice none 0 0]) := Lib.hid (by rw [← hw11]; exact hy10.other (p := ⟨b, 3, none⟩) (by show g ≠ b; omega) uk)
    have HB11 : Hid (Below b w w11) := Lib.hid (by rw [← hw11]; exact (HBA.out.trans hbb10).setCell (p := ⟨b, 3, none⟩) (Nat.le_refl b) uk)
    have HK11 : Hid (w11.ownsRow w3.heap.size 9 1 uk (nk + 1) (txs (Tn.put t.keys gp key))) := Lib.hid (by
      rw [← txs_put]
      exact own_from ho10 hf11)
    have hfm11 : From mid w8 w11 := ((From.of_below HFA.out).trans hfm).trans (hf11.less hm1)
    have HQ11 := Lib.hid (own_from HOQ.out hfm11)
    have HT11 : Hid (∀ y ∈ L, Tl w11 lo y.1 y.2.1 y.2.2) := Lib.hid (fun y hy => (HTL.out y hy).from_ (hfm11.less hm2))
    have hfx : From w5.heap.size w8 w11 := ((From.of_below HFA.out).trans (From.of_grown hg10 (fun j hj => (HKL.out j hj).2))).trans (hf11.less (by omega))
    have HCx11 := Lib.hid (HCx8.out.from_ hfx)
    have HLK : Hid (∀ j, uk.ownBlock = some j → j < mid ∨ wA.heap.size ≤ j) := Lib.hid (fun j hj => by
      rcases hl10 with h | h
      · exact .inl (HKM.out j (by rw [← h]; exact hj))
      · exact .inr (h j hj))
    have hq11 := HQ11.out.lt
    have m4 : w11.cell? ⟨b, 4, none⟩ = some (.slice qA nk qc) := HX11.out.at_ 4
    have z0 := HZ11.out.at_ 0
    have z1 := HZ11.out.at_ 1
    have z2 := HZ11.out.at_ 2
    have z3 := HZ11.out.at_ 3
    have z4 := HZ11.out.at_ 4
    simp at z0 z1 z2 z3 z4
    obtain ⟨v2, hv2⟩ : ∃ v2, w11.heap.size = v2 := ⟨_, rfl⟩
    obtain ⟨wB, hwB⟩ : ∃ wB, w11.alloc (.cells #[.int .i64 x.kind, .int .i64 x.n, .string x.s, .slice A1 x.keys.length d1, .slice A2 x.kids.length d2] 25) = wB := ⟨_, rfl⟩
    have hbB : Below w11.heap.size w11 wB := by rw [← hwB]; exact (Below.refl _ _).alloc (Nat.le_refl _) _
    have hnB : Whole wB v2 25 (five [(x, Value.slice A1 x.keys.length d1, Value.slice A2 x.kids.length d2)]).toArray := by rw [← hwB, ← hv2]; exact Whole.made _ _ _
    have hsB : v2 < wB.heap.size := by rw [← hwB, ← hv2]; simp
    have hfB : From 0 w11 wB := From.of_below hbB
    have hoqB := own_from HQ11.out (hfB.less (Nat.zero_le _))
    have hltq : ∀ j, (Value.slice qA nk qc).ownBlock = some j → mid ≤ j ∧ j < w5.heap.size := fun j hj => ⟨(HOQ.out.lt j hj).1, ((HC5.out.lts).2 j hj).2⟩
    have HLTQ := Lib.hid hltq
    have CI2 := Lib.hid (instree_any (w := wB) (base := mid) (vb := v2) (n := nk) (i := gp) (news := five [(x, Value.slice A1 x.keys.length d1, Value.slice A2 x.kids.length d2)]) hoqB hgl (by omega) (by omega) rfl (five_one_tl (w := w11) (lo := 0) (fun y hy => by rw [List.mem_singleton] at hy; subst hy; exact HCx11.out.tl.less (Nat.zero_le _))) (five_one_tl HT11.out) hnB (fun j hj => by have := hltq j hj; omega))
    have hxB := HX11.out.below hbB HX11.out.lt
    have hyB := HY11.out.below hbB HY11.out.lt
    have HXB := Lib.hid hxB
    have HYB := Lib.hid hyB
    have HFB := Lib.hid hbB
    have HBB := Lib.hid (HB11.out.trans (hbB.mono (by have := HX11.out.lt; omega)))
    have HUK := Lib.hid huk
    rw [huk] at hw11
    clear hx10 hz10 hy10 ho10 hg10 hl10 hfm hbb10 hf11 hfm11 hfx hq11 hbB hnB hfB hoqB hltq hxB hyB huk n3
    go_wp2_with fail
    refine (CI2.out).mono ?_
    rintro e w12 ⟨vq', rfl, ho12, hg12, hl12⟩
    obtain ⟨q2A, q2c, rfl⟩ := own_shape ho12
    obtain ⟨uq, huq⟩ : ∃ uq, uq = Value.slice q2A (nk + 1) q2c := ⟨_, rfl⟩
    rw [← huq] at ho12
    have hs12 := hg12.size
    have hsB' := HFB.out.size
    have hbn2 : some b ≠ (Value.slice qA nk qc).ownBlock := fun e => by have := HLTQ.out b e.symm; omega
    have hgn2 : some g ≠ (Value.slice qA nk qc).ownBlock := fun e => by have := HLTQ.out g e.symm; omega
    have hx12 := HXB.out.grown hg12 hbn2
    have hy12 := HYB.out.grown hg12 hgn2
    have k4 : w12.cell? ⟨b, 4, none⟩ = some (.slice qA nk qc) := hx12.at_ 4
    have f4 : w12.frozen? ⟨b, 4, none⟩ = false := hx12.free 4
    have hK12 : w12.ownsRow w3.heap.size 9 1 uk (nk + 1) (txs (Tn.put t.keys gp key)) := own_grown (own_from HK11.out (From.of_below HFB.out)) hg12 (fun j hj e => by
      have h1 := HLTQ.out j e.symm
      rcases HLK.out j hj with h | h
      · omega
      · omega)
    have hbb12 : Below b wB w12 := ⟨hg12.os, hg12.tape, hg12.output, hg12.size, fun j hj => hg12.block j (by omega) (fun e => by have := HLTQ.out j e.symm; omega)⟩
    have hflo : From lo w11 w12 := (From.of_below HFB.out).trans (From.of_grown hg12 HQL.out)
    have hfx12 : From w5.heap.size w11 w12 := (From.of_below HFB.out).trans (From.of_grown hg12 (fun j hj => (HLTQ.out j hj).2))
    obtain ⟨w13, hw13⟩ : ∃ w13, w12.setCell ⟨b, 4, none⟩ uq = w13 := ⟨_, rfl⟩
    have hf13 : From w3.heap.size w12 w13 := by rw [← hw13]; exact (From.refl _ _).setCell (p := ⟨b, 4, none⟩) (by show b < w3.heap.size; omega) uq
    have hX13 : Whole w13 b 25 #[.int .i64 t.kind, .int .i64 t.n, .string t.s, uk, uq] := by rw [← hw13]; exact hx12.put 4 uq
    have HY13 : Hid (Whole w13 g 25 #[.int .i64 0, .int .i64 0, .string ⟨#[]⟩, .slice none 0 0, .slice none 0 0]) := Lib.hid (by rw [← hw13]; exact hy12.other (p := ⟨b, 4, none⟩) (by show g ≠ b; omega) uq)
    have HB13 : Hid (Below b w w13) := Lib.hid (by rw [← hw13]; exact (HBB.out.trans hbb12).setCell (p := ⟨b, 4, none⟩) (Nat.le_refl b) uq)
    have HK13 := Lib.hid (own_from hK12 hf13)
    have HQ13 : Hid (w13.ownsRow mid 25 5 uq (nk + 1) (five (Tn.put L gp (x, Value.slice A1 x.keys.length d1, Value.slice A2 x.kids.length d2)))) := Lib.hid (by
      rw [← five_put]
      exact own_from ho12 (hf13.less hm1))
    have HT13 : Hid (∀ y ∈ Tn.put L gp (x, Value.slice A1 x.keys.length d1, Value.slice A2 x.kids.length d2), Tl w13 w3.heap.size y.1 y.2.1 y.2.2) := Lib.hid (fun y hy => by
      rcases Tn.mem_put hy with rfl | hy
      · exact ((HCx11.out.tl.from_ hfx12).from_ (hf13.less (by omega))).less (by omega)
      · exact (((HT11.out y hy).from_ hflo).from_ (hf13.less (by omega))).less (by omega))
    rw [HUK.out, huq] at hX13
    have m0 := hX13.at_ 0
    have m1 := hX13.at_ 1
    have m2 := hX13.at_ 2
    have m3 := hX13.at_ 3
    have m4 := hX13.at_ 4
    simp at m0 m1 m2 m3 m4
    rw [E0.out] at m0
    have HUQ := Lib.hid huq
    rw [huq] at hw13
    clear hx12 hy12 ho12 hg12 hl12 hK12 hbb12 hflo hfx12 hf13 hX13 huq z0 z1 z2 z3 z4
    go_wp2_with (refine wpList_store_whole rfl rfl rfl rfl rfl HY13.out (treeI rfl) rfl (by simp [Value.oneCell']) ?_)
    refine bodyPost_ret (v := tval (t.set key x) (.slice k2A (nk + 1) k2c) (.slice q2A (nk + 1) q2c)) ?_ rfl ⟨.slice k2A (nk + 1) k2c, .slice q2A (nk + 1) q2c, rfl, ?_, ?_⟩
    · have hv : tval (Tn.mk t.kind t.n t.s (Tn.put t.keys gp key) (Tn.put t.kids gp x)) (.slice k2A (nk + 1) k2c) (.slice q2A (nk + 1) q2c) = .agg #[.int .i64 4, .int .i64 t.n, .string t.s, .slice k2A (nk + 1) k2c, .slice q2A (nk + 1) q2c] := by rw [← E0.out]; rfl
      rw [HS.out, hv]
      exact results_tree rfl rfl (HY13.out.row _) rfl
    · have hf : From w3.heap.size w13 (w13.setRow g #[.int .i64 4, .int .i64 t.n, .string t.s, .slice k2A (nk + 1) k2c, .slice q2A (nk + 1) q2c]) := (From.refl _ _).setRow (by omega) _
      have hlk : (Tn.put t.keys gp key).length = nk + 1 := by rw [Tn.put_length _ _ _ (by rw [hnk.out]; exact hgl), hnk.out]
      have hlL : (Tn.put L gp (x, Value.slice A1 x.keys.length d1, Value.slice A2 x.kids.length d2)).length = nk + 1 := by rw [Tn.put_length _ _ _ (by rw [HLL.out]; exact hgl), HLL.out]
      rw [HS.out]
      refine Tl.less (lo := w3.heap.size) (hl := by omega) (Tl.of_own (L := Tn.put L gp (x, .slice A1 x.keys.length d1, .slice A2 x.kids.length d2)) HCt8.out.kind HCt8.out.num HCt8.out.str ?_ (fun s hs => ?_) ?_ ?_ (fun y hy => (HT13.out y hy).from_ hf))
      · show World.ownsRow _ _ _ _ _ (Tn.put t.keys gp key).length (txs (Tn.put t.keys gp key))
        rw [hlk, ← HUK.out]
        rw [HUK.out]
        exact own_from (by rw [← HUK.out]; exact HK13.out) hf
      · rcases Tn.mem_put hs with rfl | hs
        · exact hkey
        · exact HCt8.out.sizes s hs
      · rw [hlL]
        exact own_less (own_from (by rw [← HUQ.out]; exact HQ13.out) (hf.less hm1)) hm1
      · rw [put_map, HLM.out]; rfl
    · rw [hs]
      exact below_row HB13.out (by omega) _
theorem set11_any {t x : Tn} (ft : t.Few) (fx : x.Few) {w : World} {B C : Nat} {vk vq xk xq : Value} (H : Tv w B t vk vq) (key : ByteArray) (hkey : key.size ≤ maxLen) (HX : Tv w C x xk xq) :
    Calls Tryz.prog 35 #[tval t vk vq, .string key, tval x xk xq] w (TreePost (t.set key x) w) :=
  (set11_at ft fx H key hkey HX).mono (fun e w' ⟨vk', vq', h1, h2, h3⟩ => ⟨vk', vq', h1, h2.tv, h3⟩)
end Go.Proofs.YtldjdoebappkoaaGreatDoor
