/- Contract of the reference's Set of layer 11. -/
import Derived.Test.YtbimalafcgmnaaaOwn11
import Derived.Deep.CutRange
namespace Go.Proofs.Ytbimalafcgmnaaa
open Go.RowKit
set_option linter.unusedVariables false
set_option maxRecDepth 100000
set_option linter.unusedSimpArgs false

theorem results_tree {fn : Func} {p : Tmp} {tmps : Array Value} {w : World} {g : Nat} {cs : Array Value} (h : fn.results = #[.cell p 25])
    (hp : tmps.getD p undef = .pointer (some ⟨g, 0, none⟩)) (hg : Whole w g 25 cs) (hc : cs.size = 5) :
    (results fn tmps).run Try.prog w = .ok (.agg cs) w := by
  have hp' : tmps[p]?.getD undef = .pointer (some ⟨g, 0, none⟩) := by simpa using hp
  simp [results, h, hp', asAddr, run_loadVar_row w g 25 25 cs (0, 0) _ hg Try.underlying25 rfl (treeI hc)]
theorem Tn.set_same {t : Tn} {key : ByteArray} {x : Tn} (h : t.fits = false) : t.set key x = t := by unfold set; rw [if_pos h]
theorem Tn.fits_false {t : Tn} (h : ¬ t.kind = 4 ∨ ¬ t.keys.length = t.kids.length) : t.fits = false := by
  unfold fits
  rcases h with h | h <;> simp [h]
/-- an answer that is a tree -/
def TreePost (t : Tn) (w : World) (e : Ending) (w' : World) : Prop := ∃ vk vq, e = .returned (tval t vk vq) ∧ Tv w' w'.heap.size t vk vq ∧ Below w.heap.size w w'
theorem treeZ : (Try.prog.info? 25).map (fun i => (i.zero, i.size, i.bytes)) = some (some (.agg #[.int .i64 0, .int .i64 0, .string ⟨#[]⟩, .slice none 0 0, .slice none 0 0]), 5, 80) := by kernel_rfl

theorem own_other {w : World} {base g n sz : Nat} {E : TypeId} {v : Value} {xs : List Value} (h : w.ownsRow base E sz v n xs) (hg : g < base) (cs : Array Value) : (w.setRow g cs).ownsRow base E sz v n xs := by
  obtain ⟨h1, h2⟩ := h
  refine ⟨h1, ?_⟩
  rcases h2 with h2 | ⟨k, cap, cur, hv, hk, hh, r⟩
  · exact .inl h2
  · exact .inr ⟨k, cap, cur, hv, hk, (setRow_other w g k cs (by omega)).trans hh, r⟩
theorem mem_set {α : Type} {l : List α} {i : Nat} {x y : α} (h : y ∈ l.set i x) : y = x ∨ y ∈ l := by
  rcases List.mem_or_eq_of_mem_set h with h | h
  · exact .inr h
  · exact .inl h
set_option maxHeartbeats 4000000 in
theorem rset11_old {t x : Tn} {w : World} {B C : Nat} {vk vq xk xq : Value} (H : Tv w B t vk vq) (hl1 : t.keys.length ≤ 100000) (hl2 : t.kids.length ≤ 100000) (key : ByteArray) (hkey : key.size ≤ maxLen) (HX : Tv w C x xk xq) (hw : t.fits = true → Tn.place t.keys key < t.keys.length) :
    Calls Try.prog 17 #[tval t vk vq, .string key, tval x xk xq] w (TreePost (t.set key x) w) := by
  obtain ⟨Axk, cxk, rfl, _⟩ := HX.keys
  obtain ⟨Axq, cxq, rfl, _⟩ := HX.kids
  obtain ⟨b, w1, hs, hal, hT1, hb1⟩ := boxedT H
  have hTw : Tv w b t vk vq := by rw [← hs]; exact H.all
  obtain ⟨A, c, L, rfl, hL, h1, h2, h3, hKw⟩ := hTw.kv.list
  have HTw := Lib.hid hTw
  have HXv : Hid (Tv w b x (.slice Axk x.keys.length cxk) (.slice Axq x.kids.length cxq)) := Lib.hid (by rw [← hs]; exact HX.all)
  have HX1 : Tv w1 w1.heap.size x (.slice Axk x.keys.length cxk) (.slice Axq x.kids.length cxq) := (HX.all.keep (by rw [hs]; exact hb1)).all
  obtain ⟨b2, w2, hs2, hal2, hX2, hb2⟩ := boxedT HX1
  obtain ⟨g, w3, hg, hal3, hY, hb3, hs3⟩ := var_tree w2
  have hbb : b < b2 := by rw [← hs2]; exact hT1.lt
  have hbg : b2 < g := by rw [← hg]; exact hX2.lt
  have hT := (hT1.below hb2 hbb).below hb3 (by omega)
  have hX := hX2.below hb3 hbg
  have HT := Lib.hid hT
  have HXb := Lib.hid hX
  have HY := Lib.hid hY
  have HB3 : Hid (Below b w w3) := Lib.hid (hb1.trans ((hb2.trans (hb3.mono (by omega))).mono (by omega)))
  obtain ⟨c0, c1, c2, c3, c4⟩ := hT.cells
  have HPL := Lib.hid (rplace_any hT.tv.keys key)
  have HKw := Lib.hid hKw
  have HKs : Hid (Ks w3 b A L) := Lib.hid (hKw.below HB3.out)
  obtain ⟨Ak, ck, rfl, hSk⟩ := hT.tv.keys
  have HSk := Lib.hid hSk.1
  have hsk := hSk.2
  unfold maxLen at h2 hsk
  obtain ⟨hsk1, hsk2, hsk3, hsk4⟩ := hsk
  have HSZ := Lib.hid hsk4
  have hpl := Tn.place_le t.keys key
  have S1 := Lib.hid (fun h => Tn.set_same (t := t) (key := key) (x := x) h)
  have F1 := Lib.hid (fun h => Tn.fits_false (t := t) h)
  have HLn : Hid (L.length = t.kids.length) := Lib.hid (by rw [← hL]; simp)
  obtain ⟨n, hn⟩ : ∃ n, Hid (L.length = n) := ⟨_, rfl⟩
  obtain ⟨nk, hnk⟩ : ∃ n, Hid (t.keys.length = n) := ⟨_, rfl⟩
  rw [hnk.out] at hl1 c3 hsk1 hal HPL hpl F1 ⊢
  rw [← HLn.out] at hl2 F1
  rw [hn.out] at hl2 h1 c4 hal F1 ⊢
  unfold tcells at hal hal2
  unfold tval
  clear hT1 hT hX2 hX H HX HX1 hKw hTw hSk hsk4 hY hb1 hb2 hb3
  have HTv : Hid (Tv w3 b t (.slice Ak nk ck) (.slice A n c)) := Lib.hid (by rw [← hnk.out, ← hn.out]; exact HT.out.tv)
  by_cases e0 : t.kind = 4
  case neg =>
    have HS := Lib.hid (S1.out (F1.out (.inl e0)))
    have q : (t.kind == 4) = false := by simpa using e0
    have q1 : (t.kind != 4) = true := by simpa using e0
    go_enter Try.func17, Try.ntmps17
    go_wp2_with (refine wpList_store_whole rfl rfl rfl rfl rfl HY.out (treeI rfl) rfl (by simp [Value.oneCell']) ?_)
    refine bodyPost_ret (v := tval t (.slice Ak nk ck) (.slice A n c)) ?_ rfl ⟨.slice Ak nk ck, .slice A n c, by rw [HS.out], ?_, by rw [hs]; exact below_row HB3.out (by omega) _⟩
    · exact results_tree rfl rfl (HY.out.row _) rfl
    · rw [HS.out]
      exact (HTv.out.keep (below_row (Below.refl _ _) (show b ≤ g by omega) _)).all
  rw [e0] at hal c0 ⊢
  by_cases e1 : nk = n
  case neg =>
    have HS := Lib.hid (S1.out (F1.out (.inr e1)))
    have q : ((nk : Int) == (n : Int)) = false := by simp; omega
    have q1 : ((nk : Int) != (n : Int)) = true := by simp; omega
    go_enter Try.func17, Try.ntmps17
    go_wp2_with (refine wpList_store_whole rfl rfl rfl rfl rfl HY.out (treeI rfl) rfl (by simp [Value.oneCell']) ?_)
    refine bodyPost_ret (v := tval t (.slice Ak nk ck) (.slice A n c)) ?_ rfl ⟨.slice Ak nk ck, .slice A n c, by rw [HS.out], ?_, by rw [hs]; exact below_row HB3.out (by omega) _⟩
    · rw [← e0]; exact results_tree rfl rfl (HY.out.row _) rfl
    · rw [HS.out]
      exact (HTv.out.keep (below_row (Below.refl _ _) (show b ≤ g by omega) _)).all
  subst e1
  clear S1 F1
  obtain ⟨p, hp⟩ : ∃ p, Hid (Tn.place t.keys key = p) := ⟨_, rfl⟩
  rw [hp.out] at HPL hpl
  by_cases e2 : p < nk
  · have HS := Lib.hid (Tn.set_found (t := t) (key := key) (x := x) (by unfold Tn.fits; simp [e0, hnk.out, ← HLn.out, hn.out]) (by rw [hp.out, hnk.out]; exact e2))
    rw [hp.out] at HS
    obtain ⟨w5, hal5⟩ : ∃ w5, w3.alloc (.cells #[] 25) = w5 := ⟨_, rfl⟩
    have hB5 : Below w3.heap.size w3 w5 := by rw [← hal5]; exact (Below.refl _ _).alloc (Nat.le_refl _) _
    have hO5 : w5.ownsRow (g + 1) 25 5 (.slice (some ⟨g + 1, 0, none⟩) 0 0) 0 [] := by rw [← hal5, ← hs3]; exact World.ownsRow_made _ _ 0 (by omega) (by unfold maxLen; omega) rfl
    have hs5 : w5.heap.size = g + 2 := by rw [← hal5]; simp [hs3]
    have k0 : w5.cell? ⟨b, 0, none⟩ = _ := (hB5.cell (lt_of_cell c0)).trans c0
    have k1 : w5.cell? ⟨b, 1, none⟩ = _ := (hB5.cell (lt_of_cell c1)).trans c1
    have k2 : w5.cell? ⟨b, 2, none⟩ = _ := (hB5.cell (lt_of_cell c2)).trans c2
    have k3 : w5.cell? ⟨b, 3, none⟩ = _ := (hB5.cell (lt_of_cell c3)).trans c3
    have k4 : w5.cell? ⟨b, 4, none⟩ = _ := (hB5.cell (lt_of_cell c4)).trans c4
    have HO5 := Lib.hid hO5
    have HB5 : Hid (Below w3.heap.size w3 w5) := Lib.hid hB5
    have HSr : Hid (Src w5 A (five L)) := Lib.hid (HKs.out.below (hB5.mono (by omega))).src
    have HF1 := Lib.hid (five_one HKs.out.tv)
    clear hB5 hO5
    go_enter Try.func17, Try.ntmps17
    go_upto_region 6 with (first | (refine (HPL.out).mono ?_; rintro e w4 ⟨rfl, rfl⟩) | (at_builtin; refine wpList_append_cells Try.underlying23 treeZ rfl (by decide) (by decide) _ _ rfl rfl (g + 1) _ 0 [] rfl HO5.out nk c (five L) rfl (by rw [five_length, hn.out]) h3 h1 HSr.out HF1.out (by omega) (by omega) ?_; intro v6 w6 ho6 hg6 _; rw [Nat.zero_add, List.nil_append] at ho6; obtain ⟨g6, cap6, rfl, hbg6, hlt6⟩ := ho6.form (by omega); have hb6 : Below (g + 1) w5 w6 := (Below.refl _ _).grown hg6 (by omega) (fun k hk => by cases hk; exact Nat.le_refl _); have j0 := (hb6.cell (p := ⟨b, 4, none⟩) (show b < g + 1 by omega)).trans k4; have j1 : w6.frozen? ⟨b, 4, none⟩ = false := (HT.out.below (HB5.out.trans (hb6.mono (by omega))) (by omega)).bx.free 4))
    obtain ⟨w7, hw7⟩ : ∃ w7, w6.setCell ⟨b, 4, none⟩ (.slice (some ⟨g6, 0, none⟩) nk cap6) = w7 := ⟨_, rfl⟩
    rw [hw7]
    have hpL : p < L.length := by rw [hn.out]; exact e2
    have ho7 : w7.ownsRow (g + 1) 25 5 (.slice (some ⟨g6, 0, none⟩) nk cap6) nk (five L) := by rw [← hw7]; exact ownsRow_setCell_below ho6 (show b < g + 1 by omega) _
    have hW6 := (HT.out.below (HB5.out.trans (hb6.mono (by omega))) (by omega)).bx
    have hW7 := hW6.put 4 (.slice (some ⟨g6, 0, none⟩) nk cap6)
    rw [hw7] at hW7
    have hX7 : Whole w7 b2 25 (tcells x (.slice Axk x.keys.length cxk) (.slice Axq x.kids.length cxq)) := by
      rw [← hw7]
      exact ((HXb.out.below (HB5.out.trans (hb6.mono (by omega))) (by omega)).bx).other (by simp; omega) _
    have hY7 : Whole w7 g 25 #[.int .i64 0, .int .i64 0, .string ⟨#[]⟩, .slice none 0 0, .slice none 0 0] := by
      rw [← hw7]
      exact ((HY.out.below HB5.out (by omega)).below hb6 (by omega)).other (by simp; omega) _
    have HB7 : Hid (Below b w w7) := Lib.hid (by rw [← hw7]; exact ((HB3.out.trans (HB5.out.mono (by omega))).trans (hb6.mono (by omega))).setCell (p := ⟨b, 4, none⟩) (Nat.le_refl _) _)
    have m0 := hW7.at_ 0
    have m4 := hW7.at_ 4
    have q0 := hX7.at_ 0
    have q1 := hX7.at_ 1
    have q2 := hX7.at_ 2
    have q3 := hX7.at_ 3
    have q4 := hX7.at_ 4
    have HTh := Lib.hid (own_there ho7 hn.out.symm hpL)
    have HO7 := Lib.hid ho7
    have HY7 := Lib.hid hY7
    have HW7 := Lib.hid hW7
    simp at m0 m4 q0 q1 q2 q3 q4
    clear ho6 hg6 hb6 j0 j1 hw7 hW6 hX7 hY7 ho7 hW7 k0 k1 k2 k3 k4 c0 c1 c2 c3 c4 hal hal2 hal3 hal5
    go_upto_region 7 with (refine wpList_store_mid rfl 25 _ _ rfl g6 (p * 5) #[.int .i64 x.kind, .int .i64 x.n, .string x.s, .slice Axk x.keys.length cxk, .slice Axq x.kids.length cxq] rfl rfl HTh.out (treeI rfl) (by simp [Value.oneCell']) ?_)
    try simp only [Act.put]
    obtain ⟨w8, hw8⟩ : ∃ w8, w7.setCells g6 (p * 5) (#[.int .i64 x.kind, .int .i64 x.n, .string x.s, .slice Axk x.keys.length cxk, .slice Axq x.kids.length cxq] : Array Value).toList = w8 := ⟨_, rfl⟩
    have hb8 : Below (g + 1) w7 w8 := by rw [← hw8]; exact below_setCells (by omega) _ _ (Below.refl _ _)
    have ho8 : w8.ownsRow (g + 1) 25 5 (.slice (some ⟨g6, 0, none⟩) nk cap6) nk (five (L.set p (x, .slice Axk x.keys.length cxk, .slice Axq x.kids.length cxq))) := by rw [← hw8]; exact own_store HO7.out hn.out.symm hpL (x, .slice Axk x.keys.length cxk, .slice Axq x.kids.length cxq)
    have hW8 := HW7.out.below hb8 (by omega)
    have HY8 := Lib.hid (HY7.out.below hb8 (by omega))
    have HB8 := Lib.hid (HB7.out.trans (hb8.mono (by omega)))
    simp only [] at hw8
    rw [hw8]
    have m0 := hW8.at_ 0
    have m1 := hW8.at_ 1
    have m2 := hW8.at_ 2
    have m3 := hW8.at_ 3
    have m4 := hW8.at_ 4
    simp [hnk.out] at m0 m1 m2 m3 m4
    rw [e0] at m0
    have HO8 := Lib.hid ho8
    clear hw8 ho8 hb8 hW8 q0 q1 q2 q3 q4
    go_wp2_with (refine wpList_store_whole rfl rfl rfl rfl rfl HY8.out (treeI rfl) rfl (by simp [Value.oneCell']) ?_)
    obtain ⟨w9, hw9⟩ : ∃ w9, w8.setRow g #[.int .i64 4, .int .i64 t.n, .string t.s, .slice Ak nk ck, .slice (some ⟨g6, 0, none⟩) nk cap6] = w9 := ⟨_, rfl⟩
    have hO9 : w9.ownsRow (g + 1) 25 5 (.slice (some ⟨g6, 0, none⟩) nk cap6) nk (five (L.set p (x, .slice Axk x.keys.length cxk, .slice Axq x.kids.length cxq))) := by rw [← hw9]; exact own_other HO8.out (by omega) _
    have hB9 : Below b w w9 := by rw [← hw9]; exact below_row HB8.out (by omega) _
    refine bodyPost_ret (v := tval (t.set key x) (.slice Ak nk ck) (.slice (some ⟨g6, 0, none⟩) nk cap6)) ?_ rfl ⟨.slice Ak nk ck, .slice (some ⟨g6, 0, none⟩) nk cap6, rfl, ?_, ?_⟩
    · have hv : tval (Tn.mk t.kind t.n t.s t.keys (t.kids.set p x)) (.slice Ak nk ck) (.slice (some ⟨g6, 0, none⟩) nk cap6) = .agg #[.int .i64 4, .int .i64 t.n, .string t.s, .slice Ak nk ck, .slice (some ⟨g6, 0, none⟩) nk cap6] := by rw [← e0]; rfl
      rw [HS.out, hv]
      exact results_tree rfl rfl (HY8.out.row _) rfl
    · rw [hw9, HS.out]
      have hTv9 := HTw.out.keep hB9
      have hbs : b ≤ w9.heap.size := by rw [← hs]; exact hB9.size
      have hx9 : Tv w9 w9.heap.size x (.slice Axk x.keys.length cxk) (.slice Axq x.kids.length cxq) := (HXv.out.keep hB9).more hbs
      rw [← hnk.out]
      refine Tv.of hTv9.kind hTv9.num hTv9.str (hTv9.keys.more hbs) (Kv.of_own (L := L.set p (x, .slice Axk x.keys.length cxk, .slice Axq x.kids.length cxq)) (base := g + 1) (by rw [List.length_set, hn.out, hnk.out]; exact hO9) (by rw [List.map_set, hL]; rfl) (Nat.le_refl _) (fun y hy => ?_))
      rcases mem_set hy with rfl | hy
      · exact hx9
      · exact ((HKw.out.tv y hy).keep hB9).more hbs
    · rw [hw9, hs]; exact hB9
  · exact absurd (by have h := hw (by unfold Tn.fits; simp [e0, hnk.out, ← HLn.out, hn.out]); rw [hp.out, hnk.out] at h; exact h) e2
end Go.Proofs.Ytbimalafcgmnaaa
