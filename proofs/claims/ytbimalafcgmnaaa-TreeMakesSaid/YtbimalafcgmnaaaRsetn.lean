/- Contract of the reference's Set of layer 11, where the key is new. -/
import Derived.Test.YtbimalafcgmnaaaRset11
namespace Go.Proofs.Ytbimalafcgmnaaa
open Go.RowKit
set_option linter.unusedVariables false
set_option maxRecDepth 100000
set_option linter.unusedSimpArgs false
namespace Tn
theorem gap_not {l : List ByteArray} {key : ByteArray} {i : Nat} (h : i < gap l key) (hl : i < l.length) : less key l[i] = false := by
  have := List.not_of_lt_findIdx h
  simpa using this
theorem gap_is {l : List ByteArray} {key : ByteArray} {i : Nat} (hl : i < l.length) (h : ∀ j (h : j < i), less key (l[j]'(by omega)) = false) (h1 : less key l[i] = true) : gap l key = i := by
  unfold gap
  refine (List.findIdx_eq hl).2 ⟨h1, fun j hj => by simpa using h j hj⟩
theorem gap_end {l : List ByteArray} {key : ByteArray} (h : ∀ k ∈ l, less key k = false) : gap l key = l.length := by
  unfold gap
  exact List.findIdx_eq_length.2 (fun k hk => by simpa using h k hk)
end Tn

theorem strZ11 : (Try.prog.info? 9).map (fun i => (i.zero, i.size, i.bytes)) = some (some (.string ⟨#[]⟩), 1, 16) := by kernel_rfl
theorem own_lit0 {E sz : Nat} (w : World) {base z : Nat} (hz : w.heap.size = z) (hb : base ≤ z) : (w.alloc (.cells #[] E)).ownsRow base E sz (.slice (some ⟨z, 0, none⟩) 0 0) 0 [] := by
  subst hz
  exact World.ownsRow_made _ _ 0 hb (by unfold maxLen; omega) (by simp)
theorem src_lit {E : Nat} (w : World) {z : Nat} (hz : w.heap.size = z) (cs : Array Value) : Src (w.alloc (.cells cs E)) (some ⟨z, 0, none⟩) cs.toList := fun j u hu => by
  subst hz
  refine ⟨_, 0, rfl, ?_⟩
  rw [Nat.zero_add, cell_of_row _ _ j cs E (0, 0) (heap_alloc_new w _), ← hu]
  simp
theorem below_lit {E : Nat} (w : World) {z : Nat} (hz : w.heap.size = z) (cs : Array Value) : Below z w (w.alloc (.cells cs E)) := (Below.refl z w).alloc (by omega) _
theorem cutAt_add (A : Option Addr) (c j : Nat) (h : c ≠ j) : (if c = j then A else A.map (fun x => x.add j)) = A.map (fun x => x.add j) := if_neg h
theorem Sc.cut {w : World} {B c j : Nat} {A : Option Addr} {l : List ByteArray} (h : Sc w B A l) (hc : l.length ≤ c) : Sc w B (if c = j then A else A.map (fun x => x.add j)) (l.drop j) := by
  intro i hi
  rw [List.length_drop] at hi
  rw [if_neg (by omega)]
  obtain ⟨b, off, e, hb, hcl⟩ := h (j + i) (by omega)
  subst e
  refine ⟨b, off + j, by simp [Addr.add_mid], hb, ?_⟩
  rw [List.getElem_drop, Nat.add_assoc]
  exact hcl
theorem Ks.cut {w : World} {B c j : Nat} {A : Option Addr} {L : List Tq} (h : Ks w B A L) (hc : L.length ≤ c) : Ks w B (if c = j then A else A.map (fun x => x.add (j * 5))) (L.drop j) := by
  intro i hi
  rw [List.length_drop] at hi
  rw [if_neg (by omega)]
  obtain ⟨b, off, e, hb, hcl⟩ := h (j + i) (by omega)
  subst e
  refine ⟨b, off + j * 5, by simp [Addr.add_mid], hb, ?_⟩
  rw [List.getElem_drop, show off + j * 5 + i * 5 = off + (j + i) * 5 by omega]
  exact hcl
theorem cut_null {A : Option Addr} {c j k : Nat} (h : A = none → c = 0) (e : (if c = j then A else A.map (fun x => x.add k)) = none) : c - j = 0 := by
  split at e
  · omega
  · cases A with
    | none => have := h rfl; omega
    | some a => simp at e
def pickIf (c j : Nat) (X Y : Option Addr) : Option Addr := if c = j then X else Y
set_option maxHeartbeats 4000000 in
theorem rset11_new {t x : Tn} {w : World} {B C : Nat} {vk vq xk xq : Value} (H : Tv w B t vk vq) (hl1 : t.keys.length ≤ 100000) (hl2 : t.kids.length ≤ 100000) (key : ByteArray) (hkey : key.size ≤ maxLen) (HX : Tv w C x xk xq) (hf : t.fits = true) (hw : ¬ Tn.place t.keys key < t.keys.length) :
    Calls Try.prog 17 #[tval t vk vq, .string key, tval x xk xq] w (TreePost (t.set key x) w) := by
  obtain ⟨Axk, cxk, rfl, _⟩ := HX.keys
  obtain ⟨Axq, cxq, rfl, _⟩ := HX.kids
  obtain ⟨b, w1, hs, hal, hT1, hb1⟩ := boxedT H
  have hTw : Tv w b t vk vq := by rw [← hs]; exact H.all
  obtain ⟨A, c, L, rfl, hL, h1, h2, h3, hKw⟩ := hTw.kv.list
  have HTw := Lib.hid hTw
  have HXv : Hid (Tv w b x (.slice Axk x.keys.length cxk) (.slice Axq x.kids.length cxq)) := Lib.hid (by rw [← hs]; exact HX.all)
  have HX1 : Tv w1 w1.heap.size x (.slice Axk x.keys.length cxk) (.slice Axq x.kids.length cxq) := (HX.all.keep (by rw [hs]; exact hb1)).all
  obtain ⟨b2, w2, hs2, hal2, hX2, hb2⟩ := boxedT HX1
  obtain ⟨g, w3, hg, hal3, hY, hb3, hs3⟩ := var_tree w2
  have hbb : b < b2 := by rw [← hs2]; exact hT1.lt
  have hbg : b2 < g := by rw [← hg]; exact hX2.lt
  have hT := (hT1.below hb2 hbb).below hb3 (by omega)
  have hX := hX2.below hb3 hbg
  have HT := Lib.hid hT
  have HXb := Lib.hid hX
  have HY := Lib.hid hY
  have HB3 : Hid (Below b w w3) := Lib.hid (hb1.trans ((hb2.trans (hb3.mono (by omega))).mono (by omega)))
  obtain ⟨c0, c1, c2, c3, c4⟩ := hT.cells
  have HPL := Lib.hid (rplace_any hT.tv.keys key)
  have HKw := Lib.hid hKw
  have HKs : Hid (Ks w3 b A L) := Lib.hid (hKw.below HB3.out)
  obtain ⟨Ak, ck, rfl, hSk⟩ := hT.tv.keys
  have HSk := Lib.hid hSk.1
  have hsk := hSk.2
  unfold maxLen at h2 hsk
  obtain ⟨hsk1, hsk2, hsk3, hsk4⟩ := hsk
  have HSZ := Lib.hid hsk4
  have hpl := Tn.place_le t.keys key
  have S1 := Lib.hid (fun h => Tn.set_same (t := t) (key := key) (x := x) h)
  have F1 := Lib.hid (fun h => Tn.fits_false (t := t) h)
  have HLn : Hid (L.length = t.kids.length) := Lib.hid (by rw [← hL]; simp)
  obtain ⟨n, hn⟩ : ∃ n, Hid (L.length = n) := ⟨_, rfl⟩
  obtain ⟨nk, hnk⟩ : ∃ n, Hid (t.keys.length = n) := ⟨_, rfl⟩
  rw [hnk.out] at hl1 c3 hsk1 hal HPL hpl F1 ⊢
  rw [← HLn.out] at hl2 F1
  rw [hn.out] at hl2 h1 c4 hal F1 ⊢
  unfold tcells at hal hal2
  unfold tval
  clear hT1 hT hX2 hX H HX HX1 hKw hTw hSk hsk4 hY hb1 hb2 hb3
  have HTv : Hid (Tv w3 b t (.slice Ak nk ck) (.slice A n c)) := Lib.hid (by rw [← hnk.out, ← hn.out]; exact HT.out.tv)
  have e0 : t.kind = 4 := (Tn.fits_eq hf).1
  have e1 : nk = n := by rw [← hnk.out, ← hn.out, HLn.out]; exact (Tn.fits_eq hf).2
  rw [e0] at hal c0 ⊢
  subst e1
  clear S1 F1
  have HS := Lib.hid (Tn.set_new (t := t) (key := key) (x := x) hf hw)
  rw [hnk.out] at hw
  obtain ⟨p, hp⟩ : ∃ p, Hid (Tn.place t.keys key = p) := ⟨_, rfl⟩
  rw [hp.out] at HPL hpl
  have epn : ¬ p < nk := by rw [← hp.out]; exact hw
  have epn2 : p = nk := by omega
  subst epn2
  have G1 := Lib.hid (fun i hi h h1 => Tn.gap_is (l := t.keys) (key := key) (i := i) hi h h1)
  have G2 := Lib.hid (fun h => Tn.gap_end (l := t.keys) (key := key) h)
  have hgl := Tn.gap_le t.keys key
  obtain ⟨q, hq⟩ : ∃ q, Hid (Tn.gap t.keys key = q) := ⟨_, rfl⟩
  rw [hq.out] at G1 G2 hgl
  rw [hnk.out] at hgl
  have HLs := Lib.hid (fun i (hi : i < t.keys.length) => rless_any key t.keys[i] hkey (HSZ.out _ (List.getElem_mem hi)))
  have HCt := Lib.hid (fun W (h : Below w3.heap.size w3 W) => (HT.out.keep h).cells)
  rw [hnk.out, hn.out] at HCt
  go_enter Try.func17, Try.ntmps17
  go_wp2_with (refine (HPL.out).mono ?_; rintro e w4 ⟨rfl, rfl⟩)
  have hbw : b ≤ w3.heap.size := by omega
  clear c0 c1 c2 c3 c4
  go_loopw [7] (fun v7 wr => ∃ (i : Nat), i ≤ p ∧ v7 = .int .i64 i ∧ Hid (∀ j, j < i → ∀ (h : j < t.keys.length), Tn.less key t.keys[j] = false) ∧ Hid (Below w3.heap.size w3 wr)) (fun v _ => p - (intOf v).toNat)
  case atStart => exact ⟨0, by omega, rfl, Lib.hid (fun j hj => by omega), Lib.hid (Below.refl _ _)⟩
  case round =>
    obtain ⟨i, hi, rfl, HI, HC⟩ := hrel
    obtain ⟨d0, d1, d2, d3, d4⟩ := HCt.out wr HC.out
    by_cases hlt : i < p
    · have hia : i < t.keys.length := by rw [hnk.out]; exact hlt
      obtain ⟨x1, o1, eAk, _, g1⟩ := Sc.below HSk.out (HC.out.mono hbw) i hia
      rw [eAk] at d3
      clear eAk
      have HLi := Lib.hid (HLs.out i hia wr)
      have HE : Hid (Tn.less key t.keys[i] = true → q = i) := Lib.hid (fun h => (G1.out i hia (fun j hj => HI.out j hj (by omega)) h).symm ▸ rfl)
      have HN : Hid (Tn.less key t.keys[i] = false → ∀ j, j < i + 1 → ∀ (h : j < t.keys.length), Tn.less key t.keys[j] = false) := Lib.hid (fun h j hj hj2 => by
        by_cases e : j = i
        · subst e; exact h
        · exact HI.out j (by omega) hj2)
      obtain ⟨u, hu⟩ : ∃ u, Hid (t.keys[i] = u) := ⟨t.keys[i], Lib.hid rfl⟩
      rw [hu.out] at g1 HLi HE HN
      obtain ⟨y, hy⟩ : ∃ y, Hid (Tn.less key u = y) := ⟨_, rfl⟩
      rw [hy.out] at HLi HE HN
      go_wp2_with fail
      refine (HLi.out).mono ?_
      rintro e w4 ⟨rfl, hb4⟩
      have HC4 := Lib.hid (HC.out.trans (hb4.mono HC.out.size))
      clear hb4
      cases y with
      | false =>
        have HN' := Lib.hid (HN.out rfl)
        clear HE HN HI
        go_wp2_with fail
        go_roundw
        case rel => exact ⟨i + 1, by omega, by go_num, HN', HC4⟩
        case measure => simp [intOf]; omega
      | true =>
        obtain rfl : i = q := (HE.out rfl).symm
        clear HE HN HI
        clear d0 d1 d2 d3 d4
        obtain ⟨d0, d1, d2, d3, d4⟩ := HCt.out w4 HC4.out
        go_upto_region 11 with fail
        obtain ⟨z, hz⟩ : ∃ z, w4.heap.size = z := ⟨_, rfl⟩
        have hzb : w3.heap.size ≤ z := by rw [← hz]; exact HC4.out.size
        obtain ⟨wa, hala⟩ : ∃ wa, w4.alloc (.cells #[] 9) = wa := ⟨_, rfl⟩
        have hBa : Below z w4 wa := by rw [← hala]; exact below_lit _ hz _
        have hOa : wa.ownsRow z 9 1 (.slice (some ⟨z, 0, none⟩) 0 0) 0 [] := by rw [← hala]; exact own_lit0 _ hz (Nat.le_refl _)
        have hsa : wa.heap.size = z + 1 := by rw [← hala]; simp [hz]
        have HBa : Hid (Below w3.heap.size w3 wa) := Lib.hid (HC4.out.trans (hBa.mono hzb))
        have k3 := (HCt.out wa HBa.out).2.2.2.1
        have HOa := Lib.hid hOa
        have HSa : Hid (Src wa Ak (txs (t.keys.take i))) := Lib.hid ((Sc.below HSk.out (HBa.out.mono hbw)).take i).src
        have hli : (t.keys.take i).length = i := by rw [List.length_take, hnk.out]; omega
        clear hBa hOa
        go_upto_region 12 with (at_builtin; refine wpList_append_cells Try.underlying22 strZ11 rfl (by decide) (by decide) _ _ rfl rfl z (.slice (some ⟨z, 0, none⟩) 0 0) 0 [] rfl HOa.out i ck (txs (t.keys.take i)) rfl (by rw [txs_length, hli, Nat.mul_one]) hsk3 (by omega) HSa.out (txs_one _) (by omega) (by omega) ?_; intro v1 w5 ho5 hg5 _; rw [Nat.zero_add, List.nil_append] at ho5)
        have hb5 : Below z wa w5 := (Below.refl _ _).grown hg5 (by omega) (fun k hk => by cases hk; exact Nat.le_refl _)
        have HB5 : Hid (Below w3.heap.size w3 w5) := Lib.hid (HBa.out.trans (hb5.mono hzb))
        obtain ⟨z5, hz5⟩ : ∃ z5, w5.heap.size = z5 := ⟨_, rfl⟩
        have hzz5 : z ≤ z5 := by have := hb5.size; omega
        obtain ⟨wb, halb⟩ : ∃ wb, w5.alloc (.cells #[.string key] 9) = wb := ⟨_, rfl⟩
        have hBb : Below z5 w5 wb := by rw [← halb]; exact below_lit _ hz5 _
        have hob : wb.ownsRow z 9 1 v1 i (txs (t.keys.take i)) := by rw [← halb]; exact ho5.alloc _
        have hsrcb : Src wb (some ⟨z5, 0, none⟩) [.string key] := by rw [← halb]; exact src_lit _ hz5 _
        have hsb : wb.heap.size = z5 + 1 := by rw [← halb]; simp [hz5]
        have HBb : Hid (Below w3.heap.size w3 wb) := Lib.hid (HB5.out.trans (hBb.mono (by omega)))
        have HOb := Lib.hid hob
        have HSb := Lib.hid hsrcb
        clear hBb hob hsrcb hb5 ho5 hg5 hala k3 HOa HSa
        go_upto_region 13 with (at_builtin; refine wpList_append_cells Try.underlying22 strZ11 rfl (by decide) (by decide) _ _ rfl rfl z v1 i _ rfl HOb.out 1 1 [.string key] rfl rfl (fun h => by cases h) (Nat.le_refl _) HSb.out (by simp [Value.oneCell']) (by omega) (by omega) ?_; intro v2 w6 ho6 hg6 _)
        have hb6 : Below z wb w6 := (Below.refl _ _).grown hg6 (by omega) (fun k hk => (HOb.out.lt k hk).1)
        have HB6 : Hid (Below w3.heap.size w3 w6) := Lib.hid (HBb.out.trans (hb6.mono hzb))
        obtain ⟨g2, c2, rfl, hg2, hg2'⟩ := ho6.form (by omega)
        have HO6 := Lib.hid ho6
        obtain ⟨z6, hz6⟩ : ∃ z6, w6.heap.size = z6 := ⟨_, rfl⟩
        have hzz6 : z5 ≤ z6 := by have := hb6.size; omega
        rw [hz6] at hg2'
        clear hb6 ho6 hg6 halb HOb HSb
        obtain ⟨wc, halc⟩ : ∃ wc, w6.alloc (.cells #[] 25) = wc := ⟨_, rfl⟩
        have hBc : Below z6 w6 wc := by rw [← halc]; exact below_lit _ hz6 _
        have hOc : wc.ownsRow z6 25 5 (.slice (some ⟨z6, 0, none⟩) 0 0) 0 [] := by rw [← halc]; exact own_lit0 _ hz6 (Nat.le_refl _)
        have hsc : wc.heap.size = z6 + 1 := by rw [← halc]; simp [hz6]
        have HBc : Hid (Below w3.heap.size w3 wc) := Lib.hid (HB6.out.trans (hBc.mono (by omega)))
        have HOK1 : Hid (wc.ownsRow z 9 1 (.slice (some ⟨g2, 0, none⟩) (i + 1) c2) (i + 1) (txs (t.keys.take i) ++ [.string key])) := Lib.hid (by rw [← halc]; exact HO6.out.alloc _)
        have k4 := (HCt.out wc HBc.out).2.2.2.2
        have HOc := Lib.hid hOc
        have HSc : Hid (Src wc A (five (L.take i))) := Lib.hid ((HKs.out.below (HBc.out.mono hbw)).take i).src
        have HFc : Hid (∀ u ∈ five (L.take i), u.oneCell' = true) := Lib.hid (five_one ((HKs.out.take i).tv))
        have hLi : (L.take i).length = i := by rw [List.length_take, hn.out]; omega
        clear hBc hOc
        go_upto_region 14 with (at_builtin; refine wpList_append_cells Try.underlying23 treeZ rfl (by decide) (by decide) _ _ rfl rfl z6 (.slice (some ⟨z6, 0, none⟩) 0 0) 0 [] rfl HOc.out i c (five (L.take i)) rfl (by rw [five_length, hLi]) h3 (by omega) HSc.out HFc.out (by omega) (by omega) ?_; intro v3 w7 ho7 hg7 _; rw [Nat.zero_add, List.nil_append] at ho7)
        have hb7 : Below z6 wc w7 := (Below.refl _ _).grown hg7 (by omega) (fun k hk => by cases hk; exact Nat.le_refl _)
        have HB7 : Hid (Below w3.heap.size w3 w7) := Lib.hid (HBc.out.trans (hb7.mono (by omega)))
        have HOK7 : Hid (w7.ownsRow z 9 1 (.slice (some ⟨g2, 0, none⟩) (i + 1) c2) (i + 1) (txs (t.keys.take i) ++ [.string key])) := Lib.hid (World.ownsRow.kept HOK1.out hg7 (.inr (by simp [Value.ownBlock]; omega)))
        obtain ⟨q0, q1, q2, q3, q4⟩ := (HXb.out.below HB7.out (by omega)).cells
        obtain ⟨z7, hz7⟩ : ∃ z7, w7.heap.size = z7 := ⟨_, rfl⟩
        have hzz7 : z6 ≤ z7 := by have := hb7.size; omega
        obtain ⟨wd, hald⟩ : ∃ wd, w7.alloc (.cells #[.int .i64 x.kind, .int .i64 x.n, .string x.s, .slice Axk x.keys.length cxk, .slice Axq x.kids.length cxq] 25) = wd := ⟨_, rfl⟩
        have hBd : Below z7 w7 wd := by rw [← hald]; exact below_lit _ hz7 _
        have hod : wd.ownsRow z6 25 5 v3 i (five (L.take i)) := by rw [← hald]; exact ho7.alloc _
        have hsrcd : Src wd (some ⟨z7, 0, none⟩) (five [(x, .slice Axk x.keys.length cxk, .slice Axq x.kids.length cxq)]) := by rw [← hald]; exact src_lit _ hz7 _
        have hsd : wd.heap.size = z7 + 1 := by rw [← hald]; simp [hz7]
        have HBd : Hid (Below w3.heap.size w3 wd) := Lib.hid (HB7.out.trans (hBd.mono (by omega)))
        have HOKd : Hid (wd.ownsRow z 9 1 (.slice (some ⟨g2, 0, none⟩) (i + 1) c2) (i + 1) (txs (t.keys.take i) ++ [.string key])) := Lib.hid (by rw [← hald]; exact HOK7.out.alloc _)
        have HOd := Lib.hid hod
        have HSd := Lib.hid hsrcd
        clear hBd hod hsrcd hb7 ho7 hg7 halc k4 HOc HSc HFc HOK1 HOK7
        go_upto_region 15 with (at_builtin; refine wpList_append_cells Try.underlying23 treeZ rfl (by decide) (by decide) _ _ rfl rfl z6 v3 i _ rfl HOd.out 1 1 (five [(x, .slice Axk x.keys.length cxk, .slice Axq x.kids.length cxq)]) rfl rfl (fun h => by cases h) (Nat.le_refl _) HSd.out (by simp [five, Value.oneCell']) (by omega) (by omega) ?_; intro v4 w8 ho8 hg8 _)
        have hb8 : Below z6 wd w8 := (Below.refl _ _).grown hg8 (by omega) (fun k hk => (HOd.out.lt k hk).1)
        have HB8 : Hid (Below w3.heap.size w3 w8) := Lib.hid (HBd.out.trans (hb8.mono (by omega)))
        have HOK8 : Hid (w8.ownsRow z 9 1 (.slice (some ⟨g2, 0, none⟩) (i + 1) c2) (i + 1) (txs (t.keys.take i) ++ [.string key])) := Lib.hid (World.ownsRow.kept HOKd.out hg8 (.inr (fun h => by
          have h1 := (HOd.out.lt g2 (by simpa [Value.ownBlock] using h.symm)).1
          omega)))
        obtain ⟨g4, c4', rfl, hg4, hg4'⟩ := ho8.form (by omega)
        have HO8 := Lib.hid ho8
        obtain ⟨z8, hz8⟩ : ∃ z8, w8.heap.size = z8 := ⟨_, rfl⟩
        have hzz8 : z7 ≤ z8 := by have := hb8.size; omega
        rw [hz8] at hg4'
        have k3 := (HCt.out w8 HB8.out).2.2.2.1
        have HSe : Hid (∀ A', A' = (if ck = i then Ak else Ak.map (fun x => x.add i)) → Src w8 A' (txs (t.keys.drop i))) := Lib.hid (fun A' e => by rw [e]; exact (Sc.cut (Sc.below HSk.out (HB8.out.mono hbw)) (by rw [hnk.out]; exact hsk1)).src)
        have hld : (t.keys.drop i).length = p - i := by rw [List.length_drop, hnk.out]
        have HNe : Hid (∀ A' : Option Addr, A' = (if ck = i then Ak else Ak.map (fun x => x.add i)) → A' = none → ck - i = 0) := Lib.hid (fun A' e h => by rw [e] at h; exact cut_null (A := Ak) (c := ck) (j := i) (k := i) hsk3 h)
        clear hb8 ho8 hg8 hald HOd HSd q0 q1 q2 q3 q4 HOKd
        go_upto_region 16 with (at_builtin; refine wpList_append_cells Try.underlying22 strZ11 rfl (by decide) (by decide) _ _ rfl rfl z (.slice (some ⟨g2, 0, none⟩) (i + 1) c2) (i + 1) _ rfl HOK8.out (p - i) (ck - i) (txs (t.keys.drop i)) rfl (by rw [txs_length, hld, Nat.mul_one]) (HNe.out _ (by first | rfl | rw [if_neg (by omega)])) (by omega) (HSe.out _ (by first | rfl | rw [if_neg (by omega)])) (txs_one _) (by omega) (by omega) ?_; intro v5 w9 ho9 hg9 hw9; obtain ⟨g5, c5, rfl, hg5a, hg5b⟩ := ho9.form (by omega); have hb9 : Below z w8 w9 := (Below.refl _ _).grown hg9 (by omega) (fun k hk => (HOK8.out.lt k hk).1); have j3 := (HCt.out w9 (HB8.out.trans (hb9.mono hzb))).2.2.2.1; have jf : w9.frozen? ⟨b, 3, none⟩ = false := (HT.out.below (HB8.out.trans (hb9.mono hzb)) (by omega)).bx.free 3)
        have HB9 : Hid (Below w3.heap.size w3 w9) := Lib.hid (HB8.out.trans (hb9.mono hzb))
        have hO4 : w9.ownsRow z6 25 5 (.slice (some ⟨g4, 0, none⟩) (i + 1) c4') (i + 1) (five (L.take i) ++ five [(x, .slice Axk x.keys.length cxk, .slice Axq x.kids.length cxq)]) := World.ownsRow.kept HO8.out hg9 (.inr (by simp [Value.ownBlock]; omega))
        have hblk : g5 ≠ g4 := by
          rcases hw9 with h | h
          · simp [Value.ownBlock] at h; omega
          · simp [Value.ownBlock, hz8] at h; omega
        have hs9 : z8 ≤ w9.heap.size := by have := hb9.size; omega
        obtain ⟨w10, hw10⟩ : ∃ w10, w9.setCell ⟨b, 3, none⟩ (.slice (some ⟨g5, 0, none⟩) (i + 1 + (p - i)) c5) = w10 := ⟨_, rfl⟩
        rw [hw10]
        have hs10 : w10.heap.size = w9.heap.size := by rw [← hw10]; simp [World.setCell]
        have hW10 := ((HT.out.below HB9.out (by omega)).bx).put 3 (.slice (some ⟨g5, 0, none⟩) (i + 1 + (p - i)) c5)
        rw [hw10] at hW10
        have HW10 := Lib.hid hW10
        have HBb10 : Hid (Below b w w10) := Lib.hid (by rw [← hw10]; exact (HB3.out.trans (HB9.out.mono hbw)).setCell (p := ⟨b, 3, none⟩) (Nat.le_refl _) _)
        have HO10 : Hid (w10.ownsRow z6 25 5 (.slice (some ⟨g4, 0, none⟩) (i + 1) c4') (i + 1) (five (L.take i) ++ five [(x, .slice Axk x.keys.length cxk, .slice Axq x.kids.length cxq)])) := Lib.hid (by rw [← hw10]; exact ownsRow_setCell_below hO4 (show b < z6 by omega) _)
        have HOK10 : Hid (w10.ownsRow z 9 1 (.slice (some ⟨g5, 0, none⟩) (i + 1 + (p - i)) c5) (i + 1 + (p - i)) (txs (t.keys.take i) ++ [.string key] ++ txs (t.keys.drop i))) := Lib.hid (by rw [← hw10]; exact ownsRow_setCell_below ho9 (show b < z by omega) _)
        have HY10 : Hid (Whole w10 g 25 #[.int .i64 0, .int .i64 0, .string ⟨#[]⟩, .slice none 0 0, .slice none 0 0]) := Lib.hid (by rw [← hw10]; exact (HY.out.below HB9.out (by omega)).other (by simp; omega) _)
        have m4 := hW10.at_ 4
        simp [hn.out] at m4
        have HSf : Hid (∀ A', A' = (if c = i then A else A.map (fun x => x.add (i * 5))) → Src w10 A' (five (L.drop i))) := Lib.hid (fun A' e => by rw [e]; exact (Ks.cut (HKw.out.below HBb10.out) (by rw [hn.out]; exact h1)).src)
        have HNf : Hid (∀ A' : Option Addr, A' = (if c = i then A else A.map (fun x => x.add (i * 5))) → A' = none → c - i = 0) := Lib.hid (fun A' e h => by rw [e] at h; exact cut_null (A := A) (c := c) (j := i) (k := i * 5) h3 h)
        have hLd : (L.drop i).length = p - i := by rw [List.length_drop, hn.out]
        have HFf : Hid (∀ u ∈ five (L.drop i), u.oneCell' = true) := Lib.hid (five_one (fun y hy => HKw.out.tv y (List.mem_of_mem_drop hy)))
        clear hw10 hW10 hO4 ho9 hg9 hw9 hb9 j3 jf k3 HSe HNe HO8 HOK8
        go_upto_region 17 with (at_builtin; refine wpList_append_cells Try.underlying23 treeZ rfl (by decide) (by decide) _ _ rfl rfl z6 (.slice (some ⟨g4, 0, none⟩) (i + 1) c4') (i + 1) _ rfl HO10.out (p - i) (c - i) (five (L.drop i)) rfl (by rw [five_length, hLd]) (HNf.out _ (by first | rfl | rw [if_neg (by omega)])) (by omega) (HSf.out _ (by first | rfl | rw [if_neg (by omega)])) HFf.out (by omega) (by omega) ?_; intro v7 w11 ho11 hg11 _; obtain ⟨g6, c6, rfl, hg6a, hg6b⟩ := ho11.form (by omega); have hb11 : Below z6 w10 w11 := (Below.refl _ _).grown hg11 (by omega) (fun k hk => (HO10.out.lt k hk).1); have j4 := (hb11.cell (p := ⟨b, 4, none⟩) (show b < z6 by omega)).trans m4; have jf : w11.frozen? ⟨b, 4, none⟩ = false := (HW10.out.below hb11 (by omega)).free 4)
        obtain ⟨w12, hw12⟩ : ∃ w12, w11.setCell ⟨b, 4, none⟩ (.slice (some ⟨g6, 0, none⟩) (i + 1 + (p - i)) c6) = w12 := ⟨_, rfl⟩
        rw [hw12]
        have hW12 := (HW10.out.below hb11 (by omega)).put 4 (.slice (some ⟨g6, 0, none⟩) (i + 1 + (p - i)) c6)
        rw [hw12] at hW12
        have HBb12 : Hid (Below b w w12) := Lib.hid (by rw [← hw12]; exact (HBb10.out.trans (hb11.mono (by omega))).setCell (p := ⟨b, 4, none⟩) (Nat.le_refl _) _)
        have HO12 : Hid (w12.ownsRow z6 25 5 (.slice (some ⟨g6, 0, none⟩) (i + 1 + (p - i)) c6) (i + 1 + (p - i)) (five (L.take i) ++ five [(x, .slice Axk x.keys.length cxk, .slice Axq x.kids.length cxq)] ++ five (L.drop i))) := Lib.hid (by rw [← hw12]; exact ownsRow_setCell_below ho11 (show b < z6 by omega) _)
        have HOK12 : Hid (w12.ownsRow z 9 1 (.slice (some ⟨g5, 0, none⟩) (i + 1 + (p - i)) c5) (i + 1 + (p - i)) (txs (t.keys.take i) ++ [.string key] ++ txs (t.keys.drop i))) := Lib.hid (by rw [← hw12]; exact ownsRow_setCell_below (World.ownsRow.kept HOK10.out hg11 (.inr (by simp [Value.ownBlock]; exact hblk))) (show b < z by omega) _)
        have HY12 := Lib.hid (by rw [← hw12]; exact (HY10.out.below hb11 (by omega)).other (by simp; omega) _ : Whole w12 g 25 #[.int .i64 0, .int .i64 0, .string ⟨#[]⟩, .slice none 0 0, .slice none 0 0])
        have n0 := hW12.at_ 0
        have n1 := hW12.at_ 1
        have n2 := hW12.at_ 2
        have n3 := hW12.at_ 3
        have n4 := hW12.at_ 4
        simp at n0 n1 n2 n3 n4
        rw [e0] at n0
        clear hw12 hW12 ho11 hg11 hb11 j4 jf m4 HO10 HOK10 HY10 HW10 HSf HNf HFf
        go_wp2_with (refine wpList_store_whole rfl rfl rfl rfl rfl HY12.out (treeI rfl) rfl (by simp [Value.oneCell']) ?_)
        obtain ⟨w13, hw13⟩ : ∃ w13, w12.setRow g #[.int .i64 4, .int .i64 t.n, .string t.s, .slice (some ⟨g5, 0, none⟩) (i + 1 + (p - i)) c5, .slice (some ⟨g6, 0, none⟩) (i + 1 + (p - i)) c6] = w13 := ⟨_, rfl⟩
        have hO13 := own_other HO12.out (show g < z6 by omega) #[.int .i64 4, .int .i64 t.n, .string t.s, .slice (some ⟨g5, 0, none⟩) (i + 1 + (p - i)) c5, .slice (some ⟨g6, 0, none⟩) (i + 1 + (p - i)) c6]
        have hOK13 := own_other HOK12.out (show g < z by omega) #[.int .i64 4, .int .i64 t.n, .string t.s, .slice (some ⟨g5, 0, none⟩) (i + 1 + (p - i)) c5, .slice (some ⟨g6, 0, none⟩) (i + 1 + (p - i)) c6]
        have hB13 := below_row HBb12.out (show b ≤ g by omega) #[.int .i64 4, .int .i64 t.n, .string t.s, .slice (some ⟨g5, 0, none⟩) (i + 1 + (p - i)) c5, .slice (some ⟨g6, 0, none⟩) (i + 1 + (p - i)) c6]
        rw [hw13] at hO13 hOK13 hB13
        have HS' := HS.out
        rw [hq.out] at HS'
        refine bodyPost_ret (v := tval (t.set key x) (.slice (some ⟨g5, 0, none⟩) (i + 1 + (p - i)) c5) (.slice (some ⟨g6, 0, none⟩) (i + 1 + (p - i)) c6)) ?_ rfl ⟨.slice (some ⟨g5, 0, none⟩) (i + 1 + (p - i)) c5, .slice (some ⟨g6, 0, none⟩) (i + 1 + (p - i)) c6, rfl, ?_, ?_⟩
        · have hv : tval (Tn.mk t.kind t.n t.s (Tn.put t.keys i key) (Tn.put t.kids i x)) (.slice (some ⟨g5, 0, none⟩) (i + 1 + (p - i)) c5) (.slice (some ⟨g6, 0, none⟩) (i + 1 + (p - i)) c6) = .agg #[.int .i64 4, .int .i64 t.n, .string t.s, .slice (some ⟨g5, 0, none⟩) (i + 1 + (p - i)) c5, .slice (some ⟨g6, 0, none⟩) (i + 1 + (p - i)) c6] := by rw [← e0]; rfl
          rw [HS', hv]
          exact results_tree rfl rfl (HY12.out.row _) rfl
        · rw [hw13, HS']
          have hTv := HTw.out.keep hB13
          have hbs : b ≤ w13.heap.size := by rw [← hs]; exact hB13.size
          have hx13 : Tv w13 w13.heap.size x (.slice Axk x.keys.length cxk) (.slice Axq x.kids.length cxq) := (HXv.out.keep hB13).more hbs
          have eK : txs (Tn.put t.keys i key) = txs (t.keys.take i) ++ [.string key] ++ txs (t.keys.drop i) := by simp [Tn.put, txs]
          have eKl : (Tn.put t.keys i key).length = i + 1 + (p - i) := by rw [Tn.put_length _ _ _ (by rw [hnk.out]; exact hgl), hnk.out]; omega
          have eL : five (Tn.put L i (x, .slice Axk x.keys.length cxk, .slice Axq x.kids.length cxq)) = five (L.take i) ++ five [(x, .slice Axk x.keys.length cxk, .slice Axq x.kids.length cxq)] ++ five (L.drop i) := by simp [Tn.put, five]
          have eLl : (Tn.put L i (x, .slice Axk x.keys.length cxk, .slice Axq x.kids.length cxq)).length = i + 1 + (p - i) := by rw [Tn.put_length _ _ _ (by rw [hn.out]; exact hgl), hn.out]; omega
          refine Tv.of hTv.kind hTv.num hTv.str (Sk.of_own (l := Tn.put t.keys i key) (base := z) (by rw [eKl, eK]; exact hOK13) (fun s hs => ?_)) (Kv.of_own (L := Tn.put L i (x, .slice Axk x.keys.length cxk, .slice Axq x.kids.length cxq)) (base := z6) (by rw [eLl, eL]; exact hO13) (by rw [← hL]; simp [Tn.put, Tn.kids]) (Nat.le_refl _) (fun y hy => ?_))
          · rcases Tn.mem_put hs with rfl | h
            · exact hkey
            · exact HSZ.out _ h
          · rcases Tn.mem_put hy with rfl | h
            · exact hx13
            · exact ((HKw.out.tv y h).keep hB13).more hbs
        · rw [hw13, hs]; exact hB13
    · have hqp : q = p := by rw [← hnk.out]; exact G2.out (fun k hk => by
        obtain ⟨j, hj, rfl⟩ := List.mem_iff_getElem.1 hk
        exact HI.out j (by have := hnk.out; omega) hj)
      obtain rfl : i = q := by omega
      have HQP := Lib.hid hqp
      clear hqp
      have hifk : ∀ X Y : Option Addr, (if ck = i then X else Y) = pickIf ck i X Y := fun _ _ => rfl
      have hifc : ∀ X Y : Option Addr, (if c = i then X else Y) = pickIf c i X Y := fun _ _ => rfl
      go_upto_region 11 with fail
      obtain ⟨z, hz⟩ : ∃ z, wr.heap.size = z := ⟨_, rfl⟩
      have hzb : w3.heap.size ≤ z := by rw [← hz]; exact HC.out.size
      obtain ⟨wa, hala⟩ : ∃ wa, wr.alloc (.cells #[] 9) = wa := ⟨_, rfl⟩
      have hBa : Below z wr wa := by rw [← hala]; exact below_lit _ hz _
      have hOa : wa.ownsRow z 9 1 (.slice (some ⟨z, 0, none⟩) 0 0) 0 [] := by rw [← hala]; exact own_lit0 _ hz (Nat.le_refl _)
      have hsa : wa.heap.size = z + 1 := by rw [← hala]; simp [hz]
      have HBa : Hid (Below w3.heap.size w3 wa) := Lib.hid (HC.out.trans (hBa.mono hzb))
      have k3 := (HCt.out wa HBa.out).2.2.2.1
      have HOa := Lib.hid hOa
      have HSa : Hid (Src wa Ak (txs (t.keys.take i))) := Lib.hid ((Sc.below HSk.out (HBa.out.mono hbw)).take i).src
      have hli : (t.keys.take i).length = i := by rw [List.length_take, hnk.out]; omega
      clear hBa hOa
      go_upto_region 12 with (at_builtin; refine wpList_append_cells Try.underlying22 strZ11 rfl (by decide) (by decide) _ _ rfl rfl z (.slice (some ⟨z, 0, none⟩) 0 0) 0 [] rfl HOa.out i ck (txs (t.keys.take i)) rfl (by rw [txs_length, hli, Nat.mul_one]) hsk3 (by omega) HSa.out (txs_one _) (by omega) (by omega) ?_; intro v1 w5 ho5 hg5 _; rw [Nat.zero_add, List.nil_append] at ho5)
      have hb5 : Below z wa w5 := (Below.refl _ _).grown hg5 (by omega) (fun k hk => by cases hk; exact Nat.le_refl _)
      have HB5 : Hid (Below w3.heap.size w3 w5) := Lib.hid (HBa.out.trans (hb5.mono hzb))
      obtain ⟨z5, hz5⟩ : ∃ z5, w5.heap.size = z5 := ⟨_, rfl⟩
      have hzz5 : z ≤ z5 := by have := hb5.size; omega
      obtain ⟨wb, halb⟩ : ∃ wb, w5.alloc (.cells #[.string key] 9) = wb := ⟨_, rfl⟩
      have hBb : Below z5 w5 wb := by rw [← halb]; exact below_lit _ hz5 _
      have hob : wb.ownsRow z 9 1 v1 i (txs (t.keys.take i)) := by rw [← halb]; exact ho5.alloc _
      have hsrcb : Src wb (some ⟨z5, 0, none⟩) [.string key] := by rw [← halb]; exact src_lit _ hz5 _
      have hsb : wb.heap.size = z5 + 1 := by rw [← halb]; simp [hz5]
      have HBb : Hid (Below w3.heap.size w3 wb) := Lib.hid (HB5.out.trans (hBb.mono (by omega)))
      have HOb := Lib.hid hob
      have HSb := Lib.hid hsrcb
      clear hBb hob hsrcb hb5 ho5 hg5 hala k3 HOa HSa
      go_upto_region 13 with (at_builtin; refine wpList_append_cells Try.underlying22 strZ11 rfl (by decide) (by decide) _ _ rfl rfl z v1 i _ rfl HOb.out 1 1 [.string key] rfl rfl (fun h => by cases h) (Nat.le_refl _) HSb.out (by simp [Value.oneCell']) (by omega) (by omega) ?_; intro v2 w6 ho6 hg6 _)
      have hb6 : Below z wb w6 := (Below.refl _ _).grown hg6 (by omega) (fun k hk => (HOb.out.lt k hk).1)
      have HB6 : Hid (Below w3.heap.size w3 w6) := Lib.hid (HBb.out.trans (hb6.mono hzb))
      obtain ⟨g2, c2, rfl, hg2, hg2'⟩ := ho6.form (by omega)
      have HO6 := Lib.hid ho6
      obtain ⟨z6, hz6⟩ : ∃ z6, w6.heap.size = z6 := ⟨_, rfl⟩
      have hzz6 : z5 ≤ z6 := by have := hb6.size; omega
      rw [hz6] at hg2'
      clear hb6 ho6 hg6 halb HOb HSb
      obtain ⟨wc, halc⟩ : ∃ wc, w6.alloc (.cells #[] 25) = wc := ⟨_, rfl⟩
      have hBc : Below z6 w6 wc := by rw [← halc]; exact below_lit _ hz6 _
      have hOc : wc.ownsRow z6 25 5 (.slice (some ⟨z6, 0, none⟩) 0 0) 0 [] := by rw [← halc]; exact own_lit0 _ hz6 (Nat.le_refl _)
      have hsc : wc.heap.size = z6 + 1 := by rw [← halc]; simp [hz6]
      have HBc : Hid (Below w3.heap.size w3 wc) := Lib.hid (HB6.out.trans (hBc.mono (by omega)))
      have HOK1 : Hid (wc.ownsRow z 9 1 (.slice (some ⟨g2, 0, none⟩) (i + 1) c2) (i + 1) (txs (t.keys.take i) ++ [.string key])) := Lib.hid (by rw [← halc]; exact HO6.out.alloc _)
      have k4 := (HCt.out wc HBc.out).2.2.2.2
      have HOc := Lib.hid hOc
      have HSc : Hid (Src wc A (five (L.take i))) := Lib.hid ((HKs.out.below (HBc.out.mono hbw)).take i).src
      have HFc : Hid (∀ u ∈ five (L.take i), u.oneCell' = true) := Lib.hid (five_one ((HKs.out.take i).tv))
      have hLi : (L.take i).length = i := by rw [List.length_take, hn.out]; omega
      clear hBc hOc
      go_upto_region 14 with (at_builtin; refine wpList_append_cells Try.underlying23 treeZ rfl (by decide) (by decide) _ _ rfl rfl z6 (.slice (some ⟨z6, 0, none⟩) 0 0) 0 [] rfl HOc.out i c (five (L.take i)) rfl (by rw [five_length, hLi]) h3 (by omega) HSc.out HFc.out (by omega) (by omega) ?_; intro v3 w7 ho7 hg7 _; rw [Nat.zero_add, List.nil_append] at ho7)
      have hb7 : Below z6 wc w7 := (Below.refl _ _).grown hg7 (by omega) (fun k hk => by cases hk; exact Nat.le_refl _)
      have HB7 : Hid (Below w3.heap.size w3 w7) := Lib.hid (HBc.out.trans (hb7.mono (by omega)))
      have HOK7 : Hid (w7.ownsRow z 9 1 (.slice (some ⟨g2, 0, none⟩) (i + 1) c2) (i + 1) (txs (t.keys.take i) ++ [.string key])) := Lib.hid (World.ownsRow.kept HOK1.out hg7 (.inr (by simp [Value.ownBlock]; omega)))
      obtain ⟨q0, q1, q2, q3, q4⟩ := (HXb.out.below HB7.out (by omega)).cells
      obtain ⟨z7, hz7⟩ : ∃ z7, w7.heap.size = z7 := ⟨_, rfl⟩
      have hzz7 : z6 ≤ z7 := by have := hb7.size; omega
      obtain ⟨wd, hald⟩ : ∃ wd, w7.alloc (.cells #[.int .i64 x.kind, .int .i64 x.n, .string x.s, .slice Axk x.keys.length cxk, .slice Axq x.kids.length cxq] 25) = wd := ⟨_, rfl⟩
      have hBd : Below z7 w7 wd := by rw [← hald]; exact below_lit _ hz7 _
      have hod : wd.ownsRow z6 25 5 v3 i (five (L.take i)) := by rw [← hald]; exact ho7.alloc _
      have hsrcd : Src wd (some ⟨z7, 0, none⟩) (five [(x, .slice Axk x.keys.length cxk, .slice Axq x.kids.length cxq)]) := by rw [← hald]; exact src_lit _ hz7 _
      have hsd : wd.heap.size = z7 + 1 := by rw [← hald]; simp [hz7]
      have HBd : Hid (Below w3.heap.size w3 wd) := Lib.hid (HB7.out.trans (hBd.mono (by omega)))
      have HOKd : Hid (wd.ownsRow z 9 1 (.slice (some ⟨g2, 0, none⟩) (i + 1) c2) (i + 1) (txs (t.keys.take i) ++ [.string key])) := Lib.hid (by rw [← hald]; exact HOK7.out.alloc _)
      have HOd := Lib.hid hod
      have HSd := Lib.hid hsrcd
      clear hBd hod hsrcd hb7 ho7 hg7 halc k4 HOc HSc HFc HOK1 HOK7
      go_upto_region 15 with (at_builtin; refine wpList_append_cells Try.underlying23 treeZ rfl (by decide) (by decide) _ _ rfl rfl z6 v3 i _ rfl HOd.out 1 1 (five [(x, .slice Axk x.keys.length cxk, .slice Axq x.kids.length cxq)]) rfl rfl (fun h => by cases h) (Nat.le_refl _) HSd.out (by simp [five, Value.oneCell']) (by omega) (by omega) ?_; intro v4 w8 ho8 hg8 _)
      have hb8 : Below z6 wd w8 := (Below.refl _ _).grown hg8 (by omega) (fun k hk => (HOd.out.lt k hk).1)
      have HB8 : Hid (Below w3.heap.size w3 w8) := Lib.hid (HBd.out.trans (hb8.mono (by omega)))
      have HOK8 : Hid (w8.ownsRow z 9 1 (.slice (some ⟨g2, 0, none⟩) (i + 1) c2) (i + 1) (txs (t.keys.take i) ++ [.string key])) := Lib.hid (World.ownsRow.kept HOKd.out hg8 (.inr (fun h => by
        have h1 := (HOd.out.lt g2 (by simpa [Value.ownBlock] using h.symm)).1
        omega)))
      obtain ⟨g4, c4', rfl, hg4, hg4'⟩ := ho8.form (by omega)
      have HO8 := Lib.hid ho8
      obtain ⟨z8, hz8⟩ : ∃ z8, w8.heap.size = z8 := ⟨_, rfl⟩
      have hzz8 : z7 ≤ z8 := by have := hb8.size; omega
      rw [hz8] at hg4'
      have k3 := (HCt.out w8 HB8.out).2.2.2.1
      have HSe : Hid (∀ A', A' = (if ck = i then Ak else Ak.map (fun x => x.add i)) → Src w8 A' (txs (t.keys.drop i))) := Lib.hid (fun A' e => by rw [e]; exact (Sc.cut (Sc.below HSk.out (HB8.out.mono hbw)) (by rw [hnk.out]; exact hsk1)).src)
      have hld : (t.keys.drop i).length = p - i := by rw [List.length_drop, hnk.out]
      have HNe : Hid (∀ A' : Option Addr, A' = (if ck = i then Ak else Ak.map (fun x => x.add i)) → A' = none → ck - i = 0) := Lib.hid (fun A' e h => by rw [e] at h; exact cut_null (A := Ak) (c := ck) (j := i) (k := i) hsk3 h)
      clear hb8 ho8 hg8 hald HOd HSd q0 q1 q2 q3 q4 HOKd
      go_upto_region 16 with (at_builtin; refine wpList_append_cells Try.underlying22 strZ11 rfl (by decide) (by decide) _ _ rfl rfl z (.slice (some ⟨g2, 0, none⟩) (i + 1) c2) (i + 1) _ rfl HOK8.out (p - i) (ck - i) (txs (t.keys.drop i)) rfl (by rw [txs_length, hld, Nat.mul_one]) (HNe.out _ (by first | rfl | rw [if_neg (by omega)])) (by omega) (HSe.out _ (by first | rfl | rw [if_neg (by omega)])) (txs_one _) (by omega) (by omega) ?_; intro v5 w9 ho9 hg9 hw9; obtain ⟨g5, c5, rfl, hg5a, hg5b⟩ := ho9.form (by omega); have hb9 : Below z w8 w9 := (Below.refl _ _).grown hg9 (by omega) (fun k hk => (HOK8.out.lt k hk).1); have j3 := (HCt.out w9 (HB8.out.trans (hb9.mono hzb))).2.2.2.1; have jf : w9.frozen? ⟨b, 3, none⟩ = false := (HT.out.below (HB8.out.trans (hb9.mono hzb)) (by omega)).bx.free 3)
      have HB9 : Hid (Below w3.heap.size w3 w9) := Lib.hid (HB8.out.trans (hb9.mono hzb))
      have hO4 : w9.ownsRow z6 25 5 (.slice (some ⟨g4, 0, none⟩) (i + 1) c4') (i + 1) (five (L.take i) ++ five [(x, .slice Axk x.keys.length cxk, .slice Axq x.kids.length cxq)]) := World.ownsRow.kept HO8.out hg9 (.inr (by simp [Value.ownBlock]; omega))
      have hblk : g5 ≠ g4 := by
        rcases hw9 with h | h
        · simp [Value.ownBlock] at h; omega
        · simp [Value.ownBlock, hz8] at h; omega
      have hs9 : z8 ≤ w9.heap.size := by have := hb9.size; omega
      obtain ⟨w10, hw10⟩ : ∃ w10, w9.setCell ⟨b, 3, none⟩ (.slice (some ⟨g5, 0, none⟩) (i + 1 + (p - i)) c5) = w10 := ⟨_, rfl⟩
      rw [hw10]
      have hs10 : w10.heap.size = w9.heap.size := by rw [← hw10]; simp [World.setCell]
      have hW10 := ((HT.out.below HB9.out (by omega)).bx).put 3 (.slice (some ⟨g5, 0, none⟩) (i + 1 + (p - i)) c5)
      rw [hw10] at hW10
      have HW10 := Lib.hid hW10
      have HBb10 : Hid (Below b w w10) := Lib.hid (by rw [← hw10]; exact (HB3.out.trans (HB9.out.mono hbw)).setCell (p := ⟨b, 3, none⟩) (Nat.le_refl _) _)
      have HO10 : Hid (w10.ownsRow z6 25 5 (.slice (some ⟨g4, 0, none⟩) (i + 1) c4') (i + 1) (five (L.take i) ++ five [(x, .slice Axk x.keys.length cxk, .slice Axq x.kids.length cxq)])) := Lib.hid (by rw [← hw10]; exact ownsRow_setCell_below hO4 (show b < z6 by omega) _)
      have HOK10 : Hid (w10.ownsRow z 9 1 (.slice (some ⟨g5, 0, none⟩) (i + 1 + (p - i)) c5) (i + 1 + (p - i)) (txs (t.keys.take i) ++ [.string key] ++ txs (t.keys.drop i))) := Lib.hid (by rw [← hw10]; exact ownsRow_setCell_below ho9 (show b < z by omega) _)
      have HY10 : Hid (Whole w10 g 25 #[.int .i64 0, .int .i64 0, .string ⟨#[]⟩, .slice none 0 0, .slice none 0 0]) := Lib.hid (by rw [← hw10]; exact (HY.out.below HB9.out (by omega)).other (by simp; omega) _)
      have m4 := hW10.at_ 4
      simp [hn.out] at m4
      have HSf : Hid (∀ A', A' = (if c = i then A else A.map (fun x => x.add (i * 5))) → Src w10 A' (five (L.drop i))) := Lib.hid (fun A' e => by rw [e]; exact (Ks.cut (HKw.out.below HBb10.out) (by rw [hn.out]; exact h1)).src)
      have HNf : Hid (∀ A' : Option Addr, A' = (if c = i then A else A.map (fun x => x.add (i * 5))) → A' = none → c - i = 0) := Lib.hid (fun A' e h => by rw [e] at h; exact cut_null (A := A) (c := c) (j := i) (k := i * 5) h3 h)
      have hLd : (L.drop i).length = p - i := by rw [List.length_drop, hn.out]
      have HFf : Hid (∀ u ∈ five (L.drop i), u.oneCell' = true) := Lib.hid (five_one (fun y hy => HKw.out.tv y (List.mem_of_mem_drop hy)))
      clear hw10 hW10 hO4 ho9 hg9 hw9 hb9 j3 jf k3 HSe HNe HO8 HOK8
      go_upto_region 17 with (at_builtin; refine wpList_append_cells Try.underlying23 treeZ rfl (by decide) (by decide) _ _ rfl rfl z6 (.slice (some ⟨g4, 0, none⟩) (i + 1) c4') (i + 1) _ rfl HO10.out (p - i) (c - i) (five (L.drop i)) rfl (by rw [five_length, hLd]) (HNf.out _ (by first | rfl | rw [if_neg (by omega)])) (by omega) (HSf.out _ (by first | rfl | rw [if_neg (by omega)])) HFf.out (by omega) (by omega) ?_; intro v7 w11 ho11 hg11 _; obtain ⟨g6, c6, rfl, hg6a, hg6b⟩ := ho11.form (by omega); have hb11 : Below z6 w10 w11 := (Below.refl _ _).grown hg11 (by omega) (fun k hk => (HO10.out.lt k hk).1); have j4 := (hb11.cell (p := ⟨b, 4, none⟩) (show b < z6 by omega)).trans m4; have jf : w11.frozen? ⟨b, 4, none⟩ = false := (HW10.out.below hb11 (by omega)).free 4)
      obtain ⟨w12, hw12⟩ : ∃ w12, w11.setCell ⟨b, 4, none⟩ (.slice (some ⟨g6, 0, none⟩) (i + 1 + (p - i)) c6) = w12 := ⟨_, rfl⟩
      rw [hw12]
      have hW12 := (HW10.out.below hb11 (by omega)).put 4 (.slice (some ⟨g6, 0, none⟩) (i + 1 + (p - i)) c6)
      rw [hw12] at hW12
      have HBb12 : Hid (Below b w w12) := Lib.hid (by rw [← hw12]; exact (HBb10.out.trans (hb11.mono (by omega))).setCell (p := ⟨b, 4, none⟩) (Nat.le_refl _) _)
      have HO12 : Hid (w12.ownsRow z6 25 5 (.slice (some ⟨g6, 0, none⟩) (i + 1 + (p - i)) c6) (i + 1 + (p - i)) (five (L.take i) ++ five [(x, .slice Axk x.keys.length cxk, .slice Axq x.kids.length cxq)] ++ five (L.drop i))) := Lib.hid (by rw [← hw12]; exact ownsRow_setCell_below ho11 (show b < z6 by omega) _)
      have HOK12 : Hid (w12.ownsRow z 9 1 (.slice (some ⟨g5, 0, none⟩) (i + 1 + (p - i)) c5) (i + 1 + (p - i)) (txs (t.keys.take i) ++ [.string key] ++ txs (t.keys.drop i))) := Lib.hid (by rw [← hw12]; exact ownsRow_setCell_below (World.ownsRow.kept HOK10.out hg11 (.inr (by simp [Value.ownBlock]; exact hblk))) (show b < z by omega) _)
      have HY12 := Lib.hid (by rw [← hw12]; exact (HY10.out.below hb11 (by omega)).other (by simp; omega) _ : Whole w12 g 25 #[.int .i64 0, .int .i64 0, .string ⟨#[]⟩, .slice none 0 0, .slice none 0 0])
      have n0 := hW12.at_ 0
      have n1 := hW12.at_ 1
      have n2 := hW12.at_ 2
      have n3 := hW12.at_ 3
      have n4 := hW12.at_ 4
      simp at n0 n1 n2 n3 n4
      rw [e0] at n0
      clear hw12 hW12 ho11 hg11 hb11 j4 jf m4 HO10 HOK10 HY10 HW10 HSf HNf HFf
      go_wp2_with (refine wpList_store_whole rfl rfl rfl rfl rfl HY12.out (treeI rfl) rfl (by simp [Value.oneCell']) ?_)
      obtain ⟨w13, hw13⟩ : ∃ w13, w12.setRow g #[.int .i64 4, .int .i64 t.n, .string t.s, .slice (some ⟨g5, 0, none⟩) (i + 1 + (p - i)) c5, .slice (some ⟨g6, 0, none⟩) (i + 1 + (p - i)) c6] = w13 := ⟨_, rfl⟩
      have hO13 := own_other HO12.out (show g < z6 by omega) #[.int .i64 4, .int .i64 t.n, .string t.s, .slice (some ⟨g5, 0, none⟩) (i + 1 + (p - i)) c5, .slice (some ⟨g6, 0, none⟩) (i + 1 + (p - i)) c6]
      have hOK13 := own_other HOK12.out (show g < z by omega) #[.int .i64 4, .int .i64 t.n, .string t.s, .slice (some ⟨g5, 0, none⟩) (i + 1 + (p - i)) c5, .slice (some ⟨g6, 0, none⟩) (i + 1 + (p - i)) c6]
      have hB13 := below_row HBb12.out (show b ≤ g by omega) #[.int .i64 4, .int .i64 t.n, .string t.s, .slice (some ⟨g5, 0, none⟩) (i + 1 + (p - i)) c5, .slice (some ⟨g6, 0, none⟩) (i + 1 + (p - i)) c6]
      rw [hw13] at hO13 hOK13 hB13
      have HS' := HS.out
      rw [hq.out] at HS'
      refine bodyPost_ret (v := tval (t.set key x) (.slice (some ⟨g5, 0, none⟩) (i + 1 + (p - i)) c5) (.slice (some ⟨g6, 0, none⟩) (i + 1 + (p - i)) c6)) ?_ rfl ⟨.slice (some ⟨g5, 0, none⟩) (i + 1 + (p - i)) c5, .slice (some ⟨g6, 0, none⟩) (i + 1 + (p - i)) c6, rfl, ?_, ?_⟩
      · have hv : tval (Tn.mk t.kind t.n t.s (Tn.put t.keys i key) (Tn.put t.kids i x)) (.slice (some ⟨g5, 0, none⟩) (i + 1 + (p - i)) c5) (.slice (some ⟨g6, 0, none⟩) (i + 1 + (p - i)) c6) = .agg #[.int .i64 4, .int .i64 t.n, .string t.s, .slice (some ⟨g5, 0, none⟩) (i + 1 + (p - i)) c5, .slice (some ⟨g6, 0, none⟩) (i + 1 + (p - i)) c6] := by rw [← e0]; rfl
        rw [HS', hv]
        exact results_tree rfl rfl (HY12.out.row _) rfl
      · rw [hw13, HS']
        have hTv := HTw.out.keep hB13
        have hbs : b ≤ w13.heap.size := by rw [← hs]; exact hB13.size
        have hx13 : Tv w13 w13.heap.size x (.slice Axk x.keys.length cxk) (.slice Axq x.kids.length cxq) := (HXv.out.keep hB13).more hbs
        have eK : txs (Tn.put t.keys i key) = txs (t.keys.take i) ++ [.string key] ++ txs (t.keys.drop i) := by simp [Tn.put, txs]
        have eKl : (Tn.put t.keys i key).length = i + 1 + (p - i) := by rw [Tn.put_length _ _ _ (by rw [hnk.out]; exact hgl), hnk.out]; omega
        have eL : five (Tn.put L i (x, .slice Axk x.keys.length cxk, .slice Axq x.kids.length cxq)) = five (L.take i) ++ five [(x, .slice Axk x.keys.length cxk, .slice Axq x.kids.length cxq)] ++ five (L.drop i) := by simp [Tn.put, five]
        have eLl : (Tn.put L i (x, .slice Axk x.keys.length cxk, .slice Axq x.kids.length cxq)).length = i + 1 + (p - i) := by rw [Tn.put_length _ _ _ (by rw [hn.out]; exact hgl), hn.out]; omega
        refine Tv.of hTv.kind hTv.num hTv.str (Sk.of_own (l := Tn.put t.keys i key) (base := z) (by rw [eKl, eK]; exact hOK13) (fun s hs => ?_)) (Kv.of_own (L := Tn.put L i (x, .slice Axk x.keys.length cxk, .slice Axq x.kids.length cxq)) (base := z6) (by rw [eLl, eL]; exact hO13) (by rw [← hL]; simp [Tn.put, Tn.kids]) (Nat.le_refl _) (fun y hy => ?_))
        · rcases Tn.mem_put hs with rfl | h
          · exact hkey
          · exact HSZ.out _ h
        · rcases Tn.mem_put hy with rfl | h
          · exact hx13
          · exact ((HKw.out.tv y h).keep hB13).more hbs
      · rw [hw13, hs]; exact hB13

theorem rset11_any {t x : Tn} {w : World} {B C : Nat} {vk vq xk xq : Value} (H : Tv w B t vk vq) (hl1 : t.keys.length ≤ 100000) (hl2 : t.kids.length ≤ 100000) (key : ByteArray) (hkey : key.size ≤ maxLen) (HX : Tv w C x xk xq) :
    Calls Try.prog 17 #[tval t vk vq, .string key, tval x xk xq] w (TreePost (t.set key x) w) := by
  by_cases h : t.fits = true ∧ ¬ Tn.place t.keys key < t.keys.length
  · exact rset11_new H hl1 hl2 key hkey HX h.1 h.2
  · exact rset11_old H hl1 hl2 key hkey HX (fun hf => Classical.byContradiction fun hn => h ⟨hf, hn⟩)
end Go.Proofs.Ytbimalafcgmnaaa
