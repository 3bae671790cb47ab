/- Contract of tree.Copy. -/
import Derived.Test.YtldjdoebappkoaaGreatDoorCl11
import Derived.Test.YtldjdoebappkoaaGreatDoorPJ
namespace Go.Proofs.YtldjdoebappkoaaGreatDoor
open Go.RowKit
set_option linter.unusedVariables false
set_option maxRecDepth 100000
set_option linter.unusedSimpArgs false

/-- not too many keys and kids, on all levels -/
inductive Tn.Few : Tn → Prop
  | mk {t : Tn} (hk : t.keys.length ≤ 1000000) (hq : t.kids.length ≤ 1000000) (hl : ∀ u ∈ t.kids, Few u) : Few t
theorem Tn.Lim.few {t : Tn} (h : t.Lim) : t.Few := by
  induction h with
  | mk hs hk hq hx hl ih => exact .mk (by omega) (by omega) ih
/-- a tree whose slices are the call's own, from base on: its keys', its kids' and all else in memory apart -/
structure Cpy (w : World) (base : Nat) (t : Tn) (vk vq : Value) : Prop where
  kind : -9223372036854775808 ≤ t.kind ∧ t.kind ≤ 9223372036854775807
  num : -9223372036854775808 ≤ t.n ∧ t.n ≤ 9223372036854775807
  str : t.s.size ≤ maxLen
  sizes : ∀ s ∈ t.keys, s.size ≤ maxLen
  ex : ∃ mid lo L, base ≤ mid ∧ mid ≤ lo ∧ lo ≤ w.heap.size ∧ w.ownsRow base 9 1 vk t.keys.length (txs t.keys) ∧ (∀ g, vk.ownBlock = some g → g < mid) ∧ w.ownsRow mid 25 5 vq L.length (five L) ∧ (∀ g, vq.ownBlock = some g → g < lo) ∧ L.map (·.1) = t.kids ∧ ∀ x ∈ L, Tl w lo x.1 x.2.1 x.2.2
section
variable {w w' : World} {base base' : Nat} {t : Tn} {vk vq : Value}
theorem Cpy.tl (h : Cpy w base t vk vq) : Tl w base t vk vq := by
  obtain ⟨mid, lo, L, h1, h2, h0, h3, h4, h5, h6, h7, h8⟩ := h.ex
  exact Tl.of_own h.kind h.num h.str h3 h.sizes (own_less h5 h1) h7 (fun x hx => (h8 x hx).less (by omega))
theorem Cpy.tv (h : Cpy w base t vk vq) : Tv w w.heap.size t vk vq := h.tl.tv
theorem Cpy.from_ (h : Cpy w base t vk vq) (hf : From base w w') : Cpy w' base t vk vq := by
  obtain ⟨mid, lo, L, h1, h2, h0, h3, h4, h5, h6, h7, h8⟩ := h.ex
  exact ⟨h.kind, h.num, h.str, h.sizes, mid, lo, L, h1, h2, Nat.le_trans h0 hf.size, own_from h3 hf, h4, own_from h5 (hf.less h1), h6, h7, fun x hx => (h8 x hx).from_ (hf.less (by omega))⟩
theorem Cpy.less (h : Cpy w base t vk vq) (hb : base' ≤ base) : Cpy w base' t vk vq := by
  obtain ⟨mid, lo, L, h1, h2, h0, h3, h4, h5, h6, h7, h8⟩ := h.ex
  exact ⟨h.kind, h.num, h.str, h.sizes, mid, lo, L, by omega, h2, h0, own_less h3 hb, h4, h5, h6, h7, h8⟩
theorem Cpy.one (h : Cpy w base t vk vq) : vk.oneCell' = true ∧ vq.oneCell' = true := h.tv.one
end
theorem step_store_mid {P : Program} {ops : Array Oper} {o : Oper} {a : Act} {w : World} {K : Act → World → Prop} {Q : Exit → Act → World → Prop} {F : Prop} (ty : TypeId) (x y : Operand) (hgd : o.guard = none) (ho : o.op = .store ty x y) (b off : Nat) (cells : Array Value)
    (hx : a.eval x = .pointer (some ⟨b, off, none⟩)) (hy : a.eval y = .agg cells) (ht : w.there b off cells.size) (hi : (P.info? ty).map (·.size) = some cells.size) (h1 : cells.all (·.oneCell') = true)
    (h : K (a.put o.dst undef) (w.setCells b off cells.toList)) : if Region.wanted o (yielded ops a.tmps) = true then Oper.wp P o a w K Q else F := by
  have hw : Region.wanted o (yielded ops a.tmps) = true := by simp [Region.wanted, hgd]
  rw [if_pos hw]
  exact wp_store_mid ty x y ho b off cells hx hy ht hi h1 h
theorem Only.setCells {g : Nat} {w : World} : ∀ (vs : List Value) (o : Nat) {w' : World}, Only g w w' → Only g w (w'.setCells g o vs)
  | [], _, _, h => h
  | v :: r, o, w', h => Only.setCells r (o + 1) (h.setCell o v)
theorem Only.setRow {g : Nat} {w w' : World} (h : Only g w w') (cs : Array Value) : Only g w (w'.setRow g cs) :=
  ⟨h.os, h.tape, h.output, by rw [size_setRow]; exact h.size, fun j hj hg => (setRow_other w' g j cs hg).trans (h.block j hj hg)⟩
theorem own_alloc {w : World} {base n sz : Nat} {t : TypeId} {v : Value} {xs : List Value} (h : w.ownsRow base t sz v n xs) (o : Obj) : (w.alloc o).ownsRow base t sz v n xs := own_from h (From.of_below ((Below.refl _ _).alloc (Nat.le_refl _) o))
theorem below_cells {B : Nat} {a w : World} {g : Nat} (hg : B ≤ g) (vs : List Value) (o : Nat) (h : Below B a w) : Below B a (w.setCells g o vs) := below_setCells hg vs o h
theorem whole_cells {w : World} {h g t : Nat} {cs : Array Value} (hw : Whole w h t cs) (hg : h ≠ g) (vs : List Value) (o : Nat) : Whole (w.setCells g o vs) h t cs := hw.only (Only.setCells vs o (Only.refl g w)) hg
theorem own_apart {w w' : World} {g base n sz : Nat} {t : TypeId} {v : Value} {xs : List Value} (h : w.ownsRow base t sz v n xs) (hk : Only g w w') (hg : ∀ j, v.ownBlock = some j → j ≠ g) : w'.ownsRow base t sz v n xs := by
  obtain ⟨h1, h2⟩ := h
  refine ⟨h1, ?_⟩
  rcases h2 with h2 | ⟨j, cap, cur, hv, hb, hh, r⟩
  · exact .inl h2
  · exact .inr ⟨j, cap, cur, hv, hb, by rw [hk.block j (Array.getElem?_eq_some_iff.1 hh).1 (hg j (by rw [hv]; rfl))]; exact hh, r⟩
theorem size_cells {g : Nat} : ∀ (vs : List Value) (o : Nat) (w : World), (w.setCells g o vs).heap.size = w.heap.size
  | [], _, _ => rfl
  | v :: r, o, w => by
    rw [World.setCells, size_cells r]
    simp [World.setCell]
theorem set_mid {α : Type} {M : List α} {l : List α} {i : Nat} (hi : i < l.length) (hM : M.length = i) (x : α) : (M ++ l.drop i).set i x = (M ++ [x]) ++ l.drop (i + 1) := by
  subst hM
  rw [List.set_append_right _ _ (Nat.le_refl _), Nat.sub_self, List.drop_eq_getElem_cons hi, List.append_assoc]
  rfl

set_option maxHeartbeats 4000000 in
theorem copy11_any (k : Nat) : ∀ (t : Tn), SizeOf.sizeOf t < k → t.Few → ∀ {w : World} {B : Nat} {vk vq : Value}, Tv w B t vk vq →
    Calls Tryz.prog 70 #[tval t vk vq] w fun e w' => ∃ uk uq, e = .returned (tval t uk uq) ∧ Cpy w' w.heap.size t uk uq ∧ Below w.heap.size w w' := by
  induction k with
  | zero => intro t h; omega
  | succ k ih =>
    intro t hk hfew w B vk vq H
    obtain ⟨b, w1, hs, hal, hT1, hb1⟩ := boxedT H
    obtain ⟨g, w2, hg, hal2, hY, hb2, hs2⟩ := var_tree w1
    have hbg : b < g := by rw [← hg]; exact hT1.lt
    have hT := hT1.below hb2 hbg
    have HT := Lib.hid hT
    have HY := Lib.hid hY
    have HB2 : Hid (Below b w w2) := Lib.hid (hb1.trans (hb2.mono (by omega)))
    have hTw : Tv w b t vk vq := by rw [← hs]; exact H.all
    obtain ⟨A, c, L, rfl, hL, h1, h2, h3, hKw⟩ := hTw.kv.list
    have HKw := Lib.hid hKw
    obtain ⟨Ak, ck, rfl, hSk⟩ := hT.tv.keys
    have hbk := hT.tv.kind
    have hbn := hT.tv.num
    have hbs := hT.tv.str
    have HSZ := Lib.hid hSk.2.2.2.2
    obtain ⟨hfk, hfq, hfl⟩ : t.keys.length ≤ 1000000 ∧ t.kids.length ≤ 1000000 ∧ ∀ u ∈ t.kids, u.Few := by cases hfew with | mk a b c => exact ⟨a, b, c⟩
    have hLn : L.length = t.kids.length := by rw [← hL]; simp
    have IH := Lib.hid (fun i (hi : i < L.length) {w : World} {B : Nat} (h : Tv w B L[i].1 L[i].2.1 L[i].2.2) => ih L[i].1 (by
      have h1 : L[i].1 = t.kids[i]'(by omega) := by simp [← hL]
      have := Tn.kid_lt (t := t) (i := i) (by omega)
      rw [h1]; omega) (hfl _ (by rw [← hL]; exact List.mem_map.2 ⟨_, List.getElem_mem hi, rfl⟩)) h)
    have CK := Lib.hid (clonestr_any (w := w2) hT.tv.keys hfk)
    have CQ := Lib.hid (fun (W : World) (h : Below b w W) (hz : b ≤ W.heap.size) => clonetree_any (w := W) (hKw.below h) h1 h3 hz (by omega))
    have HLn := Lib.hid hLn
    have HLm := Lib.hid hL
    have HBd := Lib.hid (And.intro hbk (And.intro hbn hbs))
    obtain ⟨n, hn⟩ : ∃ n, Hid (L.length = n) := ⟨_, rfl⟩
    obtain ⟨nk, hnk⟩ : ∃ n, Hid (t.keys.length = n) := ⟨_, rfl⟩
    have hX := HT.out.bx
    unfold tcells at hal hX
    unfold tval
    rw [hnk.out] at hal hX CK ⊢
    rw [hn.out] at hal hX CQ h1 ⊢
    have HX := Lib.hid hX
    have c3 : w2.cell? ⟨b, 3, none⟩ = some (.slice Ak nk ck) := hX.at_ 3
    clear hT hT1 hY hb1 hb2 H hTw hKw hSk hfew hfl ih hbk hbn hbs hL hLn hX hfk hfq
    have hm2 := h2
    unfold maxLen at hm2
    go_enter Tryz.func70, Tryz.ntmps70
    go_wp2_with fail
    refine (CK.out).mono ?_
    rintro e w3 ⟨uk', rfl, hok, hb3⟩
    obtain ⟨kA, kc, rfl⟩ := own_shape hok
    obtain ⟨uk, huk⟩ : ∃ uk, uk = Value.slice kA nk kc := ⟨_, rfl⟩
    rw [← huk] at hok
    have hs3 := hb3.size
    have hx3 := HX.out.below hb3 (by omega)
    have hy3 := HY.out.below hb3 (by omega)
    have k3 : w3.cell? ⟨b, 3, none⟩ = some (.slice Ak nk ck) := hx3.at_ 3
    have f3 : w3.frozen? ⟨b, 3, none⟩ = false := hx3.free 3
    have HB3 : Hid (Below b w (w3.setCell ⟨b, 3, none⟩ uk)) := Lib.hid ((HB2.out.trans (hb3.mono (by omega))).setCell (p := ⟨b, 3, none⟩) (Nat.le_refl b) uk)
    have HX3 := Lib.hid (hx3.put 3 uk)
    have HY3 := Lib.hid (hy3.other (p := ⟨b, 3, none⟩) (by show g ≠ b; omega) uk)
    have HO3 := Lib.hid (own_from hok ((From.refl _ _).setCell (p := ⟨b, 3, none⟩) (by show b < w2.heap.size; omega) uk))
    have HL3 : Hid (∀ j, uk.ownBlock = some j → j < (w3.setCell ⟨b, 3, none⟩ uk).heap.size) := Lib.hid (fun j hj => by have := (hok.lt j hj).2; simpa [World.setCell] using this)
    have hz3 : (w3.setCell ⟨b, 3, none⟩ uk).heap.size = w3.heap.size := by simp [World.setCell]
    obtain ⟨w4, hw4⟩ : ∃ w4, w3.setCell ⟨b, 3, none⟩ uk = w4 := ⟨_, rfl⟩
    rw [hw4] at HB3 HX3 HY3 HO3 HL3 hz3
    have c4 : w4.cell? ⟨b, 4, none⟩ = some (.slice A n c) := HX3.out.at_ 4
    rw [huk] at hw4
    have HUK := Lib.hid huk
    have C2 := Lib.hid (CQ.out w4 HB3.out (by omega))
    clear huk hok hb3 hx3 hy3 CQ CK
    go_wp2_with fail
    refine (C2.out).mono ?_
    rintro e w5 ⟨uq', rfl, hoq, hb5⟩
    obtain ⟨qA, qc, rfl⟩ := own_shape hoq
    obtain ⟨uq, huq⟩ : ∃ uq, uq = Value.slice qA n qc := ⟨_, rfl⟩
    rw [← huq] at hoq
    have hs5 := hb5.size
    have hx5 := HX3.out.below hb5 (by omega)
    have hy5 := HY3.out.below hb5 (by omega)
    have k4 : w5.cell? ⟨b, 4, none⟩ = some (.slice A n c) := hx5.at_ 4
    have f4 : w5.frozen? ⟨b, 4, none⟩ = false := hx5.free 4
    have HB5 : Hid (Below b w (w5.setCell ⟨b, 4, none⟩ uq)) := Lib.hid ((HB3.out.trans (hb5.mono (by omega))).setCell (p := ⟨b, 4, none⟩) (Nat.le_refl b) uq)
    have HX5 := Lib.hid (hx5.put 4 uq)
    have HY5 := Lib.hid (hy5.other (p := ⟨b, 4, none⟩) (by show g ≠ b; omega) uq)
    have HO5 := Lib.hid (own_from (own_from HO3.out (From.of_below hb5)) ((From.refl _ _).setCell (p := ⟨b, 4, none⟩) (by show b < w2.heap.size; omega) uq))
    have HQ5 := Lib.hid (own_from hoq ((From.refl _ _).setCell (p := ⟨b, 4, none⟩) (by show b < w4.heap.size; omega) uq))
    have HL5 : Hid (∀ j, uq.ownBlock = some j → j < (w5.setCell ⟨b, 4, none⟩ uq).heap.size) := Lib.hid (fun j hj => by have := (hoq.lt j hj).2; simpa [World.setCell] using this)
    have hz5 : (w5.setCell ⟨b, 4, none⟩ uq).heap.size = w5.heap.size := by simp [World.setCell]
    obtain ⟨w6, hw6⟩ : ∃ w6, w5.setCell ⟨b, 4, none⟩ uq = w6 := ⟨_, rfl⟩
    rw [hw6] at HB5 HX5 HY5 HO5 HQ5 HL5 hz5
    simp only [List.setIfInBounds_toArray, List.set_cons_succ, List.set_cons_zero] at HX5
    have d4 : w6.cell? ⟨b, 4, none⟩ = some (.slice qA n qc) := by rw [← huq]; exact HX5.out.at_ 4
    rw [huq] at hw6
    have HUQ := Lib.hid huq
    clear huq hoq hb5 hx5 hy5 C2
    go_wp2_with fail
    go_loopw [16] (fun vi wr => ∃ (i : Nat) (M : List Tq), i ≤ n ∧ vi = .int .i64 i ∧ M.length = i ∧ Hid (M.map (·.1) = (L.take i).map (·.1)) ∧ Hid (wr.ownsRow w4.heap.size 25 5 uq n (five (M ++ L.drop i))) ∧ Hid (∀ x ∈ M, Tl wr w6.heap.size x.1 x.2.1 x.2.2) ∧ Hid (wr.ownsRow w2.heap.size 9 1 uk nk (txs t.keys)) ∧ Hid (Whole wr b 25 #[.int .i64 t.kind, .int .i64 t.n, .string t.s, uk, uq]) ∧ Hid (Whole wr g 25 #[.int .i64 0, .int .i64 0, .string ⟨#[]⟩, .slice none 0 0, .slice none 0 0]) ∧ Hid (Below b w wr) ∧ w6.heap.size ≤ wr.heap.size) (fun vi _ => n - (intOf vi).toNat)
    case atStart => exact ⟨0, [], by omega, rfl, rfl, Lib.hid (by simp), Lib.hid (by simpa using HQ5.out), Lib.hid (fun x hx => by cases hx), HO5, HX5, HY5, HB5, Nat.le_refl _⟩
    case round =>
      obtain ⟨i, M, hi, rfl, hMl, HM, HQ, HT', HO, HX', HY', HB, hsz⟩ := hrel
      by_cases hlt : i < n
      · have hil : i < L.length := by rw [hn.out]; exact hlt
        obtain ⟨gq, cq0, eq, hgq1, hgq2⟩ := HQ.out.form (by omega)
        rw [HUQ.out] at eq
        injection eq with eq1 _ eq2
        subst eq1 eq2
        have hgq6 : gq < w6.heap.size := HL5.out gq (by rw [HUQ.out]; rfl)
        obtain ⟨_, _, eA, _, _, hv⟩ := HKw.out i hil
        have HCW := Lib.hid (fun (W : World) (h : Below b w W) => IH.out i hil (hv.keep h))
        have hPl : (M ++ L.drop i).length = n := by rw [List.length_append, hMl, List.length_drop, hn.out]; omega
        have hPi : (M ++ L.drop i)[i]'(by rw [hPl]; exact hlt) = L[i] := by
          rw [List.getElem_append_right (by omega)]
          simp [hMl]
        obtain ⟨f0, f1, f2, f3, f4⟩ := five_get (M ++ L.drop i) i (by rw [hPl]; exact hlt)
        rw [hPi] at f0 f1 f2 f3 f4
        have hLi : Hid (L.take (i + 1) = L.take i ++ [L[i]]) := Lib.hid (List.take_succ_eq_append_getElem hil)
        have HMi := Lib.hid (set_mid (M := M) hil hMl)
        obtain ⟨Axk, cxk, exk, _⟩ := hv.keys
        obtain ⟨Axq, cxq, exq, _⟩ := hv.kids
        rw [exk] at f3 HCW
        rw [exq] at f4 HCW
        obtain ⟨x, hx⟩ : ∃ x, Hid (L[i].1 = x) := ⟨L[i].1, Lib.hid rfl⟩
        rw [hx.out] at f0 f1 f2 f3 f4 HCW
        have cell : ∀ j u, (five (M ++ L.drop i))[j]? = some u → wr.cell? ⟨gq, j, none⟩ = some u := fun j u hu => by
          obtain ⟨A', c', e, _, _, _, h4⟩ := own_look HQ.out
          rw [HUQ.out] at e
          injection e with e1 _ _
          obtain ⟨b', e', _, _, hc⟩ := h4 j u hu
          rw [← e1] at e'
          injection e' with e'
          injection e' with e' _ _
          subst e'
          exact hc
        have q0 := cell _ _ f0
        have q1 := cell _ _ f1
        have q2 := cell _ _ f2
        have q3 := cell _ _ f3
        have q4 := cell _ _ f4
        obtain ⟨gk, wk, hgk, halk, hYk, hbk, hsk⟩ := var_tree wr
        have HYk := Lib.hid hYk
        have HBk := Lib.hid hbk
        clear f0 f1 f2 f3 f4 cell hv hYk hbk exk exq eA
        go_wp2_with (refine wpList_store_whole rfl rfl rfl rfl rfl HYk.out (treeI rfl) rfl (by simp [Value.oneCell']) ?_)
        obtain ⟨w7, hw7⟩ : ∃ w7, wk.setRow gk #[.int .i64 x.kind, .int .i64 x.n, .string x.s, .slice Axk x.keys.length cxk, .slice Axq x.kids.length cxq] = w7 := ⟨_, rfl⟩
        have hbr : Below wr.heap.size wr w7 := by rw [← hw7]; exact below_row (HBk.out.mono (by omega)) (by omega) _
        have hK7 : Whole w7 gk 25 #[.int .i64 x.kind, .int .i64 x.n, .string x.s, .slice Axk x.keys.length cxk, .slice Axq x.kids.length cxq] := by rw [← hw7]; exact HYk.out.row _
        have hX7 := HX'.out.below hbr HX'.out.lt
        have hBr := HB.out.size
        rw [HUQ.out] at hX7
        have HP : Hid (∀ W, Only gq w7 W → W.cell? ⟨b, 4, none⟩ = some (.slice (some ⟨gq, 0, none⟩) n qc) ∧ W.cell? ⟨gk, 0, none⟩ = some (.int .i64 x.kind) ∧ W.cell? ⟨gk, 1, none⟩ = some (.int .i64 x.n) ∧ W.cell? ⟨gk, 2, none⟩ = some (.string x.s) ∧ W.cell? ⟨gk, 3, none⟩ = some (.slice Axk x.keys.length cxk) ∧ W.cell? ⟨gk, 4, none⟩ = some (.slice Axq x.kids.length cxq)) := Lib.hid (fun W hW => by
          have r1 := hX7.only hW (by omega)
          have r2 := hK7.only hW (by omega)
          exact ⟨r1.at_ 4, r2.at_ 0, r2.at_ 1, r2.at_ 2, r2.at_ 3, r2.at_ 4⟩)
        have HBW : Hid (∀ W, Only gq w7 W → Below b w W) := Lib.hid (fun W hW => (HB.out.trans (hbr.mono (by omega))).trans (hW.below (by omega) (by have := hbr.size; omega)))
        have HBR := Lib.hid hbr
        have HQC := Lib.hid (HQ.out.form (by omega))
        clear hX7 hK7 hbr q0 q1 q2 q3 q4
        rw [hw7]
        clear hw7
        refine wp_region_plan (S := fun W => Only gq w7 W) [(0, true), (1, true), (2, true), (3, true), (4, false), (5, true), (6, false)] (by kernel_rfl) (by kernel_rfl) rfl (by kernel_rfl) (fun _ _ _ _ _ h => h) (Only.refl _ _).drew ?_
        iterate 4
          refine along_take (v := ?_) rfl (by rfl) ?_ ?_
          rotate_left
          · intro W hW
            obtain ⟨k4, k5, k6, k7, k8, k9⟩ := HP.out W hW
            go_simp; try with_reducible rfl
          simp only [Act.put, List.setIfInBounds_toArray, List.set_cons_zero, List.set_cons_succ]
        refine along_step rfl (fun K hK => ?_)
        go_simp
        refine (HCW.out _ (HBW.out _ (Only.refl _ _).drew)).mono ?_
        rintro e w8 ⟨u1, u2, rfl, hc8, hb8⟩
        obtain ⟨A1, c1, rfl, _⟩ := hc8.tv.keys
        obtain ⟨A2, c2, rfl, _⟩ := hc8.tv.kids
        have hO8 : Only gq w7 w8 := (Only.refl gq w7).drew.trans (Only.of_below hb8)
        refine hK.out _ _ hO8 ?_
        clear hK K
        refine along_take (v := ?_) rfl (by rfl) ?_ ?_
        rotate_left
        · intro W hW
          go_simp; try with_reducible rfl
        simp only [Act.put, List.setIfInBounds_toArray, List.set_cons_zero, List.set_cons_succ]
        have HBR8 : Below wr.heap.size wr w8 := HBR.out.trans ((Below.refl _ _).drew.trans (hb8.mono HBR.out.size))
        have hQ8 : w8.ownsRow w4.heap.size 25 5 (.slice (some ⟨gq, 0, none⟩) n qc) n (five (M ++ L.drop i)) := by rw [← HUQ.out]; exact own_from HQ.out (From.of_below HBR8)
        have hst := own_store hQ8 hPl.symm (i := i) (by rw [hPl]; exact hlt) (x, .slice A1 x.keys.length c1, .slice A2 x.kids.length c2)
        have hth := own_there hQ8 hPl.symm (i := i) (by rw [hPl]; exact hlt)
        rw [HMi.out] at hst
        have hf8 := From.of_below (lo := w6.heap.size) HBR8
        have hX8 := HX'.out.below HBR8 HX'.out.lt
        have hY8 := HY'.out.below HBR8 HY'.out.lt
        have hO9 := own_from HO.out (From.of_below HBR8)
        refine along_step rfl (fun K hK => ?_)
        refine step_store_mid 25 _ _ rfl rfl gq (i * 5) #[.int .i64 x.kind, .int .i64 x.n, .string x.s, .slice A1 x.keys.length c1, .slice A2 x.kids.length c2] rfl rfl hth (treeI rfl) (by simp [Value.oneCell']) ?_
        refine hK.out _ _ (hO8.setCells _ _) ?_
        clear hK K
        refine along_done ?_
        obtain ⟨w9, hw9⟩ : ∃ w9, w8.setCells gq (i * 5) (#[.int .i64 x.kind, .int .i64 x.n, .string x.s, .slice A1 x.keys.length c1, .slice A2 x.kids.length c2] : Array Value).toList = w9 := ⟨_, rfl⟩
        have hs9 : w9.heap.size = w8.heap.size := by rw [← hw9]; exact size_cells _ _ _
        have hf9 : From w6.heap.size w8 w9 := by rw [← hw9]; exact From.setCells hgq6 _ _ (From.refl _ _)
        have HR1 := Lib.hid hst
        have HR2 : Hid (∀ y ∈ M ++ [(x, Value.slice A1 x.keys.length c1, Value.slice A2 x.kids.length c2)], Tl w9 w6.heap.size y.1 y.2.1 y.2.2) := Lib.hid (fun y hy => by
          rcases List.mem_append.1 hy with hy | hy
          · exact ((HT'.out y hy).from_ hf8).from_ hf9
          · rw [List.mem_singleton] at hy
            subst hy
            exact (hc8.tl.less (by simp; have := HBR.out.size; omega)).from_ hf9)
        have HR3 : Hid (w9.ownsRow w2.heap.size 9 1 uk nk (txs t.keys)) := Lib.hid (by
          rw [← hw9]
          exact own_apart hO9 (Only.setCells _ _ (Only.refl gq w8)) (fun j hj => by have := HL3.out j hj; omega))
        have HR4 : Hid (Whole w9 b 25 #[.int .i64 t.kind, .int .i64 t.n, .string t.s, uk, uq]) := Lib.hid (by rw [← hw9]; exact whole_cells hX8 (by omega) _ _)
        have HR5 : Hid (Whole w9 g 25 #[.int .i64 0, .int .i64 0, .string ⟨#[]⟩, .slice none 0 0, .slice none 0 0]) := Lib.hid (by rw [← hw9]; exact whole_cells hY8 (by omega) _ _)
        have HR6 : Hid (Below b w w9) := Lib.hid (by rw [← hw9]; exact below_cells (by omega) _ _ (HB.out.trans (HBR8.mono (by omega))))
        have hsz9 : w6.heap.size ≤ w9.heap.size := by have := HBR8.size; omega
        have HR7 : Hid ((M ++ [(x, Value.slice A1 x.keys.length c1, Value.slice A2 x.kids.length c2)]).map (·.1) = (L.take (i + 1)).map (·.1)) := Lib.hid (by rw [hLi.out, List.map_append, List.map_append, HM.out]; simp [hx.out])
        rw [hw9] at HR1
        simp only [] at hw9
        rw [hw9]
        clear hw9 hst hth hf8 hX8 hY8 hO9 hO8 hc8 hb8 hQ8 HBR8 hs9 hf9
        go_wp2_with fail
        go_roundw
        case rel => exact ⟨i + 1, M ++ [(x, Value.slice A1 x.keys.length c1, Value.slice A2 x.kids.length c2)], by omega, by go_num, by simp [hMl], HR7, by rw [HUQ.out]; exact HR1, HR2, HR3, HR4, HR5, HR6, hsz9⟩
        case measure => simp [intOf]; omega
      · have hin : i = n := by omega
        have hXe := HX'.out
        rw [HUK.out, HUQ.out] at hXe
        have m0 := hXe.at_ 0
        have m1 := hXe.at_ 1
        have m2 := hXe.at_ 2
        have m3 := hXe.at_ 3
        have m4 := hXe.at_ 4
        simp at m0 m1 m2 m3 m4
        have HM' : Hid (M.map (·.1) = t.kids) := Lib.hid (by rw [HM.out, hin, ← hn.out, List.take_length]; exact HLm.out)
        have HQ' : Hid (wr.ownsRow w4.heap.size 25 5 uq M.length (five M)) := Lib.hid (by
          have := HQ.out
          rw [hin, ← hn.out, List.drop_length, List.append_nil, hn.out, ← hin, ← hMl] at this
          exact this)
        have hMn : M.length = n := by omega
        have HOe : Hid (wr.ownsRow w2.heap.size 9 1 (.slice kA nk kc) nk (txs t.keys)) := Lib.hid (by rw [← HUK.out]; exact HO.out)
        have HQe : Hid (wr.ownsRow w4.heap.size 25 5 (.slice qA n qc) M.length (five M)) := Lib.hid (by rw [← HUQ.out]; exact HQ'.out)
        clear hXe HM HQ hin hMl
        go_wp2_with (refine wpList_store_whole rfl rfl rfl rfl rfl HY'.out (treeI rfl) rfl (by simp [Value.oneCell']) ?_)
        have hf : From (g + 1) wr (wr.setRow g #[.int .i64 t.kind, .int .i64 t.n, .string t.s, .slice kA nk kc, .slice qA n qc]) := (From.refl _ _).setRow (by omega) _
        refine bodyPost_ret (v := tval t (.slice kA nk kc) (.slice qA n qc)) ?_ rfl ⟨.slice kA nk kc, .slice qA n qc, rfl, ⟨HBd.out.1, HBd.out.2.1, HBd.out.2.2, HSZ.out, w4.heap.size, w6.heap.size, M, by omega, by omega, by rw [size_setRow]; exact hsz, ?_, ?_, ?_, ?_, HM'.out, ?_⟩, ?_⟩
        · exact results_tree rfl rfl (HY'.out.row _) rfl
        · rw [hnk.out]
          exact own_less (base := w2.heap.size) (own_from HOe.out (hf.less (lo' := w2.heap.size) (by omega))) (by omega)
        · rw [← HUK.out]; exact HL3.out
        · exact own_from HQe.out (hf.less (lo' := w4.heap.size) (by omega))
        · rw [← HUQ.out]; exact HL5.out
        · exact fun y hy => (HT'.out y hy).from_ (hf.less (lo' := w6.heap.size) (by omega))
        · rw [hs]
          exact below_row HB.out (by omega) _
end Go.Proofs.YtldjdoebappkoaaGreatDoor
