/- Trees in blocks that meet a condition; a list or a dictionary while it is being read. -/
import Derived.Test.YtphanlkobkkgfaaRsetn
namespace Go.Proofs.Ytphanlkobkkgfaa
open Go.RowKit
set_option linter.unusedVariables false
set_option maxRecDepth 100000
set_option linter.unusedSimpArgs false

/-- the slices vk and vq are those of the tree t; all lies in blocks that meet P -/
inductive Tp (w : World) (P : Nat → Prop) : Tn → Value → Value → Prop
  | mk {k n : Int} {s : ByteArray} {keys : List ByteArray} {kids : List Tn} {Ak A : Option Addr} {ck c : Nat} (K Q : Nat → Value)
      (rk : -9223372036854775808 ≤ k ∧ k ≤ 9223372036854775807) (rn : -9223372036854775808 ≤ n ∧ n ≤ 9223372036854775807) (rs : s.size ≤ maxLen)
      (hk : ∀ i (h : i < keys.length), ∃ b off, Ak = some ⟨b, off, none⟩ ∧ P b ∧ w.cell? ⟨b, off + i, none⟩ = some (.string keys[i])) (h1 : keys.length ≤ ck) (h2 : ck ≤ maxLen) (h3 : Ak = none → ck = 0) (h4 : ∀ s ∈ keys, s.size ≤ maxLen)
      (hl : kids.length ≤ c) (hm : c ≤ maxLen) (hn : A = none → c = 0)
      (hc : ∀ i (h : i < kids.length), ∃ b off, A = some ⟨b, off, none⟩ ∧ P b ∧ Cell5 w b (off + i * 5) kids[i] (K i) (Q i))
      (ht : ∀ i (h : i < kids.length), Tp w P kids[i] (K i) (Q i)) : Tp w P (.mk k n s keys kids) (.slice Ak keys.length ck) (.slice A kids.length c)
section
variable {P P' : Nat → Prop} {w w' : World} {t : Tn} {vk vq : Value}
theorem Tp.tv (h : Tp w P t vk vq) : Tv w w.heap.size t vk vq := by
  induction h with
  | mk K Q rk rn rs hk h1 h2 h3 h4 hl hm hn hc ht ih =>
    refine .mk K Q rk rn rs ⟨_, _, rfl, fun i hi => ?_, h1, h2, h3, h4⟩ hl hm hn (fun i hi => ?_) ih
    · obtain ⟨b, off, e, _, hcl⟩ := hk i hi
      exact ⟨b, off, e, lt_of_cell hcl, hcl⟩
    · obtain ⟨b, off, e, _, h5⟩ := hc i hi
      exact ⟨b, off, e, lt_of_cell h5.c0, h5⟩
/-- the blocks that meet P are as they were, and meet P' -/
theorem Tp.keep (h : Tp w P t vk vq) (hf : ∀ b, P b → b < w.heap.size → P' b ∧ w'.heap[b]? = w.heap[b]?) : Tp w' P' t vk vq := by
  induction h with
  | mk K Q rk rn rs hk h1 h2 h3 h4 hl hm hn hc ht ih =>
    refine .mk K Q rk rn rs (fun i hi => ?_) h1 h2 h3 h4 hl hm hn (fun i hi => ?_) ih
    · obtain ⟨b, off, e, hb, hcl⟩ := hk i hi
      obtain ⟨p, q⟩ := hf b hb (lt_of_cell hcl)
      exact ⟨b, off, e, p, (World.cell?_of_block q).trans hcl⟩
    · obtain ⟨b, off, e, hb, h5⟩ := hc i hi
      obtain ⟨p, q⟩ := hf b hb (lt_of_cell h5.c0)
      exact ⟨b, off, e, p, ⟨(World.cell?_of_block (a := ⟨b, _, none⟩) q).trans h5.c0, (World.cell?_of_block (a := ⟨b, _, none⟩) q).trans h5.c1, (World.cell?_of_block (a := ⟨b, _, none⟩) q).trans h5.c2, (World.cell?_of_block (a := ⟨b, _, none⟩) q).trans h5.c3, (World.cell?_of_block (a := ⟨b, _, none⟩) q).trans h5.c4⟩⟩
theorem Tp.of_own {base : Nat} {L : List Tq} (b1 : -9223372036854775808 ≤ t.kind ∧ t.kind ≤ 9223372036854775807) (b2 : -9223372036854775808 ≤ t.n ∧ t.n ≤ 9223372036854775807) (b3 : t.s.size ≤ maxLen)
    (hk : w.ownsRow base 9 1 vk t.keys.length (txs t.keys)) (hx : ∀ s ∈ t.keys, s.size ≤ maxLen) (hq : w.ownsRow base 25 5 vq L.length (five L)) (hL : L.map (·.1) = t.kids) (hP : ∀ b, base ≤ b → P b) (hs : ∀ x ∈ L, Tp w P x.1 x.2.1 x.2.2) : Tp w P t vk vq := by
  obtain ⟨k, n, s, keys, kids⟩ := t
  change L.map (·.1) = kids at hL
  obtain ⟨Ak, ck, rfl, h1, h2, h3, h4⟩ := own_look hk
  obtain ⟨A, c, rfl, g1, g2, g3, g4⟩ := own_look hq
  have hlen : L.length = kids.length := by rw [← hL]; simp
  rw [hlen]
  refine .mk (fun i => (L.map (·.2.1)).getD i (.bool false)) (fun i => (L.map (·.2.2)).getD i (.bool false)) b1 b2 b3 (fun i hi => ?_) h1 h2 h3 hx (by omega) g2 g3 (fun i hi => ?_) (fun i hi => ?_)
  · obtain ⟨b, e, hb, _, hc⟩ := h4 i _ (show (txs keys)[i]? = some (.string keys[i]) by simp [txs, List.getElem?_eq_getElem hi])
    exact ⟨b, 0, e, hP b hb, by rw [Nat.zero_add]; exact hc⟩
  · have hi' : i < L.length := by omega
    have e1 : (L.map (·.2.1)).getD i (.bool false) = L[i].2.1 := by simp [List.getD, List.getElem?_eq_getElem hi']
    have e2 : (L.map (·.2.2)).getD i (.bool false) = L[i].2.2 := by simp [List.getD, List.getElem?_eq_getElem hi']
    have e3 : kids[i] = L[i].1 := by subst hL; simp
    simp only [e1, e2, e3]
    obtain ⟨f0, f1, f2, f3, f4⟩ := five_get L i hi'
    obtain ⟨b, eb, hb, hlt, q0⟩ := g4 _ _ f0
    obtain ⟨_, eb1, _, _, q1⟩ := g4 _ _ f1
    obtain ⟨_, eb2, _, _, q2⟩ := g4 _ _ f2
    obtain ⟨_, eb3, _, _, q3⟩ := g4 _ _ f3
    obtain ⟨_, eb4, _, _, q4⟩ := g4 _ _ f4
    subst eb
    cases eb1; cases eb2; cases eb3; cases eb4
    refine ⟨b, 0, rfl, hP b hb, ⟨?_, ?_, ?_, ?_, ?_⟩⟩ <;> rw [Nat.zero_add]
    · exact q0
    · exact q1
    · exact q2
    · exact q3
    · exact q4
  · have hi' : i < L.length := by omega
    have e1 : (L.map (·.2.1)).getD i (.bool false) = L[i].2.1 := by simp [List.getD, List.getElem?_eq_getElem hi']
    have e2 : (L.map (·.2.2)).getD i (.bool false) = L[i].2.2 := by simp [List.getD, List.getElem?_eq_getElem hi']
    have e3 : kids[i] = L[i].1 := by subst hL; simp
    simp only [e1, e2, e3]
    exact hs _ (List.getElem_mem hi')
theorem Tp.leaf (w : World) (P : Nat → Prop) {k n : Int} {s : ByteArray} (b1 : -9223372036854775808 ≤ k ∧ k ≤ 9223372036854775807) (b2 : -9223372036854775808 ≤ n ∧ n ≤ 9223372036854775807) (b3 : s.size ≤ maxLen) : Tp w P (.mk k n s [] []) (.slice none 0 0) (.slice none 0 0) :=
  .mk (fun _ => .bool false) (fun _ => .bool false) b1 b2 b3 (fun i hi => by simp at hi) (by simp) (by unfold maxLen; omega) (fun _ => rfl) (fun s hs => by cases hs) (by simp) (by unfold maxLen; omega) (fun _ => rfl) (fun i hi => by simp at hi) (fun i hi => by simp at hi)
end

/-! ### while it is being read: block h holds the answer (zero), block g the tree -/
theorem whole_grown12 {w w' : World} {b t : Nat} {cs : Array Value} {r : Option Nat} (h : Whole w b t cs) (hk : w.grownBy w' r) (hne : some b ≠ r) : Whole w' b t cs := (hk.block b h.lt hne).trans h
theorem own_same12 {w w' : World} {base n sz : Nat} {t : TypeId} {v : Value} {xs : List Value} (h : w.ownsRow base t sz v n xs) (hk : ∀ g, v.ownBlock = some g → g < w.heap.size → w'.heap[g]? = w.heap[g]?) : w'.ownsRow base t sz v n xs := by
  obtain ⟨h1, h2⟩ := h
  refine ⟨h1, ?_⟩
  rcases h2 with h2 | ⟨g, cap, cur, hv, hg, hh, r⟩
  · exact .inl h2
  · exact .inr ⟨g, cap, cur, hv, hg, by rw [hk g (by rw [hv]; rfl) (Array.getElem?_eq_some_iff.1 hh).1]; exact hh, r⟩
structure Lst (w : World) (h g : Nat) (kd : Int) (ks : List ByteArray) (L : List Tq) (vk vq : Value) (wr : World) : Prop where
  zero : Whole wr h 25 #[.int .i64 0, .int .i64 0, .string ⟨#[]⟩, .slice none 0 0, .slice none 0 0]
  tree : Whole wr g 25 #[.int .i64 kd, .int .i64 0, .string ⟨#[]⟩, vk, vq]
  lt : w.heap.size ≤ h ∧ h < g
  keys : wr.ownsRow (g + 1) 9 1 vk ks.length (txs ks)
  kids : wr.ownsRow (g + 1) 25 5 vq L.length (five L)
  apart : ∀ b, vk.ownBlock = some b → vq.ownBlock ≠ some b
  all : ∀ x ∈ L, Tp wr (fun b => g < b ∧ vk.ownBlock ≠ some b ∧ vq.ownBlock ≠ some b) x.1 x.2.1 x.2.2
  sizes : ∀ s ∈ ks, s.size ≤ maxLen
  bel : Below w.heap.size w wr
section
variable {w : World} {h g : Nat} {kd : Int} {ks : List ByteArray} {L : List Tq} {vk vq : Value} {wr w1 w2 w3 : World}
theorem Lst.behind (H : Lst w h g kd ks L vk vq wr) (hb : Below wr.heap.size wr w1) : Lst w h g kd ks L vk vq w1 where
  zero := H.zero.below hb H.zero.lt
  tree := H.tree.below hb H.tree.lt
  lt := H.lt
  keys := own_below H.keys hb
  kids := own_below H.kids hb
  apart := H.apart
  all := fun x hx => (H.all x hx).keep (fun b p q => ⟨p, hb.block b q⟩)
  sizes := H.sizes
  bel := H.bel.trans (hb.mono H.bel.size)
theorem Lst.gk (H : Lst w h g kd ks L vk vq wr) {b : Nat} (hb : vk.ownBlock = some b) : g < b ∧ b < wr.heap.size := by have := H.keys.lt b hb; omega
theorem Lst.gq (H : Lst w h g kd ks L vk vq wr) {b : Nat} (hb : vq.ownBlock = some b) : g < b ∧ b < wr.heap.size := by have := H.kids.lt b hb; omega
/-- a key is appended -/
theorem Lst.key (H : Lst w h g kd ks L vk vq wr) {s : ByteArray} {v' : Value} (ho : w1.ownsRow (g + 1) 9 1 v' (ks ++ [s]).length (txs (ks ++ [s]))) (hg : wr.grownBy w1 vk.ownBlock) (hv : v'.ownBlock = vk.ownBlock ∨ v'.ownBlock = some wr.heap.size) (hs : s.size ≤ maxLen) :
    Lst w h g kd (ks ++ [s]) L v' vq (w1.setCell ⟨g, 3, none⟩ v') := by
  have hgl := H.tree.lt
  have hlt := H.lt
  have hne : ∀ b, b ≤ g → some b ≠ vk.ownBlock := fun b hb e => by have := H.gk e.symm; omega
  have hap : ∀ b, b < wr.heap.size → vk.ownBlock ≠ some b → v'.ownBlock ≠ some b := fun b hb hk e => by
    rcases hv with e' | e'
    · rw [e'] at e; exact hk e
    · rw [e'] at e; injection e with e; omega
  have hsm : ∀ b, g < b → b < wr.heap.size → vk.ownBlock ≠ some b → (w1.setCell ⟨g, 3, none⟩ v').heap[b]? = wr.heap[b]? := fun b h1 h2 h3 => by
    rw [heap_setCell_other w1 ⟨g, 3, none⟩ b v' (by show b ≠ g; omega)]
    exact hg.block b h2 (fun e => h3 e.symm)
  refine ⟨?_, ?_, H.lt, ?_, ?_, ?_, ?_, ?_, ?_⟩
  · exact (whole_grown12 H.zero hg (hne h (by omega))).other (p := ⟨g, 3, none⟩) (by show h ≠ g; omega) _
  · exact (whole_grown12 H.tree hg (hne g (Nat.le_refl _))).put 3 v'
  · exact own_same12 ho (fun b e _ => heap_setCell_other w1 ⟨g, 3, none⟩ b v' (by have := (ho.lt b e).1; show b ≠ g; omega))
  · exact own_same12 H.kids (fun b e hb => hsm b (H.gq e).1 hb (fun e' => H.apart b e' e))
  · intro b hb e
    have h2 := H.gq e
    rcases hv with e' | e'
    · exact H.apart b (by rw [← e']; exact hb) e
    · rw [e'] at hb; injection hb with hb; omega
  · exact fun x hx => (H.all x hx).keep (fun b p q => ⟨⟨p.1, hap b q p.2.1, p.2.2⟩, hsm b p.1 q p.2.1⟩)
  · intro x hx
    rcases List.mem_append.1 hx with hx | hx
    · exact H.sizes x hx
    · simp at hx; subst hx; exact hs
  · exact (H.bel.grown hg H.bel.size (fun b e => by have := H.gk e; omega)).setCell (p := ⟨g, 3, none⟩) (by show w.heap.size ≤ g; omega) _
/-- a kid is appended -/
theorem Lst.kid (H : Lst w h g kd ks L vk vq wr) {x : Tn} {xk xq v' : Value} (hx : Tp wr (fun b => g < b ∧ vk.ownBlock ≠ some b ∧ vq.ownBlock ≠ some b) x xk xq) (ho : w1.ownsRow (g + 1) 25 5 v' (L ++ [(x, xk, xq)]).length (five (L ++ [(x, xk, xq)]))) (hg : wr.grownBy w1 vq.ownBlock) (hv : v'.ownBlock = vq.ownBlock ∨ v'.ownBlock = some wr.heap.size) :
    Lst w h g kd ks (L ++ [(x, xk, xq)]) vk v' (w1.setCell ⟨g, 4, none⟩ v') := by
  have hgl := H.tree.lt
  have hlt := H.lt
  have hne : ∀ b, b ≤ g → some b ≠ vq.ownBlock := fun b hb e => by have := H.gq e.symm; omega
  have hap : ∀ b, b < wr.heap.size → vq.ownBlock ≠ some b → v'.ownBlock ≠ some b := fun b hb hk e => by
    rcases hv with e' | e'
    · rw [e'] at e; exact hk e
    · rw [e'] at e; injection e with e; omega
  have hsm : ∀ b, g < b → b < wr.heap.size → vq.ownBlock ≠ some b → (w1.setCell ⟨g, 4, none⟩ v').heap[b]? = wr.heap[b]? := fun b h1 h2 h3 => by
    rw [heap_setCell_other w1 ⟨g, 4, none⟩ b v' (by show b ≠ g; omega)]
    exact hg.block b h2 (fun e => h3 e.symm)
  have one : ∀ y : Tq, Tp wr (fun b => g < b ∧ vk.ownBlock ≠ some b ∧ vq.ownBlock ≠ some b) y.1 y.2.1 y.2.2 → Tp (w1.setCell ⟨g, 4, none⟩ v') (fun b => g < b ∧ vk.ownBlock ≠ some b ∧ v'.ownBlock ≠ some b) y.1 y.2.1 y.2.2 := fun y hy => hy.keep (fun b p q => ⟨⟨p.1, p.2.1, hap b q p.2.2⟩, hsm b p.1 q p.2.2⟩)
  refine ⟨?_, ?_, H.lt, ?_, ?_, ?_, ?_, H.sizes, ?_⟩
  · exact (whole_grown12 H.zero hg (hne h (by omega))).other (p := ⟨g, 4, none⟩) (by show h ≠ g; omega) _
  · exact (whole_grown12 H.tree hg (hne g (Nat.le_refl _))).put 4 v'
  · exact own_same12 H.keys (fun b e hb => hsm b (H.gk e).1 hb (H.apart b e))
  · exact own_same12 ho (fun b e _ => heap_setCell_other w1 ⟨g, 4, none⟩ b v' (by have := (ho.lt b e).1; show b ≠ g; omega))
  · intro b hb
    exact hap b (H.gk hb).2 (H.apart b hb)
  · intro y hy
    rcases List.mem_append.1 hy with hy | hy
    · exact one y (H.all y hy)
    · simp at hy; subst hy; exact one _ hx
  · exact (H.bel.grown hg H.bel.size (fun b e => by have := H.gq e; omega)).setCell (p := ⟨g, 4, none⟩) (by show w.heap.size ≤ g; omega) _
/-- it is done -/
theorem Lst.done (H : Lst w h g kd ks L vk vq wr) (hk : kd = 3 ∨ kd = 4) (cs : Array Value) : Tp (wr.setRow h cs) (fun b => w.heap.size ≤ b) (.mk kd 0 ⟨#[]⟩ ks (L.map (·.1))) vk vq := by
  have hlt := H.lt
  have hsm : ∀ b, g < b → (wr.setRow h cs).heap[b]? = wr.heap[b]? := fun b hb => setRow_other wr h b cs (by omega)
  refine Tp.of_own (base := g + 1) (L := L) (by show -9223372036854775808 ≤ kd ∧ kd ≤ 9223372036854775807; omega) (by show (-9223372036854775808 : Int) ≤ 0 ∧ (0 : Int) ≤ 9223372036854775807; omega) (by show (0 : Nat) ≤ maxLen; omega) ?_ H.sizes ?_ rfl (fun b hb => by omega) (fun x hx => ?_)
  · exact own_same12 H.keys (fun b e _ => hsm b (H.gk e).1)
  · exact own_same12 H.kids (fun b e _ => hsm b (H.gq e).1)
  · exact (H.all x hx).keep (fun b p q => ⟨by omega, hsm b p.1⟩)
theorem Lst.start {w0 : World} (hw : Below w.heap.size w w0) (h1 : Whole w0 h 25 #[.int .i64 0, .int .i64 0, .string ⟨#[]⟩, .slice none 0 0, .slice none 0 0]) (h2 : Whole w0 g 25 #[.int .i64 kd, .int .i64 0, .string ⟨#[]⟩, .slice none 0 0, .slice none 0 0]) (hl : w.heap.size ≤ h ∧ h < g) : Lst w h g kd [] [] (.slice none 0 0) (.slice none 0 0) w0 where
  zero := h1
  tree := h2
  lt := hl
  keys := World.ownsRow_nil _ _ 9 1
  kids := World.ownsRow_nil _ _ 25 5
  apart := fun b hb => by cases hb
  all := fun x hx => by cases hx
  sizes := fun x hx => by cases hx
  bel := hw
end
end Go.Proofs.Ytphanlkobkkgfaa
