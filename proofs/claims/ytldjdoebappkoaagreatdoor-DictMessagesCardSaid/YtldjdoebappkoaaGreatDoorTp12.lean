/- Trees in blocks that meet a condition; a list or a dictionary while it is being read. -/
import Derived.Test.YtldjdoebappkoaaGreatDoorPK
namespace Go.Proofs.YtldjdoebappkoaaGreatDoor
open Go.RowKit
set_option linter.unusedVariables false
set_option maxRecDepth 100000
set_option linter.unusedSimpArgs false

/-! ### while it is being read: block h holds the answer (zero), block g the tree -/
theorem whole_grown12 {w w' : World} {b t : Nat} {cs : Array Value} {r : Option Nat} (h : Whole w b t cs) (hk : w.grownBy w' r) (hne : some b ≠ r) : Whole w' b t cs := (hk.block b h.lt hne).trans h
theorem own_same12 {w w' : World} {base n sz : Nat} {t : TypeId} {v : Value} {xs : List Value} (h : w.ownsRow base t sz v n xs) (hk : ∀ g, v.ownBlock = some g → g < w.heap.size → w'.heap[g]? = w.heap[g]?) : w'.ownsRow base t sz v n xs := by
  obtain ⟨h1, h2⟩ := h
  refine ⟨h1, ?_⟩
  rcases h2 with h2 | ⟨g, cap, cur, hv, hg, hh, r⟩
  · exact .inl h2
  · exact .inr ⟨g, cap, cur, hv, hg, by rw [hk g (by rw [hv]; rfl) (Array.getElem?_eq_some_iff.1 hh).1]; exact hh, r⟩
structure Lst (w : World) (h g : Nat) (kd : Int) (ks : List ByteArray) (L : List Tq) (vk vq : Value) (wr : World) : Prop where
  zero : Whole wr h 25 #[.int .i64 0, .int .i64 0, .string ⟨#[]⟩, .slice none 0 0, .slice none 0 0]
  tree : Whole wr g 25 #[.int .i64 kd, .int .i64 0, .string ⟨#[]⟩, vk, vq]
  lt : w.heap.size ≤ h ∧ h < g
  keys : wr.ownsRow (g + 1) 9 1 vk ks.length (txs ks)
  kids : wr.ownsRow (g + 1) 25 5 vq L.length (five L)
  apart : ∀ b, vk.ownBlock = some b → vq.ownBlock ≠ some b
  all : ∀ x ∈ L, Tp wr (fun b => g < b ∧ vk.ownBlock ≠ some b ∧ vq.ownBlock ≠ some b) x.1 x.2.1 x.2.2
  sizes : ∀ s ∈ ks, s.size ≤ maxLen
  bel : Below w.heap.size w wr
section
variable {w : World} {h g : Nat} {kd : Int} {ks : List ByteArray} {L : List Tq} {vk vq : Value} {wr w1 w2 w3 : World}
theorem Lst.behind (H : Lst w h g kd ks L vk vq wr) (hb : Below wr.heap.size wr w1) : Lst w h g kd ks L vk vq w1 where
  zero := H.zero.below hb H.zero.lt
  tree := H.tree.below hb H.tree.lt
  lt := H.lt
  keys := own_below H.keys hb
  kids := own_below H.kids hb
  apart := H.apart
  all := fun x hx => (H.all x hx).keep (fun b p q => ⟨p, hb.block b q⟩)
  sizes := H.sizes
  bel := H.bel.trans (hb.mono H.bel.size)
theorem Lst.gk (H : Lst w h g kd ks L vk vq wr) {b : Nat} (hb : vk.ownBlock = some b) : g < b ∧ b < wr.heap.size := by have := H.keys.lt b hb; omega
theorem Lst.gq (H : Lst w h g kd ks L vk vq wr) {b : Nat} (hb : vq.ownBlock = some b) : g < b ∧ b < wr.heap.size := by have := H.kids.lt b hb; omega
/-- a key is appended -/
theorem Lst.key (H : Lst w h g kd ks L vk vq wr) {s : ByteArray} {v' : Value} (ho : w1.ownsRow (g + 1) 9 1 v' (ks ++ [s]).length (txs (ks ++ [s]))) (hg : wr.grownBy w1 vk.ownBlock) (hv : v'.ownBlock = vk.ownBlock ∨ v'.ownBlock = some wr.heap.size) (hs : s.size ≤ maxLen) :
    Lst w h g kd (ks ++ [s]) L v' vq (w1.setCell ⟨g, 3, none⟩ v') := by
  have hgl := H.tree.lt
  have hlt := H.lt
  have hne : ∀ b, b ≤ g → some b ≠ vk.ownBlock := fun b hb e => by have := H.gk e.symm; omega
  have hap : ∀ b, b < wr.heap.size → vk.ownBlock ≠ some b → v'.ownBlock ≠ some b := fun b hb hk e => by
    rcases hv with e' | e'
    · rw [e'] at e; exact hk e
    · rw [e'] at e; injection e with e; omega
  have hsm : ∀ b, g < b → b < wr.heap.size → vk.ownBlock ≠ some b → (w1.setCell ⟨g, 3, none⟩ v').heap[b]? = wr.heap[b]? := fun b h1 h2 h3 => by
    rw [heap_setCell_other w1 ⟨g, 3, none⟩ b v' (by show b ≠ g; omega)]
    exact hg.block b h2 (fun e => h3 e.symm)
  refine ⟨?_, ?_, H.lt, ?_, ?_, ?_, ?_, ?_, ?_⟩
  · exact (whole_grown12 H.zero hg (hne h (by omega))).other (p := ⟨g, 3, none⟩) (by show h ≠ g; omega) _
  · exact (whole_grown12 H.tree hg (hne g (Nat.le_refl _))).put 3 v'
  · exact own_same12 ho (fun b e _ => heap_setCell_other w1 ⟨g, 3, none⟩ b v' (by have := (ho.lt b e).1; show b ≠ g; omega))
  · exact own_same12 H.kids (fun b e hb => hsm b (H.gq e).1 hb (fun e' => H.apart b e' e))
  · intro b hb e
    have h2 := H.gq e
    rcases hv with e' | e'
    · exact H.apart b (by rw [← e']; exact hb) e
    · rw [e'] at hb; injection hb with hb; omega
  · exact fun x hx => (H.all x hx).keep (fun b p q => ⟨⟨p.1, hap b q p.2.1, p.2.2⟩, hsm b p.1 q p.2.1⟩)
  · intro x hx
    rcases List.mem_append.1 hx with hx | hx
    · exact H.sizes x hx
    · simp at hx; subst hx; exact hs
  · exact (H.bel.grown hg H.bel.size (fun b e => by have := H.gk e; omega)).setCell (p := ⟨g, 3, none⟩) (by show w.heap.size ≤ g; omega) _
/-- a kid is appended -/
theorem Lst.kid (H : Lst w h g kd ks L vk vq wr) {x : Tn} {xk xq v' : Value} (hx : Tp wr (fun b => g < b ∧ vk.ownBlock ≠ some b ∧ vq.ownBlock ≠ some b) x xk xq) (ho : w1.ownsRow (g + 1) 25 5 v' (L ++ [(x, xk, xq)]).length (five (L ++ [(x, xk, xq)]))) (hg : wr.grownBy w1 vq.ownBlock) (hv : v'.ownBlock = vq.ownBlock ∨ v'.ownBlock = some wr.heap.size) :
    Lst w h g kd ks (L ++ [(x, xk, xq)]) vk v' (w1.setCell ⟨g, 4, none⟩ v') := by
  have hgl := H.tree.lt
  have hlt := H.lt
  have hne : ∀ b, b ≤ g → some b ≠ vq.ownBlock := fun b hb e => by have := H.gq e.symm; omega
  have hap : ∀ b, b < wr.heap.size → vq.ownBlock ≠ some b → v'.ownBlock ≠ some b := fun b hb hk e => by
    rcases hv with e' | e'
    · rw [e'] at e; exact hk e
    · rw [e'] at e; injection e with e; omega
  have hsm : ∀ b, g < b → b < wr.heap.size → vq.ownBlock ≠ some b → (w1.setCell ⟨g, 4, none⟩ v').heap[b]? = wr.heap[b]? := fun b h1 h2 h3 => by
    rw [heap_setCell_other w1 ⟨g, 4, none⟩ b v' (by show b ≠ g; omega)]
    exact hg.block b h2 (fun e => h3 e.symm)
  have one : ∀ y : Tq, Tp wr (fun b => g < b ∧ vk.ownBlock ≠ some b ∧ vq.ownBlock ≠ some b) y.1 y.2.1 y.2.2 → Tp (w1.setCell ⟨g, 4, none⟩ v') (fun b => g < b ∧ vk.ownBlock ≠ some b ∧ v'.ownBlock ≠ some b) y.1 y.2.1 y.2.2 := fun y hy => hy.keep (fun b p q => ⟨⟨p.1, p.2.1, hap b q p.2.2⟩, hsm b p.1 q p.2.2⟩)
  refine ⟨?_, ?_, H.lt, ?_, ?_, ?_, ?_, H.sizes, ?_⟩
  · exact (whole_grown12 H.zero hg (hne h (by omega))).other (p := ⟨g, 4, none⟩) (by show h ≠ g; omega) _
  · exact (whole_grown12 H.tree hg (hne g (Nat.le_refl _))).put 4 v'
  · exact own_same12 H.keys (fun b e hb => hsm b (H.gk e).1 hb (H.apart b e))
  · exact own_same12 ho (fun b e _ => heap_setCell_other w1 ⟨g, 4, none⟩ b v' (by have := (ho.lt b e).1; show b ≠ g; omega))
  · intro b hb
    exact hap b (H.gk hb).2 (H.apart b hb)
  · intro y hy
    rcases List.mem_append.1 hy with hy | hy
    · exact one y (H.all y hy)
    · simp at hy; subst hy; exact one _ hx
  · exact (H.bel.grown hg H.bel.size (fun b e => by have := H.gq e; omega)).setCell (p := ⟨g, 4, none⟩) (by show w.heap.size ≤ g; omega) _
/-- it is done -/
theorem Lst.done (H : Lst w h g kd ks L vk vq wr) (hk : kd = 3 ∨ kd = 4) (cs : Array Value) : Tp (wr.setRow h cs) (fun b => w.heap.size ≤ b) (.mk kd 0 ⟨#[]⟩ ks (L.map (·.1))) vk vq := by
  have hlt := H.lt
  have hsm : ∀ b, g < b → (wr.setRow h cs).heap[b]? = wr.heap[b]? := fun b hb => setRow_other wr h b cs (by omega)
  refine Tp.of_own (base := g + 1) (L := L) (by show -9223372036854775808 ≤ kd ∧ kd ≤ 9223372036854775807; omega) (by show (-9223372036854775808 : Int) ≤ 0 ∧ (0 : Int) ≤ 9223372036854775807; omega) (by show (0 : Nat) ≤ maxLen; omega) ?_ H.sizes ?_ rfl (fun b hb => by omega) (fun x hx => ?_)
  · exact own_same12 H.keys (fun b e _ => hsm b (H.gk e).1)
  · exact own_same12 H.kids (fun b e _ => hsm b (H.gq e).1)
  · exact (H.all x hx).keep (fun b p q => ⟨by omega, hsm b p.1⟩)
theorem Lst.start {w0 : World} (hw : Below w.heap.size w w0) (h1 : Whole w0 h 25 #[.int .i64 0, .int .i64 0, .string ⟨#[]⟩, .slice none 0 0, .slice none 0 0]) (h2 : Whole w0 g 25 #[.int .i64 kd, .int .i64 0, .string ⟨#[]⟩, .slice none 0 0, .slice none 0 0]) (hl : w.heap.size ≤ h ∧ h < g) : Lst w h g kd [] [] (.slice none 0 0) (.slice none 0 0) w0 where
  zero := h1
  tree := h2
  lt := hl
  keys := World.ownsRow_nil _ _ 9 1
  kids := World.ownsRow_nil _ _ 25 5
  apart := fun b hb => by cases hb
  all := fun x hx => by cases hx
  sizes := fun x hx => by cases hx
  bel := hw
end
end Go.Proofs.YtldjdoebappkoaaGreatDoor
