/- Words for calls that turn the blocks of one thing, and may make new ones. -/
import Derived.Test.YtlbejddmnflmbaaPA
namespace Go.Proofs.Ytlbejddmnflmbaa
open Go.RowKit
set_option linter.unusedVariables false

/-- of the blocks that were there none has turned but those of F -/
structure Foot (F : Nat → Prop) (w w' : World) : Prop where
  os : w'.os = w.os
  tape : w'.tape = w.tape
  output : w'.output = w.output
  size : w.heap.size ≤ w'.heap.size
  block : ∀ i, i < w.heap.size → ¬ F i → w'.heap[i]? = w.heap[i]?
/-- .. the blocks of F and those that were made since -/
def Wide (F : Nat → Prop) (w w' : World) (b : Nat) : Prop := F b ∨ (w.heap.size ≤ b ∧ b < w'.heap.size)
section
variable {F G : Nat → Prop} {B g : Nat} {w w' w'' : World}
theorem Foot.refl (F : Nat → Prop) (w : World) : Foot F w w := ⟨rfl, rfl, rfl, Nat.le_refl _, fun _ _ _ => rfl⟩
theorem Foot.trans (h : Foot F w w') (k : Foot G w' w'') (hG : ∀ b, b < w.heap.size → G b → F b) : Foot F w w'' :=
  ⟨k.os.trans h.os, k.tape.trans h.tape, k.output.trans h.output, Nat.le_trans h.size k.size, fun i hi hf => (k.block i (Nat.lt_of_lt_of_le hi h.size) (fun q => hf (hG i hi q))).trans (h.block i hi hf)⟩
theorem Foot.more (h : Foot F w w') (hG : ∀ b, b < w.heap.size → F b → G b) : Foot G w w' := ⟨h.os, h.tape, h.output, h.size, fun i hi hf => h.block i hi (fun q => hf (hG i hi q))⟩
theorem Foot.of_below (h : Below w.heap.size w w') : Foot F w w' := ⟨h.os, h.tape, h.output, h.size, fun i hi _ => h.block i hi⟩
theorem Foot.of_only (h : Only g w w') (hg : F g) : Foot F w w' := ⟨h.os, h.tape, h.output, h.size, fun i hi hf => h.block i hi (fun e => hf (e ▸ hg))⟩
theorem Foot.below (h : Foot F w w') (hF : ∀ b, F b → B ≤ b) (hB : B ≤ w.heap.size) : Below B w w' := ⟨h.os, h.tape, h.output, h.size, fun i hi => h.block i (by omega) (fun q => by have := hF i q; omega)⟩
theorem Foot.drew (h : Foot F w w') : Foot F w w'.drew := ⟨h.os, h.tape, h.output, h.size, h.block⟩
theorem Foot.drewN (h : Foot F w w') (n : Nat) : Foot F w (w'.drewN n) := ⟨h.os, h.tape, h.output, h.size, h.block⟩
theorem Foot.alloc (h : Foot F w w') (o : Obj) : Foot F w (w'.alloc o) := h.trans (Foot.of_below (F := F) ((Below.refl _ _).alloc (Nat.le_refl _) o)) (fun _ _ q => q)
theorem Foot.setCell (h : Foot F w w') (i : Nat) (u : Value) (hg : F g) : Foot F w (w'.setCell ⟨g, i, none⟩ u) :=
  h.trans (Foot.of_only (F := F) ((Only.refl g w').setCell i u) hg) (fun _ _ q => q)
theorem Foot.grown (h : Foot F w w') {row : Option Nat} (hg : w'.grownBy w'' row) (hr : ∀ k, row = some k → k < w.heap.size → F k) : Foot F w w'' :=
  ⟨hg.os.trans h.os, hg.tape.trans h.tape, hg.output.trans h.output, Nat.le_trans h.size hg.size, fun i hi hf => (hg.block i (Nat.lt_of_lt_of_le hi h.size) (fun e => hf (hr i e.symm hi))).trans (h.block i hi hf)⟩
theorem Wide.low (h : ∀ b, F b → B ≤ b) (hB : B ≤ w.heap.size) : ∀ b, Wide F w w' b → B ≤ b := fun b hb => by
  rcases hb with hb | ⟨hb, _⟩
  · exact h b hb
  · omega
theorem Wide.lt (h : ∀ b, F b → b < w.heap.size) (hz : w.heap.size ≤ w'.heap.size) : ∀ b, Wide F w w' b → b < w'.heap.size := fun b hb => by
  rcases hb with hb | ⟨_, hb⟩
  · have := h b hb; omega
  · exact hb
theorem Wide.old : ∀ b, b < w.heap.size → Wide F w w' b → F b := fun b hb h => by
  rcases h with h | ⟨h, _⟩
  · exact h
  · omega
/-- two things that share no block -/
def Aside (F G : Nat → Prop) : Prop := ∀ b, F b → ¬ G b
theorem Aside.symm (h : Aside F G) : Aside G F := fun b hb hf => h b hf hb
theorem Aside.wide (h : Aside F G) (hF : ∀ b, F b → b < w.heap.size) : Aside F (Wide G w w') := fun b hb hg => by
  have := hF b hb
  rcases hg with hg | ⟨hg, _⟩
  · exact h b hb hg
  · omega
theorem Foot.aside (h : Foot G w w') (ha : Aside F G) (hF : ∀ b, F b → b < w.heap.size) : ∀ b, F b → w'.heap[b]? = w.heap[b]? := fun b hb => h.block b (hF b hb) (ha b hb)
end
/-- a row of the call's own stays -/
theorem own_same {w w' : World} {base : Nat} {t : TypeId} {size n : Nat} {v : Value} {xs : List Value} (h : w.ownsRow base t size v n xs) (hb : ∀ g, v.ownBlock = some g → w'.heap[g]? = w.heap[g]?) : w'.ownsRow base t size v n xs := by
  obtain ⟨h1, h2⟩ := h
  refine ⟨h1, ?_⟩
  rcases h2 with h2 | ⟨g, cap, cur, hv, hg, hh, r⟩
  · exact .inl h2
  · exact .inr ⟨g, cap, cur, hv, hg, by rw [hb g (by rw [hv]; rfl)]; exact hh, r⟩
theorem Whole.same {w w' : World} {g t : Nat} {cs : Array Value} (h : Whole w g t cs) (hb : w'.heap[g]? = w.heap[g]?) : Whole w' g t cs := hb.trans h
theorem below_draws (B : Nat) (w : World) (n : Nat) : Below B w (w.drewN n) := ⟨rfl, rfl, rfl, Nat.le_refl _, fun _ _ => rfl⟩
end Go.Proofs.Ytlbejddmnflmbaa
