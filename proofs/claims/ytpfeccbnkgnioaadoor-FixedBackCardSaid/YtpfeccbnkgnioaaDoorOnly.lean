/- Words for a call that turns one block that was there, and may make new ones. -/
import Derived.Test.YtpfeccbnkgnioaaDoorArr
import Derived.Test.YtpfeccbnkgnioaaDoorBase
namespace Go.Proofs.YtpfeccbnkgnioaaDoor
open Go.RowKit
set_option linter.unusedVariables false

/-- of the blocks that were there none has turned but g -/
structure Only (g : Nat) (w w' : World) : Prop where
  os : w'.os = w.os
  tape : w'.tape = w.tape
  output : w'.output = w.output
  size : w.heap.size ≤ w'.heap.size
  block : ∀ i, i < w.heap.size → i ≠ g → w'.heap[i]? = w.heap[i]?
section
variable {g h t B : Nat} {a w w' w'' : World} {cs : Array Value} {k : IntKind} {A : Option Addr} {l : List Nat}
theorem Only.refl (g : Nat) (w : World) : Only g w w := ⟨rfl, rfl, rfl, Nat.le_refl _, fun _ _ _ => rfl⟩
theorem Only.trans (h : Only g w w') (k : Only g w' w'') : Only g w w'' := ⟨k.os.trans h.os, k.tape.trans h.tape, k.output.trans h.output, Nat.le_trans h.size k.size, fun i hi hg => (k.block i (Nat.lt_of_lt_of_le hi h.size) hg).trans (h.block i hi hg)⟩
theorem Only.of_below (h : Below w.heap.size w w') : Only g w w' := ⟨h.os, h.tape, h.output, h.size, fun i hi _ => h.block i hi⟩
theorem Only.drew (h : Only g w w') : Only g w w'.drew := ⟨h.os, h.tape, h.output, h.size, h.block⟩
theorem Only.alloc (h : Only g w w') (o : Obj) : Only g w (w'.alloc o) := h.trans (Only.of_below ((Below.refl _ _).alloc (Nat.le_refl _) o))
theorem Only.setCell (h : Only g w w') (i : Nat) (u : Value) : Only g w (w'.setCell ⟨g, i, none⟩ u) :=
  h.trans ⟨rfl, rfl, rfl, by simp [World.setCell], fun j _ hj => Below.heap_setCell _ _ _ _ hj⟩
theorem Only.below (h : Only g w w') (hg : B ≤ g) (hB : B ≤ w.heap.size) : Below B w w' := ⟨h.os, h.tape, h.output, h.size, fun i hi => h.block i (by omega) (by omega)⟩
theorem Whole.only (hw : Whole w h t cs) (k : Only g w w') (hg : h ≠ g) : Whole w' h t cs := (k.block _ hw.lt hg).trans hw
theorem Sees.lower (h : Sees k w B A l) : Sees k w (min B w.heap.size) A l := fun hl => by
  obtain ⟨b, off, e, hb, hc⟩ := h hl
  refine ⟨b, off, e, ?_, hc⟩
  have h0 := hc 0 hl
  have hlt : b < w.heap.size := by
    rcases Nat.lt_or_ge b w.heap.size with h | h
    · exact h
    · simp [World.cell?, Array.getElem?_eq_none h] at h0
  omega
theorem Sees.only (h : Sees k w B A l) (ho : Only g w w') (hg : B ≤ g) : Sees k w' B A l :=
  (h.lower.below (ho.below (by omega) (by omega))).more (by omega)
/-- where the slice x[k:] begins -/
def cutAt (A : Option Addr) (c j : Nat) : Option Addr := if c = j then A else A.map (·.add j)
theorem cutAt_zero (A : Option Addr) (c : Nat) : cutAt A c 0 = A := by
  unfold cutAt
  split
  · rfl
  · cases A with
    | none => rfl
    | some x => simp [Addr.add]
theorem Sees.cut {c j : Nat} (h : Sees k w B A l) (hj : j ≤ l.length) (hc : l.length ≤ c) : Sees k w B (cutAt A c j) (l.drop j) := fun hl => by
  rw [List.length_drop] at hl
  obtain ⟨b, off, rfl, hb, hc'⟩ := h (by omega)
  have e : cutAt (some ⟨b, off, none⟩) c j = some ⟨b, off + j, none⟩ := by
    unfold cutAt
    rw [if_neg (by omega)]
    simp only [Option.map_some, Addr.add]
    split <;> simp_all
  rw [e]
  exact h.drop j (by rw [List.length_drop]; omega)
theorem cutAt_null {c j : Nat} (h : A = none → c = 0) (e : cutAt A c j = none) : c - j = 0 := by
  unfold cutAt at e
  split at e
  · omega
  · cases A with
    | none => rw [h rfl]; omega
    | some x => cases e
/-- a row of the call's own, from base on, is not block g below base -/
theorem own_only {base n : Nat} {v : Value} {xs : List Value} (ho : w.ownsRow base t 1 v n xs) (k : Only g w w') (hg : g < base) : w'.ownsRow base t 1 v n xs := by
  obtain ⟨h1, h2⟩ := ho
  refine ⟨h1, ?_⟩
  rcases h2 with h2 | ⟨b, cap, cur, hv, hb, hh, r⟩
  · exact .inl h2
  · have hlt : b < w.heap.size := by
      rcases Nat.lt_or_ge b w.heap.size with h | h
      · exact h
      · rw [Array.getElem?_eq_none h] at hh; cases hh
    exact .inr ⟨b, cap, cur, hv, hb, by rw [k.block b hlt (by omega)]; exact hh, r⟩
theorem own_lower {base base' n : Nat} {v : Value} {xs : List Value} (ho : w.ownsRow base t 1 v n xs) (hb : base' ≤ base) : w.ownsRow base' t 1 v n xs := by
  obtain ⟨h1, h2⟩ := ho
  refine ⟨h1, ?_⟩
  rcases h2 with h2 | ⟨b, cap, cur, hv, hb', r⟩
  · exact .inl h2
  · exact .inr ⟨b, cap, cur, hv, Nat.le_trans hb hb', r⟩
end
/-- of the blocks that were there none has turned but g and h -/
structure But2 (g h : Nat) (w w' : World) : Prop where
  os : w'.os = w.os
  tape : w'.tape = w.tape
  output : w'.output = w.output
  size : w.heap.size ≤ w'.heap.size
  block : ∀ i, i < w.heap.size → i ≠ g → i ≠ h → w'.heap[i]? = w.heap[i]?
section
variable {g h B : Nat} {w w' w'' : World}
theorem But2.refl (g h : Nat) (w : World) : But2 g h w w := ⟨rfl, rfl, rfl, Nat.le_refl _, fun _ _ _ _ => rfl⟩
theorem But2.trans (k : But2 g h w w') (m : But2 g h w' w'') : But2 g h w w'' := ⟨m.os.trans k.os, m.tape.trans k.tape, m.output.trans k.output, Nat.le_trans k.size m.size, fun i hi hg hh => (m.block i (Nat.lt_of_lt_of_le hi k.size) hg hh).trans (k.block i hi hg hh)⟩
theorem But2.of_below (k : Below w.heap.size w w') : But2 g h w w' := ⟨k.os, k.tape, k.output, k.size, fun i hi _ _ => k.block i hi⟩
theorem Only.left (k : Only g w w') (h : Nat) : But2 g h w w' := ⟨k.os, k.tape, k.output, k.size, fun i hi hg _ => k.block i hi hg⟩
theorem Only.right (k : Only h w w') (g : Nat) : But2 g h w w' := ⟨k.os, k.tape, k.output, k.size, fun i hi _ hh => k.block i hi hh⟩
theorem But2.below (k : But2 g h w w') (hg : B ≤ g) (hh : B ≤ h) (hB : B ≤ w.heap.size) : Below B w w' := ⟨k.os, k.tape, k.output, k.size, fun i hi => k.block i (by omega) (by omega) (by omega)⟩
theorem But2.drewN (k : But2 g h w w') (n : Nat) : But2 g h w (w'.drewN n) := ⟨k.os, k.tape, k.output, k.size, k.block⟩
end
end Go.Proofs.YtpfeccbnkgnioaaDoor
