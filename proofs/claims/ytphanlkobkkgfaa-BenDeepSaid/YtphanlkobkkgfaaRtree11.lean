/- Contracts of the reference's functions of layer 11 over trees: Same, Depth, Get. -/
import Derived.Test.YtphanlkobkkgfaaRtx11
namespace Go.Proofs.Ytphanlkobkkgfaa
open Go.RowKit
set_option linter.unusedVariables false
set_option maxRecDepth 100000

/-- a tree's value -/
abbrev tval (t : Tn) (vk vq : Value) : Value := .agg #[.int .i64 t.kind, .int .i64 t.n, .string t.s, vk, vq]
/-- the cells of a tree's box -/
abbrev tcells (t : Tn) (vk vq : Value) : Array Value := #[.int .i64 t.kind, .int .i64 t.n, .string t.s, vk, vq]
/-- a tree in a block of its own -/
structure Tb (w : World) (b : Nat) (t : Tn) (vk vq : Value) : Prop where
  bx : Whole w b 25 (tcells t vk vq)
  tv : Tv w b t vk vq
section
variable {w w' : World} {B b : Nat} {t : Tn} {vk vq : Value}
theorem Tb.cells (h : Tb w b t vk vq) : w.cell? ⟨b, 0, none⟩ = some (.int .i64 t.kind) ∧ w.cell? ⟨b, 1, none⟩ = some (.int .i64 t.n) ∧ w.cell? ⟨b, 2, none⟩ = some (.string t.s) ∧ w.cell? ⟨b, 3, none⟩ = some vk ∧ w.cell? ⟨b, 4, none⟩ = some vq :=
  ⟨h.bx.at_ 0, h.bx.at_ 1, h.bx.at_ 2, h.bx.at_ 3, h.bx.at_ 4⟩
theorem Tb.lt (h : Tb w b t vk vq) : b < w.heap.size := h.bx.lt
theorem Tb.keep (h : Tb w b t vk vq) (hb : Below w.heap.size w w') : Tb w' b t vk vq := ⟨h.bx.below hb h.lt, h.tv.keep (hb.mono (by have := h.lt; omega))⟩
theorem Tb.below {C : Nat} (h : Tb w b t vk vq) (hb : Below C w w') (hC : b < C) : Tb w' b t vk vq := ⟨h.bx.below hb hC, h.tv.keep (hb.mono (by omega))⟩
/-- an argument that is boxed -/
theorem boxedT (h : Tv w B t vk vq) : ∃ b w0, w.heap.size = b ∧ w.alloc (.cells (tcells t vk vq) 25) = w0 ∧ Tb w0 b t vk vq ∧ Below b w w0 := by
  have B0 : Below w.heap.size w (w.alloc (.cells (tcells t vk vq) 25)) := (Below.refl _ _).alloc (Nat.le_refl _) _
  exact ⟨_, _, rfl, rfl, ⟨Whole.made _ _ _, h.all.keep B0⟩, B0⟩
theorem Tn.ext_iff {a b : Tn} : a = b ↔ a.kind = b.kind ∧ a.n = b.n ∧ a.s = b.s ∧ a.keys = b.keys ∧ a.kids = b.kids :=
  ⟨fun h => by subst h; exact ⟨rfl, rfl, rfl, rfl, rfl⟩, fun h => Tn.ext h.1 h.2.1 h.2.2.1 h.2.2.2.1 h.2.2.2.2⟩
theorem treeI {cs : Array Value} (h : cs.size = 5) : (Try.prog.info? 25).map (·.size) = some cs.size := by rw [h]; kernel_rfl
end
theorem Tn.depths_take {l : List Tn} {i : Nat} (h : i < l.length) : Tn.depths (l.take (i + 1)) = max (Tn.depths (l.take i)) l[i].depth := by
  rw [List.take_succ_eq_append_getElem h]
  generalize l.take i = m
  induction m with
  | nil => simp [Tn.depths]
  | cons a m ih => rw [List.cons_append, Tn.depths, Tn.depths, ih]; omega

end Go.Proofs.Ytphanlkobkkgfaa
