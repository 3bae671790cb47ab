/- Contract of layer 18's reference: Same. -/
import Derived.Test.YtgfjniogflmlmaaPG
import Derived.Test.YtgfjniogflmlmaaPA
namespace Go.Proofs.Ytgfjniogflmlmaa
open Go.RowKit
set_option linter.unusedVariables false
set_option maxRecDepth 100000
set_option linter.unusedSimpArgs false

theorem nef {a b : Nat} (h : a = b) : ((a : Int) != (b : Int)) = false := by subst h; simp
theorem net {a b : Nat} (h : ¬ a = b) : ((a : Int) != (b : Int)) = true := by simp; omega
theorem Gd.same_iff (g h : Gd) : (g = h) ↔ (g.kind = h.kind ∧ g.version = h.version ∧ g.epoch = h.epoch ∧ g.id = h.id ∧ g.index = h.index ∧ g.count = h.count ∧ g.body = h.body) := by
  obtain ⟨a, b, c, d, e, f, l⟩ := g
  obtain ⟨a', b', c', d', e', f', l'⟩ := h
  simp
end Go.Proofs.Ytgfjniogflmlmaa
