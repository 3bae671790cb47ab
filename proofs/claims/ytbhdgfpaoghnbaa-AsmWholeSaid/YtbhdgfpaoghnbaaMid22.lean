/- Layer 22's reference in the midst of Put: the table, and blocks that it does not touch. -/
import Derived.Test.YtbhdgfpaoghnbaaRobj22
namespace Go.Proofs.Ytbhdgfpaoghnbaa
open Go.RowKit
set_option linter.unusedVariables false
set_option maxRecDepth 100000
set_option linter.unusedSimpArgs false

section
variable {w W W1 : World} {F X : Nat → Prop} {h g : Nat} {m : Tm.Lim} {v v1 : Value} {L L1 : List (Tm.One × Nat)} {Fo Fo1 : Nat → Nat → Prop}
theorem Wide.far {b : Nat} (hz : W.heap.size ≤ W1.heap.size) (h : Wide F w W b) : Wide F w W1 b := by
  rcases h with h | h
  · exact .inl h
  · exact .inr ⟨h.1, by omega⟩
theorem foot_row (W : World) (q : Nat) (cs : Array Value) : Foot (fun b => b = q) W (W.setRow q cs) := ⟨rfl, rfl, rfl, by rw [size_setRow]; exact Nat.le_refl _, fun i _ hi => setRow_other W q i cs hi⟩
def Tm.One.putS (i : Int) (b : List Nat) (o : Tm.One) : Tm.One := { o with s := o.s.put i b }
end
end Go.Proofs.Ytbhdgfpaoghnbaa
