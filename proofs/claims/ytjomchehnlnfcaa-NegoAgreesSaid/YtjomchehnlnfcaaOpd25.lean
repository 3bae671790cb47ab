/- An argument that is a slice of deeds. -/
import Derived.Test.YtjomchehnlnfcaaAg25
namespace Go.Proofs.Ytjomchehnlnfcaa
open Go.RowKit Go.ChangeShapes Go.WideShapes
set_option linter.unusedVariables false
set_option maxRecDepth 100000

theorem open_deeds25 {H : Type} {enc : TypeId × Value → H} {w : World} {base : Nat} {held : Bool} {r : Reach} {b0 : Nat} {v : Value} {d : DataW H} {ps : List MemPlace}
    (hv : Value.okWide Try.prog w r b0 40 v) (hd : DataW.Trod enc Try.prog w base (fun _ => true) held 40 v d ps) :
    ∃ l : List (Int × Int), Sl fDe w w.heap.size v l ∧ ∀ x ∈ l, (-9223372036854775808 ≤ x.1 ∧ x.1 ≤ 9223372036854775807) ∧ (-9223372036854775808 ≤ x.2 ∧ x.2 ≤ 9223372036854775807) := by
  obtain ⟨a, len, cap, rfl⟩ := okWide_slice Try.underlying40 hv
  obtain ⟨fuel, hf⟩ := hd
  obtain ⟨v', l, hcs, hsl, hok⟩ := open_two (f := fDe) (ok := fun p => (-9223372036854775808 ≤ p.1 ∧ p.1 ≤ 9223372036854775807) ∧ (-9223372036854775808 ≤ p.2 ∧ p.2 ≤ 9223372036854775807)) Try.underlying40 Try.underlying46 (by kernel_rfl) rfl rfl (by kernel_rfl) (by kernel_rfl)
    (fun n v0 v1 x0 x1 h0 h1 => by
      obtain ⟨z0, e0, _, w0⟩ := DataW.trod_int Try.underlying3 h0
      obtain ⟨z1, e1, _, w1⟩ := DataW.trod_int Try.underlying3 h1
      simp at e0 e1
      subst e0 e1
      exact ⟨(z0, z1), rfl, bounds_i64 w0, bounds_i64 w1⟩) hf
  simp [Value.cells] at hcs
  subst hcs
  exact ⟨l, hsl, hok⟩
end Go.Proofs.Ytjomchehnlnfcaa
