/- Contract of layer 22's reference: Tick. -/
import Derived.Test.YtbhdgfpaoghnbaaRnew22
import Derived.Test.YtbhdgfpaoghnbaaPA
namespace Go.Proofs.Ytbhdgfpaoghnbaa
open Go.RowKit
set_option linter.unusedVariables false
set_option maxRecDepth 100000
set_option linter.unusedSimpArgs false

/-- the list behind a tick, with the things that its messages are -/
def tickL (m : Tm.Lim) (L : List (Tm.One × Nat)) : List (Tm.One × Nat) := (L.map (fun x => (Tm.older x.1, x.2))).filter (fun x => decide (x.1.age ≤ m.ex))
theorem tickL_ones (m : Tm.Lim) (L : List (Tm.One × Nat)) : ones (tickL m L) = Tm.tick m (ones L) := by
  unfold tickL ones Tm.tick
  induction L with
  | nil => rfl
  | cons x L ih =>
    simp only [List.map_cons, List.filter_cons]
    split
    · rw [List.map_cons, ih]
    · exact ih
theorem tickL_gs (m : Tm.Lim) (L : List (Tm.One × Nat)) : ((tickL m L).map gsOf).Sublist (L.map gsOf) := by
  have h1 : (tickL m L).Sublist (L.map (fun x => (Tm.older x.1, x.2))) := List.filter_sublist
  have h2 := h1.map gsOf
  have e : (L.map (fun x => (Tm.older x.1, x.2))).map gsOf = L.map gsOf := by rw [List.map_map]; rfl
  rw [e] at h2
  exact h2
theorem tickL_len (m : Tm.Lim) (L : List (Tm.One × Nat)) : (tickL m L).length ≤ L.length := by
  have h1 : (tickL m L).Sublist (L.map (fun x => (Tm.older x.1, x.2))) := List.filter_sublist
  have := h1.length_le
  simpa using this
theorem tickL_take {m : Tm.Lim} {L : List (Tm.One × Nat)} {k : Nat} (h : k < L.length) : tickL m (L.take (k + 1)) = tickL m (L.take k) ++ (if L[k].1.age + 1 ≤ m.ex then [(Tm.older L[k].1, L[k].2)] else []) := by
  unfold tickL
  rw [List.take_succ_eq_append_getElem h, List.map_append, List.filter_append]
  congr 1
  simp only [List.map_cons, List.map_nil, List.filter_cons, List.filter_nil, Tm.older]
  by_cases h1 : L[k].1.age + 1 ≤ m.ex
  · simp [h1]
  · simp [h1]
end Go.Proofs.Ytbhdgfpaoghnbaa
