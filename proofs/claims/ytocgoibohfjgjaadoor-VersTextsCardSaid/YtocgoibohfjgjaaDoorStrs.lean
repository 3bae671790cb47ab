/- Rows of strings and of ints of the call's own. -/
import Derived.Test.YtocgoibohfjgjaaDoorPA
namespace Go.Proofs.YtocgoibohfjgjaaDoor
open Go.RowKit
set_option linter.unusedVariables false

theorem strT : ElemT Tryd.prog 46 9 (.string ByteArray.empty) 16 := ⟨Tryd.underlying46, by kernel_rfl, rfl, by decide⟩
theorem intT : ElemT Tryd.prog 22 3 (.int .i64 0) 8 := ⟨Tryd.underlying22, by kernel_rfl, rfl, by decide⟩
/-- texts as cells -/
def strs (ps : List (List Nat)) : List Value := ps.map fun p => Value.string (strOf p)
theorem strs_append (a b : List (List Nat)) : strs (a ++ b) = strs a ++ strs b := by simp [strs]

/-- a cell of a row of the call's own -/
theorem own_cell {w : World} {base t n : Nat} {v : Value} {xs : List Value} (h : w.ownsRow base t 1 v n xs) {i : Nat} {u : Value} (hi : xs[i]? = some u) : ∃ g c, v = .slice (some ⟨g, 0, none⟩) n c ∧ n ≤ c ∧ c ≤ maxLen ∧ g < w.heap.size ∧ w.cell? ⟨g, i, none⟩ = some u := by
  have hl := h.1
  rcases h.2 with ⟨hv, h0⟩ | ⟨g, cap, cur, hv, hg, hh, h1, h2, r⟩
  · have : xs.length = 0 := by rw [hl, h0]
    rw [List.getElem?_eq_none (by omega)] at hi; cases hi
  · have hlt : g < w.heap.size := (Array.getElem?_eq_some_iff.1 hh).1
    subst hv
    refine ⟨g, cap, rfl, h1, h2, hlt, ?_⟩
    have := World.ownsRow.cells h (g := g) rfl i u hi
    rw [← this]
    congr 1
    unfold Addr.add
    split
    · simp_all
    · simp
theorem strs_get {ps : List (List Nat)} {i : Nat} (h : i < ps.length) : (strs ps)[i]? = some (.string (strOf ps[i])) := by
  simp [strs, List.getElem?_eq_getElem h]
theorem own_cell' {w : World} {base t n c : Nat} {A : Option Addr} {xs : List Value} (h : w.ownsRow base t 1 (.slice A n c) n xs) {i : Nat} {u : Value} (hi : xs[i]? = some u) : ∃ g, A = some ⟨g, 0, none⟩ ∧ g < w.heap.size ∧ w.cell? ⟨g, i, none⟩ = some u := by
  obtain ⟨g, c', hv, _, _, h1, h2⟩ := own_cell h hi
  injection hv with hA _ _
  exact ⟨g, hA, h1, h2⟩
end Go.Proofs.YtocgoibohfjgjaaDoor
