/- Contracts of layer 22's reference: Held, without. -/
import Derived.Test.YtbhdgfpaoghnbaaRt22
import Derived.Test.YtbhdgfpaoghnbaaBl
namespace Go.Proofs.Ytbhdgfpaoghnbaa
open Go.RowKit
set_option linter.unusedVariables false
set_option maxRecDepth 100000
set_option linter.unusedSimpArgs false

theorem held_ones_take {L : List (Tm.One × Nat)} {k : Nat} (h : k < L.length) : Tm.held (ones (L.take (k + 1))) = Tm.held (ones (L.take k)) + L[k].1.s.size := by
  unfold ones
  rw [List.take_succ_eq_append_getElem h, List.map_append, Tm.held_append]
  simp [Tm.held]
theorem held_take_le (L : List (Tm.One × Nat)) (k : Nat) : Tm.held (ones (L.take k)) ≤ Tm.held (ones L) := Tm.held_sub ((List.take_sublist k L).map _)
theorem wos_same {L : List (Tm.One × Nat)} {a k : Nat} (h : k < L.length) (he : k = a) : (L.take (k + 1)).eraseIdx a = (L.take k).eraseIdx a := by
  subst he
  rw [List.take_succ_eq_append_getElem h, List.eraseIdx_append_of_length_le (by rw [List.length_take]; omega), List.length_take, Nat.min_eq_left (by omega), Nat.sub_self, List.eraseIdx_of_length_le (l := L.take k) (by rw [List.length_take]; omega)]
  simp
theorem wos_more {L : List (Tm.One × Nat)} {a k : Nat} (h : k < L.length) (he : k ≠ a) : (L.take (k + 1)).eraseIdx a = (L.take k).eraseIdx a ++ [L[k]] := by
  rw [List.take_succ_eq_append_getElem h]
  rcases Nat.lt_or_ge a k with h1 | h1
  · rw [List.eraseIdx_append_of_lt_length (by rw [List.length_take]; omega)]
  · rw [List.eraseIdx_append_of_length_le (by rw [List.length_take]; omega), List.length_take, Nat.min_eq_left (by omega), List.eraseIdx_of_length_le (l := L.take k) (by rw [List.length_take]; omega), List.eraseIdx_of_length_le (l := [L[k]]) (by simp; omega)]
/-- what of an element tells which thing it is, and how it stands -/
def gsOf (x : Tm.One × Nat) : Nat × Pm.S := (x.2, x.1.s)
theorem gs_mem {L L' : List (Tm.One × Nat)} (hs : (L'.map gsOf).Sublist (L.map gsOf)) {x : Tm.One × Nat} (hx : x ∈ L') : ∃ y ∈ L, y.2 = x.2 ∧ y.1.s = x.1.s := by
  obtain ⟨y, hy, e⟩ := List.mem_map.1 (hs.subset (List.mem_map.2 ⟨x, hx, rfl⟩))
  exact ⟨y, hy, (Prod.mk.inj e).1, (Prod.mk.inj e).2⟩
end Go.Proofs.Ytbhdgfpaoghnbaa
