/- A row of the call's own as bytes that are read. -/
import Derived.Test.YtjkjhnpemhlbpaaDoorPC
namespace Go.Proofs.YtjkjhnpemhlbpaaDoor
open Go.RowKit
set_option linter.unusedVariables false

theorem own_piece {w : World} {base : Nat} {v : Value} {l : List Nat} (ho : w.ownsRow base 5 1 v l.length (ints .u8 l)) : Piece w w.heap.size v l := by
  obtain ⟨A, c, rfl⟩ := own_shape ho
  have hlc : l.length ≤ c ∧ c ≤ maxLen := by
    rcases ho.2 with ⟨hv, h0⟩ | ⟨g, cap, cur, hv, _, _, hnc, hm, _, _⟩
    · injection hv with _ _ hc
      rw [h0, hc]
      exact ⟨Nat.le_refl _, by unfold maxLen; omega⟩
    · injection hv with _ _ hc
      rw [hc]
      exact ⟨hnc, hm⟩
  exact ⟨A, c, rfl, Sees.of_own ho, own_nil ho, hlc.1, hlc.2⟩
end Go.Proofs.YtjkjhnpemhlbpaaDoor
