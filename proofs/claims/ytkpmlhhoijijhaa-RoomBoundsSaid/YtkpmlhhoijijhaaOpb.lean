/- An argument that is a slice of byte slices. -/
import Derived.Test.YtkpmlhhoijijhaaPM
import Derived.Test.YtkpmlhhoijijhaaBl
namespace Go.Proofs.Ytkpmlhhoijijhaa
open Go.RowKit Go.ChangeShapes Go.WideShapes
set_option linter.unusedVariables false
set_option maxRecDepth 100000

theorem open_piece {H : Type} {enc : TypeId × Value → H} {w : World} {base : Nat} {held : Bool} {fuel : Nat} {cs : List Value} {x : DataW H × List MemPlace} (h : DataW.trod enc Try.prog w base (fun _ => true) held fuel 36 cs = some x) :
    ∃ v l, cs = [v] ∧ Piece w w.heap.size v l ∧ ∀ y ∈ l, y < 256 := by
  rcases open_ints Try.underlying36 Try.underlying5 (by kernel_rfl) h with ⟨hcs, _⟩ | ⟨x, l, c, zs, hcs, _, hl, hm, hz, _, hcell, hwz⟩
  · exact ⟨_, [], hcs, Piece.nil _ _, fun y hy => by cases hy⟩
  · have R : Row .u8 w (some x) l c ((zs.take l).map Int.toNat) := row_of (fun _ h => (bounds_u8 h).1) hl hm (by simpa using hz) hcell hwz
    obtain ⟨h1, _, h2⟩ := row_piece R
    exact ⟨_, _, hcs, h1, h2⟩
end Go.Proofs.Ytkpmlhhoijijhaa
