/- The walk of the law RoomPlays. -/
import Derived.Test.YtbhdgfpaoghnbaaAwake22
import Derived.Test.YtbhdgfpaoghnbaaLg22
namespace Go.Proofs.Ytbhdgfpaoghnbaa
open Go.RowKit
set_option linter.unusedVariables false
set_option maxRecDepth 100000
set_option linter.unusedSimpArgs false

/-- the limits in their box -/
theorem boxL22 (w : World) (a b c : Int) : ∃ bx w0, w.heap.size = bx ∧ w.alloc (.cells #[.int .i64 a, .int .i64 b, .int .i64 c] 23) = w0 ∧ Below w.heap.size w w0 ∧ (∀ W, Below w0.heap.size w0 W → W.cell? ⟨bx, 0, none⟩ = some (.int .i64 a) ∧ W.cell? ⟨bx, 1, none⟩ = some (.int .i64 b) ∧ W.cell? ⟨bx, 2, none⟩ = some (.int .i64 c)) := by
  refine ⟨_, _, rfl, rfl, (Below.refl _ _).alloc (Nat.le_refl _) _, fun W hW => ?_⟩
  have h := (Whole.made w 23 #[.int .i64 a, .int .i64 b, .int .i64 c]).below hW (by simp)
  exact ⟨h.at_ 0, h.at_ 1, h.at_ 2⟩
theorem DeOk.kept {w w' : World} {x : De} (h : DeOk w x) (hb : Below w.heap.size w w') : DeOk w' x := ⟨h.sender, h.ok, h.piece.kept hb⟩
/-- what the laws are given, with the limits' box -/
structure In22 (w0 : World) (bx : Nat) (a b c : Int) (A : Option Addr) (l : List De) : Prop where
  at_ : ∀ i (hi : i < l.length), ∃ B off, A = some ⟨B, off, none⟩ ∧ ∀ W, Below w0.heap.size w0 W → W.cell? ⟨B, off + i * 9, none⟩ = some (.bool l[i].tick) ∧ W.cell? ⟨B, off + i * 9 + 1, none⟩ = some (.int .u16 (l[i].sender : Int)) ∧ W.cell? ⟨B, off + i * 9 + 2, none⟩ = some (.int .u8 (l[i].g.kind : Int)) ∧ W.cell? ⟨B, off + i * 9 + 3, none⟩ = some (.int .u8 (l[i].g.version : Int)) ∧ W.cell? ⟨B, off + i * 9 + 4, none⟩ = some (.int .u32 (l[i].g.epoch : Int)) ∧ W.cell? ⟨B, off + i * 9 + 5, none⟩ = some (.int .u32 (l[i].g.id : Int)) ∧ W.cell? ⟨B, off + i * 9 + 6, none⟩ = some (.int .u16 (l[i].g.index : Int)) ∧ W.cell? ⟨B, off + i * 9 + 7, none⟩ = some (.int .u16 (l[i].g.count : Int)) ∧ W.cell? ⟨B, off + i * 9 + 8, none⟩ = some l[i].body
theorem in22_of {w0 : World} {bx n cp : Nat} {a b c : Int} {A : Option Addr} {l : List De} (H : Cl fDe 9 w0 w0.heap.size (.slice A n cp) l) : In22 w0 bx a b c A l := ⟨fun i hi => by
  obtain ⟨B, off, e, _, hc⟩ := H.at_ hi
  exact ⟨B, off, e, fun W hW => ⟨hc W hW 0 (by omega), hc W hW 1 (by omega), hc W hW 2 (by omega), hc W hW 3 (by omega), hc W hW 4 (by omega), hc W hW 5 (by omega), hc W hW 6 (by omega), hc W hW 7 (by omega), hc W hW 8 (by omega)⟩⟩⟩
end Go.Proofs.Ytbhdgfpaoghnbaa
