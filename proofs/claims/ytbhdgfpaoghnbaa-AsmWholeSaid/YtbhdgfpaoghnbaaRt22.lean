/- Layer 22's reference as memory; contracts of find, Held, without. -/
import Derived.Test.YtbhdgfpaoghnbaaPR
import Derived.Test.YtbhdgfpaoghnbaaRpp21
import Derived.Test.YtbhdgfpaoghnbaaPM
namespace Go.Proofs.Ytbhdgfpaoghnbaa
open Go.RowKit
set_option linter.unusedVariables false
set_option maxRecDepth 100000
set_option linter.unusedSimpArgs false

/-- an open message as its cells -/
def fOe (x : Tm.One × Nat) : List Value := [.int .u16 (x.1.sender : Int), .int .u32 (x.1.epoch : Int), .int .u32 (x.1.id : Int), .int .u16 (x.1.count : Int), .int .u8 (x.1.version : Int), .int .i64 (x.1.age : Int), .pointer (some ⟨x.2, 0, none⟩)]
theorem fOe_len : ∀ x, (fOe x).length = 7 := fun _ => rfl
theorem fOe_one (x : Tm.One × Nat) : ∀ u ∈ fOe x, u.oneCell' = true := by
  intro u hu
  simp only [fOe, List.mem_cons, List.mem_nil_iff, or_false] at hu
  rcases hu with rfl | rfl | rfl | rfl | rfl | rfl | rfl <;> rfl
/-- the messages themselves -/
def ones (L : List (Tm.One × Nat)) : List Tm.One := L.map (fun x => x.1)
theorem ones_len (L : List (Tm.One × Nat)) : (ones L).length = L.length := by simp [ones]
theorem ones_get {L : List (Tm.One × Nat)} {i : Nat} (h : i < (ones L).length) : (ones L)[i] = (L[i]'(by rw [ones_len] at h; exact h)).1 := by simp [ones]
section
variable {w w' : World} {F : Nat → Prop} {h : Nat} {vl : Value} {m : Tm.Lim} {L L' : List (Tm.One × Nat)} {l : List Tm.One} {Fo : Nat → Nat → Prop}
end
end Go.Proofs.Ytbhdgfpaoghnbaa
