/- Contracts of layer 21's reference: New, place, Add, Has, Missing, Size, Whole. -/
import Derived.Test.YtbhdgfpaoghnbaaPR
import Derived.Test.YtbhdgfpaoghnbaaPM
import Derived.Test.YtbhdgfpaoghnbaaPA
import Derived.BigQuiet
import Derived.Deep.QuietTactic
namespace Go.Proofs.Ytbhdgfpaoghnbaa
open Go.RowKit
set_option linter.unusedVariables false
set_option maxRecDepth 100000
set_option linter.unusedSimpArgs false

section
variable {F : Nat → Prop} {g : Nat} {w w' : World} {vp vb : Value} {s : Pm.S}
end

/-- what place answers -/
def placeI (o : Option Nat) : Int := match o with
  | some k => (k : Int)
  | none => -1
/-- .. place answers no less than 0 just if the part is there -/
theorem placeI_has (s : Pm.S) (i : Nat) : decide (0 ≤ placeI (Pm.place s.idx i)) = s.has i := by
  have h := Pm.place_has s.idx i
  unfold Pm.S.has
  rw [← h]
  cases Pm.place s.idx i with
  | none => rfl
  | some k => simp [placeI]
theorem placeI_bound {s : Pm.S} (h : s.Ok) (i : Nat) : -1 ≤ placeI (Pm.place s.idx i) ∧ placeI (Pm.place s.idx i) ≤ 65535 := by
  cases hp : Pm.place s.idx i with
  | none => simp [placeI]
  | some k =>
    obtain ⟨hk, _⟩ := Pm.at_place hp
    have := h.len
    have := h.most
    simp [placeI]
    omega
theorem Pm.S.Ok.full_iff {s : Pm.S} (h : s.Ok) : s.full = decide (¬ (0 : Int) < (s.count : Int) - (s.l.length : Int)) := by
  have := h.len
  unfold Pm.S.full
  by_cases hc : s.l.length = s.count
  · rw [decide_eq_true hc, decide_eq_true (by omega)]
  · rw [decide_eq_false hc, decide_eq_false (by omega)]
/-- what Whole answers -/
def Pm.S.told (s : Pm.S) : List Nat := if s.full then s.whole else []
end Go.Proofs.Ytbhdgfpaoghnbaa
