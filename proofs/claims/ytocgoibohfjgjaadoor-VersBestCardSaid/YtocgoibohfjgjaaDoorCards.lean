/-
  DERIVED. GIVEN WITH THE SEED: THE CARDS: each row of YtocgoibohfjgjaaDoorRows.lean that lists a variable, with what it lists TIED to the program's text (the seventh form; the later family's looks); each row that meets fmt, with fmt's text TOLD by the authors' own Lean function (tested against real Go, not proved from fmt's source: count such statements apart). THE CARD IS WHAT COUNTS. Prove the row's statement (the work); the ties are given (YtocgoibohfjgjaaDoorTie.lean); close each card by the builder's one call (the guide's Derived/Test/ToyasCard.lean, 'card_holds'). Laid BY PROGRAM, IN A SANDBOX (cutbox-door.mjs). By AI agents, Wed Nov 11 2026. No macro, syntax, notation, axiom, sorry.
-/
import Derived.Test.YtocgoibohfjgjaaDoorRows
import GoSem.ClaimSeven
namespace Go.Proofs.YtocgoibohfjgjaaDoor
namespace Rows

/-- THE TIED CARD OF 'annuletlaw24.VersSets'. -/
def versSetsCard : Claim7 := { stood := { row := versSetsRow, standIns := [], harness := (true, "00f8d6f4f1e4a52ec893259b78ffae06409719ecd4382e7141b847f91baefee3"), looks := false }, kinds := [], alts := [], laidByText := true, laidKinds := [.data, .pinned], laidTests := true, laidLooks := .later }
def VersSetsCardSaid : Prop := Claim7.holds Tryd.pinned (.plain (OpenSpec.ofChange versSetsSpec)) versSetsCard

/-- THE TIED CARD OF 'annuletlaw24.VersBest'. -/
def versBestCard : Claim7 := { stood := { row := versBestRow, standIns := [], harness := (true, "00f8d6f4f1e4a52ec893259b78ffae06409719ecd4382e7141b847f91baefee3"), looks := false }, kinds := [], alts := [], laidByText := true, laidKinds := [.data, .pinned], laidTests := true, laidLooks := .later }
def VersBestCardSaid : Prop := Claim7.holds Tryd.pinned (.plain (OpenSpec.ofChange versBestSpec)) versBestCard

/-- THE TIED CARD OF 'annuletlaw24.VersTexts'. -/
def versTextsCard : Claim7 := { stood := { row := versTextsRow, standIns := [], harness := (true, "00f8d6f4f1e4a52ec893259b78ffae06409719ecd4382e7141b847f91baefee3"), looks := false }, kinds := [], alts := [], laidByText := true, laidKinds := [.data, .pinned], laidTests := true, laidLooks := .later }
def VersTextsCardSaid : Prop := Claim7.holds Tryd.pinned (.plain (OpenSpec.ofChange versTextsSpec)) versTextsCard

/-- THE SECOND FORM's CARD OF 'annuletlaw24.VersSets'. -/
def versSetsUptoCard : Claim7 := { stood := { row := versSetsUptoRow, standIns := [], harness := (true, "00f8d6f4f1e4a52ec893259b78ffae06409719ecd4382e7141b847f91baefee3"), looks := false }, kinds := [], alts := [], laidByText := true, laidKinds := [.data, .pinned], laidTests := true, laidLooks := .later }
def VersSetsUptoCardSaid : Prop := Claim7.holds Tryd.pinned (.plain (OpenSpec.upto versSetsSpec)) versSetsUptoCard

/-- THE SECOND FORM's CARD OF 'annuletlaw24.VersBest'. -/
def versBestUptoCard : Claim7 := { stood := { row := versBestUptoRow, standIns := [], harness := (true, "00f8d6f4f1e4a52ec893259b78ffae06409719ecd4382e7141b847f91baefee3"), looks := false }, kinds := [], alts := [], laidByText := true, laidKinds := [.data, .pinned], laidTests := true, laidLooks := .later }
def VersBestUptoCardSaid : Prop := Claim7.holds Tryd.pinned (.plain (OpenSpec.upto versBestSpec)) versBestUptoCard

/-- THE SECOND FORM's CARD OF 'annuletlaw24.VersTexts'. -/
def versTextsUptoCard : Claim7 := { stood := { row := versTextsUptoRow, standIns := [], harness := (true, "00f8d6f4f1e4a52ec893259b78ffae06409719ecd4382e7141b847f91baefee3"), looks := false }, kinds := [], alts := [], laidByText := true, laidKinds := [.data, .pinned], laidTests := true, laidLooks := .later }
def VersTextsUptoCardSaid : Prop := Claim7.holds Tryd.pinned (.plain (OpenSpec.upto versTextsSpec)) versTextsUptoCard
end Rows
end Go.Proofs.YtocgoibohfjgjaaDoor
