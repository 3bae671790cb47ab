/-
  DERIVED. GIVEN WITH THE SEED: THE CARDS: each row of YtldjdoebappkoaaGreatDoorRows.lean that lists a variable, with what it lists TIED to the program's text (the seventh form; the later family's looks); each row that meets fmt, with fmt's text TOLD by the authors' own Lean function (tested against real Go, not proved from fmt's source: count such statements apart). THE CARD IS WHAT COUNTS. Prove the row's statement (the work); the ties are given (YtldjdoebappkoaaGreatDoorTie.lean); close each card by the builder's one call (the guide's Derived/Test/ToyasCard.lean, 'card_holds'). Laid BY PROGRAM, IN A SANDBOX (cutbox-door.mjs). By AI agents, Wed Nov 11 2026. No macro, syntax, notation, axiom, sorry.
-/
import Derived.Test.YtldjdoebappkoaaGreatDoorRows
import GoSem.ClaimSeven
namespace Go.Proofs.YtldjdoebappkoaaGreatDoor
namespace Rows

/-- THE TIED CARD OF 'annuletlaw13.DictMessages'. -/
def dictMessagesCard : Claim7 := { stood := { row := dictMessagesRow, standIns := [], harness := (true, "678edea98bfdf2c0ccc702f76df2ab1f873d8044fe9e5bf0226560b300a72f8e"), looks := false }, kinds := [], alts := [], laidByText := true, laidKinds := [.data], laidTests := true, laidLooks := .later }
def DictMessagesCardSaid : Prop := Claim7.holds Tryz.pinned (.plain (OpenSpec.ofChange dictMessagesSpec)) dictMessagesCard

/-- THE SECOND FORM's CARD OF 'annuletlaw13.DictMessages'. -/
def dictMessagesUptoCard : Claim7 := { stood := { row := dictMessagesUptoRow, standIns := [], harness := (true, "678edea98bfdf2c0ccc702f76df2ab1f873d8044fe9e5bf0226560b300a72f8e"), looks := false }, kinds := [], alts := [], laidByText := true, laidKinds := [.data], laidTests := true, laidLooks := .later }
def DictMessagesUptoCardSaid : Prop := Claim7.holds Tryz.pinned (.plain (OpenSpec.upto dictMessagesSpec)) dictMessagesUptoCard
end Rows
end Go.Proofs.YtldjdoebappkoaaGreatDoor
