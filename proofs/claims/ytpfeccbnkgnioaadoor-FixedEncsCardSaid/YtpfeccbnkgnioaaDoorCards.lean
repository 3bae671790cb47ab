/-
  DERIVED. GIVEN WITH THE SEED: THE CARDS: each row of YtpfeccbnkgnioaaDoorRows.lean that lists a variable, with what it lists TIED to the program's text (the seventh form; the later family's looks); each row that meets fmt, with fmt's text TOLD by the authors' own Lean function (tested against real Go, not proved from fmt's source: count such statements apart). THE CARD IS WHAT COUNTS. Prove the row's statement (the work); the ties are given (YtpfeccbnkgnioaaDoorTie.lean); close each card by the builder's one call (the guide's Derived/Test/ToyasCard.lean, 'card_holds'). Laid BY PROGRAM, IN A SANDBOX (cutbox-door.mjs). By AI agents, Wed Nov 11 2026. No macro, syntax, notation, axiom, sorry.
-/
import Derived.Test.YtpfeccbnkgnioaaDoorRows
import GoSem.ClaimSeven
namespace Go.Proofs.YtpfeccbnkgnioaaDoor
namespace Rows

/-- THE TIED CARD OF 'annuletlaw09.FixedEncs'. -/
def fixedEncsCard : Claim7 := { stood := { row := fixedEncsRow, standIns := [], harness := (true, "cde24146ea7edfb63ab493e5a189305a4219f9223a921dff405d83c3000b5fc5"), looks := false }, kinds := [], alts := [], laidByText := true, laidKinds := [.data], laidTests := true, laidLooks := .later }
def FixedEncsCardSaid : Prop := Claim7.holds Tryd.pinned (.plain (OpenSpec.ofChange fixedEncsSpec)) fixedEncsCard

/-- THE TIED CARD OF 'annuletlaw09.FixedDecs'. -/
def fixedDecsCard : Claim7 := { stood := { row := fixedDecsRow, standIns := [], harness := (true, "cde24146ea7edfb63ab493e5a189305a4219f9223a921dff405d83c3000b5fc5"), looks := false }, kinds := [], alts := [], laidByText := true, laidKinds := [.data], laidTests := true, laidLooks := .later }
def FixedDecsCardSaid : Prop := Claim7.holds Tryd.pinned (.plain (OpenSpec.ofChange fixedDecsSpec)) fixedDecsCard

/-- THE TIED CARD OF 'annuletlaw09.FixedBack'. -/
def fixedBackCard : Claim7 := { stood := { row := fixedBackRow, standIns := [], harness := (true, "cde24146ea7edfb63ab493e5a189305a4219f9223a921dff405d83c3000b5fc5"), looks := false }, kinds := [], alts := [], laidByText := true, laidKinds := [.data], laidTests := true, laidLooks := .later }
def FixedBackCardSaid : Prop := Claim7.holds Tryd.pinned (.plain (OpenSpec.ofChange fixedBackSpec)) fixedBackCard

/-- THE SECOND FORM's CARD OF 'annuletlaw09.FixedEncs'. -/
def fixedEncsUptoCard : Claim7 := { stood := { row := fixedEncsUptoRow, standIns := [], harness := (true, "cde24146ea7edfb63ab493e5a189305a4219f9223a921dff405d83c3000b5fc5"), looks := false }, kinds := [], alts := [], laidByText := true, laidKinds := [.data], laidTests := true, laidLooks := .later }
def FixedEncsUptoCardSaid : Prop := Claim7.holds Tryd.pinned (.plain (OpenSpec.upto fixedEncsSpec)) fixedEncsUptoCard

/-- THE SECOND FORM's CARD OF 'annuletlaw09.FixedDecs'. -/
def fixedDecsUptoCard : Claim7 := { stood := { row := fixedDecsUptoRow, standIns := [], harness := (true, "cde24146ea7edfb63ab493e5a189305a4219f9223a921dff405d83c3000b5fc5"), looks := false }, kinds := [], alts := [], laidByText := true, laidKinds := [.data], laidTests := true, laidLooks := .later }
def FixedDecsUptoCardSaid : Prop := Claim7.holds Tryd.pinned (.plain (OpenSpec.upto fixedDecsSpec)) fixedDecsUptoCard

/-- THE SECOND FORM's CARD OF 'annuletlaw09.FixedBack'. -/
def fixedBackUptoCard : Claim7 := { stood := { row := fixedBackUptoRow, standIns := [], harness := (true, "cde24146ea7edfb63ab493e5a189305a4219f9223a921dff405d83c3000b5fc5"), looks := false }, kinds := [], alts := [], laidByText := true, laidKinds := [.data], laidTests := true, laidLooks := .later }
def FixedBackUptoCardSaid : Prop := Claim7.holds Tryd.pinned (.plain (OpenSpec.upto fixedBackSpec)) fixedBackUptoCard
end Rows
end Go.Proofs.YtpfeccbnkgnioaaDoor
