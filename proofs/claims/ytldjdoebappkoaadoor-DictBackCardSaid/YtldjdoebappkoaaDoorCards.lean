/-
  DERIVED. GIVEN WITH THE SEED: THE CARDS: each row of YtldjdoebappkoaaDoorRows.lean that lists a variable, with what it lists TIED to the program's text (the seventh form; the later family's looks); each row that meets fmt, with fmt's text TOLD by the authors' own Lean function (tested against real Go, not proved from fmt's source: count such statements apart). THE CARD IS WHAT COUNTS. Prove the row's statement (the work); the ties are given (YtldjdoebappkoaaDoorTie.lean); close each card by the builder's one call (the guide's Derived/Test/ToyasCard.lean, 'card_holds'). Laid BY PROGRAM, IN A SANDBOX (cutbox-door.mjs). By AI agents, Wed Nov 11 2026. No macro, syntax, notation, axiom, sorry.
-/
import Derived.Test.YtldjdoebappkoaaDoorRows
import GoSem.ClaimSeven
namespace Go.Proofs.YtldjdoebappkoaaDoor
namespace Rows

/-- THE TIED CARD OF 'annuletlaw13.DictTrees'. -/
def dictTreesCard : Claim7 := { stood := { row := dictTreesRow, standIns := [], harness := (true, "7999b8d9c28f75970112a8066aef3fedb2339dc44a1d3d620f3830081799e094"), looks := false }, kinds := [], alts := [], laidByText := true, laidKinds := [.data], laidTests := true, laidLooks := .later }
def DictTreesCardSaid : Prop := Claim7.holds Tryd.pinned (.plain (OpenSpec.ofChange dictTreesSpec)) dictTreesCard

/-- THE TIED CARD OF 'annuletlaw13.DictBack'. -/
def dictBackCard : Claim7 := { stood := { row := dictBackRow, standIns := [], harness := (true, "7999b8d9c28f75970112a8066aef3fedb2339dc44a1d3d620f3830081799e094"), looks := false }, kinds := [], alts := [], laidByText := true, laidKinds := [.data], laidTests := true, laidLooks := .later }
def DictBackCardSaid : Prop := Claim7.holds Tryd.pinned (.plain (OpenSpec.ofChange dictBackSpec)) dictBackCard

/-- THE SECOND FORM's CARD OF 'annuletlaw13.DictTrees'. -/
def dictTreesUptoCard : Claim7 := { stood := { row := dictTreesUptoRow, standIns := [], harness := (true, "7999b8d9c28f75970112a8066aef3fedb2339dc44a1d3d620f3830081799e094"), looks := false }, kinds := [], alts := [], laidByText := true, laidKinds := [.data], laidTests := true, laidLooks := .later }
def DictTreesUptoCardSaid : Prop := Claim7.holds Tryd.pinned (.plain (OpenSpec.upto dictTreesSpec)) dictTreesUptoCard

/-- THE SECOND FORM's CARD OF 'annuletlaw13.DictBack'. -/
def dictBackUptoCard : Claim7 := { stood := { row := dictBackUptoRow, standIns := [], harness := (true, "7999b8d9c28f75970112a8066aef3fedb2339dc44a1d3d620f3830081799e094"), looks := false }, kinds := [], alts := [], laidByText := true, laidKinds := [.data], laidTests := true, laidLooks := .later }
def DictBackUptoCardSaid : Prop := Claim7.holds Tryd.pinned (.plain (OpenSpec.upto dictBackSpec)) dictBackUptoCard
end Rows
end Go.Proofs.YtldjdoebappkoaaDoor
