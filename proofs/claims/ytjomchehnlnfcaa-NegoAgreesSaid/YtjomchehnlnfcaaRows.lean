/-
  No cell of these rows narrows 'for every input' (looked for: loops, veiled, ifaces, maps, wideKeys, modest, calm, conditions, laid).
  DERIVED. THE GIVEN ROWS OF THIS SEAT. 4 by the template 'for every input the law returns true; each argument reads behind the call as it read before'; 0 by the template 'total and deterministic' (their statements: YtjomchehnlnfcaaTotals.lean).
  GIVEN WITH THE SEED: the statements are not yours to turn. If you find one false, say at which input.
  Laid BY PROGRAM, IN A SANDBOX (cutbox-rows.mjs): the forced cells as the released guide's own fill.sh prints them over the translation 241cfd133ae8f411… (all of the seat's roots in one cut). By AI agents, Wed Nov 11 2026. No macro, syntax, notation, axiom, sorry.
-/
import Derived.Test.YtjomchehnlnfcaaChecked
import GoSem.Claim
import GoSem.ClaimJoined
import GoSem.ClaimMapViews
import Derived.JoinedTies
import Derived.KernelRfl
namespace Go.Proofs.Ytjomchehnlnfcaa
/- THE CELL 'sum', in the pinned program and in every row, IS THE sha256 OF THE DUMP (.gsa) THAT YtjomchehnlnfcaaProg.lean LOADS. Nothing in Lean hashes anything: it is a label: what it is worth is what the hold of that sum in a sandbox is worth. -/
noncomputable def Try.pinned : Pinned := { name := "ytjomchehnlnfcaa", sum := "241cfd133ae8f4111d8d1f386c998049c63863e962faf946cad10ce8a8a2a57b", checked := Try.checked }
namespace Rows
def none {H : Type} : Left H := { results := [], args := [] }

/-- 'annuletlaw25.NegoMoves': WHATEVER THE INPUT: true; the input reads as it did. -/
def negoMovesSpec : ChangeSpec := { name := "negoMoves", fn := fun _ => fun
  | [d1, d2, d3, d4] => { results := [.lit (.bool true)], args := [d1, d2, d3, d4] }
  | _ => none }
def negoMovesRow : OpenClaim := { program := "ytjomchehnlnfcaa", sum := "241cfd133ae8f4111d8d1f386c998049c63863e962faf946cad10ce8a8a2a57b", func := "annulet/annuletlaw25.NegoMoves", spec := "negoMoves", apart := false }
def NegoMovesSaid : Prop := negoMovesRow.holds Try.pinned (OpenSpec.ofChange negoMovesSpec)

/-- ITS FALSE NEIGHBOUR: 'it returns false'. Refute it at one input. -/
def negoMovesWrong : ChangeSpec := { name := "negoMoves", fn := fun _ => fun
  | [d1, d2, d3, d4] => { results := [.lit (.bool false)], args := [d1, d2, d3, d4] }
  | _ => none }
def NegoMovesWrongFalsely : Prop := negoMovesRow.holds Try.pinned (OpenSpec.ofChange negoMovesWrong)

/-- 'annuletlaw25.NegoHellos': WHATEVER THE INPUT: true; the input reads as it did. -/
def negoHellosSpec : ChangeSpec := { name := "negoHellos", fn := fun _ => fun
  | [d1, d2, d3] => { results := [.lit (.bool true)], args := [d1, d2, d3] }
  | _ => none }
def negoHellosRow : OpenClaim := { program := "ytjomchehnlnfcaa", sum := "241cfd133ae8f4111d8d1f386c998049c63863e962faf946cad10ce8a8a2a57b", func := "annulet/annuletlaw25.NegoHellos", spec := "negoHellos", apart := false }
def NegoHellosSaid : Prop := negoHellosRow.holds Try.pinned (OpenSpec.ofChange negoHellosSpec)

/-- ITS FALSE NEIGHBOUR: 'it returns false'. Refute it at one input. -/
def negoHellosWrong : ChangeSpec := { name := "negoHellos", fn := fun _ => fun
  | [d1, d2, d3] => { results := [.lit (.bool false)], args := [d1, d2, d3] }
  | _ => none }
def NegoHellosWrongFalsely : Prop := negoHellosRow.holds Try.pinned (OpenSpec.ofChange negoHellosWrong)

/-- 'annuletlaw25.NegoAgrees': WHATEVER THE INPUT: true; the input reads as it did. -/
def negoAgreesSpec : ChangeSpec := { name := "negoAgrees", fn := fun _ => fun
  | [d1, d2, d3] => { results := [.lit (.bool true)], args := [d1, d2, d3] }
  | _ => none }
def negoAgreesRow : OpenClaim := { program := "ytjomchehnlnfcaa", sum := "241cfd133ae8f4111d8d1f386c998049c63863e962faf946cad10ce8a8a2a57b", func := "annulet/annuletlaw25.NegoAgrees", spec := "negoAgrees", apart := false }
def NegoAgreesSaid : Prop := negoAgreesRow.holds Try.pinned (OpenSpec.ofChange negoAgreesSpec)

/-- ITS FALSE NEIGHBOUR: 'it returns false'. Refute it at one input. -/
def negoAgreesWrong : ChangeSpec := { name := "negoAgrees", fn := fun _ => fun
  | [d1, d2, d3] => { results := [.lit (.bool false)], args := [d1, d2, d3] }
  | _ => none }
def NegoAgreesWrongFalsely : Prop := negoAgreesRow.holds Try.pinned (OpenSpec.ofChange negoAgreesWrong)

/-- 'annuletlaw25.NegoSoon': WHATEVER THE INPUT: true; the input reads as it did. -/
def negoSoonSpec : ChangeSpec := { name := "negoSoon", fn := fun _ => fun
  | [d1, d2, d3] => { results := [.lit (.bool true)], args := [d1, d2, d3] }
  | _ => none }
def negoSoonRow : OpenClaim := { program := "ytjomchehnlnfcaa", sum := "241cfd133ae8f4111d8d1f386c998049c63863e962faf946cad10ce8a8a2a57b", func := "annulet/annuletlaw25.NegoSoon", spec := "negoSoon", apart := false }
def NegoSoonSaid : Prop := negoSoonRow.holds Try.pinned (OpenSpec.ofChange negoSoonSpec)

/-- ITS FALSE NEIGHBOUR: 'it returns false'. Refute it at one input. -/
def negoSoonWrong : ChangeSpec := { name := "negoSoon", fn := fun _ => fun
  | [d1, d2, d3] => { results := [.lit (.bool false)], args := [d1, d2, d3] }
  | _ => none }
def NegoSoonWrongFalsely : Prop := negoSoonRow.holds Try.pinned (OpenSpec.ofChange negoSoonWrong)

/- THE SECOND FORM. 'bulk': how many values and letters a reading holds, each counted each time it is reached (what is shared counts as often as it is met; a slice's spare places count too). A statement '..UptoSaid' is the law's where the arguments, and the package variables that the reading takes, are together of bulk at most 1048576: NARROWER than '..Said'. Prove '..Said' where nothing that the law and all that it calls make is longer than what came in: it says more and counts as full. Else prove '..UptoSaid'. A law counts once. -/
mutual
def uptoBulk {H : Type} : DataW H → Nat
  | .lit (.string bytes) => bytes.length + 1
  | .lit _ => 1
  | .nil => 1
  | .ptr d => uptoBulk d + 1
  | .slice elems spare => uptoBulkAll elems + uptoBulkAll spare + 1
  | .agg parts => uptoBulkAll parts + 1
  | .iface _ d => uptoBulk d + 1
  | .map entries => uptoBulkEntries entries + 1
  | .held _ => 1
def uptoBulkAll {H : Type} : List (DataW H) → Nat
  | [] => 0
  | d :: r => uptoBulk d + uptoBulkAll r
def uptoBulkEntries {H : Type} : List (Lit × DataW H) → Nat
  | [] => 0
  | x :: r => uptoBulkEntry x + uptoBulkEntries r
def uptoBulkEntry {H : Type} : Lit × DataW H → Nat
  | (.string bytes, d) => bytes.length + uptoBulk d + 1
  | (_, d) => uptoBulk d + 1
 end
def uptoSmall : (H : Type) → List (DataW H) → Bool := fun _ ds => decide (uptoBulkAll ds ≤ 1048576)
def OpenSpec.upto (s : _root_.Go.ChangeSpec) : _root_.Go.OpenSpec := { _root_.Go.OpenSpec.ofChange s with cond := some uptoSmall }

/-- 'annuletlaw25.NegoMoves', WHERE WHAT IT READS IS OF BULK AT MOST 1048576: true; the input reads as it did. -/
def negoMovesUptoRow : OpenClaim := { program := "ytjomchehnlnfcaa", sum := "241cfd133ae8f4111d8d1f386c998049c63863e962faf946cad10ce8a8a2a57b", func := "annulet/annuletlaw25.NegoMoves", spec := "negoMoves", apart := false, narrowed := true }
def NegoMovesUptoSaid : Prop := negoMovesUptoRow.holds Try.pinned (OpenSpec.upto negoMovesSpec)

/-- 'annuletlaw25.NegoHellos', WHERE WHAT IT READS IS OF BULK AT MOST 1048576: true; the input reads as it did. -/
def negoHellosUptoRow : OpenClaim := { program := "ytjomchehnlnfcaa", sum := "241cfd133ae8f4111d8d1f386c998049c63863e962faf946cad10ce8a8a2a57b", func := "annulet/annuletlaw25.NegoHellos", spec := "negoHellos", apart := false, narrowed := true }
def NegoHellosUptoSaid : Prop := negoHellosUptoRow.holds Try.pinned (OpenSpec.upto negoHellosSpec)

/-- 'annuletlaw25.NegoAgrees', WHERE WHAT IT READS IS OF BULK AT MOST 1048576: true; the input reads as it did. -/
def negoAgreesUptoRow : OpenClaim := { program := "ytjomchehnlnfcaa", sum := "241cfd133ae8f4111d8d1f386c998049c63863e962faf946cad10ce8a8a2a57b", func := "annulet/annuletlaw25.NegoAgrees", spec := "negoAgrees", apart := false, narrowed := true }
def NegoAgreesUptoSaid : Prop := negoAgreesUptoRow.holds Try.pinned (OpenSpec.upto negoAgreesSpec)

/-- 'annuletlaw25.NegoSoon', WHERE WHAT IT READS IS OF BULK AT MOST 1048576: true; the input reads as it did. -/
def negoSoonUptoRow : OpenClaim := { program := "ytjomchehnlnfcaa", sum := "241cfd133ae8f4111d8d1f386c998049c63863e962faf946cad10ce8a8a2a57b", func := "annulet/annuletlaw25.NegoSoon", spec := "negoSoon", apart := false, narrowed := true }
def NegoSoonUptoSaid : Prop := negoSoonUptoRow.holds Try.pinned (OpenSpec.upto negoSoonSpec)

end Rows
end Go.Proofs.Ytjomchehnlnfcaa
