/-
  No cell of these rows narrows 'for every input' (looked for: loops, veiled, ifaces, maps, wideKeys, modest, calm, conditions, laid).
  DERIVED. THE GIVEN ROWS OF THIS SEAT. 5 by the template 'for every input the law returns true; each argument reads behind the call as it read before'; 0 by the template 'total and deterministic' (their statements: YtphepdaaoglofaaTotals.lean).
  GIVEN WITH THE SEED: the statements are not yours to turn. If you find one false, say at which input.
  Laid BY PROGRAM, IN A SANDBOX (cutbox-rows.mjs): the forced cells as the released guide's own fill.sh prints them over the translation 4e99f5ca79abc8b4… (all of the seat's roots in one cut). By AI agents, Wed Nov 11 2026. No macro, syntax, notation, axiom, sorry.
-/
import Derived.Test.YtphepdaaoglofaaChecked
import GoSem.Claim
import GoSem.ClaimJoined
import GoSem.ClaimMapViews
import Derived.JoinedTies
import Derived.KernelRfl
namespace Go.Proofs.Ytphepdaaoglofaa
/- THE CELL 'sum', in the pinned program and in every row, IS THE sha256 OF THE DUMP (.gsa) THAT YtphepdaaoglofaaProg.lean LOADS. Nothing in Lean hashes anything: it is a label: what it is worth is what the hold of that sum in a sandbox is worth. -/
noncomputable def Try.pinned : Pinned := { name := "ytphepdaaoglofaa", sum := "4e99f5ca79abc8b43731e6e0c1a05faa8698b48f8e21f7545da395d0e5dce586", checked := Try.checked }
namespace Rows
def none {H : Type} : Left H := { results := [], args := [] }

/-- 'annuletlaw01.UvarPuts': WHATEVER THE INPUT: true; the input reads as it did. -/
def uvarPutsSpec : ChangeSpec := { name := "uvarPuts", fn := fun _ => fun
  | [d1, d2] => { results := [.lit (.bool true)], args := [d1, d2] }
  | _ => none }
def uvarPutsRow : OpenClaim := { program := "ytphepdaaoglofaa", sum := "4e99f5ca79abc8b43731e6e0c1a05faa8698b48f8e21f7545da395d0e5dce586", func := "annulet/annuletlaw01.UvarPuts", spec := "uvarPuts", apart := false }
def UvarPutsSaid : Prop := uvarPutsRow.holds Try.pinned (OpenSpec.ofChange uvarPutsSpec)

/-- ITS FALSE NEIGHBOUR: 'it returns false'. Refute it at one input. -/
def uvarPutsWrong : ChangeSpec := { name := "uvarPuts", fn := fun _ => fun
  | [d1, d2] => { results := [.lit (.bool false)], args := [d1, d2] }
  | _ => none }
def UvarPutsWrongFalsely : Prop := uvarPutsRow.holds Try.pinned (OpenSpec.ofChange uvarPutsWrong)

/-- 'annuletlaw01.UvarGets': WHATEVER THE INPUT: true; the input reads as it did. -/
def uvarGetsSpec : ChangeSpec := { name := "uvarGets", fn := fun _ => fun
  | [d] => { results := [.lit (.bool true)], args := [d] }
  | _ => none }
def uvarGetsRow : OpenClaim := { program := "ytphepdaaoglofaa", sum := "4e99f5ca79abc8b43731e6e0c1a05faa8698b48f8e21f7545da395d0e5dce586", func := "annulet/annuletlaw01.UvarGets", spec := "uvarGets", apart := false }
def UvarGetsSaid : Prop := uvarGetsRow.holds Try.pinned (OpenSpec.ofChange uvarGetsSpec)

/-- ITS FALSE NEIGHBOUR: 'it returns false'. Refute it at one input. -/
def uvarGetsWrong : ChangeSpec := { name := "uvarGets", fn := fun _ => fun
  | [d] => { results := [.lit (.bool false)], args := [d] }
  | _ => none }
def UvarGetsWrongFalsely : Prop := uvarGetsRow.holds Try.pinned (OpenSpec.ofChange uvarGetsWrong)

/-- 'annuletlaw01.UvarLists': WHATEVER THE INPUT: true; the input reads as it did. -/
def uvarListsSpec : ChangeSpec := { name := "uvarLists", fn := fun _ => fun
  | [d1, d2] => { results := [.lit (.bool true)], args := [d1, d2] }
  | _ => none }
def uvarListsRow : OpenClaim := { program := "ytphepdaaoglofaa", sum := "4e99f5ca79abc8b43731e6e0c1a05faa8698b48f8e21f7545da395d0e5dce586", func := "annulet/annuletlaw01.UvarLists", spec := "uvarLists", apart := false }
def UvarListsSaid : Prop := uvarListsRow.holds Try.pinned (OpenSpec.ofChange uvarListsSpec)

/-- ITS FALSE NEIGHBOUR: 'it returns false'. Refute it at one input. -/
def uvarListsWrong : ChangeSpec := { name := "uvarLists", fn := fun _ => fun
  | [d1, d2] => { results := [.lit (.bool false)], args := [d1, d2] }
  | _ => none }
def UvarListsWrongFalsely : Prop := uvarListsRow.holds Try.pinned (OpenSpec.ofChange uvarListsWrong)

/-- 'annuletlaw01.UvarBack': WHATEVER THE INPUT: true; the input reads as it did. -/
def uvarBackSpec : ChangeSpec := { name := "uvarBack", fn := fun _ => fun
  | [d1, d2] => { results := [.lit (.bool true)], args := [d1, d2] }
  | _ => none }
def uvarBackRow : OpenClaim := { program := "ytphepdaaoglofaa", sum := "4e99f5ca79abc8b43731e6e0c1a05faa8698b48f8e21f7545da395d0e5dce586", func := "annulet/annuletlaw01.UvarBack", spec := "uvarBack", apart := false }
def UvarBackSaid : Prop := uvarBackRow.holds Try.pinned (OpenSpec.ofChange uvarBackSpec)

/-- ITS FALSE NEIGHBOUR: 'it returns false'. Refute it at one input. -/
def uvarBackWrong : ChangeSpec := { name := "uvarBack", fn := fun _ => fun
  | [d1, d2] => { results := [.lit (.bool false)], args := [d1, d2] }
  | _ => none }
def UvarBackWrongFalsely : Prop := uvarBackRow.holds Try.pinned (OpenSpec.ofChange uvarBackWrong)

/-- 'annuletlaw01.UvarZigs': WHATEVER THE INPUT: true; the input reads as it did. -/
def uvarZigsSpec : ChangeSpec := { name := "uvarZigs", fn := fun _ => fun
  | [d1, d2] => { results := [.lit (.bool true)], args := [d1, d2] }
  | _ => none }
def uvarZigsRow : OpenClaim := { program := "ytphepdaaoglofaa", sum := "4e99f5ca79abc8b43731e6e0c1a05faa8698b48f8e21f7545da395d0e5dce586", func := "annulet/annuletlaw01.UvarZigs", spec := "uvarZigs", apart := false }
def UvarZigsSaid : Prop := uvarZigsRow.holds Try.pinned (OpenSpec.ofChange uvarZigsSpec)

/-- ITS FALSE NEIGHBOUR: 'it returns false'. Refute it at one input. -/
def uvarZigsWrong : ChangeSpec := { name := "uvarZigs", fn := fun _ => fun
  | [d1, d2] => { results := [.lit (.bool false)], args := [d1, d2] }
  | _ => none }
def UvarZigsWrongFalsely : Prop := uvarZigsRow.holds Try.pinned (OpenSpec.ofChange uvarZigsWrong)

/- THE SECOND FORM. 'bulk': how many values and letters a reading holds, each counted each time it is reached (what is shared counts as often as it is met; a slice's spare places count too). A statement '..UptoSaid' is the law's where the arguments, and the package variables that the reading takes, are together of bulk at most 1048576: NARROWER than '..Said'. Prove '..Said' where nothing that the law and all that it calls make is longer than what came in: it says more and counts as full. Else prove '..UptoSaid'. A law counts once. -/
mutual
def uptoBulk {H : Type} : DataW H → Nat
  | .lit (.string bytes) => bytes.length + 1
  | .lit _ => 1
  | .nil => 1
  | .ptr d => uptoBulk d + 1
  | .slice elems spare => uptoBulkAll elems + uptoBulkAll spare + 1
  | .agg parts => uptoBulkAll parts + 1
  | .iface _ d => uptoBulk d + 1
  | .map entries => uptoBulkEntries entries + 1
  | .held _ => 1
def uptoBulkAll {H : Type} : List (DataW H) → Nat
  | [] => 0
  | d :: r => uptoBulk d + uptoBulkAll r
def uptoBulkEntries {H : Type} : List (Lit × DataW H) → Nat
  | [] => 0
  | x :: r => uptoBulkEntry x + uptoBulkEntries r
def uptoBulkEntry {H : Type} : Lit × DataW H → Nat
  | (.string bytes, d) => bytes.length + uptoBulk d + 1
  | (_, d) => uptoBulk d + 1
 end
def uptoSmall : (H : Type) → List (DataW H) → Bool := fun _ ds => decide (uptoBulkAll ds ≤ 1048576)
def OpenSpec.upto (s : _root_.Go.ChangeSpec) : _root_.Go.OpenSpec := { _root_.Go.OpenSpec.ofChange s with cond := some uptoSmall }

/-- 'annuletlaw01.UvarPuts', WHERE WHAT IT READS IS OF BULK AT MOST 1048576: true; the input reads as it did. -/
def uvarPutsUptoRow : OpenClaim := { program := "ytphepdaaoglofaa", sum := "4e99f5ca79abc8b43731e6e0c1a05faa8698b48f8e21f7545da395d0e5dce586", func := "annulet/annuletlaw01.UvarPuts", spec := "uvarPuts", apart := false, narrowed := true }
def UvarPutsUptoSaid : Prop := uvarPutsUptoRow.holds Try.pinned (OpenSpec.upto uvarPutsSpec)

/-- 'annuletlaw01.UvarGets', WHERE WHAT IT READS IS OF BULK AT MOST 1048576: true; the input reads as it did. -/
def uvarGetsUptoRow : OpenClaim := { program := "ytphepdaaoglofaa", sum := "4e99f5ca79abc8b43731e6e0c1a05faa8698b48f8e21f7545da395d0e5dce586", func := "annulet/annuletlaw01.UvarGets", spec := "uvarGets", apart := false, narrowed := true }
def UvarGetsUptoSaid : Prop := uvarGetsUptoRow.holds Try.pinned (OpenSpec.upto uvarGetsSpec)

/-- 'annuletlaw01.UvarLists', WHERE WHAT IT READS IS OF BULK AT MOST 1048576: true; the input reads as it did. -/
def uvarListsUptoRow : OpenClaim := { program := "ytphepdaaoglofaa", sum := "4e99f5ca79abc8b43731e6e0c1a05faa8698b48f8e21f7545da395d0e5dce586", func := "annulet/annuletlaw01.UvarLists", spec := "uvarLists", apart := false, narrowed := true }
def UvarListsUptoSaid : Prop := uvarListsUptoRow.holds Try.pinned (OpenSpec.upto uvarListsSpec)

/-- 'annuletlaw01.UvarBack', WHERE WHAT IT READS IS OF BULK AT MOST 1048576: true; the input reads as it did. -/
def uvarBackUptoRow : OpenClaim := { program := "ytphepdaaoglofaa", sum := "4e99f5ca79abc8b43731e6e0c1a05faa8698b48f8e21f7545da395d0e5dce586", func := "annulet/annuletlaw01.UvarBack", spec := "uvarBack", apart := false, narrowed := true }
def UvarBackUptoSaid : Prop := uvarBackUptoRow.holds Try.pinned (OpenSpec.upto uvarBackSpec)

/-- 'annuletlaw01.UvarZigs', WHERE WHAT IT READS IS OF BULK AT MOST 1048576: true; the input reads as it did. -/
def uvarZigsUptoRow : OpenClaim := { program := "ytphepdaaoglofaa", sum := "4e99f5ca79abc8b43731e6e0c1a05faa8698b48f8e21f7545da395d0e5dce586", func := "annulet/annuletlaw01.UvarZigs", spec := "uvarZigs", apart := false, narrowed := true }
def UvarZigsUptoSaid : Prop := uvarZigsUptoRow.holds Try.pinned (OpenSpec.upto uvarZigsSpec)

end Rows
end Go.Proofs.Ytphepdaaoglofaa
