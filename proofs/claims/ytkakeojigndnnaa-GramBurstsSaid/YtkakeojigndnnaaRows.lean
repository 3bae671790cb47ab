/-
  No cell of these rows narrows 'for every input' (looked for: loops, veiled, ifaces, maps, wideKeys, modest, calm, conditions, laid).
  DERIVED. THE GIVEN ROWS OF THIS SEAT. 4 by the template 'for every input the law returns true; each argument reads behind the call as it read before'; 0 by the template 'total and deterministic' (their statements: YtkakeojigndnnaaTotals.lean).
  GIVEN WITH THE SEED: the statements are not yours to turn. If you find one false, say at which input.
  Laid BY PROGRAM, IN A SANDBOX (cutbox-rows.mjs): the forced cells as the released guide's own fill.sh prints them over the translation 09ad6f5049606edb… (all of the seat's roots in one cut). By AI agents, Wed Nov 11 2026. No macro, syntax, notation, axiom, sorry.
-/
import Derived.Test.YtkakeojigndnnaaChecked
import GoSem.Claim
import GoSem.ClaimJoined
import GoSem.ClaimMapViews
import Derived.JoinedTies
import Derived.KernelRfl
namespace Go.Proofs.Ytkakeojigndnnaa
/- THE CELL 'sum', in the pinned program and in every row, IS THE sha256 OF THE DUMP (.gsa) THAT YtkakeojigndnnaaProg.lean LOADS. Nothing in Lean hashes anything: it is a label: what it is worth is what the hold of that sum in a sandbox is worth. -/
noncomputable def Try.pinned : Pinned := { name := "ytkakeojigndnnaa", sum := "09ad6f5049606edb7039109903363c1baaa04584be8fa01051e2a7484891c9be", checked := Try.checked }
namespace Rows
def none {H : Type} : Left H := { results := [], args := [] }

/-- 'annuletlaw18.GramPuts': WHATEVER THE INPUT: true; the input reads as it did. -/
def gramPutsSpec : ChangeSpec := { name := "gramPuts", fn := fun _ => fun
  | [d1, d2] => { results := [.lit (.bool true)], args := [d1, d2] }
  | _ => none }
def gramPutsRow : OpenClaim := { program := "ytkakeojigndnnaa", sum := "09ad6f5049606edb7039109903363c1baaa04584be8fa01051e2a7484891c9be", func := "annulet/annuletlaw18.GramPuts", spec := "gramPuts", apart := false }
def GramPutsSaid : Prop := gramPutsRow.holds Try.pinned (OpenSpec.ofChange gramPutsSpec)

/-- ITS FALSE NEIGHBOUR: 'it returns false'. Refute it at one input. -/
def gramPutsWrong : ChangeSpec := { name := "gramPuts", fn := fun _ => fun
  | [d1, d2] => { results := [.lit (.bool false)], args := [d1, d2] }
  | _ => none }
def GramPutsWrongFalsely : Prop := gramPutsRow.holds Try.pinned (OpenSpec.ofChange gramPutsWrong)

/-- 'annuletlaw18.GramGets': WHATEVER THE INPUT: true; the input reads as it did. -/
def gramGetsSpec : ChangeSpec := { name := "gramGets", fn := fun _ => fun
  | [d] => { results := [.lit (.bool true)], args := [d] }
  | _ => none }
def gramGetsRow : OpenClaim := { program := "ytkakeojigndnnaa", sum := "09ad6f5049606edb7039109903363c1baaa04584be8fa01051e2a7484891c9be", func := "annulet/annuletlaw18.GramGets", spec := "gramGets", apart := false }
def GramGetsSaid : Prop := gramGetsRow.holds Try.pinned (OpenSpec.ofChange gramGetsSpec)

/-- ITS FALSE NEIGHBOUR: 'it returns false'. Refute it at one input. -/
def gramGetsWrong : ChangeSpec := { name := "gramGets", fn := fun _ => fun
  | [d] => { results := [.lit (.bool false)], args := [d] }
  | _ => none }
def GramGetsWrongFalsely : Prop := gramGetsRow.holds Try.pinned (OpenSpec.ofChange gramGetsWrong)

/-- 'annuletlaw18.GramBack': WHATEVER THE INPUT: true; the input reads as it did. -/
def gramBackSpec : ChangeSpec := { name := "gramBack", fn := fun _ => fun
  | [d1, d2] => { results := [.lit (.bool true)], args := [d1, d2] }
  | _ => none }
def gramBackRow : OpenClaim := { program := "ytkakeojigndnnaa", sum := "09ad6f5049606edb7039109903363c1baaa04584be8fa01051e2a7484891c9be", func := "annulet/annuletlaw18.GramBack", spec := "gramBack", apart := false }
def GramBackSaid : Prop := gramBackRow.holds Try.pinned (OpenSpec.ofChange gramBackSpec)

/-- ITS FALSE NEIGHBOUR: 'it returns false'. Refute it at one input. -/
def gramBackWrong : ChangeSpec := { name := "gramBack", fn := fun _ => fun
  | [d1, d2] => { results := [.lit (.bool false)], args := [d1, d2] }
  | _ => none }
def GramBackWrongFalsely : Prop := gramBackRow.holds Try.pinned (OpenSpec.ofChange gramBackWrong)

/-- 'annuletlaw18.GramBursts': WHATEVER THE INPUT: true; the input reads as it did. -/
def gramBurstsSpec : ChangeSpec := { name := "gramBursts", fn := fun _ => fun
  | [d1, d2, d3] => { results := [.lit (.bool true)], args := [d1, d2, d3] }
  | _ => none }
def gramBurstsRow : OpenClaim := { program := "ytkakeojigndnnaa", sum := "09ad6f5049606edb7039109903363c1baaa04584be8fa01051e2a7484891c9be", func := "annulet/annuletlaw18.GramBursts", spec := "gramBursts", apart := false }
def GramBurstsSaid : Prop := gramBurstsRow.holds Try.pinned (OpenSpec.ofChange gramBurstsSpec)

/-- ITS FALSE NEIGHBOUR: 'it returns false'. Refute it at one input. -/
def gramBurstsWrong : ChangeSpec := { name := "gramBursts", fn := fun _ => fun
  | [d1, d2, d3] => { results := [.lit (.bool false)], args := [d1, d2, d3] }
  | _ => none }
def GramBurstsWrongFalsely : Prop := gramBurstsRow.holds Try.pinned (OpenSpec.ofChange gramBurstsWrong)

/- THE SECOND FORM. 'bulk': how many values and letters a reading holds, each counted each time it is reached (what is shared counts as often as it is met; a slice's spare places count too). A statement '..UptoSaid' is the law's where the arguments, and the package variables that the reading takes, are together of bulk at most 1048576: NARROWER than '..Said'. Prove '..Said' where nothing that the law and all that it calls make is longer than what came in: it says more and counts as full. Else prove '..UptoSaid'. A law counts once. -/
mutual
def uptoBulk {H : Type} : DataW H → Nat
  | .lit (.string bytes) => bytes.length + 1
  | .lit _ => 1
  | .nil => 1
  | .ptr d => uptoBulk d + 1
  | .slice elems spare => uptoBulkAll elems + uptoBulkAll spare + 1
  | .agg parts => uptoBulkAll parts + 1
  | .iface _ d => uptoBulk d + 1
  | .map entries => uptoBulkEntries entries + 1
  | .held _ => 1
def uptoBulkAll {H : Type} : List (DataW H) → Nat
  | [] => 0
  | d :: r => uptoBulk d + uptoBulkAll r
def uptoBulkEntries {H : Type} : List (Lit × DataW H) → Nat
  | [] => 0
  | x :: r => uptoBulkEntry x + uptoBulkEntries r
def uptoBulkEntry {H : Type} : Lit × DataW H → Nat
  | (.string bytes, d) => bytes.length + uptoBulk d + 1
  | (_, d) => uptoBulk d + 1
 end
def uptoSmall : (H : Type) → List (DataW H) → Bool := fun _ ds => decide (uptoBulkAll ds ≤ 1048576)
def OpenSpec.upto (s : _root_.Go.ChangeSpec) : _root_.Go.OpenSpec := { _root_.Go.OpenSpec.ofChange s with cond := some uptoSmall }

/-- 'annuletlaw18.GramPuts', WHERE WHAT IT READS IS OF BULK AT MOST 1048576: true; the input reads as it did. -/
def gramPutsUptoRow : OpenClaim := { program := "ytkakeojigndnnaa", sum := "09ad6f5049606edb7039109903363c1baaa04584be8fa01051e2a7484891c9be", func := "annulet/annuletlaw18.GramPuts", spec := "gramPuts", apart := false, narrowed := true }
def GramPutsUptoSaid : Prop := gramPutsUptoRow.holds Try.pinned (OpenSpec.upto gramPutsSpec)

/-- 'annuletlaw18.GramGets', WHERE WHAT IT READS IS OF BULK AT MOST 1048576: true; the input reads as it did. -/
def gramGetsUptoRow : OpenClaim := { program := "ytkakeojigndnnaa", sum := "09ad6f5049606edb7039109903363c1baaa04584be8fa01051e2a7484891c9be", func := "annulet/annuletlaw18.GramGets", spec := "gramGets", apart := false, narrowed := true }
def GramGetsUptoSaid : Prop := gramGetsUptoRow.holds Try.pinned (OpenSpec.upto gramGetsSpec)

/-- 'annuletlaw18.GramBack', WHERE WHAT IT READS IS OF BULK AT MOST 1048576: true; the input reads as it did. -/
def gramBackUptoRow : OpenClaim := { program := "ytkakeojigndnnaa", sum := "09ad6f5049606edb7039109903363c1baaa04584be8fa01051e2a7484891c9be", func := "annulet/annuletlaw18.GramBack", spec := "gramBack", apart := false, narrowed := true }
def GramBackUptoSaid : Prop := gramBackUptoRow.holds Try.pinned (OpenSpec.upto gramBackSpec)

/-- 'annuletlaw18.GramBursts', WHERE WHAT IT READS IS OF BULK AT MOST 1048576: true; the input reads as it did. -/
def gramBurstsUptoRow : OpenClaim := { program := "ytkakeojigndnnaa", sum := "09ad6f5049606edb7039109903363c1baaa04584be8fa01051e2a7484891c9be", func := "annulet/annuletlaw18.GramBursts", spec := "gramBursts", apart := false, narrowed := true }
def GramBurstsUptoSaid : Prop := gramBurstsUptoRow.holds Try.pinned (OpenSpec.upto gramBurstsSpec)

end Rows
end Go.Proofs.Ytkakeojigndnnaa
