/-
  NARROWER THAN 'FOR EVERY INPUT', by the rows' own cells (each row's printed sentence says how): DictMessages: loops, laid.
  DERIVED. THE GIVEN ROWS OF THIS SEAT. 1 by the template 'for every input the law returns true; each argument reads behind the call as it read before'; 0 by the template 'total and deterministic' (their statements: YtldjdoebappkoaaGreatDoorTotals.lean).
  GIVEN WITH THE SEED: the statements are not yours to turn. If you find one false, say at which input.
  Laid BY PROGRAM, IN A SANDBOX (cutbox-rows.mjs): the forced cells as the released guide's own fill.sh prints them over the translation b983922e287b562c… (all of the seat's roots in one cut). By AI agents, Wed Nov 11 2026. No macro, syntax, notation, axiom, sorry.
-/
import Derived.Test.YtldjdoebappkoaaGreatDoorChecked
import GoSem.Claim
import GoSem.ClaimJoined
import GoSem.ClaimMapViews
import Derived.JoinedTies
import Derived.KernelRfl
namespace Go.Proofs.YtldjdoebappkoaaGreatDoor
/- THE CELL 'sum', in the pinned program and in every row, IS THE sha256 OF THE DUMP (.gsa) THAT YtldjdoebappkoaaGreatDoorProg.lean LOADS. Nothing in Lean hashes anything: it is a label: what it is worth is what the hold of that sum in a sandbox is worth. -/
noncomputable def Tryz.pinned : Pinned := { name := "ytldjdoebappkoaagreatdoor", sum := "b983922e287b562cac9d1dcdfd62387a682f75234af9ae0d1ff37ed502526c03", checked := Tryz.checked }
namespace Rows
def none {H : Type} : Left H := { results := [], args := [] }

/- WHAT THE LISTED PACKAGE-LEVEL VARIABLES READ AS WHEN THE CALL BEGINS. Each datum BY PROGRAM (the guide's laid-datum.mjs) off the statement by which the dump's own 'gosem.cut.vars' lays the variable. In a bare row this is a premise. The card (YtldjdoebappkoaaGreatDoorCards.lean) ties it to the program's text. -/
def laid_annulet_msg_kinds {H : Type} : DataW H := .agg [.agg [.lit (.string [63]), .lit (.int .u16 0), .lit (.int .u16 0), .lit (.int .u16 0), .lit (.int .u16 0)], .agg [.lit (.string [102, 105, 110, 100]), .lit (.int .u16 4), .lit (.int .u16 0), .lit (.int .u16 0), .lit (.int .u16 4100)], .agg [.lit (.string [104, 111, 112]), .lit (.int .u16 18), .lit (.int .u16 0), .lit (.int .u16 16), .lit (.int .u16 0)], .agg [.lit (.string [97, 115, 107]), .lit (.int .u16 0), .lit (.int .u16 0), .lit (.int .u16 0), .lit (.int .u16 16)], .agg [.lit (.string [116, 101, 108, 108]), .lit (.int .u16 18), .lit (.int .u16 8), .lit (.int .u16 0), .lit (.int .u16 0)], .agg [.lit (.string [110, 111, 116, 101]), .lit (.int .u16 8), .lit (.int .u16 0), .lit (.int .u16 0), .lit (.int .u16 64)], .agg [.lit (.string [111, 107, 97, 121]), .lit (.int .u16 0), .lit (.int .u16 0), .lit (.int .u16 0), .lit (.int .u16 0)], .agg [.lit (.string [112, 117, 116]), .lit (.int .u16 96), .lit (.int .u16 0), .lit (.int .u16 0), .lit (.int .u16 4160)], .agg [.lit (.string [103, 101, 116]), .lit (.int .u16 32), .lit (.int .u16 0), .lit (.int .u16 0), .lit (.int .u16 4608)], .agg [.lit (.string [103, 111, 116]), .lit (.int .u16 2), .lit (.int .u16 64), .lit (.int .u16 0), .lit (.int .u16 0)], .agg [.lit (.string [109, 111, 118, 101]), .lit (.int .u16 130), .lit (.int .u16 0), .lit (.int .u16 128), .lit (.int .u16 64)], .agg [.lit (.string [112, 105, 110, 103]), .lit (.int .u16 0), .lit (.int .u16 0), .lit (.int .u16 0), .lit (.int .u16 64)], .agg [.lit (.string [110, 97, 121]), .lit (.int .u16 1), .lit (.int .u16 0), .lit (.int .u16 1), .lit (.int .u16 0)]]

/-- 'annuletlaw13.DictMessages': WHATEVER THE INPUT: true; the input reads as it did. -/
def dictMessagesSpec : ChangeSpec := { name := "dictMessages", fn := fun _ => fun
  | [d] => { results := [.lit (.bool true)], args := [d] }
  | _ => none }
def dictMessagesRow : OpenClaim := { program := "ytldjdoebappkoaagreatdoor", sum := "b983922e287b562cac9d1dcdfd62387a682f75234af9ae0d1ff37ed502526c03", func := "annulet/annuletlaw13.DictMessages", spec := "dictMessages", inPlace := ["slices.overlaps[string]", "slices.overlaps[annulet/api.Tree]"], unfollowed := true, recurses := true, named := ["annulet/msg.kinds"], loops := true, apart := false, laid := [("annulet/msg.kinds", laid_annulet_msg_kinds)] }
def DictMessagesSaid : Prop := dictMessagesRow.holds Tryz.pinned (OpenSpec.ofChange dictMessagesSpec)

/-- ITS FALSE NEIGHBOUR: 'it returns false'. Refute it at one input. -/
def dictMessagesWrong : ChangeSpec := { name := "dictMessages", fn := fun _ => fun
  | [d] => { results := [.lit (.bool false)], args := [d] }
  | _ => none }
def DictMessagesWrongFalsely : Prop := dictMessagesRow.holds Tryz.pinned (OpenSpec.ofChange dictMessagesWrong)

/- THE SECOND FORM. 'bulk': how many values and letters a reading holds, each counted each time it is reached (what is shared counts as often as it is met; a slice's spare places count too). A statement '..UptoSaid' is the law's where the arguments, and the package variables that the reading takes, are together of bulk at most 1048576: NARROWER than '..Said'. Prove '..Said' where nothing that the law and all that it calls make is longer than what came in: it says more and counts as full. Else prove '..UptoSaid'. A law counts once. -/
mutual
def uptoBulk {H : Type} : DataW H → Nat
  | .lit (.string bytes) => bytes.length + 1
  | .lit _ => 1
  | .nil => 1
  | .ptr d => uptoBulk d + 1
  | .slice elems spare => uptoBulkAll elems + uptoBulkAll spare + 1
  | .agg parts => uptoBulkAll parts + 1
  | .iface _ d => uptoBulk d + 1
  | .map entries => uptoBulkEntries entries + 1
  | .held _ => 1
def uptoBulkAll {H : Type} : List (DataW H) → Nat
  | [] => 0
  | d :: r => uptoBulk d + uptoBulkAll r
def uptoBulkEntries {H : Type} : List (Lit × DataW H) → Nat
  | [] => 0
  | x :: r => uptoBulkEntry x + uptoBulkEntries r
def uptoBulkEntry {H : Type} : Lit × DataW H → Nat
  | (.string bytes, d) => bytes.length + uptoBulk d + 1
  | (_, d) => uptoBulk d + 1
 end
def uptoSmall : (H : Type) → List (DataW H) → Bool := fun _ ds => decide (uptoBulkAll ds ≤ 1048576)
def OpenSpec.upto (s : _root_.Go.ChangeSpec) : _root_.Go.OpenSpec := { _root_.Go.OpenSpec.ofChange s with cond := some uptoSmall }

/-- 'annuletlaw13.DictMessages', WHERE WHAT IT READS IS OF BULK AT MOST 1048576: true; the input reads as it did. -/
def dictMessagesUptoRow : OpenClaim := { program := "ytldjdoebappkoaagreatdoor", sum := "b983922e287b562cac9d1dcdfd62387a682f75234af9ae0d1ff37ed502526c03", func := "annulet/annuletlaw13.DictMessages", spec := "dictMessages", inPlace := ["slices.overlaps[string]", "slices.overlaps[annulet/api.Tree]"], unfollowed := true, recurses := true, named := ["annulet/msg.kinds"], loops := true, apart := false, laid := [("annulet/msg.kinds", laid_annulet_msg_kinds)], narrowed := true }
def DictMessagesUptoSaid : Prop := dictMessagesUptoRow.holds Tryz.pinned (OpenSpec.upto dictMessagesSpec)

end Rows
end Go.Proofs.YtldjdoebappkoaaGreatDoor
