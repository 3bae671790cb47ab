/-
  NARROWER THAN 'FOR EVERY INPUT', by the rows' own cells (each row's printed sentence says how): FixedEncs: laid · FixedDecs: laid · FixedBack: laid.
  DERIVED. THE GIVEN ROWS OF THIS SEAT. 3 by the template 'for every input the law returns true; each argument reads behind the call as it read before'; 0 by the template 'total and deterministic' (their statements: YtpfeccbnkgnioaaDoorTotals.lean).
  GIVEN WITH THE SEED: the statements are not yours to turn. If you find one false, say at which input.
  Laid BY PROGRAM, IN A SANDBOX (cutbox-rows.mjs): the forced cells as the released guide's own fill.sh prints them over the translation 03d36c073dba6c4e… (all of the seat's roots in one cut). By AI agents, Wed Nov 11 2026. No macro, syntax, notation, axiom, sorry.
-/
import Derived.Test.YtpfeccbnkgnioaaDoorChecked
import GoSem.Claim
import GoSem.ClaimJoined
import GoSem.ClaimMapViews
import Derived.JoinedTies
import Derived.KernelRfl
namespace Go.Proofs.YtpfeccbnkgnioaaDoor
/- THE CELL 'sum', in the pinned program and in every row, IS THE sha256 OF THE DUMP (.gsa) THAT YtpfeccbnkgnioaaDoorProg.lean LOADS. Nothing in Lean hashes anything: it is a label: what it is worth is what the hold of that sum in a sandbox is worth. -/
noncomputable def Tryd.pinned : Pinned := { name := "ytpfeccbnkgnioaadoor", sum := "03d36c073dba6c4e5a1d118c4d5f6ebb505d86d91ecd7b0161a6debc7d8e9797", checked := Tryd.checked }
namespace Rows
def none {H : Type} : Left H := { results := [], args := [] }

/- WHAT THE LISTED PACKAGE-LEVEL VARIABLES READ AS WHEN THE CALL BEGINS. Each datum BY PROGRAM (the guide's laid-datum.mjs) off the statement by which the dump's own 'gosem.cut.vars' lays the variable. In a bare row this is a premise. The card (YtpfeccbnkgnioaaDoorCards.lean) ties it to the program's text. -/
def laid_annulet_msg_kinds {H : Type} : DataW H := .agg [.agg [.lit (.string [63]), .lit (.int .u16 0), .lit (.int .u16 0), .lit (.int .u16 0), .lit (.int .u16 0)], .agg [.lit (.string [102, 105, 110, 100]), .lit (.int .u16 4), .lit (.int .u16 0), .lit (.int .u16 0), .lit (.int .u16 4100)], .agg [.lit (.string [104, 111, 112]), .lit (.int .u16 18), .lit (.int .u16 0), .lit (.int .u16 16), .lit (.int .u16 0)], .agg [.lit (.string [97, 115, 107]), .lit (.int .u16 0), .lit (.int .u16 0), .lit (.int .u16 0), .lit (.int .u16 16)], .agg [.lit (.string [116, 101, 108, 108]), .lit (.int .u16 18), .lit (.int .u16 8), .lit (.int .u16 0), .lit (.int .u16 0)], .agg [.lit (.string [110, 111, 116, 101]), .lit (.int .u16 8), .lit (.int .u16 0), .lit (.int .u16 0), .lit (.int .u16 64)], .agg [.lit (.string [111, 107, 97, 121]), .lit (.int .u16 0), .lit (.int .u16 0), .lit (.int .u16 0), .lit (.int .u16 0)], .agg [.lit (.string [112, 117, 116]), .lit (.int .u16 96), .lit (.int .u16 0), .lit (.int .u16 0), .lit (.int .u16 4160)], .agg [.lit (.string [103, 101, 116]), .lit (.int .u16 32), .lit (.int .u16 0), .lit (.int .u16 0), .lit (.int .u16 4608)], .agg [.lit (.string [103, 111, 116]), .lit (.int .u16 2), .lit (.int .u16 64), .lit (.int .u16 0), .lit (.int .u16 0)], .agg [.lit (.string [109, 111, 118, 101]), .lit (.int .u16 130), .lit (.int .u16 0), .lit (.int .u16 128), .lit (.int .u16 64)], .agg [.lit (.string [112, 105, 110, 103]), .lit (.int .u16 0), .lit (.int .u16 0), .lit (.int .u16 0), .lit (.int .u16 64)], .agg [.lit (.string [110, 97, 121]), .lit (.int .u16 1), .lit (.int .u16 0), .lit (.int .u16 1), .lit (.int .u16 0)]]

/-- 'annuletlaw09.FixedEncs': WHATEVER THE INPUT: true; the input reads as it did. -/
def fixedEncsSpec : ChangeSpec := { name := "fixedEncs", fn := fun _ => fun
  | [d] => { results := [.lit (.bool true)], args := [d] }
  | _ => none }
def fixedEncsRow : OpenClaim := { program := "ytpfeccbnkgnioaadoor", sum := "03d36c073dba6c4e5a1d118c4d5f6ebb505d86d91ecd7b0161a6debc7d8e9797", func := "annulet/annuletlaw09.FixedEncs", spec := "fixedEncs", unfollowed := true, recurses := true, named := ["annulet/msg.kinds"], apart := false, laid := [("annulet/msg.kinds", laid_annulet_msg_kinds)] }
def FixedEncsSaid : Prop := fixedEncsRow.holds Tryd.pinned (OpenSpec.ofChange fixedEncsSpec)

/-- ITS FALSE NEIGHBOUR: 'it returns false'. Refute it at one input. -/
def fixedEncsWrong : ChangeSpec := { name := "fixedEncs", fn := fun _ => fun
  | [d] => { results := [.lit (.bool false)], args := [d] }
  | _ => none }
def FixedEncsWrongFalsely : Prop := fixedEncsRow.holds Tryd.pinned (OpenSpec.ofChange fixedEncsWrong)

/-- 'annuletlaw09.FixedDecs': WHATEVER THE INPUT: true; the input reads as it did. -/
def fixedDecsSpec : ChangeSpec := { name := "fixedDecs", fn := fun _ => fun
  | [d] => { results := [.lit (.bool true)], args := [d] }
  | _ => none }
def fixedDecsRow : OpenClaim := { program := "ytpfeccbnkgnioaadoor", sum := "03d36c073dba6c4e5a1d118c4d5f6ebb505d86d91ecd7b0161a6debc7d8e9797", func := "annulet/annuletlaw09.FixedDecs", spec := "fixedDecs", unfollowed := true, recurses := true, named := ["annulet/msg.kinds"], apart := false, laid := [("annulet/msg.kinds", laid_annulet_msg_kinds)] }
def FixedDecsSaid : Prop := fixedDecsRow.holds Tryd.pinned (OpenSpec.ofChange fixedDecsSpec)

/-- ITS FALSE NEIGHBOUR: 'it returns false'. Refute it at one input. -/
def fixedDecsWrong : ChangeSpec := { name := "fixedDecs", fn := fun _ => fun
  | [d] => { results := [.lit (.bool false)], args := [d] }
  | _ => none }
def FixedDecsWrongFalsely : Prop := fixedDecsRow.holds Tryd.pinned (OpenSpec.ofChange fixedDecsWrong)

/-- 'annuletlaw09.FixedBack': WHATEVER THE INPUT: true; the input reads as it did. -/
def fixedBackSpec : ChangeSpec := { name := "fixedBack", fn := fun _ => fun
  | [d1, d2] => { results := [.lit (.bool true)], args := [d1, d2] }
  | _ => none }
def fixedBackRow : OpenClaim := { program := "ytpfeccbnkgnioaadoor", sum := "03d36c073dba6c4e5a1d118c4d5f6ebb505d86d91ecd7b0161a6debc7d8e9797", func := "annulet/annuletlaw09.FixedBack", spec := "fixedBack", unfollowed := true, recurses := true, named := ["annulet/msg.kinds"], apart := false, laid := [("annulet/msg.kinds", laid_annulet_msg_kinds)] }
def FixedBackSaid : Prop := fixedBackRow.holds Tryd.pinned (OpenSpec.ofChange fixedBackSpec)

/-- ITS FALSE NEIGHBOUR: 'it returns false'. Refute it at one input. -/
def fixedBackWrong : ChangeSpec := { name := "fixedBack", fn := fun _ => fun
  | [d1, d2] => { results := [.lit (.bool false)], args := [d1, d2] }
  | _ => none }
def FixedBackWrongFalsely : Prop := fixedBackRow.holds Tryd.pinned (OpenSpec.ofChange fixedBackWrong)

/- THE SECOND FORM. 'bulk': how many values and letters a reading holds, each counted each time it is reached (what is shared counts as often as it is met; a slice's spare places count too). A statement '..UptoSaid' is the law's where the arguments, and the package variables that the reading takes, are together of bulk at most 1048576: NARROWER than '..Said'. Prove '..Said' where nothing that the law and all that it calls make is longer than what came in: it says more and counts as full. Else prove '..UptoSaid'. A law counts once. -/
mutual
def uptoBulk {H : Type} : DataW H → Nat
  | .lit (.string bytes) => bytes.length + 1
  | .lit _ => 1
  | .nil => 1
  | .ptr d => uptoBulk d + 1
  | .slice elems spare => uptoBulkAll elems + uptoBulkAll spare + 1
  | .agg parts => uptoBulkAll parts + 1
  | .iface _ d => uptoBulk d + 1
  | .map entries => uptoBulkEntries entries + 1
  | .held _ => 1
def uptoBulkAll {H : Type} : List (DataW H) → Nat
  | [] => 0
  | d :: r => uptoBulk d + uptoBulkAll r
def uptoBulkEntries {H : Type} : List (Lit × DataW H) → Nat
  | [] => 0
  | x :: r => uptoBulkEntry x + uptoBulkEntries r
def uptoBulkEntry {H : Type} : Lit × DataW H → Nat
  | (.string bytes, d) => bytes.length + uptoBulk d + 1
  | (_, d) => uptoBulk d + 1
 end
def uptoSmall : (H : Type) → List (DataW H) → Bool := fun _ ds => decide (uptoBulkAll ds ≤ 1048576)
def OpenSpec.upto (s : _root_.Go.ChangeSpec) : _root_.Go.OpenSpec := { _root_.Go.OpenSpec.ofChange s with cond := some uptoSmall }

/-- 'annuletlaw09.FixedEncs', WHERE WHAT IT READS IS OF BULK AT MOST 1048576: true; the input reads as it did. -/
def fixedEncsUptoRow : OpenClaim := { program := "ytpfeccbnkgnioaadoor", sum := "03d36c073dba6c4e5a1d118c4d5f6ebb505d86d91ecd7b0161a6debc7d8e9797", func := "annulet/annuletlaw09.FixedEncs", spec := "fixedEncs", unfollowed := true, recurses := true, named := ["annulet/msg.kinds"], apart := false, laid := [("annulet/msg.kinds", laid_annulet_msg_kinds)], narrowed := true }
def FixedEncsUptoSaid : Prop := fixedEncsUptoRow.holds Tryd.pinned (OpenSpec.upto fixedEncsSpec)

/-- 'annuletlaw09.FixedDecs', WHERE WHAT IT READS IS OF BULK AT MOST 1048576: true; the input reads as it did. -/
def fixedDecsUptoRow : OpenClaim := { program := "ytpfeccbnkgnioaadoor", sum := "03d36c073dba6c4e5a1d118c4d5f6ebb505d86d91ecd7b0161a6debc7d8e9797", func := "annulet/annuletlaw09.FixedDecs", spec := "fixedDecs", unfollowed := true, recurses := true, named := ["annulet/msg.kinds"], apart := false, laid := [("annulet/msg.kinds", laid_annulet_msg_kinds)], narrowed := true }
def FixedDecsUptoSaid : Prop := fixedDecsUptoRow.holds Tryd.pinned (OpenSpec.upto fixedDecsSpec)

/-- 'annuletlaw09.FixedBack', WHERE WHAT IT READS IS OF BULK AT MOST 1048576: true; the input reads as it did. -/
def fixedBackUptoRow : OpenClaim := { program := "ytpfeccbnkgnioaadoor", sum := "03d36c073dba6c4e5a1d118c4d5f6ebb505d86d91ecd7b0161a6debc7d8e9797", func := "annulet/annuletlaw09.FixedBack", spec := "fixedBack", unfollowed := true, recurses := true, named := ["annulet/msg.kinds"], apart := false, laid := [("annulet/msg.kinds", laid_annulet_msg_kinds)], narrowed := true }
def FixedBackUptoSaid : Prop := fixedBackUptoRow.holds Tryd.pinned (OpenSpec.upto fixedBackSpec)

end Rows
end Go.Proofs.YtpfeccbnkgnioaaDoor
