/-
  No cell of these rows narrows 'for every input' (looked for: loops, veiled, ifaces, maps, wideKeys, modest, calm, conditions, laid).
  DERIVED. THE GIVEN ROWS OF THIS SEAT. 4 by the template 'for every input the law returns true; each argument reads behind the call as it read before'; 0 by the template 'total and deterministic' (their statements: YtlelhoghbgbciaaTotals.lean).
  GIVEN WITH THE SEED: the statements are not yours to turn. If you find one false, say at which input.
  Laid BY PROGRAM, IN A SANDBOX (cutbox-rows.mjs): the forced cells as the released guide's own fill.sh prints them over the translation 131ec245fd30ddc9… (all of the seat's roots in one cut). By AI agents, Wed Nov 11 2026. No macro, syntax, notation, axiom, sorry.
-/
import Derived.Test.YtlelhoghbgbciaaChecked
import GoSem.Claim
import GoSem.ClaimJoined
import GoSem.ClaimMapViews
import Derived.JoinedTies
import Derived.KernelRfl
namespace Go.Proofs.Ytlelhoghbgbciaa
/- THE CELL 'sum', in the pinned program and in every row, IS THE sha256 OF THE DUMP (.gsa) THAT YtlelhoghbgbciaaProg.lean LOADS. Nothing in Lean hashes anything: it is a label: what it is worth is what the hold of that sum in a sandbox is worth. -/
noncomputable def Try.pinned : Pinned := { name := "ytlelhoghbgbciaa", sum := "131ec245fd30ddc90a71bf2f0d79fb89f1f8dc4d8c0ed4223fc67224da4e3836", checked := Try.checked }
namespace Rows
def none {H : Type} : Left H := { results := [], args := [] }

/-- 'annuletlaw04.UtfCounts': WHATEVER THE INPUT: true; the input reads as it did. -/
def utfCountsSpec : ChangeSpec := { name := "utfCounts", fn := fun _ => fun
  | [d] => { results := [.lit (.bool true)], args := [d] }
  | _ => none }
def utfCountsRow : OpenClaim := { program := "ytlelhoghbgbciaa", sum := "131ec245fd30ddc90a71bf2f0d79fb89f1f8dc4d8c0ed4223fc67224da4e3836", func := "annulet/annuletlaw04.UtfCounts", spec := "utfCounts", apart := false }
def UtfCountsSaid : Prop := utfCountsRow.holds Try.pinned (OpenSpec.ofChange utfCountsSpec)

/-- ITS FALSE NEIGHBOUR: 'it returns false'. Refute it at one input. -/
def utfCountsWrong : ChangeSpec := { name := "utfCounts", fn := fun _ => fun
  | [d] => { results := [.lit (.bool false)], args := [d] }
  | _ => none }
def UtfCountsWrongFalsely : Prop := utfCountsRow.holds Try.pinned (OpenSpec.ofChange utfCountsWrong)

/-- 'annuletlaw04.UtfClips': WHATEVER THE INPUT: true; the input reads as it did. -/
def utfClipsSpec : ChangeSpec := { name := "utfClips", fn := fun _ => fun
  | [d1, d2] => { results := [.lit (.bool true)], args := [d1, d2] }
  | _ => none }
def utfClipsRow : OpenClaim := { program := "ytlelhoghbgbciaa", sum := "131ec245fd30ddc90a71bf2f0d79fb89f1f8dc4d8c0ed4223fc67224da4e3836", func := "annulet/annuletlaw04.UtfClips", spec := "utfClips", apart := false }
def UtfClipsSaid : Prop := utfClipsRow.holds Try.pinned (OpenSpec.ofChange utfClipsSpec)

/-- ITS FALSE NEIGHBOUR: 'it returns false'. Refute it at one input. -/
def utfClipsWrong : ChangeSpec := { name := "utfClips", fn := fun _ => fun
  | [d1, d2] => { results := [.lit (.bool false)], args := [d1, d2] }
  | _ => none }
def UtfClipsWrongFalsely : Prop := utfClipsRow.holds Try.pinned (OpenSpec.ofChange utfClipsWrong)

/-- 'annuletlaw04.UtfQuotes': WHATEVER THE INPUT: true; the input reads as it did. -/
def utfQuotesSpec : ChangeSpec := { name := "utfQuotes", fn := fun _ => fun
  | [d1, d2] => { results := [.lit (.bool true)], args := [d1, d2] }
  | _ => none }
def utfQuotesRow : OpenClaim := { program := "ytlelhoghbgbciaa", sum := "131ec245fd30ddc90a71bf2f0d79fb89f1f8dc4d8c0ed4223fc67224da4e3836", func := "annulet/annuletlaw04.UtfQuotes", spec := "utfQuotes", apart := false }
def UtfQuotesSaid : Prop := utfQuotesRow.holds Try.pinned (OpenSpec.ofChange utfQuotesSpec)

/-- ITS FALSE NEIGHBOUR: 'it returns false'. Refute it at one input. -/
def utfQuotesWrong : ChangeSpec := { name := "utfQuotes", fn := fun _ => fun
  | [d1, d2] => { results := [.lit (.bool false)], args := [d1, d2] }
  | _ => none }
def UtfQuotesWrongFalsely : Prop := utfQuotesRow.holds Try.pinned (OpenSpec.ofChange utfQuotesWrong)

/-- 'annuletlaw04.UtfBack': WHATEVER THE INPUT: true; the input reads as it did. -/
def utfBackSpec : ChangeSpec := { name := "utfBack", fn := fun _ => fun
  | [d1, d2] => { results := [.lit (.bool true)], args := [d1, d2] }
  | _ => none }
def utfBackRow : OpenClaim := { program := "ytlelhoghbgbciaa", sum := "131ec245fd30ddc90a71bf2f0d79fb89f1f8dc4d8c0ed4223fc67224da4e3836", func := "annulet/annuletlaw04.UtfBack", spec := "utfBack", apart := false }
def UtfBackSaid : Prop := utfBackRow.holds Try.pinned (OpenSpec.ofChange utfBackSpec)

/-- ITS FALSE NEIGHBOUR: 'it returns false'. Refute it at one input. -/
def utfBackWrong : ChangeSpec := { name := "utfBack", fn := fun _ => fun
  | [d1, d2] => { results := [.lit (.bool false)], args := [d1, d2] }
  | _ => none }
def UtfBackWrongFalsely : Prop := utfBackRow.holds Try.pinned (OpenSpec.ofChange utfBackWrong)

/- THE SECOND FORM. 'bulk': how many values and letters a reading holds, each counted each time it is reached (what is shared counts as often as it is met; a slice's spare places count too). A statement '..UptoSaid' is the law's where the arguments, and the package variables that the reading takes, are together of bulk at most 1048576: NARROWER than '..Said'. Prove '..Said' where nothing that the law and all that it calls make is longer than what came in: it says more and counts as full. Else prove '..UptoSaid'. A law counts once. -/
mutual
def uptoBulk {H : Type} : DataW H → Nat
  | .lit (.string bytes) => bytes.length + 1
  | .lit _ => 1
  | .nil => 1
  | .ptr d => uptoBulk d + 1
  | .slice elems spare => uptoBulkAll elems + uptoBulkAll spare + 1
  | .agg parts => uptoBulkAll parts + 1
  | .iface _ d => uptoBulk d + 1
  | .map entries => uptoBulkEntries entries + 1
  | .held _ => 1
def uptoBulkAll {H : Type} : List (DataW H) → Nat
  | [] => 0
  | d :: r => uptoBulk d + uptoBulkAll r
def uptoBulkEntries {H : Type} : List (Lit × DataW H) → Nat
  | [] => 0
  | x :: r => uptoBulkEntry x + uptoBulkEntries r
def uptoBulkEntry {H : Type} : Lit × DataW H → Nat
  | (.string bytes, d) => bytes.length + uptoBulk d + 1
  | (_, d) => uptoBulk d + 1
 end
def uptoSmall : (H : Type) → List (DataW H) → Bool := fun _ ds => decide (uptoBulkAll ds ≤ 1048576)
def OpenSpec.upto (s : _root_.Go.ChangeSpec) : _root_.Go.OpenSpec := { _root_.Go.OpenSpec.ofChange s with cond := some uptoSmall }

/-- 'annuletlaw04.UtfCounts', WHERE WHAT IT READS IS OF BULK AT MOST 1048576: true; the input reads as it did. -/
def utfCountsUptoRow : OpenClaim := { program := "ytlelhoghbgbciaa", sum := "131ec245fd30ddc90a71bf2f0d79fb89f1f8dc4d8c0ed4223fc67224da4e3836", func := "annulet/annuletlaw04.UtfCounts", spec := "utfCounts", apart := false, narrowed := true }
def UtfCountsUptoSaid : Prop := utfCountsUptoRow.holds Try.pinned (OpenSpec.upto utfCountsSpec)

/-- 'annuletlaw04.UtfClips', WHERE WHAT IT READS IS OF BULK AT MOST 1048576: true; the input reads as it did. -/
def utfClipsUptoRow : OpenClaim := { program := "ytlelhoghbgbciaa", sum := "131ec245fd30ddc90a71bf2f0d79fb89f1f8dc4d8c0ed4223fc67224da4e3836", func := "annulet/annuletlaw04.UtfClips", spec := "utfClips", apart := false, narrowed := true }
def UtfClipsUptoSaid : Prop := utfClipsUptoRow.holds Try.pinned (OpenSpec.upto utfClipsSpec)

/-- 'annuletlaw04.UtfQuotes', WHERE WHAT IT READS IS OF BULK AT MOST 1048576: true; the input reads as it did. -/
def utfQuotesUptoRow : OpenClaim := { program := "ytlelhoghbgbciaa", sum := "131ec245fd30ddc90a71bf2f0d79fb89f1f8dc4d8c0ed4223fc67224da4e3836", func := "annulet/annuletlaw04.UtfQuotes", spec := "utfQuotes", apart := false, narrowed := true }
def UtfQuotesUptoSaid : Prop := utfQuotesUptoRow.holds Try.pinned (OpenSpec.upto utfQuotesSpec)

/-- 'annuletlaw04.UtfBack', WHERE WHAT IT READS IS OF BULK AT MOST 1048576: true; the input reads as it did. -/
def utfBackUptoRow : OpenClaim := { program := "ytlelhoghbgbciaa", sum := "131ec245fd30ddc90a71bf2f0d79fb89f1f8dc4d8c0ed4223fc67224da4e3836", func := "annulet/annuletlaw04.UtfBack", spec := "utfBack", apart := false, narrowed := true }
def UtfBackUptoSaid : Prop := utfBackUptoRow.holds Try.pinned (OpenSpec.upto utfBackSpec)

end Rows
end Go.Proofs.Ytlelhoghbgbciaa
