/- Contracts of layer 20's reference: bit, Fresh, Mark. -/
import Derived.Test.YtbhdgfpaoghnbaaPS
import Derived.Test.YtbhdgfpaoghnbaaPA
namespace Go.Proofs.Ytbhdgfpaoghnbaa
open Go.RowKit
set_option linter.unusedVariables false
set_option maxRecDepth 100000
set_option linter.unusedSimpArgs false

/-- an argument in its block -/
theorem boxedS (w : World) (v : Bool) (e t b : Nat) : ∃ g w0, w.heap.size = g ∧ w.alloc (.cells #[.bool v, .int .u32 (e : Int), .int .u32 (t : Int), .int .u64 (b : Int)] 51) = w0 ∧ w0.heap.size = g + 1 ∧
    Whole w0 g 51 #[.bool v, .int .u32 (e : Int), .int .u32 (t : Int), .int .u64 (b : Int)] ∧ Below w.heap.size w w0 :=
  ⟨_, _, rfl, rfl, by simp, Whole.made _ _ _, (Below.refl _ _).alloc (Nat.le_refl _) _⟩
theorem cellsS {w : World} {g : Nat} {v : Bool} {e t b : Nat} (h : Whole w g 51 #[.bool v, .int .u32 (e : Int), .int .u32 (t : Int), .int .u64 (b : Int)]) :
    w.cell? ⟨g, 0, none⟩ = some (.bool v) ∧ w.cell? ⟨g, 1, none⟩ = some (.int .u32 (e : Int)) ∧ w.cell? ⟨g, 2, none⟩ = some (.int .u32 (t : Int)) ∧ w.cell? ⟨g, 3, none⟩ = some (.int .u64 (b : Int)) :=
  ⟨h.at_ 0, h.at_ 1, h.at_ 2, h.at_ 3⟩
theorem odd20 (q : Nat) : ((q : Int) % 2 == 1) = decide (q % 2 = 1) := by
  by_cases h : q % 2 = 1
  · rw [decide_eq_true h, beq_iff_eq]; omega
  · rw [decide_eq_false h, beq_eq_false_iff_ne]; omega
theorem seenI {cs : Array Value} (h : cs.size = 4) : (Try.prog.info? 51).map (·.size) = some cs.size := by rw [h]; kernel_rfl
theorem results_seen {fn : Func} {p : Tmp} {tmps : Array Value} {w : World} {g : Nat} {cs : Array Value} (h : fn.results = #[.cell p 51])
    (hp : tmps.getD p undef = .pointer (some ⟨g, 0, none⟩)) (hg : Whole w g 51 cs) (hc : cs.size = 4) :
    (results fn tmps).run Try.prog w = .ok (.agg cs) w := by
  have hp' : tmps[p]?.getD undef = .pointer (some ⟨g, 0, none⟩) := by simpa using hp
  simp [results, h, hp', asAddr, run_loadVar_row w g 51 51 cs (0, 0) _ hg Try.underlying51 rfl (seenI hc)]
/-- a new variable -/
theorem varS (w : World) : ∃ g w0, w.heap.size = g ∧ w.alloc (.cells #[.bool false, .int .u32 0, .int .u32 0, .int .u64 0] 51) = w0 ∧ w0.heap.size = g + 1 ∧
    Whole w0 g 51 #[.bool false, .int .u32 0, .int .u32 0, .int .u64 0] ∧ Below w.heap.size w w0 :=
  ⟨_, _, rfl, rfl, by simp, Whole.made _ _ _, (Below.refl _ _).alloc (Nat.le_refl _) _⟩
end Go.Proofs.Ytbhdgfpaoghnbaa
