/- Contract of the reference's Set of layer 11. -/
import Derived.Test.YtphanlkobkkgfaaOwn11
import Derived.Deep.CutRange
namespace Go.Proofs.Ytphanlkobkkgfaa
open Go.RowKit
set_option linter.unusedVariables false
set_option maxRecDepth 100000
set_option linter.unusedSimpArgs false

theorem results_tree {fn : Func} {p : Tmp} {tmps : Array Value} {w : World} {g : Nat} {cs : Array Value} (h : fn.results = #[.cell p 25])
    (hp : tmps.getD p undef = .pointer (some ⟨g, 0, none⟩)) (hg : Whole w g 25 cs) (hc : cs.size = 5) :
    (results fn tmps).run Try.prog w = .ok (.agg cs) w := by
  have hp' : tmps[p]?.getD undef = .pointer (some ⟨g, 0, none⟩) := by simpa using hp
  simp [results, h, hp', asAddr, run_loadVar_row w g 25 25 cs (0, 0) _ hg Try.underlying25 rfl (treeI hc)]
theorem Tn.set_same {t : Tn} {key : ByteArray} {x : Tn} (h : t.fits = false) : t.set key x = t := by unfold set; rw [if_pos h]
theorem Tn.fits_false {t : Tn} (h : ¬ t.kind = 4 ∨ ¬ t.keys.length = t.kids.length) : t.fits = false := by
  unfold fits
  rcases h with h | h <;> simp [h]
/-- an answer that is a tree -/
def TreePost (t : Tn) (w : World) (e : Ending) (w' : World) : Prop := ∃ vk vq, e = .returned (tval t vk vq) ∧ Tv w' w'.heap.size t vk vq ∧ Below w.heap.size w w'
theorem treeZ : (Try.prog.info? 25).map (fun i => (i.zero, i.size, i.bytes)) = some (some (.agg #[.int .i64 0, .int .i64 0, .string ⟨#[]⟩, .slice none 0 0, .slice none 0 0]), 5, 80) := by kernel_rfl

theorem own_other {w : World} {base g n sz : Nat} {E : TypeId} {v : Value} {xs : List Value} (h : w.ownsRow base E sz v n xs) (hg : g < base) (cs : Array Value) : (w.setRow g cs).ownsRow base E sz v n xs := by
  obtain ⟨h1, h2⟩ := h
  refine ⟨h1, ?_⟩
  rcases h2 with h2 | ⟨k, cap, cur, hv, hk, hh, r⟩
  · exact .inl h2
  · exact .inr ⟨k, cap, cur, hv, hk, (setRow_other w g k cs (by omega)).trans hh, r⟩
theorem mem_set {α : Type} {l : List α} {i : Nat} {x y : α} (h : y ∈ l.set i x) : y = x ∨ y ∈ l := by
  rcases List.mem_or_eq_of_mem_set h with h | h
  · exact .inr h
  · exact .inl h
end Go.Proofs.Ytphanlkobkkgfaa
