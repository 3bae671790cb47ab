/- Contract of the reference's Get of layer 11. -/
import Derived.Test.YtphanlkobkkgfaaRtree11
namespace Go.Proofs.Ytphanlkobkkgfaa
open Go.RowKit
set_option linter.unusedVariables false
set_option maxRecDepth 100000
set_option linter.unusedSimpArgs false

theorem results_tree2 {fn : Func} {p u : Tmp} {x : Value} {tmps : Array Value} {w : World} {g : Nat} {cs : Array Value} (h : fn.results = #[.cell p 25, .tmp u])
    (hp : tmps.getD p undef = .pointer (some ⟨g, 0, none⟩)) (hx : tmps.getD u undef = x) (hg : Whole w g 25 cs) (hc : cs.size = 5) :
    (results fn tmps).run Try.prog w = .ok (.tuple #[.agg cs, x]) w := by
  subst hx
  have hp' : tmps[p]?.getD undef = .pointer (some ⟨g, 0, none⟩) := by simpa using hp
  simp [results, h, hp', asAddr, run_loadVar_row w g 25 25 cs (0, 0) _ hg Try.underlying25 rfl (treeI hc)]
abbrev Tn.zero : Tn := .mk 0 0 ⟨#[]⟩ [] []
theorem Tv.zero (w : World) (B : Nat) : Tv w B Tn.zero (.slice none 0 0) (.slice none 0 0) :=
  Tv.of (by simp [Tn.zero, Tn.kind]) (by simp [Tn.zero, Tn.n]) (by show (0 : Nat) ≤ maxLen; omega) (Sk.nil _ _) (Kv.nil _ _)
theorem Tv.one {w : World} {B : Nat} {t : Tn} {vk vq : Value} (h : Tv w B t vk vq) : vk.oneCell' = true ∧ vq.oneCell' = true := by
  obtain ⟨_, _, rfl, _⟩ := h.kids
  obtain ⟨_, _, rfl, _⟩ := h.keys
  exact ⟨rfl, rfl⟩
/-- a new variable that is a tree -/
theorem var_tree (w : World) : ∃ g w0, w.heap.size = g ∧ w.alloc (.cells #[.int .i64 0, .int .i64 0, .string ⟨#[]⟩, .slice none 0 0, .slice none 0 0] 25) = w0 ∧ Whole w0 g 25 #[.int .i64 0, .int .i64 0, .string ⟨#[]⟩, .slice none 0 0, .slice none 0 0] ∧ Below g w w0 ∧ w0.heap.size = g + 1 :=
  ⟨_, _, rfl, rfl, Whole.made _ _ _, (Below.refl _ _).alloc (Nat.le_refl _) _, by simp⟩
theorem Tn.get_kind {t : Tn} {key : ByteArray} (h : ¬ t.kind = 4) : t.get key = none := by unfold Tn.get; rw [if_neg (fun e => h e.1)]
theorem Tn.get_place {t : Tn} {key : ByteArray} (h : ¬ Tn.place t.keys key < t.keys.length) : t.get key = none := by unfold Tn.get; rw [if_neg (fun e => h e.2)]
theorem Tn.get_none {t : Tn} {key : ByteArray} (h : ¬ Tn.place t.keys key < t.kids.length) : t.get key = none := by
  unfold Tn.get
  split
  · exact List.getElem?_eq_none (by omega)
  · rfl
theorem Tn.get_some {t : Tn} {key : ByteArray} (h : t.kind = 4) (h1 : Tn.place t.keys key < t.keys.length) (h2 : Tn.place t.keys key < t.kids.length) : t.get key = some t.kids[Tn.place t.keys key] := by
  unfold Tn.get
  rw [if_pos ⟨h, h1⟩]
  exact List.getElem?_eq_getElem h2

end Go.Proofs.Ytphanlkobkkgfaa
