/- Maps keyed by ints: which value stands at which key, in a block of its own. -/
import Derived.Test.YtlbejddmnflmbaaFoot
import Derived.Maps.OwnSet
namespace Go.Proofs.Ytlbejddmnflmbaa
open Go.RowKit
set_option linter.unusedVariables false
set_option maxRecDepth 100000

/-- an element is read as the value that it is -/
def heldR (v : Value) : Option (DataW Value × List MemPlace) := some (.held v, [])
/-- block mb is a map with n entries: at i stands f i; z stands for what is not there -/
def Mi (P : Program) (k : TypeId) (z : Value) (w : World) (mb n : Nat) (f : Nat → Option Value) : Prop :=
  ∃ D : DataW Value, w.ownsMap P k heldR mb n D ∧ Maps.size D = n ∧ ∀ i : Nat, i ≤ 9223372036854775807 → Maps.has D (.int .i64 (i : Int)) = (f i).isSome ∧ D.atKey (.int .i64 (i : Int)) (.held z) = .held ((f i).getD z)
theorem lit_wf {i : Nat} (h : i ≤ 9223372036854775807) : (Lit.int .i64 (i : Int)).wf = true := by
  simp only [Lit.wf, decide_eq_true_eq, Bool.and_eq_true]
  have h1 : IntKind.i64.min = -9223372036854775808 := by decide
  have h2 : IntKind.i64.max = 9223372036854775807 := by decide
  omega
section
variable {P : Program} {k : TypeId} {z : Value} {w w' : World} {mb n : Nat} {f : Nat → Option Value}
theorem Mi.made (P : Program) (k : TypeId) (z : Value) (w : World) : Mi P k z (w.alloc (.map #[] 0)) w.heap.size 0 (fun _ => none) :=
  ⟨.map [], World.ownsMap_made w P k heldR, rfl, fun i _ => ⟨rfl, rfl⟩⟩
theorem Mi.lt (h : Mi P k z w mb n f) : mb < w.heap.size := by
  obtain ⟨D, h, _⟩ := h
  exact h.lt
theorem Mi.same (h : Mi P k z w mb n f) (hb : w'.heap[mb]? = w.heap[mb]?) : Mi P k z w' mb n f := by
  obtain ⟨D, ⟨es, clock, h1, h2⟩, h3⟩ := h
  exact ⟨D, ⟨es, clock, hb.trans h1, h2⟩, h3⟩
variable {T E : TypeId} (hk : P.underlying k = some (.int .i64)) (ht : P.underlying T = some (.map k E))
include hk ht
theorem Mi.look_ok (h : Mi P k z w mb n f) (hz : (zeroValue E).run P w = .ok z w) {i : Nat} (hi : i ≤ 9223372036854775807) :
    (Instr.lookup T (.map (some mb)) (.int .i64 (i : Int)) true).run P w = .ok (.tuple #[(f i).getD z, .bool (f i).isSome]) w := by
  obtain ⟨D, h, _, hf⟩ := h
  obtain ⟨v, ps, hr, hv⟩ := h.look_ok (Maps.int_keyed hk) ht hz (zd := .held z) rfl (Maps.keyOf_int_mk hk (lit_wf hi))
  rw [(hf i hi).2] at hv
  rw [(hf i hi).1] at hr
  have e : v = (f i).getD z := by
    unfold heldR at hv
    injection hv with hv
    injection hv with hv _
    injection hv
  rw [hr, e]
theorem Mi.look (h : Mi P k z w mb n f) (hz : (zeroValue E).run P w = .ok z w) {i : Nat} (hi : i ≤ 9223372036854775807) :
    (Instr.lookup T (.map (some mb)) (.int .i64 (i : Int)) false).run P w = .ok ((f i).getD z) w := by
  obtain ⟨D, h, _, hf⟩ := h
  obtain ⟨v, ps, hr, hv⟩ := h.lookup (Maps.int_keyed hk) ht hz (zd := .held z) rfl (Maps.keyOf_int_mk hk (lit_wf hi))
  rw [(hf i hi).2] at hv
  have e : v = (f i).getD z := by
    unfold heldR at hv
    injection hv with hv
    injection hv with hv _
    injection hv
  rw [hr, e]
omit hk in
theorem Mi.len (h : Mi P k z w mb n f) (ty : TypeId) : (Builtin.len_ #[T] ty #[.map (some mb)]).run P w = .ok (.int .i64 (n : Int)) w := by
  obtain ⟨D, h, hn, _⟩ := h
  have := h.len ht ty
  rw [hn] at this
  exact this
theorem Mi.store (h : Mi P k z w mb n f) (hn : n < maxLen) {i : Nat} (hi : i ≤ 9223372036854775807) (hf0 : f i = none) (v : Value) :
    ∃ w', (Instr.mapUpdate T (.map (some mb)) (.int .i64 (i : Int)) v).run P w = .ok () w' ∧ Mi P k z w' mb (n + 1) (fun j => if j = i then some v else f j) ∧ w.grownBy w' (some mb) ∧ w'.heap.size = w.heap.size := by
  obtain ⟨D, h, hs, hf⟩ := h
  have hkey : keyOf P k (.int .i64 (i : Int)) = some (.int .i64 (i : Int)) := Maps.keyOf_int_mk hk (lit_wf hi)
  obtain ⟨w', hr, ho, hg⟩ := h.store (Maps.int_keyed hk) ht hn hkey (val := v) (d := .held v) (ps := []) rfl
  have hD := h.isMap
  refine ⟨w', hr, ⟨_, ho, ?_, fun j hj => ?_⟩, hg.grown, ?_⟩
  · rw [Maps.size_put (h.tidy (Maps.int_keyed hk)), (hf i hi).1, hf0, hs]
    rfl
  · by_cases e : j = i
    · subst e
      rw [Maps.has_put_same hD (Maps.int_keyed hk |>.key hkey), Maps.atKey_put_same hD (Maps.int_keyed hk |>.key hkey)]
      simp
    · have hne : (Lit.int .i64 (j : Int)) ≠ Lit.int .i64 (i : Int) := fun q => by injection q with _ q; omega
      rw [Maps.has_put_other hne, Maps.atKey_put_other hne]
      show _ = (if j = i then some v else f j).isSome ∧ _ = DataW.held ((if j = i then some v else f j).getD z)
      rw [if_neg e]
      exact hf j hj
  · obtain ⟨es, cl, es', cl', _, rfl⟩ := hg
    simp [ChangeMaps.setBlock]
end
end Go.Proofs.Ytlbejddmnflmbaa
