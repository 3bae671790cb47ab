/- Contract of the reference's Set of layer 11, where the key is new. -/
import Derived.Test.YtphanlkobkkgfaaRset11
namespace Go.Proofs.Ytphanlkobkkgfaa
open Go.RowKit
set_option linter.unusedVariables false
set_option maxRecDepth 100000
set_option linter.unusedSimpArgs false
namespace Tn
theorem gap_not {l : List ByteArray} {key : ByteArray} {i : Nat} (h : i < gap l key) (hl : i < l.length) : less key l[i] = false := by
  have := List.not_of_lt_findIdx h
  simpa using this
theorem gap_is {l : List ByteArray} {key : ByteArray} {i : Nat} (hl : i < l.length) (h : ∀ j (h : j < i), less key (l[j]'(by omega)) = false) (h1 : less key l[i] = true) : gap l key = i := by
  unfold gap
  refine (List.findIdx_eq hl).2 ⟨h1, fun j hj => by simpa using h j hj⟩
theorem gap_end {l : List ByteArray} {key : ByteArray} (h : ∀ k ∈ l, less key k = false) : gap l key = l.length := by
  unfold gap
  exact List.findIdx_eq_length.2 (fun k hk => by simpa using h k hk)
end Tn

theorem strZ11 : (Try.prog.info? 9).map (fun i => (i.zero, i.size, i.bytes)) = some (some (.string ⟨#[]⟩), 1, 16) := by kernel_rfl
theorem own_lit0 {E sz : Nat} (w : World) {base z : Nat} (hz : w.heap.size = z) (hb : base ≤ z) : (w.alloc (.cells #[] E)).ownsRow base E sz (.slice (some ⟨z, 0, none⟩) 0 0) 0 [] := by
  subst hz
  exact World.ownsRow_made _ _ 0 hb (by unfold maxLen; omega) (by simp)
theorem src_lit {E : Nat} (w : World) {z : Nat} (hz : w.heap.size = z) (cs : Array Value) : Src (w.alloc (.cells cs E)) (some ⟨z, 0, none⟩) cs.toList := fun j u hu => by
  subst hz
  refine ⟨_, 0, rfl, ?_⟩
  rw [Nat.zero_add, cell_of_row _ _ j cs E (0, 0) (heap_alloc_new w _), ← hu]
  simp
theorem below_lit {E : Nat} (w : World) {z : Nat} (hz : w.heap.size = z) (cs : Array Value) : Below z w (w.alloc (.cells cs E)) := (Below.refl z w).alloc (by omega) _
theorem cutAt_add (A : Option Addr) (c j : Nat) (h : c ≠ j) : (if c = j then A else A.map (fun x => x.add j)) = A.map (fun x => x.add j) := if_neg h
theorem Sc.cut {w : World} {B c j : Nat} {A : Option Addr} {l : List ByteArray} (h : Sc w B A l) (hc : l.length ≤ c) : Sc w B (if c = j then A else A.map (fun x => x.add j)) (l.drop j) := by
  intro i hi
  rw [List.length_drop] at hi
  rw [if_neg (by omega)]
  obtain ⟨b, off, e, hb, hcl⟩ := h (j + i) (by omega)
  subst e
  refine ⟨b, off + j, by simp [Addr.add_mid], hb, ?_⟩
  rw [List.getElem_drop, Nat.add_assoc]
  exact hcl
theorem Ks.cut {w : World} {B c j : Nat} {A : Option Addr} {L : List Tq} (h : Ks w B A L) (hc : L.length ≤ c) : Ks w B (if c = j then A else A.map (fun x => x.add (j * 5))) (L.drop j) := by
  intro i hi
  rw [List.length_drop] at hi
  rw [if_neg (by omega)]
  obtain ⟨b, off, e, hb, hcl⟩ := h (j + i) (by omega)
  subst e
  refine ⟨b, off + j * 5, by simp [Addr.add_mid], hb, ?_⟩
  rw [List.getElem_drop, show off + j * 5 + i * 5 = off + (j + i) * 5 by omega]
  exact hcl
theorem cut_null {A : Option Addr} {c j k : Nat} (h : A = none → c = 0) (e : (if c = j then A else A.map (fun x => x.add k)) = none) : c - j = 0 := by
  split at e
  · omega
  · cases A with
    | none => have := h rfl; omega
    | some a => simp at e
def pickIf (c j : Nat) (X Y : Option Addr) : Option Addr := if c = j then X else Y
end Go.Proofs.Ytphanlkobkkgfaa
