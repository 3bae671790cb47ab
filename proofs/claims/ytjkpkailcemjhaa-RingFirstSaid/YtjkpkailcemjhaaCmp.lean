/- Contracts of cmp.Compare at numbers and of the comparison that ring.Sort hands to the sort; words for the row that is sorted. -/
import Derived.Test.YtjkpkailcemjhaaOwner
import Derived.Test.YtjkpkailcemjhaaArr
import Derived.Test.YtjkpkailcemjhaaSm
namespace Go.Proofs.Ytjkpkailcemjhaa
open Go.RowKit
set_option linter.unusedVariables false

/-- how two numbers compare -/
def cmpI (p q : Nat) : Int := if p < q then -1 else if q < p then 1 else 0
theorem cmpI_lt {p q : Nat} (h : p < q) : cmpI p q = -1 := by unfold cmpI; rw [if_pos h]
theorem cmpI_ge {p q : Nat} (h : ¬ p < q) : ¬ cmpI p q < 0 := by unfold cmpI; rw [if_neg h]; split <;> omega
theorem cmpI_small (p q : Nat) : -1 ≤ cmpI p q ∧ cmpI p q ≤ 1 := by unfold cmpI; split; omega; split <;> omega

theorem compare_same (p q : Nat) (w : World) :
    Calls Try.prog 24 #[.int .u64 (p : Int), .int .u64 (q : Int)] w fun e w' => e = .returned (.int .i64 (cmpI p q)) ∧ w' = w := by
  unfold cmpI
  have h1 : ((p : Int) != (p : Int)) = false := by simp
  have h2 : ((q : Int) != (q : Int)) = false := by simp
  by_cases c1 : p < q
  · rw [if_pos c1]
    go_enter Try.func24, Try.ntmps24
    go_wp2
    go_ret
    exact ⟨rfl, rfl⟩
  · rw [if_neg c1]
    by_cases c2 : q < p
    · rw [if_pos c2]
      go_enter Try.func24, Try.ntmps24
      go_wp2
      go_ret
      exact ⟨rfl, rfl⟩
    · rw [if_neg c2]
      go_enter Try.func24, Try.ntmps24
      go_wp2
      go_ret
      exact ⟨rfl, rfl⟩

set_option maxRecDepth 100000 in
/-- the comparison, which reads 'from' in block h -/
theorem less_any (frm x y h : Nat) (w : World) (hf : frm < 18446744073709551616) (hx : x < 18446744073709551616) (hy : y < 18446744073709551616) (hc : w.cell? ⟨h, 0, none⟩ = some (.int .u64 (frm : Int))) :
    Calls Try.prog 23 #[.int .u64 (x : Int), .int .u64 (y : Int), .pointer (some ⟨h, 0, none⟩)] w fun e w' => e = .returned (.int .i64 (cmpI (Rm.dist frm x) (Rm.dist frm y))) ∧ ∃ k, w' = w.drewN k := by
  go_enter Try.func23, Try.ntmps23
  go_wp2_with fail
  go_quiet (first | with_reducible exact Calls.quiet_of_same (dist_same frm x _ hf hx) | with_reducible exact Calls.quiet_of_same (dist_same frm y _ hf hy) | with_reducible exact Calls.quiet_of_same (compare_same _ _ _))
  go_wp2_with fail
  go_ret
  exact ⟨rfl, _, rfl⟩

/-! ### the row that is sorted -/

/-- block g holds the numbers l, and then rest -/
def Data (w : World) (g : Nat) (rest : List Value) (l : List Nat) : Prop := Whole w g 22 (ints .u64 l ++ rest).toArray
/-- nothing has turned but block g -/
structure But (g : Nat) (w w' : World) : Prop where
  os : w'.os = w.os
  tape : w'.tape = w.tape
  output : w'.output = w.output
  size : w'.heap.size = w.heap.size
  block : ∀ i, i ≠ g → w'.heap[i]? = w.heap[i]?
section
variable {g h : Nat} {w w' w'' : World} {rest : List Value} {l : List Nat}
theorem But.refl (g : Nat) (w : World) : But g w w := ⟨rfl, rfl, rfl, rfl, fun _ _ => rfl⟩
theorem But.trans (h : But g w w') (k : But g w' w'') : But g w w'' := ⟨k.os.trans h.os, k.tape.trans h.tape, k.output.trans h.output, k.size.trans h.size, fun i hi => (k.block i hi).trans (h.block i hi)⟩
theorem But.drewN (h : But g w w') (k : Nat) : But g w (w'.drewN k) := ⟨h.os, h.tape, h.output, h.size, h.block⟩
theorem But.drew (h : But g w w') : But g w w'.drew := ⟨h.os, h.tape, h.output, h.size, h.block⟩
theorem But.setCell (h : But g w w') (i : Nat) (u : Value) : But g w (w'.setCell ⟨g, i, none⟩ u) :=
  h.trans ⟨rfl, rfl, rfl, by simp [World.setCell], fun j hj => Below.heap_setCell _ _ _ _ hj⟩
theorem But.cell (k : But g w w') {p : Addr} (hp : p.block ≠ g) : w'.cell? p = w.cell? p := World.cell?_of_block (w := w) (k.block p.block hp)
theorem But.below (k : But g w w') {B : Nat} (hB : B ≤ g) : Below B w w' := ⟨k.os, k.tape, k.output, by rw [k.size]; exact Nat.le_refl _, fun i hi => k.block i (by omega)⟩
theorem Data.at_ (h : Data w g rest l) {i : Nat} (hi : i < l.length) : w.cell? ⟨g, i, none⟩ = some (.int .u64 ((l.getD i 0 : Nat) : Int)) := by
  rw [Whole.at_ h]
  have := ints_get .u64 l i hi
  simp only [List.getElem?_toArray]
  rw [List.getElem?_append_left (by rw [ints_length]; exact hi)]
  exact this
theorem Data.free (h : Data w g rest l) (i : Nat) : w.frozen? ⟨g, i, none⟩ = false := Whole.free h i
theorem Data.drewN (h : Data w g rest l) (k : Nat) : Data (w.drewN k) g rest l := h
theorem Data.drew (h : Data w g rest l) : Data w.drew g rest l := h
theorem Data.put (h : Data w g rest l) {i : Nat} (hi : i < l.length) (x : Nat) : Data (w.setCell ⟨g, i, none⟩ (.int .u64 (x : Int))) g rest (l.set i x) := by
  have := Whole.put h i (.int .u64 (x : Int))
  unfold Data
  rw [show (ints .u64 (l.set i x) ++ rest).toArray = (ints .u64 l ++ rest).toArray.setIfInBounds i (.int .u64 (x : Int)) by
    simp only [List.setIfInBounds_toArray]
    rw [List.set_append_left _ _ (by rw [ints_length]; exact hi)]
    simp [ints, List.map_set]]
  exact this
theorem Data.swap (h : Data w g rest l) {i j : Nat} (hi : i < l.length) (hj : j < l.length) {x y : Nat} (ex : l.getD j 0 = x) (ey : l.getD i 0 = y) :
    Data ((w.setCell ⟨g, i, none⟩ (.int .u64 (x : Int))).setCell ⟨g, j, none⟩ (.int .u64 (y : Int))) g rest (Sm.swap l i j) := by
  unfold Sm.swap
  rw [ex, ey]
  exact (h.put hi x).put (by simpa using hj) y
end
end Go.Proofs.Ytjkpkailcemjhaa
