/- Words for a block of memory that is known whole, and for arrays that are read and written as one value. -/
import Derived.Test.YtpfeccbnkgnioaaDoorMem
import Derived.Below
import Derived.Laws.MakeOwn
import Derived.Laws.CopyOwn
import Derived.Deep.Draws
import Derived.Deep.WholeRow
import Derived.Laws.Rows
import Derived.Laws.OwnMore
import Derived.RegionTactic
namespace Go.Proofs.YtpfeccbnkgnioaaDoor
open Go.RowKit
set_option linter.unusedVariables false

/-- block g holds just the cells cs, of element type t, none of them frozen -/
def Whole (w : World) (g t : Nat) (cs : Array Value) : Prop := w.heap[g]? = some (.cells cs t (0, 0))

section
variable {w w' : World} {g t : Nat} {cs : Array Value}
theorem Whole.lt (h : Whole w g t cs) : g < w.heap.size := by
  unfold Whole at h
  rcases Nat.lt_or_ge g w.heap.size with h1 | h1
  · exact h1
  · rw [Array.getElem?_eq_none h1] at h; cases h
theorem Whole.at_ (h : Whole w g t cs) (i : Nat) : w.cell? ⟨g, i, none⟩ = cs[i]? := cell_of_row w g i cs t (0, 0) h
theorem Whole.free (h : Whole w g t cs) (i : Nat) : w.frozen? ⟨g, i, none⟩ = false := frozen_of_row w g i cs t h
theorem Whole.made (w : World) (t : Nat) (cs : Array Value) : Whole (w.alloc (.cells cs t)) w.heap.size t cs := heap_alloc_new w _
theorem Whole.alloc (h : Whole w g t cs) (o : Obj) : Whole (w.alloc o) g t cs := (Below.heap_alloc w o g h.lt).trans h
theorem Whole.drew (h : Whole w g t cs) : Whole w.drew g t cs := h
theorem Whole.put (h : Whole w g t cs) (i : Nat) (u : Value) : Whole (w.setCell ⟨g, i, none⟩ u) g t (cs.setIfInBounds i u) := heap_setCell_same w g i cs t u h
theorem Whole.other (h : Whole w g t cs) {p : Addr} (hp : g ≠ p.block) (u : Value) : Whole (w.setCell p u) g t cs := (heap_setCell_other w p g u hp).trans h
theorem Whole.below {B : Nat} (h : Whole w g t cs) (hb : Below B w w') (hg : g < B) : Whole w' g t cs := (hb.block g hg).trans h
theorem Whole.row (h : Whole w g t cs) (cs' : Array Value) : Whole (w.setRow g cs') g t cs' := setRow_heap w g cs _ t _ h
theorem Whole.rowOther (h : Whole w g t cs) {g' : Nat} (hp : g ≠ g') (cs' : Array Value) : Whole (w.setRow g' cs') g t cs := (setRow_other w g' g cs' (by omega)).trans h
theorem below_row {B : Nat} {a : World} (h : Below B a w) (hg : B ≤ g) (cs' : Array Value) : Below B a (w.setRow g cs') :=
  ⟨h.os, h.tape, h.output, by rw [size_setRow]; exact h.size, fun i hi => (setRow_other w g i cs' (by omega)).trans (h.block i hi)⟩
end

section
variable {P : Program} {ty : TypeId} {n : Nat} {e : TypeId} {cs : Array Value} (hu : P.underlying ty = some (.array n e)) (hi : (P.info? ty).map (·.size) = some cs.size)
include hu hi
/-- a whole array is read -/
theorem exec_load_whole {o : Oper} {a : Act} {W : World} {x : Operand} {g t : Nat} (ho : o.op = .load ty x) (hx : a.eval x = .pointer (some ⟨g, 0, none⟩)) (hg : Whole W g t cs) :
    (execOp a.eval o).run P W = .ok (.value (.agg cs)) W := by
  unfold execOp
  simp only [ho, hx, Instr.loadAt, Instr.sureAddr, Sem.run_bind, Sem.run_pure, Result.andThen_ok, run_loadVar_row W g t ty cs (0, 0) _ hg hu rfl hi]
theorem wpList_load_whole {ops : Array Oper} {rest : List Oper} {o : Oper} {a : Act} {w : World} {Q : Exit → Act → World → Prop} {x : Operand} {g t : Nat} (hgd : o.guard = none) (ho : o.op = .load ty x) (hx : a.eval x = .pointer (some ⟨g, 0, none⟩)) (hg : Whole w g t cs)
    (h : wpList P ops Q rest (a.put o.dst (.agg cs)) w) : wpList P ops Q (o :: rest) a w :=
  wpList_load_row hgd ty x ho g hx t cs (0, 0) _ hg hu rfl hi h
end
section
variable {P : Program} {ty : TypeId} {cs : Array Value}
/-- a whole array is written -/
theorem wpList_store_whole {ops : Array Oper} {rest : List Oper} {o : Oper} {a : Act} {w : World} {Q : Exit → Act → World → Prop} {x y : Operand} {g t : Nat} {cs' : Array Value} (hgd : o.guard = none) (hd : o.dst = none) (ho : o.op = .store ty x y) (hx : a.eval x = .pointer (some ⟨g, 0, none⟩)) (hy : a.eval y = .agg cs') (hg : Whole w g t cs)
    (hi : (P.info? ty).map (·.size) = some cs'.size) (hs : cs.size = cs'.size) (h1 : cs'.all (·.oneCell') = true)
    (h : wpList P ops Q rest a (w.setRow g cs')) : wpList P ops Q (o :: rest) a w := by
  refine wpList_plain hgd fun K hK => ?_
  unfold Oper.wp execOp
  simp only [ho, hx, hy, Instr.storeAt, Instr.sureAddr, Sem.run_bind, Sem.run_pure, Result.andThen_ok, run_storeVar_row w g t ty cs cs' hg hi hs h1]
  refine hK _ _ ?_
  rw [hd]
  exact h
end

/-! ### rows of numbers of the call's own, known whole -/
/-- block g holds just the numbers l -/
def Ints (k : IntKind) (w : World) (g t : Nat) (l : List Nat) : Prop := Whole w g t (ints k l).toArray
section
variable {k : IntKind} {w w' : World} {g t : Nat} {l : List Nat}
theorem Ints.lt (h : Ints k w g t l) : g < w.heap.size := Whole.lt h
theorem Ints.below {B : Nat} (h : Ints k w g t l) (hb : Below B w w') (hg : g < B) : Ints k w' g t l := Whole.below h hb hg
theorem Ints.alloc (h : Ints k w g t l) (o : Obj) : Ints k (w.alloc o) g t l := Whole.alloc h o
theorem Ints.drew (h : Ints k w g t l) : Ints k w.drew g t l := h
theorem Ints.at_ (h : Ints k w g t l) (i : Nat) (hi : i < l.length) : w.cell? ⟨g, i, none⟩ = some (.int k ((l.getD i 0 : Nat) : Int)) := by
  rw [Whole.at_ h]
  have := ints_get k l i hi
  simpa using this
theorem Ints.free (h : Ints k w g t l) (i : Nat) : w.frozen? ⟨g, i, none⟩ = false := Whole.free h i
theorem Ints.put (h : Ints k w g t l) (i x : Nat) : Ints k (w.setCell ⟨g, i, none⟩ (.int k (x : Int))) g t (l.set i x) := by
  have := Whole.put h i (.int k (x : Int))
  unfold Ints
  rw [show (ints k (l.set i x)).toArray = (ints k l).toArray.setIfInBounds i (.int k (x : Int)) by simp [ints, List.map_set]]
  exact this
theorem Ints.own {base n : Nat} (h : Ints k w g t l) (hb : base ≤ g) (hn : l.length = n) (hm : n ≤ maxLen) : w.ownsRow base t 1 (.slice (some ⟨g, 0, none⟩) n n) n (ints k l) :=
  ⟨by simp [ints_length, hn], .inr ⟨g, n, _, rfl, hb, h, Nat.le_refl _, hm, by simp [ints_length, hn], by rw [Nat.mul_one]; exact List.take_of_length_le (by rw [ints_length]; omega)⟩⟩
theorem Ints.sees (h : Ints k w g t l) : Sees k w (g + 1) (some ⟨g, 0, none⟩) l := fun _ => ⟨g, 0, rfl, by omega, fun i hi => by rw [Nat.zero_add]; exact h.at_ i hi⟩
end
section
variable {P : Program} {T E : TypeId} {k : IntKind} {bytes : Nat}
/-- 'make([]T, n)' for numbers -/
theorem run_make_ints (hT : ElemT P T E (.int k 0) bytes) (n : Nat) (hn : n ≤ 1000000001000) (w : World) :
    (Instr.makeSlice T (.int .i64 (n : Int)) (.int .i64 (n : Int))).run P w = .ok (.slice (some ⟨w.heap.size, 0, none⟩) n n) (w.alloc (.cells (ints k (List.replicate n 0)).toArray E)) := by
  obtain ⟨i0, hi, hz0, hz1, hz2⟩ := info_parts hT.info
  have hf := hT.few
  have hb : (i0.bytes : Int) * (n : Int) ≤ 281474976710656 := by
    have h : i0.bytes * n ≤ 281474976710656 := Nat.le_trans (Nat.mul_le_mul (by rw [hz2]; exact hf) hn) (by omega)
    have h' : ((i0.bytes * n : Nat) : Int) ≤ 281474976710656 := by omega
    rwa [Int.natCast_mul] at h'
  have hr := run_make (P := P) w T E i0 _ hT.under hi hz0 .i64 .i64 n n (by omega) (by omega) hb (by omega)
  rw [hr, Int.toNat_natCast, hz1, Nat.mul_one]
  congr 3
  apply Array.ext (by simp [madeCells, ints])
  intro j h1 h2
  simp [madeCells, ints, Value.cells, Nat.mod_one]
end

/-- the call answers a new block that holds just l; what was there has not turned -/
def News (k : IntKind) (t : Nat) (l : List Nat) (w : World) (e : Ending) (w' : World) : Prop :=
  ∃ g, e = .returned (.slice (some ⟨g, 0, none⟩) l.length l.length) ∧ w.heap.size ≤ g ∧ Ints k w' g t l ∧ Below w.heap.size w w'
theorem copy_src {k : IntKind} {w : World} {B : Nat} {A : Option Addr} {l : List Nat} {o : Obj} (h : Sees k w B A l) (hB : B ≤ w.heap.size) :
    0 < (ints k l).length → some (⟨w.heap.size, 0, none⟩ : Addr) = some ⟨w.heap.size, 0, none⟩ ∧ ∃ ad, A = some ad ∧ ∀ j v, (ints k l)[j]? = some v → (w.alloc o).cell? (ad.add j) = some v := by
  intro hl
  rw [ints_length] at hl
  obtain ⟨b, off, rfl, hb, hc⟩ := h hl
  refine ⟨rfl, _, rfl, fun j v hv => ?_⟩
  have hj : j < l.length := by
    rcases Nat.lt_or_ge j l.length with h | h
    · exact h
    · rw [List.getElem?_eq_none (by rw [ints_length]; exact h)] at hv; cases hv
  have ha : (⟨b, off, none⟩ : Addr).add j = ⟨b, off + j, none⟩ := by unfold Addr.add; split <;> simp_all
  rw [ha, World.cell?_alloc_lt w o _ (show b < w.heap.size by omega), hc j hj, ← ints_get k l j hj, hv]
theorem copied {w1 : World} {g t n : Nat} {l : List Nat} {zs xs : List Value} (hn : l.length = n) (hz : ints .u8 (List.replicate n 0) = zs) (hx : ints .u8 l = xs) (h : w1.heap[g]? = some (.cells (splice zs 0 xs).toArray t (0, 0))) : Ints .u8 w1 g t l := by
  subst hz hx
  have e : splice (ints .u8 (List.replicate n 0)) 0 (ints .u8 l) = ints .u8 l := by
    unfold splice
    rw [List.take_zero, List.nil_append, List.drop_of_length_le (by rw [ints_length, ints_length, hn]; simp), List.append_nil]
  rw [e] at h
  exact h
end Go.Proofs.YtpfeccbnkgnioaaDoor
