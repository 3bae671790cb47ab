/- Texts Foot, Strs, Each, Cl, Mpi, Mpu, Last, Fork, in one. -/
import Derived.Test.YtbhdgfpaoghnbaaPA
import Derived.Deep.Slices
import Derived.Maps.OwnSet
/- Words for calls that turn the blocks of one thing, and may make new ones. -/
namespace Go.Proofs.Ytbhdgfpaoghnbaa
open Go.RowKit
set_option linter.unusedVariables false

/-- of the blocks that were there none has turned but those of F -/
structure Foot (F : Nat → Prop) (w w' : World) : Prop where
  os : w'.os = w.os
  tape : w'.tape = w.tape
  output : w'.output = w.output
  size : w.heap.size ≤ w'.heap.size
  block : ∀ i, i < w.heap.size → ¬ F i → w'.heap[i]? = w.heap[i]?
/-- .. the blocks of F and those that were made since -/
def Wide (F : Nat → Prop) (w w' : World) (b : Nat) : Prop := F b ∨ (w.heap.size ≤ b ∧ b < w'.heap.size)
section
variable {F G : Nat → Prop} {B g : Nat} {w w' w'' : World}
theorem Foot.refl (F : Nat → Prop) (w : World) : Foot F w w := ⟨rfl, rfl, rfl, Nat.le_refl _, fun _ _ _ => rfl⟩
theorem Foot.trans (h : Foot F w w') (k : Foot G w' w'') (hG : ∀ b, b < w.heap.size → G b → F b) : Foot F w w'' :=
  ⟨k.os.trans h.os, k.tape.trans h.tape, k.output.trans h.output, Nat.le_trans h.size k.size, fun i hi hf => (k.block i (Nat.lt_of_lt_of_le hi h.size) (fun q => hf (hG i hi q))).trans (h.block i hi hf)⟩
theorem Foot.more (h : Foot F w w') (hG : ∀ b, b < w.heap.size → F b → G b) : Foot G w w' := ⟨h.os, h.tape, h.output, h.size, fun i hi hf => h.block i hi (fun q => hf (hG i hi q))⟩
theorem Foot.of_below (h : Below w.heap.size w w') : Foot F w w' := ⟨h.os, h.tape, h.output, h.size, fun i hi _ => h.block i hi⟩
theorem Foot.of_only (h : Only g w w') (hg : F g) : Foot F w w' := ⟨h.os, h.tape, h.output, h.size, fun i hi hf => h.block i hi (fun e => hf (e ▸ hg))⟩
theorem Foot.below (h : Foot F w w') (hF : ∀ b, F b → B ≤ b) (hB : B ≤ w.heap.size) : Below B w w' := ⟨h.os, h.tape, h.output, h.size, fun i hi => h.block i (by omega) (fun q => by have := hF i q; omega)⟩
theorem Foot.drew (h : Foot F w w') : Foot F w w'.drew := ⟨h.os, h.tape, h.output, h.size, h.block⟩
theorem Foot.drewN (h : Foot F w w') (n : Nat) : Foot F w (w'.drewN n) := ⟨h.os, h.tape, h.output, h.size, h.block⟩
theorem Foot.alloc (h : Foot F w w') (o : Obj) : Foot F w (w'.alloc o) := h.trans (Foot.of_below (F := F) ((Below.refl _ _).alloc (Nat.le_refl _) o)) (fun _ _ q => q)
theorem Foot.setCell (h : Foot F w w') (i : Nat) (u : Value) (hg : F g) : Foot F w (w'.setCell ⟨g, i, none⟩ u) :=
  h.trans (Foot.of_only (F := F) ((Only.refl g w').setCell i u) hg) (fun _ _ q => q)
theorem Foot.grown (h : Foot F w w') {row : Option Nat} (hg : w'.grownBy w'' row) (hr : ∀ k, row = some k → k < w.heap.size → F k) : Foot F w w'' :=
  ⟨hg.os.trans h.os, hg.tape.trans h.tape, hg.output.trans h.output, Nat.le_trans h.size hg.size, fun i hi hf => (hg.block i (Nat.lt_of_lt_of_le hi h.size) (fun e => hf (hr i e.symm hi))).trans (h.block i hi hf)⟩
theorem Wide.low (h : ∀ b, F b → B ≤ b) (hB : B ≤ w.heap.size) : ∀ b, Wide F w w' b → B ≤ b := fun b hb => by
  rcases hb with hb | ⟨hb, _⟩
  · exact h b hb
  · omega
theorem Wide.lt (h : ∀ b, F b → b < w.heap.size) (hz : w.heap.size ≤ w'.heap.size) : ∀ b, Wide F w w' b → b < w'.heap.size := fun b hb => by
  rcases hb with hb | ⟨_, hb⟩
  · have := h b hb; omega
  · exact hb
theorem Wide.old : ∀ b, b < w.heap.size → Wide F w w' b → F b := fun b hb h => by
  rcases h with h | ⟨h, _⟩
  · exact h
  · omega
/-- two things that share no block -/
def Aside (F G : Nat → Prop) : Prop := ∀ b, F b → ¬ G b
theorem Aside.symm (h : Aside F G) : Aside G F := fun b hb hf => h b hf hb
theorem Aside.wide (h : Aside F G) (hF : ∀ b, F b → b < w.heap.size) : Aside F (Wide G w w') := fun b hb hg => by
  have := hF b hb
  rcases hg with hg | ⟨hg, _⟩
  · exact h b hb hg
  · omega
theorem Foot.aside (h : Foot G w w') (ha : Aside F G) (hF : ∀ b, F b → b < w.heap.size) : ∀ b, F b → w'.heap[b]? = w.heap[b]? := fun b hb => h.block b (hF b hb) (ha b hb)
end
/-- a row of the call's own stays -/
theorem own_same {w w' : World} {base : Nat} {t : TypeId} {size n : Nat} {v : Value} {xs : List Value} (h : w.ownsRow base t size v n xs) (hb : ∀ g, v.ownBlock = some g → w'.heap[g]? = w.heap[g]?) : w'.ownsRow base t size v n xs := by
  obtain ⟨h1, h2⟩ := h
  refine ⟨h1, ?_⟩
  rcases h2 with h2 | ⟨g, cap, cur, hv, hg, hh, r⟩
  · exact .inl h2
  · exact .inr ⟨g, cap, cur, hv, hg, by rw [hb g (by rw [hv]; rfl)]; exact hh, r⟩
theorem Whole.same {w w' : World} {g t : Nat} {cs : Array Value} (h : Whole w g t cs) (hb : w'.heap[g]? = w.heap[g]?) : Whole w' g t cs := hb.trans h
theorem below_draws (B : Nat) (w : World) (n : Nat) : Below B w (w.drewN n) := ⟨rfl, rfl, rfl, Nat.le_refl _, fun _ _ => rfl⟩
end Go.Proofs.Ytbhdgfpaoghnbaa
/- Rows of strings and of ints of the call's own. -/
namespace Go.Proofs.Ytbhdgfpaoghnbaa
open Go.RowKit
set_option linter.unusedVariables false

theorem intT : ElemT Try.prog 31 3 (.int .i64 0) 8 := ⟨Try.underlying31, by kernel_rfl, rfl, by decide⟩
/-- texts as cells -/
def strs (ps : List (List Nat)) : List Value := ps.map fun p => Value.string (strOf p)
theorem strs_append (a b : List (List Nat)) : strs (a ++ b) = strs a ++ strs b := by simp [strs]

/-- a cell of a row of the call's own -/
theorem own_cell {w : World} {base t n : Nat} {v : Value} {xs : List Value} (h : w.ownsRow base t 1 v n xs) {i : Nat} {u : Value} (hi : xs[i]? = some u) : ∃ g c, v = .slice (some ⟨g, 0, none⟩) n c ∧ n ≤ c ∧ c ≤ maxLen ∧ g < w.heap.size ∧ w.cell? ⟨g, i, none⟩ = some u := by
  have hl := h.1
  rcases h.2 with ⟨hv, h0⟩ | ⟨g, cap, cur, hv, hg, hh, h1, h2, r⟩
  · have : xs.length = 0 := by rw [hl, h0]
    rw [List.getElem?_eq_none (by omega)] at hi; cases hi
  · have hlt : g < w.heap.size := (Array.getElem?_eq_some_iff.1 hh).1
    subst hv
    refine ⟨g, cap, rfl, h1, h2, hlt, ?_⟩
    have := World.ownsRow.cells h (g := g) rfl i u hi
    rw [← this]
    congr 1
    unfold Addr.add
    split
    · simp_all
    · simp
theorem strs_get {ps : List (List Nat)} {i : Nat} (h : i < ps.length) : (strs ps)[i]? = some (.string (strOf ps[i])) := by
  simp [strs, List.getElem?_eq_getElem h]
theorem own_cell' {w : World} {base t n c : Nat} {A : Option Addr} {xs : List Value} (h : w.ownsRow base t 1 (.slice A n c) n xs) {i : Nat} {u : Value} (hi : xs[i]? = some u) : ∃ g, A = some ⟨g, 0, none⟩ ∧ g < w.heap.size ∧ w.cell? ⟨g, i, none⟩ = some u := by
  obtain ⟨g, c', hv, _, _, h1, h2⟩ := own_cell h hi
  injection hv with hA _ _
  exact ⟨g, hA, h1, h2⟩
end Go.Proofs.Ytbhdgfpaoghnbaa
/- An argument that is a slice, element by element. -/
namespace Go.Proofs.Ytbhdgfpaoghnbaa
open Go.RowKit Go.ChangeShapes Go.WideShapes
set_option linter.unusedVariables false
set_option maxRecDepth 100000

section
variable {H : Type} {enc : TypeId × Value → H} {w : World} {base : Nat} {spare : Nat → Bool} {held : Bool}
theorem open_each {P : Program} {t e : TypeId} {fuel : Nat} {cs : List Value} {x : DataW H × List MemPlace} (ht : P.underlying t = some (.slice e)) (h : DataW.trod enc P w base spare held fuel t cs = some x) :
    cs = [.slice none 0 0] ∨ ∃ (a : Addr) (len cap n : Nat), fuel = n + 1 ∧ cs = [.slice (some a) len cap] ∧ len ≤ cap ∧ cap ≤ maxLen ∧ ∀ i, i < len → ∃ cs' y, w.cells? base (a.add (i * P.cellsOf e)) (P.cellsOf e) = some cs' ∧ DataW.trod enc P w base spare held n e cs' = some y := by
  rcases DataW.trod_slice ht h with h0 | ⟨a, len, cap, elems, rest, n, hf, rfl, rfl, hb, hl, hm, hlen, hel, hsp, hns⟩
  · exact .inl h0.1
  · refine .inr ⟨a, len, cap, n, hf, rfl, hl, hm, fun i hi => ?_⟩
    have h1 := hel i hi
    rw [List.getElem?_eq_getElem (by omega)] at h1
    obtain ⟨cs', h2, h3⟩ := Option.bind_eq_some_iff.1 h1
    exact ⟨cs', _, h2, h3⟩
theorem spot_of {a : Addr} {v : Value} (h : w.cell? a = some v) : ∃ b off, a = ⟨b, off, none⟩ ∧ b < w.heap.size := by
  obtain ⟨b, off, spot⟩ := a
  have hs : spot = none := by simpa using World.cell?_spot h
  subst hs
  refine ⟨b, off, rfl, ?_⟩
  rcases Nat.lt_or_ge b w.heap.size with h1 | h1
  · exact h1
  · simp [World.cell?, Array.getElem?_eq_none h1] at h
theorem add_plain (b off j : Nat) : (⟨b, off, none⟩ : Addr).add j = ⟨b, off + j, none⟩ := by unfold Addr.add; split <;> simp_all
end
/-- a field of a struct that is read -/
theorem each_field {H : Type} {enc : TypeId × Value → H} {P : Program} {w : World} {base : Nat} {spare : Nat → Bool} {held : Bool} {n : Nat} {fs : Array Field} {cs : List Value} {xs : List (DataW H × List MemPlace)}
    (hx : ∀ (i : Nat) (f : Field), fs[i]? = some f → DataW.trod enc P w base spare held n f.type ((cs.drop f.offset).take (P.cellsOf f.type)) = xs[i]?) (i : Nat) (f : Field) (hi : fs[i]? = some f) (ty off c : Nat) (h1 : f.type = ty) (h2 : f.offset = off) (h3 : P.cellsOf ty = c) :
    DataW.trod enc P w base spare held n ty ((cs.drop off).take c) = xs[i]? := by
  subst h1 h2 h3
  exact hx i f hi
end Go.Proofs.Ytbhdgfpaoghnbaa
/- Slices of structs of any number of cells, in memory, as rows of the call's own, and as arguments. -/
namespace Go.Proofs.Ytbhdgfpaoghnbaa
open Go.RowKit Go.ChangeShapes Go.WideShapes
set_option linter.unusedVariables false
set_option linter.unusedSimpArgs false

section
variable {α : Type} (f : α → List Value) (k : Nat)
/-- the cells of the elements, one element behind the other -/
def rowsOf (l : List α) : List Value := l.flatMap f
theorem rowsOf_nil : rowsOf f [] = [] := rfl
theorem rowsOf_cons (x : α) (l : List α) : rowsOf f (x :: l) = f x ++ rowsOf f l := rfl
theorem rowsOf_append (a b : List α) : rowsOf f (a ++ b) = rowsOf f a ++ rowsOf f b := by simp [rowsOf]
theorem rowsOf_one (x : α) : rowsOf f [x] = f x := by simp [rowsOf]
variable {f k}
theorem rowsOf_length (hf : ∀ x, (f x).length = k) (l : List α) : (rowsOf f l).length = l.length * k := by
  induction l with
  | nil => simp [rowsOf]
  | cons x l ih => rw [rowsOf_cons, List.length_append, ih, hf, List.length_cons, Nat.add_mul, Nat.one_mul, Nat.add_comm]
theorem rowsOf_get (hf : ∀ x, (f x).length = k) : ∀ (l : List α) (i : Nat) (h : i < l.length) (j : Nat), j < k → (rowsOf f l)[i * k + j]? = (f l[i])[j]?
  | x :: l, 0, _, j, hj => by
    rw [rowsOf_cons, Nat.zero_mul, Nat.zero_add, List.getElem?_append_left (by rw [hf]; exact hj)]
    rfl
  | x :: l, i + 1, h, j, hj => by
    rw [rowsOf_cons, List.getElem?_append_right (by rw [hf, Nat.add_mul]; omega), hf, show (i + 1) * k + j - k = i * k + j by rw [Nat.add_mul]; omega, rowsOf_get hf l i (by simpa using h) j hj]
    rfl
variable (f k)
/-- the value is a slice of the elements -/
def Cl (w : World) (B : Nat) (v : Value) (l : List α) : Prop := ∃ A c, v = .slice A l.length c ∧ l.length ≤ c ∧ c ≤ maxLen ∧ (A = none → c = 0) ∧
  ∀ i (h : i < l.length), ∃ b off, A = some ⟨b, off, none⟩ ∧ b < B ∧ ∀ j, j < k → w.cell? ⟨b, off + i * k + j, none⟩ = (f l[i])[j]?
variable {f k} {w w' : World} {B B' : Nat} {v : Value} {l : List α}
theorem Cl.below (h : Cl f k w B v l) (hb : Below B w w') : Cl f k w' B v l := by
  obtain ⟨A, c, e, h1, h2, h3, h4⟩ := h
  refine ⟨A, c, e, h1, h2, h3, fun i hi => ?_⟩
  obtain ⟨b, off, e, hlt, hc⟩ := h4 i hi
  exact ⟨b, off, e, hlt, fun j hj => (hb.cell (p := ⟨b, off + i * k + j, none⟩) hlt).trans (hc j hj)⟩
theorem Cl.more (h : Cl f k w B v l) (hB : B ≤ B') : Cl f k w B' v l := by
  obtain ⟨A, c, e, h1, h2, h3, h4⟩ := h
  refine ⟨A, c, e, h1, h2, h3, fun i hi => ?_⟩
  obtain ⟨b, off, e, hlt, hc⟩ := h4 i hi
  exact ⟨b, off, e, by omega, hc⟩
theorem Cl.kept (h : Cl f k w w.heap.size v l) (hb : Below w.heap.size w w') : Cl f k w' w'.heap.size v l := (h.below hb).more hb.size
theorem Cl.nil (w : World) (B : Nat) : Cl f k w B (.slice none 0 0) [] := ⟨none, 0, rfl, Nat.le_refl _, by unfold maxLen; omega, fun _ => rfl, fun i h => by cases h⟩
theorem Cl.shape (h : Cl f k w B v l) : ∃ A c, v = .slice A l.length c ∧ l.length ≤ c ∧ c ≤ maxLen ∧ (A = none → c = 0) := by
  obtain ⟨A, c, e, h1, h2, h3, _⟩ := h
  exact ⟨A, c, e, h1, h2, h3⟩
/-- element i, in all worlds to come -/
theorem Cl.at_ {A : Option Addr} {n c : Nat} (h : Cl f k w B (.slice A n c) l) {i : Nat} (hi : i < l.length) : ∃ b off, A = some ⟨b, off, none⟩ ∧ b < B ∧ ∀ W, Below B w W → ∀ j, j < k → W.cell? ⟨b, off + i * k + j, none⟩ = (f l[i])[j]? := by
  obtain ⟨A', c', e, _, _, _, h4⟩ := h
  cases e
  obtain ⟨b, off, e, hlt, hc⟩ := h4 i hi
  exact ⟨b, off, e, hlt, fun W hW j hj => (hW.cell (p := ⟨b, off + i * k + j, none⟩) hlt).trans (hc j hj)⟩
theorem Cl.of_own (hf : ∀ x, (f x).length = k) {base : Nat} {t : TypeId} (h : w.ownsRow base t k v l.length (rowsOf f l)) : Cl f k w w.heap.size v l := by
  obtain ⟨A, c, rfl, h1, h2, h3, h4⟩ := own_look h
  refine ⟨A, c, rfl, h1, h2, h3, fun i hi => ?_⟩
  rcases Nat.eq_zero_or_pos k with h0 | h0
  · subst h0
    by_cases hA : A = none
    · have := h3 hA; omega
    · -- no cell at all
      rcases h.2 with ⟨hv, hn⟩ | ⟨g, cap, cur, hv, hg, hh, hnc, hm, hs, ht⟩
      · injection hv with e1 e2 e3; exact absurd e1 hA
      · injection hv with e1 e2 e3
        exact ⟨g, 0, e1, (Array.getElem?_eq_some_iff.1 hh).1, fun j hj => by omega⟩
  · have g0 : (f l[i])[0]? = some ((f l[i])[0]'(by rw [hf]; exact h0)) := List.getElem?_eq_getElem _
    obtain ⟨b, rfl, _, hlt, _⟩ := h4 (i * k + 0) _ ((rowsOf_get hf l i hi 0 h0).trans g0)
    refine ⟨b, 0, rfl, hlt, fun j hj => ?_⟩
    have gj : (f l[i])[j]? = some ((f l[i])[j]'(by rw [hf]; exact hj)) := List.getElem?_eq_getElem _
    obtain ⟨b', e, _, _, hc⟩ := h4 (i * k + j) _ ((rowsOf_get hf l i hi j hj).trans gj)
    cases e
    rw [gj, Nat.zero_add]
    exact hc
/-- a new block as what an append reads -/
theorem src_cells (w : World) (cs : Array Value) (E : TypeId) (fr : Nat × Nat) : Src (w.alloc (.cells cs E fr)) (some ⟨w.heap.size, 0, none⟩) cs.toList := fun j x hx => by
  refine ⟨_, _, rfl, ?_⟩
  simp only [World.cell?, World.alloc, Array.getElem?_push_size, Nat.zero_add]
  simpa using hx
/-- a slice of elements as what an append reads -/
theorem Cl.src (hf : ∀ x, (f x).length = k) {A : Option Addr} {n c : Nat} (h : Cl f k w B (.slice A n c) l) : Src w A (rowsOf f l) := fun j x hx => by
  have hj : j < l.length * k := by
    rw [← rowsOf_length hf]
    exact (List.getElem?_eq_some_iff.1 hx).1
  have hk : 0 < k := by
    rcases Nat.eq_zero_or_pos k with h0 | h0
    · subst h0; omega
    · exact h0
  have hi : j / k < l.length := (Nat.div_lt_iff_lt_mul hk).2 hj
  obtain ⟨b, off, e, _, hc⟩ := h.at_ hi
  have hm := Nat.mod_lt j hk
  have hd : j / k * k + j % k = j := by rw [Nat.mul_comm]; exact Nat.div_add_mod j k
  refine ⟨b, off, e, ?_⟩
  have := hc w (Below.refl _ _) (j % k) hm
  rw [Nat.add_assoc, hd, ← rowsOf_get hf l _ hi _ hm, hd] at this
  rw [this]
  exact hx
end
/-- an argument that is a slice of structs -/
theorem open_cl {α : Type} {f : α → List Value} {k : Nat} (hk : 0 < k) {ok : α → Prop} {H : Type} {enc : TypeId × Value → H} {P : Program} {w : World} {base : Nat} {held : Bool} {fuel : Nat} {t e : TypeId} {cs : List Value} {x : DataW H × List MemPlace}
    (ht : P.underlying t = some (.slice e)) (ce : P.cellsOf e = k) (hel : ∀ (n : Nat) (cs : List Value) (y : DataW H × List MemPlace), cs.length = k → DataW.trod enc P w base (fun _ => true) held n e cs = some y → ∃ z, cs = f z ∧ ok z) (ha : α)
    (h : DataW.trod enc P w base (fun _ => true) held fuel t cs = some x) : ∃ v l, cs = [v] ∧ Cl f k w w.heap.size v l ∧ ∀ z ∈ l, ok z := by
  rcases open_each ht h with rfl | ⟨a, len, cap, n, _, rfl, hl, hm, hx⟩
  · exact ⟨_, [], rfl, Cl.nil _ _, fun z hz => by cases hz⟩
  · rw [ce] at hx
    have each : ∀ i, i < len → ∃ z : α, (∀ j, j < k → w.cell? ((a.add (i * k)).add j) = (f z)[j]?) ∧ ok z := fun i hi => by
      obtain ⟨cs', y, h1, h2⟩ := hx i hi
      obtain ⟨_, hlen, hcell⟩ := World.cells?_some h1
      obtain ⟨z, rfl, h3⟩ := hel _ _ _ hlen h2
      exact ⟨z, fun j hj => by rw [hcell j hj], h3⟩
    haveI : Inhabited α := ⟨ha⟩
    obtain ⟨q, hq⟩ := Go.Deep.choose_lt each
    refine ⟨_, (List.range len).map q, rfl, ⟨some a, cap, by simp, by simpa using hl, hm, (fun h => by cases h), fun i hi => ?_⟩, fun z hz => ?_⟩
    · have hi' : i < len := by simpa using hi
      have hlenf : ∀ i, i < len → ∃ u, (f (q i))[0]? = some u := fun i hi => by
        obtain ⟨cs', y, h1, h2⟩ := hx i hi
        obtain ⟨_, hlen, hcell⟩ := World.cells?_some h1
        have h3 := (hq i hi).1 0 hk
        rw [hcell 0 hk] at h3
        exact ⟨_, h3.symm.trans (List.getElem?_eq_getElem (by rw [hlen]; exact hk))⟩
      obtain ⟨u, hu⟩ := hlenf i hi'
      have h0 := ((hq i hi').1 0 hk).trans hu
      obtain ⟨b0, off0, e0, hb0⟩ := spot_of h0
      obtain ⟨b, off, spot⟩ := a
      have hsp : spot = none := by
        obtain ⟨u', hu'⟩ := hlenf 0 (by omega)
        have hz := ((hq 0 (by omega)).1 0 hk).trans hu'
        rw [Go.Deep.add_add] at hz
        simpa [Addr.add] using World.cell?_spot hz
      subst hsp
      rw [add_plain, add_plain] at e0
      injection e0 with e1 _ _
      subst e1
      refine ⟨b, off, rfl, hb0, fun j hj => ?_⟩
      have := (hq i hi').1 j hj
      rw [add_plain, add_plain] at this
      simpa using this
    · obtain ⟨i, hi, rfl⟩ := List.mem_map.1 hz
      exact (hq i (List.mem_range.1 hi)).2
end Go.Proofs.Ytbhdgfpaoghnbaa
/- Maps keyed by ints: which value stands at which key, in a block of its own. -/
namespace Go.Proofs.Ytbhdgfpaoghnbaa
open Go.RowKit
set_option linter.unusedVariables false
set_option maxRecDepth 100000

/-- an element is read as the value that it is -/
def heldR (v : Value) : Option (DataW Value × List MemPlace) := some (.held v, [])
/-- block mb is a map with n entries: at i stands f i; z stands for what is not there -/
def Mi (P : Program) (k : TypeId) (z : Value) (w : World) (mb n : Nat) (f : Nat → Option Value) : Prop :=
  ∃ D : DataW Value, w.ownsMap P k heldR mb n D ∧ Maps.size D = n ∧ ∀ i : Nat, i ≤ 9223372036854775807 → Maps.has D (.int .i64 (i : Int)) = (f i).isSome ∧ D.atKey (.int .i64 (i : Int)) (.held z) = .held ((f i).getD z)
theorem lit_wf {i : Nat} (h : i ≤ 9223372036854775807) : (Lit.int .i64 (i : Int)).wf = true := by
  simp only [Lit.wf, decide_eq_true_eq, Bool.and_eq_true]
  have h1 : IntKind.i64.min = -9223372036854775808 := by decide
  have h2 : IntKind.i64.max = 9223372036854775807 := by decide
  omega
section
variable {P : Program} {k : TypeId} {z : Value} {w w' : World} {mb n : Nat} {f : Nat → Option Value}
theorem Mi.made (P : Program) (k : TypeId) (z : Value) (w : World) : Mi P k z (w.alloc (.map #[] 0)) w.heap.size 0 (fun _ => none) :=
  ⟨.map [], World.ownsMap_made w P k heldR, rfl, fun i _ => ⟨rfl, rfl⟩⟩
theorem Mi.lt (h : Mi P k z w mb n f) : mb < w.heap.size := by
  obtain ⟨D, h, _⟩ := h
  exact h.lt
theorem Mi.same (h : Mi P k z w mb n f) (hb : w'.heap[mb]? = w.heap[mb]?) : Mi P k z w' mb n f := by
  obtain ⟨D, ⟨es, clock, h1, h2⟩, h3⟩ := h
  exact ⟨D, ⟨es, clock, hb.trans h1, h2⟩, h3⟩
variable {T E : TypeId} (hk : P.underlying k = some (.int .i64)) (ht : P.underlying T = some (.map k E))
include hk ht
theorem Mi.look_ok (h : Mi P k z w mb n f) (hz : (zeroValue E).run P w = .ok z w) {i : Nat} (hi : i ≤ 9223372036854775807) :
    (Instr.lookup T (.map (some mb)) (.int .i64 (i : Int)) true).run P w = .ok (.tuple #[(f i).getD z, .bool (f i).isSome]) w := by
  obtain ⟨D, h, _, hf⟩ := h
  obtain ⟨v, ps, hr, hv⟩ := h.look_ok (Maps.int_keyed hk) ht hz (zd := .held z) rfl (Maps.keyOf_int_mk hk (lit_wf hi))
  rw [(hf i hi).2] at hv
  rw [(hf i hi).1] at hr
  have e : v = (f i).getD z := by
    unfold heldR at hv
    injection hv with hv
    injection hv with hv _
    injection hv
  rw [hr, e]
theorem Mi.look (h : Mi P k z w mb n f) (hz : (zeroValue E).run P w = .ok z w) {i : Nat} (hi : i ≤ 9223372036854775807) :
    (Instr.lookup T (.map (some mb)) (.int .i64 (i : Int)) false).run P w = .ok ((f i).getD z) w := by
  obtain ⟨D, h, _, hf⟩ := h
  obtain ⟨v, ps, hr, hv⟩ := h.lookup (Maps.int_keyed hk) ht hz (zd := .held z) rfl (Maps.keyOf_int_mk hk (lit_wf hi))
  rw [(hf i hi).2] at hv
  have e : v = (f i).getD z := by
    unfold heldR at hv
    injection hv with hv
    injection hv with hv _
    injection hv
  rw [hr, e]
omit hk in
theorem Mi.len (h : Mi P k z w mb n f) (ty : TypeId) : (Builtin.len_ #[T] ty #[.map (some mb)]).run P w = .ok (.int .i64 (n : Int)) w := by
  obtain ⟨D, h, hn, _⟩ := h
  have := h.len ht ty
  rw [hn] at this
  exact this
theorem Mi.store (h : Mi P k z w mb n f) (hn : n < maxLen) {i : Nat} (hi : i ≤ 9223372036854775807) (hf0 : f i = none) (v : Value) :
    ∃ w', (Instr.mapUpdate T (.map (some mb)) (.int .i64 (i : Int)) v).run P w = .ok () w' ∧ Mi P k z w' mb (n + 1) (fun j => if j = i then some v else f j) ∧ w.grownBy w' (some mb) ∧ w'.heap.size = w.heap.size := by
  obtain ⟨D, h, hs, hf⟩ := h
  have hkey : keyOf P k (.int .i64 (i : Int)) = some (.int .i64 (i : Int)) := Maps.keyOf_int_mk hk (lit_wf hi)
  obtain ⟨w', hr, ho, hg⟩ := h.store (Maps.int_keyed hk) ht hn hkey (val := v) (d := .held v) (ps := []) rfl
  have hD := h.isMap
  refine ⟨w', hr, ⟨_, ho, ?_, fun j hj => ?_⟩, hg.grown, ?_⟩
  · rw [Maps.size_put (h.tidy (Maps.int_keyed hk)), (hf i hi).1, hf0, hs]
    rfl
  · by_cases e : j = i
    · subst e
      rw [Maps.has_put_same hD (Maps.int_keyed hk |>.key hkey), Maps.atKey_put_same hD (Maps.int_keyed hk |>.key hkey)]
      simp
    · have hne : (Lit.int .i64 (j : Int)) ≠ Lit.int .i64 (i : Int) := fun q => by injection q with _ q; omega
      rw [Maps.has_put_other hne, Maps.atKey_put_other hne]
      show _ = (if j = i then some v else f j).isSome ∧ _ = DataW.held ((if j = i then some v else f j).getD z)
      rw [if_neg e]
      exact hf j hj
  · obtain ⟨es, cl, es', cl', _, rfl⟩ := hg
    simp [ChangeMaps.setBlock]
end
end Go.Proofs.Ytbhdgfpaoghnbaa
/- Maps keyed by numbers of any kind, below a bound: which value stands at which key; entries may be set anew. -/
namespace Go.Proofs.Ytbhdgfpaoghnbaa
open Go.RowKit
set_option linter.unusedVariables false
set_option maxRecDepth 100000

/-- an element is read as the value that it is -/
def heldU (v : Value) : Option (DataW Value × List MemPlace) := some (.held v, [])
/-- how many of the keys below n have a value -/
def cntU (f : Nat → Option Value) : Nat → Nat
  | 0 => 0
  | n + 1 => cntU f n + (if (f n).isSome then 1 else 0)
def setU (f : Nat → Option Value) (i : Nat) (v : Value) : Nat → Option Value := fun j => if j = i then some v else f j
theorem cntU_none : ∀ n, cntU (fun _ => none) n = 0
  | 0 => rfl
  | n + 1 => by unfold cntU; rw [cntU_none n]; rfl
theorem cntU_le (f : Nat → Option Value) : ∀ n, cntU f n ≤ n
  | 0 => Nat.le_refl _
  | n + 1 => by unfold cntU; have := cntU_le f n; split <;> omega
theorem cntU_out (f : Nat → Option Value) (i : Nat) (v : Value) : ∀ n, n ≤ i → cntU (setU f i v) n = cntU f n
  | 0, _ => rfl
  | n + 1, h => by
    unfold cntU
    rw [cntU_out f i v n (by omega)]
    have : setU f i v n = f n := by unfold setU; rw [if_neg (by omega)]
    rw [this]
theorem cntU_set (f : Nat → Option Value) (i : Nat) (v : Value) : ∀ n, i < n → cntU (setU f i v) n = if (f i).isSome then cntU f n else cntU f n + 1
  | 0, h => by omega
  | n + 1, h => by
    unfold cntU
    by_cases e : n = i
    · subst e
      rw [cntU_out f n v n (Nat.le_refl _)]
      have : setU f n v n = some v := by unfold setU; rw [if_pos rfl]
      rw [this]
      simp only [Option.isSome_some, if_true]
      split <;> omega
    · rw [cntU_set f i v n (by omega)]
      have : setU f i v n = f n := by unfold setU; rw [if_neg e]
      rw [this]
      split <;> split <;> omega
/-- block mb is a map whose keys are numbers below N of the kind q: at i stands f i; z stands for what is not there -/
def Mu (P : Program) (k : TypeId) (q : IntKind) (N : Nat) (z : Value) (w : World) (mb : Nat) (f : Nat → Option Value) : Prop :=
  ∃ D : DataW Value, w.ownsMap P k heldU mb (cntU f N) D ∧ Maps.size D = cntU f N ∧ ∀ i : Nat, i < N → Maps.has D (.int q (i : Int)) = (f i).isSome ∧ D.atKey (.int q (i : Int)) (.held z) = .held ((f i).getD z)
section
variable {P : Program} {k : TypeId} {q : IntKind} {N : Nat} {z : Value} {w w' : World} {mb : Nat} {f : Nat → Option Value}
theorem Mu.made (P : Program) (k : TypeId) (q : IntKind) (N : Nat) (z : Value) (w : World) : Mu P k q N z (w.alloc (.map #[] 0)) w.heap.size (fun _ => none) :=
  ⟨.map [], by rw [cntU_none]; exact World.ownsMap_made w P k heldU, by rw [cntU_none]; rfl, fun i _ => ⟨rfl, rfl⟩⟩
theorem Mu.lt (h : Mu P k q N z w mb f) : mb < w.heap.size := by
  obtain ⟨D, h, _⟩ := h
  exact h.lt
theorem Mu.same (h : Mu P k q N z w mb f) (hb : w'.heap[mb]? = w.heap[mb]?) : Mu P k q N z w' mb f := by
  obtain ⟨D, ⟨es, clock, h1, h2⟩, h3⟩ := h
  exact ⟨D, ⟨es, clock, hb.trans h1, h2⟩, h3⟩
variable {T E : TypeId} (hk : P.underlying k = some (.int q)) (ht : P.underlying T = some (.map k E)) (hw : ∀ i : Nat, i < N → (Lit.int q (i : Int)).wf = true)
include hk ht hw
theorem Mu.look_ok (h : Mu P k q N z w mb f) (hz : (zeroValue E).run P w = .ok z w) {i : Nat} (hi : i < N) :
    (Instr.lookup T (.map (some mb)) (.int q (i : Int)) true).run P w = .ok (.tuple #[(f i).getD z, .bool (f i).isSome]) w := by
  obtain ⟨D, h, _, hf⟩ := h
  obtain ⟨v, ps, hr, hv⟩ := h.look_ok (Maps.int_keyed hk) ht hz (zd := .held z) rfl (Maps.keyOf_int_mk hk (hw i hi))
  rw [(hf i hi).2] at hv
  rw [(hf i hi).1] at hr
  have e : v = (f i).getD z := by
    unfold heldU at hv
    injection hv with hv
    injection hv with hv _
    injection hv
  rw [hr, e]
theorem Mu.look (h : Mu P k q N z w mb f) (hz : (zeroValue E).run P w = .ok z w) {i : Nat} (hi : i < N) :
    (Instr.lookup T (.map (some mb)) (.int q (i : Int)) false).run P w = .ok ((f i).getD z) w := by
  obtain ⟨D, h, _, hf⟩ := h
  obtain ⟨v, ps, hr, hv⟩ := h.lookup (Maps.int_keyed hk) ht hz (zd := .held z) rfl (Maps.keyOf_int_mk hk (hw i hi))
  rw [(hf i hi).2] at hv
  have e : v = (f i).getD z := by
    unfold heldU at hv
    injection hv with hv
    injection hv with hv _
    injection hv
  rw [hr, e]
omit hk hw in
theorem Mu.len (h : Mu P k q N z w mb f) (ty : TypeId) : (Builtin.len_ #[T] ty #[.map (some mb)]).run P w = .ok (.int .i64 (cntU f N : Int)) w := by
  obtain ⟨D, h, hn, _⟩ := h
  have := h.len ht ty
  rw [hn] at this
  exact this
theorem Mu.store (h : Mu P k q N z w mb f) (hn : cntU f N < maxLen) {i : Nat} (hi : i < N) (v : Value) :
    ∃ w', (Instr.mapUpdate T (.map (some mb)) (.int q (i : Int)) v).run P w = .ok () w' ∧ Mu P k q N z w' mb (setU f i v) ∧ w.grownBy w' (some mb) ∧ w'.heap.size = w.heap.size := by
  obtain ⟨D, h, hs, hf⟩ := h
  have hkey : keyOf P k (.int q (i : Int)) = some (.int q (i : Int)) := Maps.keyOf_int_mk hk (hw i hi)
  obtain ⟨w', hr, ho, hg⟩ := h.store (Maps.int_keyed hk) ht hn hkey (val := v) (d := .held v) (ps := []) rfl
  have hD := h.isMap
  have hsz : Maps.size (D.put (.int q (i : Int)) (.held v)) = cntU (setU f i v) N := by
    rw [Maps.size_put (h.tidy (Maps.int_keyed hk)), (hf i hi).1, cntU_set f i v N hi, hs]
  refine ⟨w', hr, ⟨_, ?_, hsz, fun j hj => ?_⟩, hg.grown, ?_⟩
  · obtain ⟨es, clock, h1, h2, h3, h4⟩ := ho
    refine ⟨es, clock, h1, h2, ?_, h4⟩
    rw [← hsz, h4]
    simp [Maps.size, length_sorted]
  · by_cases e : j = i
    · subst e
      rw [Maps.has_put_same hD (Maps.int_keyed hk |>.key hkey), Maps.atKey_put_same hD (Maps.int_keyed hk |>.key hkey)]
      simp [setU]
    · have hne : (Lit.int q (j : Int)) ≠ Lit.int q (i : Int) := fun e' => by injection e' with _ e'; omega
      rw [Maps.has_put_other hne, Maps.atKey_put_other hne]
      unfold setU
      rw [if_neg e]
      exact hf j hj
  · obtain ⟨es, cl, es', cl', _, rfl⟩ := hg
    simp [ChangeMaps.setBlock]
end
theorem lit16_wf (i : Nat) (h : i < 65536) : (Lit.int .u16 (i : Int)).wf = true := by
  simp only [Lit.wf, decide_eq_true_eq, Bool.and_eq_true]
  have h1 : IntKind.u16.min = 0 := by decide
  have h2 : IntKind.u16.max = 65535 := by decide
  omega
theorem lit32_wf (i : Nat) (h : i < 4294967296) : (Lit.int .u32 (i : Int)).wf = true := by
  simp only [Lit.wf, decide_eq_true_eq, Bool.and_eq_true]
  have h1 : IntKind.u32.min = 0 := by decide
  have h2 : IntKind.u32.max = 4294967295 := by decide
  omega
end Go.Proofs.Ytbhdgfpaoghnbaa
/- A region that draws its order, and whose last operation is the only one behind which nothing need be known of the world (it stores what the others load). -/
namespace Go.Proofs.Ytbhdgfpaoghnbaa

section
variable {P : Program} {ops : Array Oper} {Q : Exit → Act → World → Prop} {md : Region.Mode} {S : World → Prop}

/-- whatever order is picked, and S holds behind every operation but number z -/
def wpAnyL (P : Program) (md : Region.Mode) (ops : Array Oper) (Q : Exit → Act → World → Prop) (S : World → Prop) (z : Nat) : Nat → Array Bool → Act → World → Prop
  | 0, listed, a, w => Region.ready md ops listed = [] ∧ Q .normal a w
  | fuel + 1, listed, a, w =>
    (Region.ready md ops listed = [] → Q .normal a w) ∧
    ∀ i ∈ Region.ready md ops listed, wpOp P ops Q i (fun a' w' => (i ≠ z → S w') ∧ wpAnyL P md ops Q S z fuel (listed.setIfInBounds i true) a' w') a w
theorem wpAny_of_last (z : Nat) : ∀ (fuel : Nat) (listed : Array Bool) (a : Act) (w : World), wpAnyL P md ops Q S z fuel listed a w → wpAny P md ops Q fuel listed a w
  | 0, _, _, _, h => h
  | fuel + 1, _, _, _, h => ⟨h.1, fun i hi => wpOp_mono (fun a' w' h' => wpAny_of_last z fuel _ a' w' h'.2) (h.2 i hi)⟩
/-- number i, for which number z waits, may be taken first if it yields its value in every world that meets S -/
theorem wpAnyL_first {i z : Nat} {oi : Oper} {v : Value} (hi : ops[i]? = some oi) (hsel : ∀ (j : Nat) (o : Oper) cs b, ops[j]? = some o → o.op ≠ .select cs b)
    (hQ : ∀ c a w, Q (.panic c) (a.put oi.dst v) w → Q (.panic c) a w) (hz : ∀ oz, ops[z]? = some oz → ∃ e ∈ oz.after, Region.binds md e = true ∧ e.on = i) :
    ∀ (fuel : Nat) (listed : Array Bool) (a : Act) (w : World),
      (∀ j oj, ops[j]? = some oj → j ≠ i → listed.getD j true = false → (∀ e ∈ oj.after, Region.binds md e = true → e.on ≠ i) → oi.apart ops oj = true) →
      i ∈ Region.ready md ops listed → YieldsIf P ops S oi v a → S w →
      wpAnyL P md ops Q S z fuel (listed.setIfInBounds i true) (a.put oi.dst v) w → wpAnyL P md ops Q S z (fuel + 1) listed a w := by
  intro fuel
  induction fuel with
  | zero =>
    intro listed a w _ hr hy hS H
    refine ⟨fun h => (by rw [h] at hr; cases hr), fun j hj => ?_⟩
    by_cases hji : j = i
    · subst hji; exact hy.wpOp hi hS ⟨fun _ => hS, H⟩
    · have := ready_mono hj hji
      rw [H.1] at this
      cases this
  | succ fuel ih =>
    intro listed a w hfree hr hy hS H
    refine ⟨fun h => (by rw [h] at hr; cases hr), fun j hj => ?_⟩
    by_cases hji : j = i
    · subst hji; exact hy.wpOp hi hS ⟨fun _ => hS, H⟩
    · have h1 := H.2 j (ready_mono hj hji)
      obtain ⟨hjun, oj, hoj, hall⟩ := mem_ready.1 hj
      have hnot : ∀ e ∈ oj.after, Region.binds md e = true → e.on ≠ i := fun e he hb heq => by
        have h1 := hall e he hb
        have h0 := (mem_ready.1 hr).1
        rw [heq] at h1
        rcases Nat.lt_or_ge i listed.size with h' | h'
        · simp [h'] at h0 h1; rw [h0] at h1; cases h1
        · simp [Array.getElem?_eq_none h'] at h1
      have hjz : j ≠ z := fun e => by
        subst e
        obtain ⟨e, he, hb, hon⟩ := hz oj hoj
        exact hnot e he hb hon
      have h2 := wpOp_putIf hoj (hfree j oj hoj hji hjun hnot) (fun cs b => hsel i oi cs b hi) (fun cs b => hsel j oj cs b hoj) hQ hy h1
      have hfree' : ∀ k ok, ops[k]? = some ok → k ≠ i → (listed.setIfInBounds j true).getD k true = false →
          (∀ e ∈ ok.after, Region.binds md e = true → e.on ≠ i) → oi.apart ops ok = true := fun k ok hk hki hun hno => by
        refine hfree k ok hk hki ?_ hno
        by_cases hjk : j = k
        · subst hjk; exact hjun
        · rw [getD_set_ne true hjk] at hun; exact hun
      refine wpOp_mono (fun a' w' h3 => ⟨fun _ => h3.2.1 hjz, ih (listed.setIfInBounds j true) a' w' hfree' (ready_mono hr (Ne.symm hji)) h3.1 (h3.2.1 hjz) ?_⟩) h2
      rw [Array.setIfInBounds_comm _ _ hji]
      exact h3.2.2

/-- (i, true): operation i is taken, and number z waits for it; (i, false): it is the only one that may come up -/
def okLast (ops : Array Oper) (z : Nat) : List (Nat × Bool) → Array Bool → Bool
  | [], listed => (Region.ready .any ops listed).isEmpty
  | (i, true) :: r, listed => Region.free .any ops listed i && (Region.ready .any ops listed).contains i && ((ops[z]?).all fun oz => oz.after.toList.any fun e => Region.binds .any e && e.on == i) && okLast ops z r (listed.setIfInBounds i true)
  | (i, false) :: r, listed => (Region.ready .any ops listed == [i]) && okLast ops z r (listed.setIfInBounds i true)
def AlongL (P : Program) (ops : Array Oper) (Q : Exit → Act → World → Prop) (S : World → Prop) (z : Nat) : List (Nat × Bool) → Act → World → Prop
  | [], a, w => Q .normal a w
  | (i, true) :: r, a, w => ∃ o v, ops[i]? = some o ∧ YieldsIf P ops S o v a ∧ AlongL P ops Q S z r (a.put o.dst v) w
  | (i, false) :: r, a, w => wpOp P ops Q i (fun a' w' => (i ≠ z → S w') ∧ AlongL P ops Q S z r a' w') a w
/-- behind number z there is nothing to be taken -/
def endsAt (z : Nat) : List (Nat × Bool) → Bool
  | [] => true
  | (i, b) :: r => (if i = z then r.isEmpty && !b else endsAt z r)
theorem alongL_sound (z : Nat) (hs : Region.noSelect ops = true) (hQ : ∀ t v c a w, Q (.panic c) (Act.put a (some t) v) w → Q (.panic c) a w) :
    ∀ (r : List (Nat × Bool)) (listed : Array Bool) (a : Act) (w : World), okLast ops z r listed = true → endsAt z r = true → S w → AlongL P ops Q S z r a w → wpAnyL P .any ops Q S z r.length listed a w
  | [], listed, a, w, hk, _, _, h => ⟨by simpa [okLast] using hk, h⟩
  | (i, true) :: r, listed, a, w, hk, he, hS, h => by
    obtain ⟨o, v, ho, hy, h⟩ := h
    simp only [okLast, Bool.and_eq_true] at hk
    obtain ⟨⟨⟨k1, k2⟩, k3⟩, k4⟩ := hk
    have hiz : i ≠ z := fun e => by subst e; simp [endsAt] at he
    have he' : endsAt z r = true := by simpa [endsAt, hiz] using he
    refine wpAnyL_first ho (Region.noSelect_spec hs) (put_any_dst hQ _ _) (fun oz hoz => ?_) r.length listed a w (Region.free_spec ho k1) (by simpa using k2) hy hS (alongL_sound z hs hQ r _ _ _ k4 he' hS h)
    rw [hoz] at k3
    simp only [Option.all_some, List.any_eq_true, Bool.and_eq_true, beq_iff_eq] at k3
    obtain ⟨e, h1, h2, h3⟩ := k3
    exact ⟨e, by simpa using h1, h2, h3⟩
  | (i, false) :: r, listed, a, w, hk, he, hS, h => by
    simp only [okLast, Bool.and_eq_true, beq_iff_eq] at hk
    refine ⟨fun h0 => absurd (hk.1 ▸ h0) (by simp), hk.1 ▸ fun j hj => ?_⟩
    obtain rfl : j = i := by simpa using hj
    refine wpOp_mono (fun a' w' h' => ⟨h'.1, ?_⟩) h
    by_cases hiz : j = z
    · subst hiz
      have hr : r = [] := by simpa [endsAt] using he
      subst hr
      exact ⟨by simpa [okLast] using hk.2, h'.2⟩
    · exact alongL_sound z hs hQ r _ _ _ hk.2 (by simpa [endsAt, hiz] using he) (h'.1 hiz) h'.2
theorem wp_region_last {id : Nat} {a : Act} {w : World} (z : Nat) (plan : List (Nat × Bool)) (hm : P.follows .mixedOrders = true) (hs : Region.noSelect ops = true) (hl : plan.length = ops.size)
    (hk : okLast ops z plan (Array.replicate ops.size false) = true) (he : endsAt z plan = true) (hQ : ∀ t v c a w, Q (.panic c) (Act.put a (some t) v) w → Q (.panic c) a w)
    (hS : S w.drew) (h : AlongL P ops Q S z plan a w.drew) : (Code.region id ops true).wp P Q a w := by
  have := alongL_sound z hs hQ plan _ _ _ hk he hS h
  rw [hl] at this
  exact wp_region_any hm (wpAny_of_last z _ _ _ _ this)
theorem alongL_done {z : Nat} {a : Act} {w : World} (h : Q .normal a w) : AlongL P ops Q S z [] a w := h
theorem alongL_take {i z : Nat} {r : List (Nat × Bool)} {a : Act} {w : World} {o : Oper} {v : Value} (ho : ops.toList[i]? = some o) (hw : Region.wanted o (yielded ops a.tmps) = true)
    (hy : ∀ W, S W → (execOp a.eval o).run P W = .ok (.value v) W) (h : AlongL P ops Q S z r (a.put o.dst v) w) : AlongL P ops Q S z ((i, true) :: r) a w :=
  ⟨o, v, at_of_list ho, .inl ⟨hw, hy⟩, h⟩
theorem alongL_step {i z : Nat} {r : List (Nat × Bool)} {a : Act} {w : World} {o : Oper} (ho : ops.toList[i]? = some o)
    (h : ∀ K' : Act → World → Prop, Shut (∀ a w, S w → AlongL P ops Q S z r a w → K' a w) → if Region.wanted o (yielded ops a.tmps) = true then Oper.wp P o a w K' Q else K' (a.put o.dst undef) w) : AlongL P ops Q S z ((i, false) :: r) a w :=
  wpOp_step (at_of_list ho) fun K' hK => h K' (fun a w hS hA => hK a w ⟨fun _ => hS, hA⟩)
/-- the last one -/
theorem alongL_last {z : Nat} {a : Act} {w : World} {o : Oper} (ho : ops.toList[z]? = some o)
    (h : ∀ K' : Act → World → Prop, Shut (∀ a w, Q .normal a w → K' a w) → if Region.wanted o (yielded ops a.tmps) = true then Oper.wp P o a w K' Q else K' (a.put o.dst undef) w) : AlongL P ops Q S z [(z, false)] a w :=
  wpOp_step (at_of_list ho) fun K' hK => h K' (fun a w hA => hK a w ⟨fun e => absurd rfl e, hA⟩)
end
end Go.Proofs.Ytbhdgfpaoghnbaa
/- A region that draws its order, with an operation that may come up beside others: a plan with forks. -/
namespace Go.Proofs.Ytbhdgfpaoghnbaa

/-- take i: operation i is taken; step i: it is the only one that may come up; fork i j: these two may come up, and each way has its own plan; trio: three -/
inductive Pl where
  | done
  | take (i : Nat) (r : Pl)
  | step (i : Nat) (r : Pl)
  | fork (i j : Nat) (r s : Pl)
  | trio (i j k : Nat) (r s t : Pl)
def Pl.len : Pl → Nat
  | done => 0
  | take _ r => r.len + 1
  | step _ r => r.len + 1
  | fork _ _ r _ => r.len + 1
  | trio _ _ _ r _ _ => r.len + 1
section
variable {P : Program} {ops : Array Oper} {Q : Exit → Act → World → Prop} {S : World → Prop}
def okFork (ops : Array Oper) (z : Nat) : Pl → Array Bool → Bool
  | .done, listed => (Region.ready .any ops listed).isEmpty
  | .take i r, listed => Region.free .any ops listed i && (Region.ready .any ops listed).contains i && ((ops[z]?).all fun oz => oz.after.toList.any fun e => Region.binds .any e && e.on == i) && okFork ops z r (listed.setIfInBounds i true)
  | .step i r, listed => (Region.ready .any ops listed == [i]) && okFork ops z r (listed.setIfInBounds i true)
  | .fork i j r s, listed => (Region.ready .any ops listed == [i, j]) && (s.len == r.len) && okFork ops z r (listed.setIfInBounds i true) && okFork ops z s (listed.setIfInBounds j true)
  | .trio i j k r s t, listed => (Region.ready .any ops listed == [i, j, k]) && (s.len == r.len) && (t.len == r.len) && okFork ops z r (listed.setIfInBounds i true) && okFork ops z s (listed.setIfInBounds j true) && okFork ops z t (listed.setIfInBounds k true)
def AlongF (P : Program) (ops : Array Oper) (Q : Exit → Act → World → Prop) (S : World → Prop) (z : Nat) : Pl → Act → World → Prop
  | .done, a, w => Q .normal a w
  | .take i r, a, w => ∃ o v, ops[i]? = some o ∧ YieldsIf P ops S o v a ∧ AlongF P ops Q S z r (a.put o.dst v) w
  | .step i r, a, w => wpOp P ops Q i (fun a' w' => (i ≠ z → S w') ∧ AlongF P ops Q S z r a' w') a w
  | .fork i j r s, a, w => wpOp P ops Q i (fun a' w' => S w' ∧ AlongF P ops Q S z r a' w') a w ∧ wpOp P ops Q j (fun a' w' => S w' ∧ AlongF P ops Q S z s a' w') a w
  | .trio i j k r s t, a, w => wpOp P ops Q i (fun a' w' => S w' ∧ AlongF P ops Q S z r a' w') a w ∧ wpOp P ops Q j (fun a' w' => S w' ∧ AlongF P ops Q S z s a' w') a w ∧ wpOp P ops Q k (fun a' w' => S w' ∧ AlongF P ops Q S z t a' w') a w
def endsF (z : Nat) : Pl → Bool
  | .done => true
  | .take i r => (i != z) && endsF z r
  | .step i r => (if i = z then r.len == 0 else endsF z r)
  | .fork i j r s => (i != z) && (j != z) && endsF z r && endsF z s
  | .trio i j k r s t => (i != z) && (j != z) && (k != z) && endsF z r && endsF z s && endsF z t
theorem Pl.none {r : Pl} (h : r.len = 0) : r = .done := by
  cases r with
  | done => rfl
  | take i r => simp [Pl.len] at h
  | step i r => simp [Pl.len] at h
  | fork i j r s => simp [Pl.len] at h
  | trio i j k r s t => simp [Pl.len] at h
theorem alongF_sound (z : Nat) (hs : Region.noSelect ops = true) (hQ : ∀ t v c a w, Q (.panic c) (Act.put a (some t) v) w → Q (.panic c) a w) :
    ∀ (r : Pl) (listed : Array Bool) (a : Act) (w : World), okFork ops z r listed = true → endsF z r = true → S w → AlongF P ops Q S z r a w → wpAnyL P .any ops Q S z r.len listed a w
  | .done, listed, a, w, hk, _, _, h => ⟨by simpa [okFork] using hk, h⟩
  | .take i r, listed, a, w, hk, he, hS, h => by
    obtain ⟨o, v, ho, hy, h⟩ := h
    simp only [okFork, Bool.and_eq_true] at hk
    obtain ⟨⟨⟨k1, k2⟩, k3⟩, k4⟩ := hk
    have he' : endsF z r = true := by
      simp only [endsF, Bool.and_eq_true] at he
      exact he.2
    refine wpAnyL_first ho (Region.noSelect_spec hs) (put_any_dst hQ _ _) (fun oz hoz => ?_) r.len listed a w (Region.free_spec ho k1) (by simpa using k2) hy hS (alongF_sound z hs hQ r _ _ _ k4 he' hS h)
    rw [hoz] at k3
    simp only [Option.all_some, List.any_eq_true, Bool.and_eq_true, beq_iff_eq] at k3
    obtain ⟨e, h1, h2, h3⟩ := k3
    exact ⟨e, by simpa using h1, h2, h3⟩
  | .step i r, listed, a, w, hk, he, hS, h => by
    simp only [okFork, Bool.and_eq_true, beq_iff_eq] at hk
    refine ⟨fun h0 => absurd (hk.1 ▸ h0) (by simp), hk.1 ▸ fun j hj => ?_⟩
    obtain rfl : j = i := by simpa using hj
    refine wpOp_mono (fun a' w' h' => ⟨h'.1, ?_⟩) h
    by_cases hiz : j = z
    · subst hiz
      have hr : r = .done := Pl.none (by simpa [endsF] using he)
      subst hr
      exact ⟨by simpa [okFork] using hk.2, h'.2⟩
    · exact alongF_sound z hs hQ r _ _ _ hk.2 (by simpa [endsF, hiz] using he) (h'.1 hiz) h'.2
  | .fork i j r s, listed, a, w, hk, he, hS, h => by
    simp only [okFork, Bool.and_eq_true, beq_iff_eq] at hk
    simp only [endsF, Bool.and_eq_true, bne_iff_ne] at he
    obtain ⟨⟨⟨k1, k2⟩, k3⟩, k4⟩ := hk
    obtain ⟨⟨⟨e1, e2⟩, e3⟩, e4⟩ := he
    refine ⟨fun h0 => absurd (k1 ▸ h0) (by simp), k1 ▸ fun l hl => ?_⟩
    rcases List.mem_cons.1 hl with rfl | hl
    · exact wpOp_mono (fun a' w' h' => ⟨fun _ => h'.1, alongF_sound z hs hQ r _ _ _ k3 e3 h'.1 h'.2⟩) h.1
    · obtain rfl : l = j := by simpa using hl
      refine wpOp_mono (fun a' w' h' => ⟨fun _ => h'.1, ?_⟩) h.2
      rw [← k2]
      exact alongF_sound z hs hQ s _ _ _ k4 e4 h'.1 h'.2
  | .trio i j k r s t, listed, a, w, hk, he, hS, h => by
    simp only [okFork, Bool.and_eq_true, beq_iff_eq] at hk
    simp only [endsF, Bool.and_eq_true, bne_iff_ne] at he
    obtain ⟨⟨⟨⟨⟨k1, k2⟩, k2'⟩, k3⟩, k4⟩, k5⟩ := hk
    obtain ⟨⟨⟨⟨⟨e1, e2⟩, e2'⟩, e3⟩, e4⟩, e5⟩ := he
    refine ⟨fun h0 => absurd (k1 ▸ h0) (by simp), k1 ▸ fun l hl => ?_⟩
    rcases List.mem_cons.1 hl with rfl | hl
    · exact wpOp_mono (fun a' w' h' => ⟨fun _ => h'.1, alongF_sound z hs hQ r _ _ _ k3 e3 h'.1 h'.2⟩) h.1
    · rcases List.mem_cons.1 hl with rfl | hl
      · refine wpOp_mono (fun a' w' h' => ⟨fun _ => h'.1, ?_⟩) h.2.1
        rw [← k2]
        exact alongF_sound z hs hQ s _ _ _ k4 e4 h'.1 h'.2
      · obtain rfl : l = k := by simpa using hl
        refine wpOp_mono (fun a' w' h' => ⟨fun _ => h'.1, ?_⟩) h.2.2
        rw [← k2']
        exact alongF_sound z hs hQ t _ _ _ k5 e5 h'.1 h'.2
theorem wp_region_fork {id : Nat} {a : Act} {w : World} (z : Nat) (plan : Pl) (hm : P.follows .mixedOrders = true) (hs : Region.noSelect ops = true) (hl : plan.len = ops.size)
    (hk : okFork ops z plan (Array.replicate ops.size false) = true) (he : endsF z plan = true) (hQ : ∀ t v c a w, Q (.panic c) (Act.put a (some t) v) w → Q (.panic c) a w)
    (hS : S w.drew) (h : AlongF P ops Q S z plan a w.drew) : (Code.region id ops true).wp P Q a w := by
  have := alongF_sound z hs hQ plan _ _ _ hk he hS h
  rw [hl] at this
  exact wp_region_any hm (wpAny_of_last z _ _ _ _ this)
theorem alongF_take {i z : Nat} {r : Pl} {a : Act} {w : World} {o : Oper} {v : Value} (ho : ops.toList[i]? = some o) (hw : Region.wanted o (yielded ops a.tmps) = true)
    (hy : ∀ W, S W → (execOp a.eval o).run P W = .ok (.value v) W) (h : AlongF P ops Q S z r (a.put o.dst v) w) : AlongF P ops Q S z (.take i r) a w :=
  ⟨o, v, at_of_list ho, .inl ⟨hw, hy⟩, h⟩
theorem alongF_step {i z : Nat} {r : Pl} {a : Act} {w : World} {o : Oper} (ho : ops.toList[i]? = some o)
    (h : ∀ K' : Act → World → Prop, Shut (∀ a w, S w → AlongF P ops Q S z r a w → K' a w) → if Region.wanted o (yielded ops a.tmps) = true then Oper.wp P o a w K' Q else K' (a.put o.dst undef) w) : AlongF P ops Q S z (.step i r) a w :=
  wpOp_step (at_of_list ho) fun K' hK => h K' (fun a w hS hA => hK a w ⟨fun _ => hS, hA⟩)
theorem alongF_last {z : Nat} {a : Act} {w : World} {o : Oper} (ho : ops.toList[z]? = some o)
    (h : ∀ K' : Act → World → Prop, Shut (∀ a w, Q .normal a w → K' a w) → if Region.wanted o (yielded ops a.tmps) = true then Oper.wp P o a w K' Q else K' (a.put o.dst undef) w) : AlongF P ops Q S z (.step z .done) a w :=
  wpOp_step (at_of_list ho) fun K' hK => h K' (fun a w hA => hK a w ⟨fun e => absurd rfl e, hA⟩)
theorem alongF_fork {i j z : Nat} {r s : Pl} {a : Act} {w : World} {o o' : Oper} (ho : ops.toList[i]? = some o) (ho' : ops.toList[j]? = some o')
    (h : ∀ K' : Act → World → Prop, Shut (∀ a w, S w → AlongF P ops Q S z r a w → K' a w) → if Region.wanted o (yielded ops a.tmps) = true then Oper.wp P o a w K' Q else K' (a.put o.dst undef) w)
    (h' : ∀ K' : Act → World → Prop, Shut (∀ a w, S w → AlongF P ops Q S z s a w → K' a w) → if Region.wanted o' (yielded ops a.tmps) = true then Oper.wp P o' a w K' Q else K' (a.put o'.dst undef) w) : AlongF P ops Q S z (.fork i j r s) a w :=
  ⟨wpOp_step (at_of_list ho) fun K' hK => h K' (fun a w hS hA => hK a w ⟨hS, hA⟩), wpOp_step (at_of_list ho') fun K' hK => h' K' (fun a w hS hA => hK a w ⟨hS, hA⟩)⟩
theorem alongF_trio {i j k z : Nat} {r s t : Pl} {a : Act} {w : World} {o o' o'' : Oper} (ho : ops.toList[i]? = some o) (ho' : ops.toList[j]? = some o') (ho'' : ops.toList[k]? = some o'')
    (h : ∀ K' : Act → World → Prop, Shut (∀ a w, S w → AlongF P ops Q S z r a w → K' a w) → if Region.wanted o (yielded ops a.tmps) = true then Oper.wp P o a w K' Q else K' (a.put o.dst undef) w)
    (h' : ∀ K' : Act → World → Prop, Shut (∀ a w, S w → AlongF P ops Q S z s a w → K' a w) → if Region.wanted o' (yielded ops a.tmps) = true then Oper.wp P o' a w K' Q else K' (a.put o'.dst undef) w)
    (h'' : ∀ K' : Act → World → Prop, Shut (∀ a w, S w → AlongF P ops Q S z t a w → K' a w) → if Region.wanted o'' (yielded ops a.tmps) = true then Oper.wp P o'' a w K' Q else K' (a.put o''.dst undef) w) : AlongF P ops Q S z (.trio i j k r s t) a w :=
  ⟨wpOp_step (at_of_list ho) fun K' hK => h K' (fun a w hS hA => hK a w ⟨hS, hA⟩), wpOp_step (at_of_list ho') fun K' hK => h' K' (fun a w hS hA => hK a w ⟨hS, hA⟩), wpOp_step (at_of_list ho'') fun K' hK => h'' K' (fun a w hS hA => hK a w ⟨hS, hA⟩)⟩
end
/-- a struct is stored whole, in a region that draws its order -/
theorem step_store_row {P : Program} {ty : TypeId} {cs cs' : Array Value} {ops : Array Oper} {o : Oper} {a : Act} {w : World} {K : Act → World → Prop} {Q : Exit → Act → World → Prop} {F : Prop} {x y : Operand} {g t : Nat} (hgd : o.guard = none) (hd : o.dst = none) (ho : o.op = .store ty x y) (hx : a.eval x = .pointer (some ⟨g, 0, none⟩)) (hy : a.eval y = .agg cs') (hg : Whole w g t cs)
    (hi : (P.info? ty).map (·.size) = some cs'.size) (hs : cs.size = cs'.size) (h1 : cs'.all (·.oneCell') = true) (h : K a (w.setRow g cs')) : if Region.wanted o (yielded ops a.tmps) = true then Oper.wp P o a w K Q else F := by
  have hw : Region.wanted o (yielded ops a.tmps) = true := by simp [Region.wanted, hgd]
  rw [if_pos hw]
  unfold Oper.wp execOp
  simp only [ho, hx, hy, Instr.storeAt, Instr.sureAddr, Sem.run_bind, Sem.run_pure, Result.andThen_ok, run_storeVar_row w g t ty cs cs' hg hi hs h1]
  unfold Oper.upon
  simp only
  try rw [hd]
  exact h
end Go.Proofs.Ytbhdgfpaoghnbaa
