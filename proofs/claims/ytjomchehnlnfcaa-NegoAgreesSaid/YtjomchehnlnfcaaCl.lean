/- Slices of structs of any number of cells, in memory, as rows of the call's own, and as arguments. -/
import Derived.Test.YtjomchehnlnfcaaPA
import Derived.Test.YtjomchehnlnfcaaEach
namespace Go.Proofs.Ytjomchehnlnfcaa
open Go.RowKit Go.ChangeShapes Go.WideShapes
set_option linter.unusedVariables false
set_option linter.unusedSimpArgs false

section
variable {α : Type} (f : α → List Value) (k : Nat)
/-- the cells of the elements, one element behind the other -/
def rowsOf (l : List α) : List Value := l.flatMap f
theorem rowsOf_nil : rowsOf f [] = [] := rfl
theorem rowsOf_cons (x : α) (l : List α) : rowsOf f (x :: l) = f x ++ rowsOf f l := rfl
theorem rowsOf_append (a b : List α) : rowsOf f (a ++ b) = rowsOf f a ++ rowsOf f b := by simp [rowsOf]
theorem rowsOf_one (x : α) : rowsOf f [x] = f x := by simp [rowsOf]
variable {f k}
theorem rowsOf_length (hf : ∀ x, (f x).length = k) (l : List α) : (rowsOf f l).length = l.length * k := by
  induction l with
  | nil => simp [rowsOf]
  | cons x l ih => rw [rowsOf_cons, List.length_append, ih, hf, List.length_cons, Nat.add_mul, Nat.one_mul, Nat.add_comm]
theorem rowsOf_get (hf : ∀ x, (f x).length = k) : ∀ (l : List α) (i : Nat) (h : i < l.length) (j : Nat), j < k → (rowsOf f l)[i * k + j]? = (f l[i])[j]?
  | x :: l, 0, _, j, hj => by
    rw [rowsOf_cons, Nat.zero_mul, Nat.zero_add, List.getElem?_append_left (by rw [hf]; exact hj)]
    rfl
  | x :: l, i + 1, h, j, hj => by
    rw [rowsOf_cons, List.getElem?_append_right (by rw [hf, Nat.add_mul]; omega), hf, show (i + 1) * k + j - k = i * k + j by rw [Nat.add_mul]; omega, rowsOf_get hf l i (by simpa using h) j hj]
    rfl
variable (f k)
/-- the value is a slice of the elements -/
def Cl (w : World) (B : Nat) (v : Value) (l : List α) : Prop := ∃ A c, v = .slice A l.length c ∧ l.length ≤ c ∧ c ≤ maxLen ∧ (A = none → c = 0) ∧
  ∀ i (h : i < l.length), ∃ b off, A = some ⟨b, off, none⟩ ∧ b < B ∧ ∀ j, j < k → w.cell? ⟨b, off + i * k + j, none⟩ = (f l[i])[j]?
variable {f k} {w w' : World} {B B' : Nat} {v : Value} {l : List α}
theorem Cl.below (h : Cl f k w B v l) (hb : Below B w w') : Cl f k w' B v l := by
  obtain ⟨A, c, e, h1, h2, h3, h4⟩ := h
  refine ⟨A, c, e, h1, h2, h3, fun i hi => ?_⟩
  obtain ⟨b, off, e, hlt, hc⟩ := h4 i hi
  exact ⟨b, off, e, hlt, fun j hj => (hb.cell (p := ⟨b, off + i * k + j, none⟩) hlt).trans (hc j hj)⟩
theorem Cl.more (h : Cl f k w B v l) (hB : B ≤ B') : Cl f k w B' v l := by
  obtain ⟨A, c, e, h1, h2, h3, h4⟩ := h
  refine ⟨A, c, e, h1, h2, h3, fun i hi => ?_⟩
  obtain ⟨b, off, e, hlt, hc⟩ := h4 i hi
  exact ⟨b, off, e, by omega, hc⟩
theorem Cl.kept (h : Cl f k w w.heap.size v l) (hb : Below w.heap.size w w') : Cl f k w' w'.heap.size v l := (h.below hb).more hb.size
theorem Cl.nil (w : World) (B : Nat) : Cl f k w B (.slice none 0 0) [] := ⟨none, 0, rfl, Nat.le_refl _, by unfold maxLen; omega, fun _ => rfl, fun i h => by cases h⟩
theorem Cl.shape (h : Cl f k w B v l) : ∃ A c, v = .slice A l.length c ∧ l.length ≤ c ∧ c ≤ maxLen ∧ (A = none → c = 0) := by
  obtain ⟨A, c, e, h1, h2, h3, _⟩ := h
  exact ⟨A, c, e, h1, h2, h3⟩
/-- element i, in all worlds to come -/
theorem Cl.at_ {A : Option Addr} {n c : Nat} (h : Cl f k w B (.slice A n c) l) {i : Nat} (hi : i < l.length) : ∃ b off, A = some ⟨b, off, none⟩ ∧ b < B ∧ ∀ W, Below B w W → ∀ j, j < k → W.cell? ⟨b, off + i * k + j, none⟩ = (f l[i])[j]? := by
  obtain ⟨A', c', e, _, _, _, h4⟩ := h
  cases e
  obtain ⟨b, off, e, hlt, hc⟩ := h4 i hi
  exact ⟨b, off, e, hlt, fun W hW j hj => (hW.cell (p := ⟨b, off + i * k + j, none⟩) hlt).trans (hc j hj)⟩
theorem Cl.of_own (hf : ∀ x, (f x).length = k) {base : Nat} {t : TypeId} (h : w.ownsRow base t k v l.length (rowsOf f l)) : Cl f k w w.heap.size v l := by
  obtain ⟨A, c, rfl, h1, h2, h3, h4⟩ := own_look h
  refine ⟨A, c, rfl, h1, h2, h3, fun i hi => ?_⟩
  rcases Nat.eq_zero_or_pos k with h0 | h0
  · subst h0
    by_cases hA : A = none
    · have := h3 hA; omega
    · -- no cell at all
      rcases h.2 with ⟨hv, hn⟩ | ⟨g, cap, cur, hv, hg, hh, hnc, hm, hs, ht⟩
      · injection hv with e1 e2 e3; exact absurd e1 hA
      · injection hv with e1 e2 e3
        exact ⟨g, 0, e1, (Array.getElem?_eq_some_iff.1 hh).1, fun j hj => by omega⟩
  · have g0 : (f l[i])[0]? = some ((f l[i])[0]'(by rw [hf]; exact h0)) := List.getElem?_eq_getElem _
    obtain ⟨b, rfl, _, hlt, _⟩ := h4 (i * k + 0) _ ((rowsOf_get hf l i hi 0 h0).trans g0)
    refine ⟨b, 0, rfl, hlt, fun j hj => ?_⟩
    have gj : (f l[i])[j]? = some ((f l[i])[j]'(by rw [hf]; exact hj)) := List.getElem?_eq_getElem _
    obtain ⟨b', e, _, _, hc⟩ := h4 (i * k + j) _ ((rowsOf_get hf l i hi j hj).trans gj)
    cases e
    rw [gj, Nat.zero_add]
    exact hc
/-- a new block as what an append reads -/
theorem src_cells (w : World) (cs : Array Value) (E : TypeId) (fr : Nat × Nat) : Src (w.alloc (.cells cs E fr)) (some ⟨w.heap.size, 0, none⟩) cs.toList := fun j x hx => by
  refine ⟨_, _, rfl, ?_⟩
  simp only [World.cell?, World.alloc, Array.getElem?_push_size, Nat.zero_add]
  simpa using hx
/-- a slice of elements as what an append reads -/
theorem Cl.src (hf : ∀ x, (f x).length = k) {A : Option Addr} {n c : Nat} (h : Cl f k w B (.slice A n c) l) : Src w A (rowsOf f l) := fun j x hx => by
  have hj : j < l.length * k := by
    rw [← rowsOf_length hf]
    exact (List.getElem?_eq_some_iff.1 hx).1
  have hk : 0 < k := by
    rcases Nat.eq_zero_or_pos k with h0 | h0
    · subst h0; omega
    · exact h0
  have hi : j / k < l.length := (Nat.div_lt_iff_lt_mul hk).2 hj
  obtain ⟨b, off, e, _, hc⟩ := h.at_ hi
  have hm := Nat.mod_lt j hk
  have hd : j / k * k + j % k = j := by rw [Nat.mul_comm]; exact Nat.div_add_mod j k
  refine ⟨b, off, e, ?_⟩
  have := hc w (Below.refl _ _) (j % k) hm
  rw [Nat.add_assoc, hd, ← rowsOf_get hf l _ hi _ hm, hd] at this
  rw [this]
  exact hx
end
/-- an argument that is a slice of structs -/
theorem open_cl {α : Type} {f : α → List Value} {k : Nat} (hk : 0 < k) {ok : α → Prop} {H : Type} {enc : TypeId × Value → H} {P : Program} {w : World} {base : Nat} {held : Bool} {fuel : Nat} {t e : TypeId} {cs : List Value} {x : DataW H × List MemPlace}
    (ht : P.underlying t = some (.slice e)) (ce : P.cellsOf e = k) (hel : ∀ (n : Nat) (cs : List Value) (y : DataW H × List MemPlace), cs.length = k → DataW.trod enc P w base (fun _ => true) held n e cs = some y → ∃ z, cs = f z ∧ ok z) (ha : α)
    (h : DataW.trod enc P w base (fun _ => true) held fuel t cs = some x) : ∃ v l, cs = [v] ∧ Cl f k w w.heap.size v l ∧ ∀ z ∈ l, ok z := by
  rcases open_each ht h with rfl | ⟨a, len, cap, n, _, rfl, hl, hm, hx⟩
  · exact ⟨_, [], rfl, Cl.nil _ _, fun z hz => by cases hz⟩
  · rw [ce] at hx
    have each : ∀ i, i < len → ∃ z : α, (∀ j, j < k → w.cell? ((a.add (i * k)).add j) = (f z)[j]?) ∧ ok z := fun i hi => by
      obtain ⟨cs', y, h1, h2⟩ := hx i hi
      obtain ⟨_, hlen, hcell⟩ := World.cells?_some h1
      obtain ⟨z, rfl, h3⟩ := hel _ _ _ hlen h2
      exact ⟨z, fun j hj => by rw [hcell j hj], h3⟩
    haveI : Inhabited α := ⟨ha⟩
    obtain ⟨q, hq⟩ := Go.Deep.choose_lt each
    refine ⟨_, (List.range len).map q, rfl, ⟨some a, cap, by simp, by simpa using hl, hm, (fun h => by cases h), fun i hi => ?_⟩, fun z hz => ?_⟩
    · have hi' : i < len := by simpa using hi
      have hlenf : ∀ i, i < len → ∃ u, (f (q i))[0]? = some u := fun i hi => by
        obtain ⟨cs', y, h1, h2⟩ := hx i hi
        obtain ⟨_, hlen, hcell⟩ := World.cells?_some h1
        have h3 := (hq i hi).1 0 hk
        rw [hcell 0 hk] at h3
        exact ⟨_, h3.symm.trans (List.getElem?_eq_getElem (by rw [hlen]; exact hk))⟩
      obtain ⟨u, hu⟩ := hlenf i hi'
      have h0 := ((hq i hi').1 0 hk).trans hu
      obtain ⟨b0, off0, e0, hb0⟩ := spot_of h0
      obtain ⟨b, off, spot⟩ := a
      have hsp : spot = none := by
        obtain ⟨u', hu'⟩ := hlenf 0 (by omega)
        have hz := ((hq 0 (by omega)).1 0 hk).trans hu'
        rw [Go.Deep.add_add] at hz
        simpa [Addr.add] using World.cell?_spot hz
      subst hsp
      rw [add_plain, add_plain] at e0
      injection e0 with e1 _ _
      subst e1
      refine ⟨b, off, rfl, hb0, fun j hj => ?_⟩
      have := (hq i hi').1 j hj
      rw [add_plain, add_plain] at this
      simpa using this
    · obtain ⟨i, hi, rfl⟩ := List.mem_map.1 hz
      exact (hq i (List.mem_range.1 hi)).2
end Go.Proofs.Ytjomchehnlnfcaa
