/- Words for slices whose elements have two cells, of whatever kind. -/
import Derived.Test.YtpfeccbnkgnioaaDoorArr
import Derived.Test.YtpfeccbnkgnioaaDoorBase
import Derived.Test.YtpfeccbnkgnioaaDoorFrame
import Derived.Deep.SlicePairs
namespace Go.Proofs.YtpfeccbnkgnioaaDoor
open Go.ChangeShapes Go.WideShapes Go.ChangeAt Go.RowKit
set_option linter.unusedVariables false

section
variable {α : Type} (f : α → Value × Value)
/-- elements as cells -/
def two (l : List α) : List Value := l.flatMap fun x => [(f x).1, (f x).2]
theorem two_nil : two f [] = [] := rfl
theorem two_cons (x : α) (l : List α) : two f (x :: l) = (f x).1 :: (f x).2 :: two f l := rfl
theorem two_append (a b : List α) : two f (a ++ b) = two f a ++ two f b := by simp [two]
theorem two_length (l : List α) : (two f l).length = l.length * 2 := by
  induction l with
  | nil => rfl
  | cons x l ih => rw [two_cons]; simp [ih]; omega
theorem two_get : ∀ (l : List α) (i : Nat) (h : i < l.length), (two f l)[i * 2]? = some (f l[i]).1 ∧ (two f l)[i * 2 + 1]? = some (f l[i]).2
  | x :: l, 0, h => ⟨rfl, rfl⟩
  | x :: l, i + 1, h => by
    have := two_get l i (by simpa using h)
    rw [two_cons]
    rw [show (i + 1) * 2 = i * 2 + 1 + 1 by omega]
    simpa using this
/-- the slice with address A holds the elements l, in a block below B; nothing is said of A where l is empty -/
def Two (w : World) (B : Nat) (A : Option Addr) (l : List α) : Prop :=
  0 < l.length → ∃ b off, A = some ⟨b, off, none⟩ ∧ b < B ∧ ∀ i (h : i < l.length), w.cell? ⟨b, off + i * 2, none⟩ = some (f l[i]).1 ∧ w.cell? ⟨b, off + i * 2 + 1, none⟩ = some (f l[i]).2
/-- the value is a slice of the elements l -/
structure Sl (w : World) (B : Nat) (v : Value) (l : List α) : Prop where
  ex : ∃ A c, v = .slice A l.length c ∧ Two f w B A l ∧ l.length ≤ c ∧ c ≤ maxLen ∧ (A = none → c = 0)
variable {f} {w w' : World} {B B' : Nat} {A : Option Addr} {l : List α} {v : Value}
theorem Two.nil : Two f w B A ([] : List α) := fun h => absurd h (by simp)
theorem Two.at_ (h : Two f w B A l) {i : Nat} (hi : i < l.length) : ∃ b off, A = some ⟨b, off, none⟩ ∧ b < B ∧ w.cell? ⟨b, off + i * 2, none⟩ = some (f l[i]).1 ∧ w.cell? ⟨b, off + i * 2 + 1, none⟩ = some (f l[i]).2 := by
  obtain ⟨b, off, e, hb, hc⟩ := h (by omega)
  exact ⟨b, off, e, hb, hc i hi⟩
theorem Two.below (h : Two f w B A l) (hb : Below B w w') : Two f w' B A l := fun hl => by
  obtain ⟨b, off, e, hlt, hc⟩ := h hl
  exact ⟨b, off, e, hlt, fun i hi => by rw [hb.cell (p := ⟨b, off + i * 2, none⟩) hlt, hb.cell (p := ⟨b, off + i * 2 + 1, none⟩) hlt]; exact hc i hi⟩
theorem Two.more (h : Two f w B A l) (hB : B ≤ B') : Two f w B' A l := fun hl => by
  obtain ⟨b, off, e, hlt, hc⟩ := h hl
  exact ⟨b, off, e, by omega, hc⟩
theorem Two.lower (h : Two f w B A l) : Two f w (min B w.heap.size) A l := fun hl => by
  obtain ⟨b, off, e, hb, hc⟩ := h hl
  refine ⟨b, off, e, ?_, hc⟩
  have h0 := (hc 0 hl).1
  have hlt : b < w.heap.size := by
    rcases Nat.lt_or_ge b w.heap.size with h | h
    · exact h
    · simp [World.cell?, Array.getElem?_eq_none h] at h0
  omega
theorem Two.all (h : Two f w B A l) : Two f w w.heap.size A l := (h.lower).more (Nat.min_le_right _ _)
theorem Sl.below (h : Sl f w B v l) (hb : Below B w w') : Sl f w' B v l := by
  obtain ⟨A, c, h1, h2, h3⟩ := h.ex
  exact ⟨A, c, h1, h2.below hb, h3⟩
theorem Sl.more (h : Sl f w B v l) (hB : B ≤ B') : Sl f w B' v l := by
  obtain ⟨A, c, h1, h2, h3⟩ := h.ex
  exact ⟨A, c, h1, h2.more hB, h3⟩
theorem Sl.all (h : Sl f w B v l) : Sl f w w.heap.size v l := by
  obtain ⟨A, c, h1, h2, h3⟩ := h.ex
  exact ⟨A, c, h1, h2.all, h3⟩
/-- behind whatever leaves all blocks that are there -/
theorem Sl.kept (h : Sl f w B v l) (hb : Below w.heap.size w w') : Sl f w' w'.heap.size v l := (h.all.below hb).more hb.size
theorem Sl.empty (w : World) (B : Nat) : Sl f w B (.slice none 0 0) ([] : List α) := ⟨none, 0, rfl, Two.nil, Nat.le_refl _, by unfold maxLen; omega, fun _ => rfl⟩

theorem Two.of_own {base n c : Nat} {e : TypeId} (h : w.ownsRow base e 2 (.slice A n c) l.length (two f l)) : Two f w w.heap.size A l := by
  intro hl
  rcases h.2 with ⟨hv, hn⟩ | ⟨g, cap, cur, hv, hg, hh, hnc, hm, hs, ht⟩
  · omega
  · injection hv with hA _ _
    subst hA
    have hlt : g < w.heap.size := (Array.getElem?_eq_some_iff.1 hh).1
    refine ⟨g, 0, rfl, hlt, fun i hi => ?_⟩
    have hadd : ∀ j, (⟨g, 0, none⟩ : Addr).add j = ⟨g, 0 + j, none⟩ := fun j => by unfold Addr.add; split <;> simp_all
    have c0 := World.ownsRow.cells h (g := g) rfl (i * 2) _ (two_get f l i hi).1
    have c1 := World.ownsRow.cells h (g := g) rfl (i * 2 + 1) _ (two_get f l i hi).2
    rw [hadd] at c0 c1
    exact ⟨c0, c1⟩
theorem Sl.of_own {base : Nat} {e : TypeId} (h : w.ownsRow base e 2 v l.length (two f l)) : Sl f w w.heap.size v l := by
  have h0 := h
  rcases h.2 with ⟨hv, hn⟩ | ⟨g, cap, cur, hv, hg, hh, hnc, hm, hs, ht⟩
  · have : l = [] := List.eq_nil_of_length_eq_zero hn
    subst this hv
    exact Sl.empty _ _
  · subst hv
    exact ⟨_, cap, rfl, Two.of_own h0, hnc, hm, fun h => by cases h⟩
/-- the cells of a row of the call's own: where they lie -/
theorem own_two {base : Nat} {e : TypeId} (h : w.ownsRow base e 2 v l.length (two f l)) (hl : 0 < l.length) :
    ∃ g c cur, v = .slice (some ⟨g, 0, none⟩) l.length c ∧ base ≤ g ∧ l.length ≤ c ∧ c ≤ maxLen ∧ Whole w g e cur ∧ cur.toList.take (l.length * 2) = two f l := by
  rcases h.2 with ⟨hv, hn⟩ | ⟨g, cap, cur, hv, hg, hh, hnc, hm, hs, ht⟩
  · omega
  · exact ⟨g, cap, cur, hv, hg, hnc, hm, hh, ht⟩
end
theorem own2_below {w w' : World} {base n sz : Nat} {t : TypeId} {v : Value} {xs : List Value} (h : w.ownsRow base t sz v n xs) (hb : Below w.heap.size w w') : w'.ownsRow base t sz v n xs := by
  obtain ⟨h1, h2⟩ := h
  refine ⟨h1, ?_⟩
  rcases h2 with h2 | ⟨g, cap, cur, hv, hg, hh, r⟩
  · exact .inl h2
  · exact .inr ⟨g, cap, cur, hv, hg, by rw [hb.block g (Array.getElem?_eq_some_iff.1 hh).1]; exact hh, r⟩
theorem own2_lower {w : World} {base base' n sz : Nat} {t : TypeId} {v : Value} {xs : List Value} (h : w.ownsRow base t sz v n xs) (hb : base' ≤ base) : w.ownsRow base' t sz v n xs := by
  obtain ⟨h1, h2⟩ := h
  refine ⟨h1, ?_⟩
  rcases h2 with h2 | ⟨g, cap, cur, hv, hg, r⟩
  · exact .inl h2
  · exact .inr ⟨g, cap, cur, hv, by omega, r⟩

/-- T is a slice type over E, whose values are two cells each -/
structure ElemT2 (P : Program) (T E : TypeId) (z : Value) (bytes : Nat) : Prop where
  under : P.underlying T = some (.slice E)
  info : (P.info? E).map (fun i => (i.zero, i.size, i.bytes)) = some (some z, 2, bytes)
  two : z.cells.size = 2
  few : bytes ≤ 64
section
variable {P : Program} {T E : TypeId} {z : Value} {bytes : Nat} {α : Type} {f : α → Value × Value}
theorem run_append_two (hT : ElemT2 P T E z bytes) (hf : ∀ x, (f x).1.oneCell' = true ∧ (f x).2.oneCell' = true) {w : World} (ty base : Nat) (v : Value) (n : Nat) (xs : List Value) (hown : w.ownsRow base E 2 v n xs) {B : Nat} {A : Option Addr} {l : List α} (m c : Nat) (hm : l.length = m) (hc : A = none → c = 0)
    (hsee : Two f w B A l) (hn : n + m ≤ 1000000001001) (hbase : base ≤ w.heap.size) :
    ∃ v' w', (Builtin.append_ #[T, T] ty #[v, .slice A m c]).run P w = .ok v' w' ∧ w'.ownsRow base E 2 v' (n + m) (xs ++ two f l) ∧ w.grownBy w' v.ownBlock := by
  obtain ⟨i0, hi, hz0, hz1, hz2⟩ := info_parts hT.info
  have hfew := hT.few
  have hb : (n + m) * bytes ≤ 140737488355328 := Nat.le_trans (Nat.mul_le_mul hn hfew) (by omega)
  cases A with
  | none =>
    have h0 : l = [] := by
      rcases Nat.eq_zero_or_pos l.length with h | h
      · exact List.eq_nil_of_length_eq_zero h
      · obtain ⟨_, _, e, _⟩ := hsee h; cases e
    have hc0 := hc rfl
    subst h0 hc0
    have hm0 : m = 0 := by simpa using hm.symm
    subst hm0
    exact ⟨v, w, run_append_owned_none w base T ty E i0 2 hT.under hi v n xs hown, by simpa [two] using hown, World.grownBy.refl w _⟩
  | some ad =>
    have hlen := two_length f l
    have hnews : ∀ j u, (two f l)[j]? = some u → w.cell? (ad.add j) = some u := by
      intro j u hu
      have hj : j < (two f l).length := by
        rcases Nat.lt_or_ge j (two f l).length with h | h
        · exact h
        · rw [List.getElem?_eq_none h] at hu; cases hu
      obtain ⟨b, off, e, _, hcell⟩ := hsee (by omega)
      injection e with e
      subst e
      have ha : (⟨b, off, none⟩ : Addr).add j = ⟨b, off + j, none⟩ := by unfold Addr.add; split <;> simp_all
      rw [ha]
      obtain ⟨i, hij⟩ : ∃ i, j = i * 2 ∨ j = i * 2 + 1 := ⟨j / 2, by omega⟩
      have hi : i < l.length := by omega
      rcases hij with rfl | rfl
      · rw [(hcell i hi).1, ← (two_get f l i hi).1, hu]
      · rw [← Nat.add_assoc, (hcell i hi).2, ← (two_get f l i hi).2, hu]
    obtain ⟨v', w', h1, h2, h3, _⟩ := run_append_own_at (P := P) w base T ty E i0 z 2 bytes hT.under hi hz0 hz1 hz2 hT.two (by decide) v n xs hown ad m c (two f l) (by rw [hlen, hm]) hnews
      (fun u hu => by
        simp only [two, List.mem_flatMap] at hu
        obtain ⟨x, _, hx⟩ := hu
        simp at hx
        rcases hx with rfl | rfl
        · exact (hf x).1
        · exact (hf x).2) (by unfold maxLen; omega) hb hbase
    exact ⟨v', w', h1, h2, h3⟩
/-- 'append(s, x...)' in a plain walk -/
theorem wpList_append_two (hT : ElemT2 P T E z bytes) (hf : ∀ x, (f x).1.oneCell' = true ∧ (f x).2.oneCell' = true) {ops : Array Oper} {rest : List Oper} {o : Oper} {a : Act} {w : World} {Q : Exit → Act → World → Prop} (s x : Operand) (hgd : o.guard = none)
    (ho : o.op = .call { callee := .builtin .append, args := #[s, x], argTypes := #[T, T] }) (base : Nat) (v : Value) (n : Nat) (xs : List Value) (hs : a.eval s = v) (hown : w.ownsRow base E 2 v n xs) {B : Nat} {A : Option Addr} {l : List α} (m c : Nat)
    (hx : a.eval x = .slice A m c) (hm : l.length = m) (hc : A = none → c = 0) (hsee : Two f w B A l) (hn : n + m ≤ 1000000001001) (hbase : base ≤ w.heap.size)
    (h : ∀ v' w', w'.ownsRow base E 2 v' (n + m) (xs ++ two f l) → w.grownBy w' v.ownBlock → wpList P ops Q rest (a.put o.dst v') w') : wpList P ops Q (o :: rest) a w := by
  refine wpList_plain hgd fun K hK => ?_
  obtain ⟨v', w', hr, h2, h3⟩ := run_append_two hT hf (w := w) o.type base v n xs hown m c hm hc hsee hn hbase
  unfold Oper.wp execOp
  simp only [ho, resolve, invoke, builtin, Sem.run_bind, Sem.run_pure, Result.andThen_ok, List.map_toArray, List.map_cons, List.map_nil, hs, hx, hr]
  exact hK _ _ (h v' w' h2 h3)
end

/-! ### structs that are read and written as one value -/
section
variable {P : Program} {ty : TypeId} {fs : Array Field} {cs : Array Value} (hu : P.underlying ty = some (.struct fs)) (hi : (P.info? ty).map (·.size) = some cs.size)
include hu hi
theorem exec_load_struct {o : Oper} {a : Act} {W : World} {x : Operand} {g t : Nat} (ho : o.op = .load ty x) (hx : a.eval x = .pointer (some ⟨g, 0, none⟩)) (hg : Whole W g t cs) :
    (execOp a.eval o).run P W = .ok (.value (.agg cs)) W := by
  unfold execOp
  simp only [ho, hx, Instr.loadAt, Instr.sureAddr, Sem.run_bind, Sem.run_pure, Result.andThen_ok, run_loadVar_row W g t ty cs (0, 0) _ hg hu rfl hi]
theorem wpList_load_struct {ops : Array Oper} {rest : List Oper} {o : Oper} {a : Act} {w : World} {Q : Exit → Act → World → Prop} {x : Operand} {g t : Nat} (hgd : o.guard = none) (ho : o.op = .load ty x) (hx : a.eval x = .pointer (some ⟨g, 0, none⟩)) (hg : Whole w g t cs)
    (h : wpList P ops Q rest (a.put o.dst (.agg cs)) w) : wpList P ops Q (o :: rest) a w :=
  wpList_load_row hgd ty x ho g hx t cs (0, 0) _ hg hu rfl hi h
end

/-- a slice of structs of two one-cell fields, as an argument -/
theorem open_two {α : Type} {f : α → Value × Value} {ok : α → Prop} {H : Type} {enc : TypeId × Value → H} {P : Program} {w : World} {base : Nat} {spare : Nat → Bool} {held : Bool} {t e : TypeId} {f0 f1 : Field} {fuel : Nat} {cs : List Value} {x : DataW H × List MemPlace}
    (ht : P.underlying t = some (.slice e)) (he : P.underlying e = some (.struct #[f0, f1])) (ce : P.cellsOf e = 2) (o0 : f0.offset = 0) (o1 : f1.offset = 1) (c0 : P.cellsOf f0.type = 1) (c1 : P.cellsOf f1.type = 1)
    (hel : ∀ (n : Nat) (v0 v1 : Value) (x0 x1 : DataW H × List MemPlace), DataW.trod enc P w base spare held n f0.type [v0] = some x0 → DataW.trod enc P w base spare held n f1.type [v1] = some x1 → ∃ y, f y = (v0, v1) ∧ ok y)
    (hd : DataW.trod enc P w base spare held fuel t cs = some x) : ∃ v l, cs = [v] ∧ Sl f w w.heap.size v l ∧ ∀ y ∈ l, ok y := by
  rcases Go.Deep.open_slice_pairs ht he ce o0 o1 c0 c1 hd with ⟨hcs, _⟩ | ⟨a, len, cap, m, n, V0, V1, D0, D1, P0, P1, hcs, _, hl, hm, hmm, _, hx⟩
  · exact ⟨_, [], hcs, Sl.empty _ _, fun y hy => by cases hy⟩
  · have hlm : len ≤ m := by rw [hmm]; split <;> omega
    have each : ∀ i, i < len → ∃ y : α, f y = (V0 i, V1 i) ∧ ok y := fun i hi => by
      obtain ⟨_, _, h0, h1⟩ := hx i (by omega)
      exact hel _ _ _ _ _ h0 h1
    rcases Nat.eq_zero_or_pos len with h0 | h0
    · subst h0
      exact ⟨_, [], hcs, ⟨some a, cap, rfl, Two.nil, hl, hm, fun h => by cases h⟩, fun y hy => by cases hy⟩
    · obtain ⟨y0, _⟩ := each 0 h0
      haveI : Inhabited α := ⟨y0⟩
      obtain ⟨q, hq⟩ := Go.Deep.choose_lt each
      refine ⟨_, (List.range len).map q, hcs, ⟨some a, cap, by simp, ?_, by simpa using hl, hm, fun h => by cases h⟩, ?_⟩
      · intro _
        obtain ⟨b, off, spot⟩ := a
        have hc0 := (hx 0 (by omega)).1
        have hspot : spot = none := by simpa [Addr.add] using World.cell?_spot hc0
        subst hspot
        have ha : ∀ j, (⟨b, off, none⟩ : Addr).add j = ⟨b, off + j, none⟩ := fun j => by unfold Addr.add; split <;> simp_all
        have hb : b < w.heap.size := by
          rcases Nat.lt_or_ge b w.heap.size with h | h
          · exact h
          · rw [ha] at hc0; simp [World.cell?, Array.getElem?_eq_none h] at hc0
        refine ⟨b, off, rfl, hb, fun i hi => ?_⟩
        have hi : i < len := by simpa using hi
        obtain ⟨e0, e1, _, _⟩ := hx i (by omega)
        rw [ha] at e0 e1
        have hy := (hq i hi).1
        simp only [List.getElem_map, List.getElem_range, hy]
        exact ⟨e0, e1⟩
      · intro y hy
        obtain ⟨i, hi, rfl⟩ := List.mem_map.1 hy
        exact (hq i (List.mem_range.1 hi)).2
end Go.Proofs.YtpfeccbnkgnioaaDoor
