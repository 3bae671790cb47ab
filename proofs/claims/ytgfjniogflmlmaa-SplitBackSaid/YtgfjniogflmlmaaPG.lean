/- Texts Bl, Each, Opb, Gr, Gv, in one. -/
import Derived.Test.YtgfjniogflmlmaaPA
import Derived.Test.YtgfjniogflmlmaaPC
import Derived.Deep.Slices
import Derived.Test.YtgfjniogflmlmaaPK
/- Slices of slices of bytes: as they are read, and as rows of the call's own. -/
namespace Go.Proofs.Ytgfjniogflmlmaa
open Go.RowKit
set_option linter.unusedVariables false
set_option maxRecDepth 100000

theorem rowsT : Try.prog.underlying 33 = some (.slice 30) := Try.underlying33
theorem rowsI : (Try.prog.info? 30).map (fun i => (i.zero, i.size, i.bytes)) = some (some (.slice none 0 0), 1, 24) := by kernel_rfl

theorem one_slice (A : Option Addr) (n c : Nat) : ∀ u ∈ [Value.slice A n c], u.oneCell' = true := fun u hu => by
  simp at hu
  subst hu
  rfl
/-- bytes that are read, in a block that meets P -/
def Bq (w : World) (P : Nat → Prop) (v : Value) (l : List Nat) : Prop :=
  ∃ A c, v = .slice A l.length c ∧ (0 < l.length → ∃ b off, A = some ⟨b, off, none⟩ ∧ P b ∧ ∀ i, i < l.length → w.cell? ⟨b, off + i, none⟩ = some (.int .u8 ((l.getD i 0 : Nat) : Int))) ∧ (A = none → c = 0) ∧ l.length ≤ c ∧ c ≤ maxLen
theorem Bq.keep {w w' : World} {P P' : Nat → Prop} {v : Value} {l : List Nat} (h : Bq w P v l) (hk : ∀ b, P b → b < w.heap.size → w'.heap[b]? = w.heap[b]? ∧ P' b) : Bq w' P' v l := by
  obtain ⟨A, c, e, h1, h2, h3, h4⟩ := h
  refine ⟨A, c, e, fun hl => ?_, h2, h3, h4⟩
  obtain ⟨b, off, e1, hP, hc⟩ := h1 hl
  obtain ⟨k1, k2⟩ := hk b hP (cell_lt (hc 0 hl))
  exact ⟨b, off, e1, k2, fun i hi => by rw [← hc i hi]; exact World.cell?_of_block (w := w) k1⟩
theorem Bq.piece {w : World} {P : Nat → Prop} {v : Value} {l : List Nat} (h : Bq w P v l) {B : Nat} (hB : ∀ b, P b → b < w.heap.size → b < B) : Piece w B v l := by
  obtain ⟨A, c, e, h1, h2, h3, h4⟩ := h
  refine ⟨A, c, e, fun hl => ?_, h2, h3, h4⟩
  obtain ⟨b, off, e1, hP, hc⟩ := h1 hl
  exact ⟨b, off, e1, hB b hP (cell_lt (hc 0 hl)), hc⟩
theorem Bq.any {w : World} {P : Nat → Prop} {v : Value} {l : List Nat} (h : Bq w P v l) : Piece w w.heap.size v l := h.piece (fun _ _ h => h)
theorem Piece.bq {w : World} {B : Nat} {v : Value} {l : List Nat} (h : Piece w B v l) : Bq w (· < B) v l := by
  obtain ⟨A, c, e, h1, h2, h3, h4⟩ := h
  exact ⟨A, c, e, h1, h2, h3, h4⟩
theorem Bq.own {w : World} {base : Nat} {v : Value} {l : List Nat} (h : w.ownsRow base 5 1 v l.length (ints .u8 l)) : Bq w (fun b => base ≤ b) v l := by
  obtain ⟨A, c, rfl, h1, h2, h3, h4⟩ := own_look h
  refine ⟨A, c, rfl, fun hl => ?_, h3, h1, h2⟩
  obtain ⟨b, e, hb, _, _⟩ := h4 0 _ (ints_get .u8 l 0 hl)
  refine ⟨b, 0, e, hb, fun i hi => ?_⟩
  obtain ⟨b', e', _, _, hc⟩ := h4 i _ (ints_get .u8 l i hi)
  rw [e] at e'
  cases e'
  rw [Nat.zero_add]
  exact hc
/-- a slice of byte slices -/
def Bl (w : World) (B : Nat) (v : Value) (ls : List (List Nat)) : Prop :=
  ∃ A c, ∃ L : List (Value × List Nat), v = .slice A L.length c ∧ L.map (·.2) = ls ∧ L.length ≤ c ∧ c ≤ maxLen ∧ (A = none → c = 0) ∧
    ∀ i (h : i < L.length), ∃ b off, A = some ⟨b, off, none⟩ ∧ b < B ∧ w.cell? ⟨b, off + i, none⟩ = some L[i].1 ∧ Piece w B L[i].1 L[i].2
theorem Bl.below {w w' : World} {B : Nat} {v : Value} {ls : List (List Nat)} (h : Bl w B v ls) (hb : Below B w w') : Bl w' B v ls := by
  obtain ⟨A, c, L, e, h1, h2, h3, h4, h5⟩ := h
  refine ⟨A, c, L, e, h1, h2, h3, h4, fun i hi => ?_⟩
  obtain ⟨b, off, k1, k2, k3, k4⟩ := h5 i hi
  exact ⟨b, off, k1, k2, (hb.cell k2).trans k3, k4.below hb⟩
theorem Bl.more {w : World} {B B' : Nat} {v : Value} {ls : List (List Nat)} (h : Bl w B v ls) (hB : B ≤ B') : Bl w B' v ls := by
  obtain ⟨A, c, L, e, h1, h2, h3, h4, h5⟩ := h
  refine ⟨A, c, L, e, h1, h2, h3, h4, fun i hi => ?_⟩
  obtain ⟨b, off, k1, k2, k3, k4⟩ := h5 i hi
  exact ⟨b, off, k1, by omega, k3, k4.more hB⟩
theorem Bl.kept {w w' : World} {v : Value} {ls : List (List Nat)} (h : Bl w w.heap.size v ls) (hb : Below w.heap.size w w') : Bl w' w'.heap.size v ls := (h.below hb).more hb.size
theorem Bl.nil (w : World) (B : Nat) : Bl w B (.slice none 0 0) [] := ⟨none, 0, [], rfl, rfl, Nat.le_refl _, by unfold maxLen; omega, fun _ => rfl, fun i h => by cases h⟩
/-- how it looks -/
theorem Bl.shape {w : World} {B : Nat} {v : Value} {ls : List (List Nat)} (h : Bl w B v ls) : ∃ A c, v = .slice A ls.length c ∧ ls.length ≤ c ∧ c ≤ maxLen ∧ (A = none → c = 0) := by
  obtain ⟨A, c, L, e, rfl, h2, h3, h4, h5⟩ := h
  exact ⟨A, c, by rw [e]; simp, by simpa using h2, h3, h4⟩
/-- an element -/
theorem Bl.at_ {w : World} {B : Nat} {A : Option Addr} {n c : Nat} {ls : List (List Nat)} (h : Bl w B (.slice A n c) ls) {i : Nat} (hi : i < ls.length) : ∃ b off u, A = some ⟨b, off, none⟩ ∧ b < B ∧ w.cell? ⟨b, off + i, none⟩ = some u ∧ Piece w B u ls[i] := by
  obtain ⟨A', c', L, e, rfl, h2, h3, h4, h5⟩ := h
  injection e with e1 _ _
  subst e1
  have hi' : i < L.length := by simpa using hi
  obtain ⟨b, off, k1, k2, k3, k4⟩ := h5 i hi'
  exact ⟨b, off, L[i].1, k1, k2, k3, by simpa using k4⟩
/-- an element, in all worlds to come -/
theorem Bl.all_ {w : World} {B : Nat} {A : Option Addr} {n c : Nat} {ls : List (List Nat)} (h : Bl w B (.slice A n c) ls) {i : Nat} (hi : i < ls.length) : ∃ b off u, A = some ⟨b, off, none⟩ ∧ b < B ∧ ∀ W, Below B w W → W.cell? ⟨b, off + i, none⟩ = some u ∧ Piece W B u ls[i] := by
  obtain ⟨b, off, u, e, hb, hc, hp⟩ := h.at_ hi
  exact ⟨b, off, u, e, hb, fun W hW => ⟨(hW.cell (p := ⟨b, off + i, none⟩) hb).trans hc, hp.below hW⟩⟩
/-- the first ones -/
theorem Bl.take {w : World} {B : Nat} {A : Option Addr} {n c : Nat} {ls : List (List Nat)} (h : Bl w B (.slice A n c) ls) (k : Nat) (hk : k ≤ ls.length) : Bl w B (.slice A k c) (ls.take k) := by
  obtain ⟨A', c', L, e, rfl, h2, h3, h4, h5⟩ := h
  injection e with e1 e2 e3
  subst e1 e3
  have hk' : k ≤ L.length := by simpa using hk
  refine ⟨A, c, L.take k, by rw [List.length_take, Nat.min_eq_left hk'], by rw [List.map_take], by rw [List.length_take]; omega, h3, h4, fun i hi => ?_⟩
  rw [List.length_take] at hi
  obtain ⟨b, off, k1, k2, k3, k4⟩ := h5 i (by omega)
  exact ⟨b, off, k1, k2, by rw [List.getElem_take]; exact k3, by rw [List.getElem_take]; exact k4⟩
/-! ### rows of the call's own -/
/-- the blocks that may hold elements of a row v -/
def Apart (base : Nat) (v : Value) (b : Nat) : Prop := base ≤ b ∧ v.ownBlock ≠ some b
/-- a row of the call's own, of pieces that are the call's own -/
structure BoAt (w : World) (base : Nat) (v : Value) (L : List (Value × List Nat)) : Prop where
  own : w.ownsRow base 30 1 v L.length (L.map (·.1))
  each : ∀ x ∈ L, Bq w (Apart base v) x.1 x.2
def Bo (w : World) (base : Nat) (v : Value) (ls : List (List Nat)) : Prop := ∃ L, L.map (·.2) = ls ∧ BoAt w base v L
theorem BoAt.nil (w : World) (base : Nat) : BoAt w base (.slice none 0 0) [] := ⟨World.ownsRow_nil w base 30 1, fun x hx => by cases hx⟩
theorem BoAt.below {w w' : World} {base : Nat} {v : Value} {L : List (Value × List Nat)} (h : BoAt w base v L) (hb : Below w.heap.size w w') : BoAt w' base v L :=
  ⟨own_below h.own hb, fun x hx => (h.each x hx).keep (fun b hP hlt => ⟨hb.block b hlt, hP⟩)⟩
theorem BoAt.one {w : World} {base : Nat} {v : Value} {L : List (Value × List Nat)} (h : BoAt w base v L) : ∀ u ∈ L.map (·.1), u.oneCell' = true := fun u hu => by
  obtain ⟨x, hx, rfl⟩ := List.mem_map.1 hu
  obtain ⟨A, c, e, _⟩ := h.each x hx
  rw [e]; rfl
theorem BoAt.bl {w : World} {base : Nat} {v : Value} {L : List (Value × List Nat)} (h : BoAt w base v L) : Bl w w.heap.size v (L.map (·.2)) := by
  obtain ⟨A, c, rfl, h1, h2, h3, h4⟩ := own_look h.own
  refine ⟨A, c, L, rfl, rfl, h1, h2, h3, fun i hi => ?_⟩
  obtain ⟨b, e, hb, hlt, hc⟩ := h4 i L[i].1 (by simp [List.getElem?_eq_getElem hi])
  exact ⟨b, 0, e, hlt, by rw [Nat.zero_add]; exact hc, (h.each _ (List.getElem_mem hi)).any⟩
theorem Bo.bl {w : World} {base : Nat} {v : Value} {ls : List (List Nat)} (h : Bo w base v ls) : Bl w w.heap.size v ls := by
  obtain ⟨L, rfl, h⟩ := h
  exact h.bl
theorem Bo.below {w w' : World} {base : Nat} {v : Value} {ls : List (List Nat)} (h : Bo w base v ls) (hb : Below w.heap.size w w') : Bo w' base v ls := by
  obtain ⟨L, e, h⟩ := h
  exact ⟨L, e, h.below hb⟩
theorem Bo.nil (w : World) (base : Nat) : Bo w base (.slice none 0 0) [] := ⟨[], rfl, BoAt.nil w base⟩
theorem own_lower1 {w : World} {base base' n sz : Nat} {t : TypeId} {v : Value} {xs : List Value} (h : w.ownsRow base t sz v n xs) (hb : base' ≤ base) : w.ownsRow base' t sz v n xs := by
  obtain ⟨h1, h2⟩ := h
  refine ⟨h1, ?_⟩
  rcases h2 with h2 | ⟨g, cap, cur, hv, hg, r⟩
  · exact .inl h2
  · exact .inr ⟨g, cap, cur, hv, by omega, r⟩
theorem Bo.lower {w : World} {base base' : Nat} {v : Value} {ls : List (List Nat)} (h : Bo w base v ls) (hb : base' ≤ base) : Bo w base' v ls := by
  obtain ⟨L, e, h⟩ := h
  exact ⟨L, e, own_lower1 h.own hb, fun x hx => (h.each x hx).keep (fun b hP _ => ⟨rfl, by have := hP.1; omega, hP.2⟩)⟩
/-- one more behind the row -/
theorem BoAt.snoc {w w2 w3 : World} {base : Nat} {v v' u : Value} {L : List (Value × List Nat)} {l : List Nat} (h : BoAt w base v L) (hb : Below w.heap.size w w2) (hu : Bq w2 (fun b => w.heap.size ≤ b) u l) (hbase : base ≤ w.heap.size)
    (ho : w3.ownsRow base 30 1 v' (L.length + 1) (L.map (·.1) ++ [u])) (hg : w2.grownBy w3 v.ownBlock) (hv : v'.ownBlock = v.ownBlock ∨ v'.ownBlock = some w2.heap.size) : BoAt w3 base v' (L ++ [(u, l)]) := by
  have hz := hb.size
  refine ⟨by simpa using ho, fun x hx => ?_⟩
  rcases List.mem_append.1 hx with hx | hx
  · refine (h.each x hx).keep (fun b hP hlt => ⟨?_, hP.1, ?_⟩)
    · rw [hg.block b (by omega) (fun e => hP.2 e.symm), hb.block b hlt]
    · rcases hv with e | e
      · rw [e]; exact hP.2
      · rw [e]; intro q; injection q with q; omega
  · obtain rfl : x = (u, l) := by simpa using hx
    have hvb : ∀ k, v.ownBlock = some k → k < w.heap.size := fun k hk => (h.own.lt k hk).2
    refine hu.keep (fun b hP hlt => ⟨hg.block b hlt (fun e => ?_), by omega, fun e => ?_⟩)
    · have := hvb b e.symm; omega
    · rcases hv with q | q
      · rw [q] at e; have := hvb b e; omega
      · rw [q] at e; injection e with e; omega
theorem BoAt.size {w : World} {base : Nat} {v : Value} {L : List (Value × List Nat)} (h : BoAt w base v L) : ∃ A c, v = .slice A L.length c ∧ L.length ≤ c ∧ c ≤ maxLen ∧ (A = none → c = 0) := by
  obtain ⟨A, c, e, h1, h2, h3, _⟩ := own_look h.own
  exact ⟨A, c, e, h1, h2, h3⟩
end Go.Proofs.Ytgfjniogflmlmaa
/- An argument that is a slice, element by element. -/
namespace Go.Proofs.Ytgfjniogflmlmaa
open Go.RowKit Go.ChangeShapes Go.WideShapes
set_option linter.unusedVariables false
set_option maxRecDepth 100000

section
variable {H : Type} {enc : TypeId × Value → H} {w : World} {base : Nat} {spare : Nat → Bool} {held : Bool}
theorem open_each {P : Program} {t e : TypeId} {fuel : Nat} {cs : List Value} {x : DataW H × List MemPlace} (ht : P.underlying t = some (.slice e)) (h : DataW.trod enc P w base spare held fuel t cs = some x) :
    cs = [.slice none 0 0] ∨ ∃ (a : Addr) (len cap n : Nat), fuel = n + 1 ∧ cs = [.slice (some a) len cap] ∧ len ≤ cap ∧ cap ≤ maxLen ∧ ∀ i, i < len → ∃ cs' y, w.cells? base (a.add (i * P.cellsOf e)) (P.cellsOf e) = some cs' ∧ DataW.trod enc P w base spare held n e cs' = some y := by
  rcases DataW.trod_slice ht h with h0 | ⟨a, len, cap, elems, rest, n, hf, rfl, rfl, hb, hl, hm, hlen, hel, hsp, hns⟩
  · exact .inl h0.1
  · refine .inr ⟨a, len, cap, n, hf, rfl, hl, hm, fun i hi => ?_⟩
    have h1 := hel i hi
    rw [List.getElem?_eq_getElem (by omega)] at h1
    obtain ⟨cs', h2, h3⟩ := Option.bind_eq_some_iff.1 h1
    exact ⟨cs', _, h2, h3⟩
theorem spot_of {a : Addr} {v : Value} (h : w.cell? a = some v) : ∃ b off, a = ⟨b, off, none⟩ ∧ b < w.heap.size := by
  obtain ⟨b, off, spot⟩ := a
  have hs : spot = none := by simpa using World.cell?_spot h
  subst hs
  refine ⟨b, off, rfl, ?_⟩
  rcases Nat.lt_or_ge b w.heap.size with h1 | h1
  · exact h1
  · simp [World.cell?, Array.getElem?_eq_none h1] at h
theorem add_plain (b off j : Nat) : (⟨b, off, none⟩ : Addr).add j = ⟨b, off + j, none⟩ := by unfold Addr.add; split <;> simp_all
end
/-- a field of a struct that is read -/
theorem each_field {H : Type} {enc : TypeId × Value → H} {P : Program} {w : World} {base : Nat} {spare : Nat → Bool} {held : Bool} {n : Nat} {fs : Array Field} {cs : List Value} {xs : List (DataW H × List MemPlace)}
    (hx : ∀ (i : Nat) (f : Field), fs[i]? = some f → DataW.trod enc P w base spare held n f.type ((cs.drop f.offset).take (P.cellsOf f.type)) = xs[i]?) (i : Nat) (f : Field) (hi : fs[i]? = some f) (ty off c : Nat) (h1 : f.type = ty) (h2 : f.offset = off) (h3 : P.cellsOf ty = c) :
    DataW.trod enc P w base spare held n ty ((cs.drop off).take c) = xs[i]? := by
  subst h1 h2 h3
  exact hx i f hi
end Go.Proofs.Ytgfjniogflmlmaa
/- An argument that is a slice of byte slices. -/
namespace Go.Proofs.Ytgfjniogflmlmaa
open Go.RowKit Go.ChangeShapes Go.WideShapes
set_option linter.unusedVariables false
set_option maxRecDepth 100000

theorem open_piece {H : Type} {enc : TypeId × Value → H} {w : World} {base : Nat} {held : Bool} {fuel : Nat} {cs : List Value} {x : DataW H × List MemPlace} (h : DataW.trod enc Try.prog w base (fun _ => true) held fuel 30 cs = some x) :
    ∃ v l, cs = [v] ∧ Piece w w.heap.size v l ∧ ∀ y ∈ l, y < 256 := by
  rcases open_ints Try.underlying30 Try.underlying5 (by kernel_rfl) h with ⟨hcs, _⟩ | ⟨x, l, c, zs, hcs, _, hl, hm, hz, _, hcell, hwz⟩
  · exact ⟨_, [], hcs, Piece.nil _ _, fun y hy => by cases hy⟩
  · have R : Row .u8 w (some x) l c ((zs.take l).map Int.toNat) := row_of (fun _ h => (bounds_u8 h).1) hl hm (by simpa using hz) hcell hwz
    obtain ⟨h1, _, h2⟩ := row_piece R
    exact ⟨_, _, hcs, h1, h2⟩
theorem open_pieces {H : Type} {enc : TypeId × Value → H} {w : World} {base : Nat} {held : Bool} {fuel : Nat} {cs : List Value} {x : DataW H × List MemPlace} (h : DataW.trod enc Try.prog w base (fun _ => true) held fuel 33 cs = some x) :
    ∃ v ls, cs = [v] ∧ Bl w w.heap.size v ls ∧ ∀ l ∈ ls, ∀ y ∈ l, y < 256 := by
  rcases open_each Try.underlying33 h with rfl | ⟨a, len, cap, n, _, rfl, hl, hm, hx⟩
  · exact ⟨_, [], rfl, Bl.nil _ _, fun l hl => by cases hl⟩
  · rw [show Try.prog.cellsOf 30 = 1 by kernel_rfl] at hx
    have each : ∀ i, i < len → ∃ u : Value × List Nat, w.cell? (a.add i) = some u.1 ∧ Piece w w.heap.size u.1 u.2 ∧ ∀ y ∈ u.2, y < 256 := fun i hi => by
      obtain ⟨cs', y, h1, h2⟩ := hx i hi
      obtain ⟨v, l, rfl, h3, h4⟩ := open_piece h2
      rw [Nat.mul_one] at h1
      exact ⟨(v, l), cell_of_cells?_one h1, h3, h4⟩
    haveI : Inhabited (Value × List Nat) := ⟨(.bool false, [])⟩
    obtain ⟨q, hq⟩ := Go.Deep.choose_lt each
    refine ⟨_, ((List.range len).map q).map (·.2), rfl, ⟨some a, cap, (List.range len).map q, by simp, rfl, by simpa using hl, hm, (fun h => by cases h), ?_⟩, ?_⟩
    · intro i hi
      have hi' : i < len := by simpa using hi
      have h0 := (hq i hi').1
      obtain ⟨b0, off0, e0, hb0⟩ := spot_of h0
      obtain ⟨b, off, spot⟩ := a
      have : spot = none := by simpa [Addr.add] using World.cell?_spot (hq 0 (by omega)).1
      subst this
      rw [add_plain] at h0 e0
      injection e0 with e1 _ _
      subst e1
      exact ⟨b, off, rfl, hb0, by simpa using h0, by simpa using (hq i hi').2.1⟩
    · intro l hl y hy
      obtain ⟨u, hu, rfl⟩ := List.mem_map.1 hl
      obtain ⟨i, hi, rfl⟩ := List.mem_map.1 hu
      exact (hq i (List.mem_range.1 hi)).2.2 y hy
/-- the argument itself -/
theorem open_rows {H : Type} {enc : TypeId × Value → H} {w : World} {base : Nat} {held : Bool} {r : Reach} {b0 : Nat} {v : Value} {d : DataW H} {ps : List MemPlace}
    (hv : Value.okWide Try.prog w r b0 33 v) (hd : DataW.Trod enc Try.prog w base (fun _ => true) held 33 v d ps) : ∃ ls, Bl w w.heap.size v ls ∧ ∀ l ∈ ls, ∀ y ∈ l, y < 256 := by
  obtain ⟨a, len, cap, rfl⟩ := okWide_slice Try.underlying33 hv
  obtain ⟨fuel, hf⟩ := hd
  obtain ⟨v, ls, hcs, h1, h2⟩ := open_pieces hf
  have : v = .slice a len cap := by simpa [Value.cells] using hcs.symm
  subst this
  exact ⟨ls, h1, h2⟩
end Go.Proofs.Ytgfjniogflmlmaa
/- Plain mathematics of layer 18: datagrams. -/
namespace Go.Proofs.Ytgfjniogflmlmaa
set_option linter.unusedVariables false
/-- a datagram -/
structure Gd where
  kind : Nat
  version : Nat
  epoch : Nat
  id : Nat
  index : Nat
  count : Nat
  body : List Nat
deriving DecidableEq
structure Gd.Ok (g : Gd) : Prop where
  kind : g.kind < 256
  version : g.version < 256
  epoch : g.epoch < 4294967296
  id : g.id < 4294967296
  index : g.index < 65536
  count : g.count < 65536
  body : ∀ x ∈ g.body, x < 256
namespace Gr
def zero : Gd := ⟨0, 0, 0, 0, 0, 0, []⟩
theorem ok_zero : zero.Ok := ⟨by decide, by decide, by decide, by decide, by decide, by decide, fun x hx => by cases hx⟩
def right (g : Gd) : Nat := if g.kind < 1 ∨ 2 < g.kind then 9 else if g.count = 0 ∨ g.count ≤ g.index then 1 else if 65487 < g.body.length then 5 else 0
theorem right_kind {g : Gd} (h : g.kind < 1 ∨ 2 < g.kind) : right g = 9 := by unfold right; rw [if_pos h]
theorem right_arg {g : Gd} (h : ¬ (g.kind < 1 ∨ 2 < g.kind)) (k : g.count = 0 ∨ g.count ≤ g.index) : right g = 1 := by unfold right; rw [if_neg h, if_pos k]
theorem right_long {g : Gd} (h : ¬ (g.kind < 1 ∨ 2 < g.kind)) (k : ¬ (g.count = 0 ∨ g.count ≤ g.index)) (l : 65487 < g.body.length) : right g = 5 := by unfold right; rw [if_neg h, if_neg k, if_pos l]
theorem right_good {g : Gd} (h : ¬ (g.kind < 1 ∨ 2 < g.kind)) (k : ¬ (g.count = 0 ∨ g.count ≤ g.index)) (l : ¬ 65487 < g.body.length) : right g = 0 := by unfold right; rw [if_neg h, if_neg k, if_neg l]
theorem right_len {g : Gd} (h : right g = 0) : g.body.length ≤ 65487 := by
  by_cases a : g.kind < 1 ∨ 2 < g.kind
  · rw [right_kind a] at h; cases h
  by_cases b : g.count = 0 ∨ g.count ≤ g.index
  · rw [right_arg a b] at h; cases h
  by_cases c : 65487 < g.body.length
  · rw [right_long a b c] at h; cases h
  omega
/-- a sum as four bytes, the lowest first -/
def le : Nat → Nat → List Nat
  | 0, _ => []
  | k + 1, n => n % 256 :: le k (n / 256)
theorem le_length : ∀ (k n : Nat), (le k n).length = k
  | 0, _ => rfl
  | k + 1, n => by rw [le, List.length_cons, le_length k]
theorem le_byte : ∀ (k n : Nat), ∀ x ∈ le k n, x < 256
  | 0, _, x, h => by cases h
  | k + 1, n, x, h => by
    rw [le] at h
    rcases List.mem_cons.1 h with rfl | h
    · omega
    · exact le_byte k _ x h
theorem num_le : ∀ (k n : Nat), n < 256 ^ k → Cm.num (le k n) = n
  | 0, n, h => by have : n = 0 := by simpa using h
                  subst this; rfl
  | k + 1, n, h => by
    rw [le, Cm.num, num_le k (n / 256) (by rw [Nat.pow_succ] at h; omega)]
    omega
theorem le_num : ∀ (l : List Nat), (∀ x ∈ l, x < 256) → le l.length (Cm.num l) = l
  | [], _ => rfl
  | c :: l, h => by
    have hc := h c List.mem_cons_self
    rw [List.length_cons, le, Cm.num, show (c + 256 * Cm.num l) % 256 = c by omega, show (c + 256 * Cm.num l) / 256 = Cm.num l by omega, le_num l (fun x hx => h x (List.mem_cons_of_mem _ hx))]
theorem num_lt : ∀ (l : List Nat), (∀ x ∈ l, x < 256) → Cm.num l < 256 ^ l.length
  | [], _ => by simp [Cm.num]
  | c :: l, h => by
    have hc := h c List.mem_cons_self
    have := num_lt l (fun x hx => h x (List.mem_cons_of_mem _ hx))
    rw [Cm.num, List.length_cons, Nat.pow_succ]
    omega
/-- the sum of bytes with their own sum behind them is always the same -/
def K : Nat := Cm.shN 32 4294967295 ^^^ 4294967295
theorem sum_with (a b : List Nat) (ha : ∀ x ∈ a, x < 256) (hb : ∀ x ∈ b, x < 256) (h4 : b.length = 4) : Cm.sum (a ++ b) = K ↔ le 4 (Cm.sum a) = b := by
  have hs := Cm.sum_lt a ha
  have hn : Cm.num b < 4294967296 := by have := num_lt b hb; rw [h4] at this; exact this
  have e : Cm.sum (a ++ b) = Cm.shN 32 (Cm.sum a ^^^ Cm.num b) ^^^ K := by
    unfold K
    unfold Cm.sum
    rw [Cm.step_append, Cm.step_num _ b hb, h4]
    generalize Cm.step 4294967295 a = s
    generalize Cm.num b = n
    have : s ^^^ n = ((s ^^^ 4294967295) ^^^ n) ^^^ 4294967295 := by
      rw [Nat.xor_assoc, Nat.xor_comm n, ← Nat.xor_assoc, Nat.xor_assoc s, Nat.xor_self, Nat.xor_zero]
    rw [show 8 * 4 = 32 from rfl]
    conv => lhs; rw [this, Cm.shN_xor]
    rw [Nat.xor_assoc]
  constructor
  · intro h
    rw [e] at h
    have h1 : Cm.shN 32 (Cm.sum a ^^^ Cm.num b) = 0 := by
      have := congrArg (· ^^^ K) h
      simpa [Nat.xor_assoc] using this
    have h2 := Cm.shN_ne 32 _ (Nat.xor_lt_two_pow (n := 32) hs hn) h1
    have h3 : Cm.sum a = Cm.num b := by
      have := congrArg (· ^^^ Cm.num b) h2
      simpa [Nat.xor_assoc] using this
    rw [h3, ← h4, le_num b hb]
  · intro h
    rw [e, ← h, num_le 4 _ (by simpa using hs), Nat.xor_self, Cm.shN_zero, Nat.zero_xor]
/-- what stands between the two first bytes and the sum -/
def mid (g : Gd) : List Nat := Bm.fix 1 g.kind ++ (Bm.fix 1 g.version ++ (Bm.fix 4 g.epoch ++ (Bm.fix 4 g.id ++ (Bm.fix 2 g.index ++ (Bm.fix 2 g.count ++ g.body)))))
def front (g : Gd) : List Nat := 167 :: 78 :: mid g
def bytes (g : Gd) : List Nat := front g ++ le 4 (Cm.sum (front g))
def put (g : Gd) : List Nat × Nat := if right g = 0 then (bytes g, 0) else ([], right g)
theorem put_good {g : Gd} (h : right g = 0) : put g = (bytes g, 0) := if_pos h
theorem put_bad {g : Gd} (h : ¬ right g = 0) : put g = ([], right g) := if_neg h
theorem mid_length (g : Gd) : (mid g).length = g.body.length + 14 := by
  unfold mid
  simp only [List.length_append, Bm.fix_length]
  omega
theorem front_length (g : Gd) : (front g).length = g.body.length + 16 := by unfold front; simp only [List.length_cons, mid_length]
theorem bytes_length (g : Gd) : (bytes g).length = g.body.length + 20 := by unfold bytes; rw [List.length_append, front_length, le_length]
theorem mid_byte {g : Gd} (ok : g.Ok) : ∀ x ∈ mid g, x < 256 := by
  intro x hx
  unfold mid at hx
  simp only [List.mem_append] at hx
  rcases hx with h | h | h | h | h | h | h
  · exact Bm.fix_byte _ _ x h
  · exact Bm.fix_byte _ _ x h
  · exact Bm.fix_byte _ _ x h
  · exact Bm.fix_byte _ _ x h
  · exact Bm.fix_byte _ _ x h
  · exact Bm.fix_byte _ _ x h
  · exact ok.body x h
theorem front_byte {g : Gd} (ok : g.Ok) : ∀ x ∈ front g, x < 256 := by
  intro x hx
  unfold front at hx
  rcases List.mem_cons.1 hx with rfl | hx
  · decide
  rcases List.mem_cons.1 hx with rfl | hx
  · decide
  exact mid_byte ok x hx
theorem bytes_byte {g : Gd} (ok : g.Ok) : ∀ x ∈ bytes g, x < 256 := by
  intro x hx
  unfold bytes at hx
  rcases List.mem_append.1 hx with hx | hx
  · exact front_byte ok x hx
  · exact le_byte _ _ x hx
/-- reading what stands between -/
def d1 (l : List Nat) := l.drop 1
def d2 (l : List Nat) := (d1 l).drop 1
def d3 (l : List Nat) := (d2 l).drop 4
def d4 (l : List Nat) := (d3 l).drop 4
def d5 (l : List Nat) := (d4 l).drop 2
def d6 (l : List Nat) := (d5 l).drop 2
def parse (l : List Nat) : Gd := ⟨Bm.be (l.take 1), Bm.be ((d1 l).take 1), Bm.be ((d2 l).take 4), Bm.be ((d3 l).take 4), Bm.be ((d4 l).take 2), Bm.be ((d5 l).take 2), d6 l⟩
theorem take_fix (k n : Nat) (r : List Nat) : (Bm.fix k n ++ r).take k = Bm.fix k n := List.take_left' (Bm.fix_length k n)
theorem drop_fix (k n : Nat) (r : List Nat) : (Bm.fix k n ++ r).drop k = r := List.drop_left' (Bm.fix_length k n)
theorem parse_mid {g : Gd} (ok : g.Ok) : parse (mid g) = g := by
  obtain ⟨h1, h2, h3, h4, h5, h6, _⟩ := ok
  unfold parse d6 d5 d4 d3 d2 d1 mid
  simp only [take_fix, drop_fix, Bm.be_fix]
  obtain ⟨a, b, c, d, e, f, l⟩ := g
  simp only at h1 h2 h3 h4 h5 h6
  simp only [Gd.mk.injEq, and_true]
  refine ⟨Nat.mod_eq_of_lt (by simpa using h1), Nat.mod_eq_of_lt (by simpa using h2), Nat.mod_eq_of_lt (by simpa using h3), Nat.mod_eq_of_lt (by simpa using h4), Nat.mod_eq_of_lt (by simpa using h5), Nat.mod_eq_of_lt (by simpa using h6)⟩
theorem fix_be : ∀ (l : List Nat), (∀ x ∈ l, x < 256) → Bm.fix l.length (Bm.be l) = l := by
  intro l h
  have key : ∀ n, ∀ l : List Nat, l.length = n → (∀ x ∈ l, x < 256) → Bm.fix n (Bm.be l) = l := by
    intro n
    induction n with
    | zero => intro l h0 _; rw [List.length_eq_zero_iff] at h0; subst h0; rfl
    | succ n ih =>
      intro l h0 hb
      have hl : l = l.take n ++ [l.getD n 0] := by
        rw [List.getD, List.getElem?_eq_getElem (by omega)]
        have := List.take_succ_eq_append_getElem (l := l) (i := n) (by omega)
        rw [List.take_of_length_le (by omega)] at this
        exact this
      have hx : l.getD n 0 < 256 := by
        rw [List.getD, List.getElem?_eq_getElem (by omega)]
        exact hb _ (List.getElem_mem _)
      conv => lhs; rw [hl]
      rw [Bm.be_snoc, Bm.fix, show (Bm.be (l.take n) * 256 + l.getD n 0) / 256 = Bm.be (l.take n) by omega, show (Bm.be (l.take n) * 256 + l.getD n 0) % 256 = l.getD n 0 by omega, ih (l.take n) (by rw [List.length_take]; omega) (fun x hx => hb x (List.mem_of_mem_take hx))]
      exact hl.symm
  exact key _ l rfl h
theorem fix_take {l : List Nat} (h : ∀ x ∈ l, x < 256) {k : Nat} (hk : k ≤ l.length) : Bm.fix k (Bm.be (l.take k)) = l.take k := by
  have := fix_be (l.take k) (fun x hx => h x (List.mem_of_mem_take hx))
  rwa [List.length_take, Nat.min_eq_left hk] at this
theorem be_lt {l : List Nat} (h : ∀ x ∈ l, x < 256) {k : Nat} (hk : k ≤ l.length) : Bm.be (l.take k) < 256 ^ k := Bm.be_take l h k hk
theorem mid_parse {l : List Nat} (h : ∀ x ∈ l, x < 256) (h14 : 14 ≤ l.length) : mid (parse l) = l ∧ (parse l).Ok := by
  have b1 : ∀ x ∈ d1 l, x < 256 := fun x hx => h x (List.mem_of_mem_drop hx)
  have b2 : ∀ x ∈ d2 l, x < 256 := fun x hx => b1 x (List.mem_of_mem_drop hx)
  have b3 : ∀ x ∈ d3 l, x < 256 := fun x hx => b2 x (List.mem_of_mem_drop hx)
  have b4 : ∀ x ∈ d4 l, x < 256 := fun x hx => b3 x (List.mem_of_mem_drop hx)
  have b5 : ∀ x ∈ d5 l, x < 256 := fun x hx => b4 x (List.mem_of_mem_drop hx)
  have b6 : ∀ x ∈ d6 l, x < 256 := fun x hx => b5 x (List.mem_of_mem_drop hx)
  have l1 : (d1 l).length = l.length - 1 := List.length_drop
  have l2 : (d2 l).length = l.length - 2 := by unfold d2; rw [List.length_drop, l1]; omega
  have l3 : (d3 l).length = l.length - 6 := by unfold d3; rw [List.length_drop, l2]; omega
  have l4 : (d4 l).length = l.length - 10 := by unfold d4; rw [List.length_drop, l3]; omega
  have l5 : (d5 l).length = l.length - 12 := by unfold d5; rw [List.length_drop, l4]; omega
  refine ⟨?_, ?_, ?_, ?_, ?_, ?_, ?_, b6⟩
  · unfold mid parse
    simp only
    rw [fix_take h (by omega), fix_take b1 (by omega), fix_take b2 (by omega), fix_take b3 (by omega), fix_take b4 (by omega), fix_take b5 (by omega)]
    rw [show (d5 l).take 2 ++ d6 l = d5 l from List.take_append_drop 2 (d5 l), show (d4 l).take 2 ++ d5 l = d4 l from List.take_append_drop 2 (d4 l), show (d3 l).take 4 ++ d4 l = d3 l from List.take_append_drop 4 (d3 l), show (d2 l).take 4 ++ d3 l = d2 l from List.take_append_drop 4 (d2 l), show (d1 l).take 1 ++ d2 l = d1 l from List.take_append_drop 1 (d1 l)]
    exact List.take_append_drop 1 l
  · exact be_lt h (k := 1) (by omega)
  · exact be_lt b1 (k := 1) (by omega)
  · exact be_lt b2 (k := 4) (by omega)
  · exact be_lt b3 (k := 4) (by omega)
  · exact be_lt b4 (k := 2) (by omega)
  · exact be_lt b5 (k := 2) (by omega)
/-- the bytes without the sum, and the sum's own -/
def ahead (l : List Nat) : List Nat := l.take (l.length - 4)
def tail4 (l : List Nat) : List Nat := l.drop (l.length - 4)
def get (l : List Nat) : Gd × Nat :=
  if l.length < 20 then (zero, 2) else if 65507 < l.length then (zero, 5) else if ¬ le 4 (Cm.sum (ahead l)) = tail4 l then (zero, 8)
  else if ¬ (l.getD 0 0 = 167 ∧ l.getD 1 0 = 78) then (zero, 3) else if right (parse ((ahead l).drop 2)) = 0 then (parse ((ahead l).drop 2), 0) else (zero, right (parse ((ahead l).drop 2)))
theorem get_short {l : List Nat} (h : l.length < 20) : get l = (zero, 2) := by unfold get; rw [if_pos h]
theorem get_long {l : List Nat} (h : ¬ l.length < 20) (k : 65507 < l.length) : get l = (zero, 5) := by unfold get; rw [if_neg h, if_pos k]
theorem get_sum {l : List Nat} (h : ¬ l.length < 20) (k : ¬ 65507 < l.length) (s : ¬ le 4 (Cm.sum (ahead l)) = tail4 l) : get l = (zero, 8) := by unfold get; rw [if_neg h, if_neg k, if_pos s]
theorem get_form {l : List Nat} (h : ¬ l.length < 20) (k : ¬ 65507 < l.length) (s : le 4 (Cm.sum (ahead l)) = tail4 l) (f : ¬ (l.getD 0 0 = 167 ∧ l.getD 1 0 = 78)) : get l = (zero, 3) := by
  unfold get; rw [if_neg h, if_neg k, if_neg (fun x => x s), if_pos f]
theorem get_bad {l : List Nat} (h : ¬ l.length < 20) (k : ¬ 65507 < l.length) (s : le 4 (Cm.sum (ahead l)) = tail4 l) (f : l.getD 0 0 = 167 ∧ l.getD 1 0 = 78) (r : ¬ right (parse ((ahead l).drop 2)) = 0) : get l = (zero, right (parse ((ahead l).drop 2))) := by
  unfold get; rw [if_neg h, if_neg k, if_neg (fun x => x s), if_neg (fun x => x f), if_neg r]
theorem get_good {l : List Nat} (h : ¬ l.length < 20) (k : ¬ 65507 < l.length) (s : le 4 (Cm.sum (ahead l)) = tail4 l) (f : l.getD 0 0 = 167 ∧ l.getD 1 0 = 78) (r : right (parse ((ahead l).drop 2)) = 0) : get l = (parse ((ahead l).drop 2), 0) := by
  unfold get; rw [if_neg h, if_neg k, if_neg (fun x => x s), if_neg (fun x => x f), if_pos r]
theorem ahead_tail (l : List Nat) : ahead l ++ tail4 l = l := List.take_append_drop _ _
theorem ahead_bytes (g : Gd) : ahead (bytes g) = front g ∧ tail4 (bytes g) = le 4 (Cm.sum (front g)) := by
  have h : (bytes g).length - 4 = (front g).length := by rw [bytes_length, front_length]; omega
  unfold ahead tail4
  rw [h]
  exact ⟨List.take_left, List.drop_left⟩
theorem get_put {g : Gd} (ok : g.Ok) (h : right g = 0) : get (bytes g) = (g, 0) := by
  have hl := bytes_length g
  have hr := right_len h
  obtain ⟨h1, h2⟩ := ahead_bytes g
  have hp : parse ((ahead (bytes g)).drop 2) = g := by rw [h1]; exact parse_mid ok
  rw [get_good (by omega) (by omega) (by rw [h1, h2]) ⟨rfl, rfl⟩ (by rw [hp]; exact h), hp]
/-- what is got is put as it was -/
theorem put_get {l : List Nat} (hb : ∀ x ∈ l, x < 256) (h : (get l).2 = 0) : put (get l).1 = (l, 0) ∧ (get l).1.Ok := by
  by_cases c1 : l.length < 20
  · rw [get_short c1] at h; cases h
  by_cases c2 : 65507 < l.length
  · rw [get_long c1 c2] at h; cases h
  by_cases c3 : le 4 (Cm.sum (ahead l)) = tail4 l
  · by_cases c4 : l.getD 0 0 = 167 ∧ l.getD 1 0 = 78
    · by_cases c5 : right (parse ((ahead l).drop 2)) = 0
      · have hal : (ahead l).length = l.length - 4 := by unfold ahead; rw [List.length_take]; omega
        obtain ⟨h1, h2⟩ := mid_parse (l := (ahead l).drop 2) (fun x hx => hb x (List.mem_of_mem_take (List.mem_of_mem_drop hx))) (by rw [List.length_drop]; omega)
        rw [get_good c1 c2 c3 c4 c5]
        refine ⟨?_, h2⟩
        rw [put_good c5]
        have hf : front (parse ((ahead l).drop 2)) = ahead l := by
          unfold front
          rw [h1]
          have g0 : ∀ i, i < 2 → (ahead l).getD i 0 = l.getD i 0 := fun i hi => by unfold ahead; rw [List.getD, List.getD, List.getElem?_take_of_lt (by omega)]
          have e0 := (g0 0 (by omega)).trans c4.1
          have e1 := (g0 1 (by omega)).trans c4.2
          match hq : ahead l, hal, e0, e1 with
          | [], hz, _, _ => simp at hz; omega
          | [a], hz, _, _ => simp at hz; omega
          | a :: b :: r, _, e0, e1 =>
            simp [List.getD] at e0 e1
            subst e0 e1
            rfl
        unfold bytes
        rw [hf, c3, ahead_tail]
      · rw [get_bad c1 c2 c3 c4 c5] at h; exact absurd h c5
    · rw [get_form c1 c2 c3 c4] at h; cases h
  · rw [get_sum c1 c2 c3] at h; cases h
theorem get_zero {l : List Nat} (h : ¬ (get l).2 = 0) : get l = (zero, (get l).2) := by
  by_cases c1 : l.length < 20
  · rw [get_short c1]
  by_cases c2 : 65507 < l.length
  · rw [get_long c1 c2]
  by_cases c3 : le 4 (Cm.sum (ahead l)) = tail4 l
  · by_cases c4 : l.getD 0 0 = 167 ∧ l.getD 1 0 = 78
    · by_cases c5 : right (parse ((ahead l).drop 2)) = 0
      · rw [get_good c1 c2 c3 c4 c5] at h; exact absurd rfl h
      · rw [get_bad c1 c2 c3 c4 c5]
    · rw [get_form c1 c2 c3 c4]
  · rw [get_sum c1 c2 c3]
theorem get_ok {l : List Nat} (hb : ∀ x ∈ l, x < 256) : (get l).1.Ok := by
  by_cases h : (get l).2 = 0
  · exact (put_get hb h).2
  · rw [get_zero h]; exact ok_zero
theorem put_right (g : Gd) : (put g).2 = right g := by
  unfold put
  split
  · rename_i h; exact h.symm
  · rfl
/-- turned bits within 32 in a row are refused by the sum -/
theorem get_burst {g : Gd} (ok : g.Ok) (h : right g = 0) (at_ : Int) (mask : Nat) (hm : mask < 4294967296) (hne : ¬ Cm.flip (bytes g) at_ mask = bytes g) : get (Cm.flip (bytes g) at_ mask) = (zero, 8) := by
  have hl := bytes_length g
  have hr := right_len h
  have hb := bytes_byte ok
  have hfl := Cm.flip_length (bytes g) at_ mask
  have hfb := Cm.flip_byte (bytes g) at_ mask hb
  refine get_sum (by omega) (by omega) (fun hs => hne (Cm.burst (bytes g) at_ mask hb hm ?_))
  obtain ⟨h1, h2⟩ := ahead_bytes g
  have k1 : Cm.sum (bytes g) = K := by
    have := (sum_with (front g) (le 4 (Cm.sum (front g))) (front_byte ok) (le_byte _ _) (le_length _ _)).2 rfl
    exact this
  have k2 : Cm.sum (Cm.flip (bytes g) at_ mask) = K := by
    have := (sum_with (ahead (Cm.flip (bytes g) at_ mask)) (tail4 (Cm.flip (bytes g) at_ mask)) (fun x hx => hfb x (List.mem_of_mem_take hx)) (fun x hx => hfb x (List.mem_of_mem_drop hx)) (by unfold tail4; rw [List.length_drop]; omega)).2 hs
    rwa [ahead_tail] at this
  rw [k1, k2]
end Gr
end Go.Proofs.Ytgfjniogflmlmaa
/- Datagrams as memory: values that are read, boxes, an argument. -/
namespace Go.Proofs.Ytgfjniogflmlmaa
open Go.RowKit Go.ChangeShapes Go.WideShapes
set_option linter.unusedVariables false
set_option maxRecDepth 100000

/-- the value is the datagram -/
structure Gv (w : World) (B : Nat) (g : Gd) (v : Value) : Prop where
  ex : ∃ A c, v = .agg #[.int .u8 (g.kind : Int), .int .u8 (g.version : Int), .int .u32 (g.epoch : Int), .int .u32 (g.id : Int), .int .u16 (g.index : Int), .int .u16 (g.count : Int), .slice A g.body.length c] ∧ Piece w B (.slice A g.body.length c) g.body
  ok : g.Ok
/-- block b holds the datagram -/
structure Gx (w : World) (b : Nat) (g : Gd) (A : Option Addr) (c : Nat) : Prop where
  whole : Whole w b 32 #[.int .u8 (g.kind : Int), .int .u8 (g.version : Int), .int .u32 (g.epoch : Int), .int .u32 (g.id : Int), .int .u16 (g.index : Int), .int .u16 (g.count : Int), .slice A g.body.length c]
  piece : Piece w b (.slice A g.body.length c) g.body
  ok : g.Ok
theorem gramI {cs : Array Value} (h : cs.size = 7) : (Try.prog.info? 32).map (·.size) = some cs.size := by rw [h]; kernel_rfl
section
variable {w w' : World} {B B' b : Nat} {g : Gd} {v : Value} {A : Option Addr} {c : Nat}
theorem Gv.below (h : Gv w B g v) (hb : Below B w w') : Gv w' B g v := by
  obtain ⟨⟨A, c, e, hp⟩, ok⟩ := h
  exact ⟨⟨A, c, e, hp.below hb⟩, ok⟩
theorem Gv.more (h : Gv w B g v) (hB : B ≤ B') : Gv w B' g v := by
  obtain ⟨⟨A, c, e, hp⟩, ok⟩ := h
  exact ⟨⟨A, c, e, hp.more hB⟩, ok⟩
theorem Gv.all (h : Gv w B g v) : Gv w w.heap.size g v := by
  obtain ⟨⟨A, c, e, hp⟩, ok⟩ := h
  exact ⟨⟨A, c, e, hp.all⟩, ok⟩
theorem Gv.kept (h : Gv w B g v) (hb : Below w.heap.size w w') : Gv w' w'.heap.size g v := (h.all.below hb).more hb.size
theorem Gx.lt (h : Gx w b g A c) : b < w.heap.size := h.whole.lt
theorem Gx.below (h : Gx w b g A c) (hb : Below B w w') (hg : b < B) : Gx w' b g A c := ⟨h.whole.below hb hg, h.piece.below (hb.mono (by omega)), h.ok⟩
theorem Gx.kept (h : Gx w b g A c) (hb : Below w.heap.size w w') : Gx w' b g A c := h.below hb h.lt
theorem Gx.gv (h : Gx w b g A c) : Gv w b g (.agg #[.int .u8 (g.kind : Int), .int .u8 (g.version : Int), .int .u32 (g.epoch : Int), .int .u32 (g.id : Int), .int .u16 (g.index : Int), .int .u16 (g.count : Int), .slice A g.body.length c]) := ⟨⟨A, c, rfl, h.piece⟩, h.ok⟩
theorem Gx.cells (h : Gx w b g A c) : w.cell? ⟨b, 0, none⟩ = some (.int .u8 (g.kind : Int)) ∧ w.cell? ⟨b, 1, none⟩ = some (.int .u8 (g.version : Int)) ∧ w.cell? ⟨b, 2, none⟩ = some (.int .u32 (g.epoch : Int)) ∧ w.cell? ⟨b, 3, none⟩ = some (.int .u32 (g.id : Int)) ∧
    w.cell? ⟨b, 4, none⟩ = some (.int .u16 (g.index : Int)) ∧ w.cell? ⟨b, 5, none⟩ = some (.int .u16 (g.count : Int)) ∧ w.cell? ⟨b, 6, none⟩ = some (.slice A g.body.length c) :=
  ⟨h.whole.at_ 0, h.whole.at_ 1, h.whole.at_ 2, h.whole.at_ 3, h.whole.at_ 4, h.whole.at_ 5, h.whole.at_ 6⟩
/-- an argument in its block -/
theorem boxedG (H : Gv w B g v) : ∃ b A c w0, v = .agg #[.int .u8 (g.kind : Int), .int .u8 (g.version : Int), .int .u32 (g.epoch : Int), .int .u32 (g.id : Int), .int .u16 (g.index : Int), .int .u16 (g.count : Int), .slice A g.body.length c] ∧ w.heap.size = b ∧ w.alloc (.cells #[.int .u8 (g.kind : Int), .int .u8 (g.version : Int), .int .u32 (g.epoch : Int), .int .u32 (g.id : Int), .int .u16 (g.index : Int), .int .u16 (g.count : Int), .slice A g.body.length c] 32) = w0 ∧ w0.heap.size = b + 1 ∧ Gx w0 b g A c ∧ Below b w w0 := by
  obtain ⟨A, c, rfl, hp⟩ := H.ex
  have B0 : Below w.heap.size w (w.alloc (.cells #[.int .u8 (g.kind : Int), .int .u8 (g.version : Int), .int .u32 (g.epoch : Int), .int .u32 (g.id : Int), .int .u16 (g.index : Int), .int .u16 (g.count : Int), .slice A g.body.length c] 32)) := (Below.refl _ _).alloc (Nat.le_refl _) _
  exact ⟨_, A, c, _, rfl, rfl, rfl, by simp, ⟨Whole.made _ _ _, hp.all.below B0, H.ok⟩, B0⟩
/-- a new variable -/
theorem var_gram (w : World) : ∃ b w0, w.heap.size = b ∧ w.alloc (.cells #[.int .u8 0, .int .u8 0, .int .u32 0, .int .u32 0, .int .u16 0, .int .u16 0, .slice none 0 0] 32) = w0 ∧ w0.heap.size = b + 1 ∧ Gx w0 b Gr.zero none 0 ∧ Below b w w0 :=
  ⟨_, _, rfl, rfl, by simp, ⟨Whole.made _ _ _, Piece.nil _ _, Gr.ok_zero⟩, (Below.refl _ _).alloc (Nat.le_refl _) _⟩
/-- a datagram that is stored in a new variable -/
theorem var_gv (H : Gv w B g v) : ∃ b A c w0 w1, v = .agg #[.int .u8 (g.kind : Int), .int .u8 (g.version : Int), .int .u32 (g.epoch : Int), .int .u32 (g.id : Int), .int .u16 (g.index : Int), .int .u16 (g.count : Int), .slice A g.body.length c] ∧ w.heap.size = b ∧ w.alloc (.cells #[.int .u8 0, .int .u8 0, .int .u32 0, .int .u32 0, .int .u16 0, .int .u16 0, .slice none 0 0] 32) = w0 ∧ Whole w0 b 32 #[.int .u8 0, .int .u8 0, .int .u32 0, .int .u32 0, .int .u16 0, .int .u16 0, .slice none 0 0] ∧ w0.setRow b #[.int .u8 (g.kind : Int), .int .u8 (g.version : Int), .int .u32 (g.epoch : Int), .int .u32 (g.id : Int), .int .u16 (g.index : Int), .int .u16 (g.count : Int), .slice A g.body.length c] = w1 ∧ Gx w1 b g A c ∧ Below w.heap.size w w1 ∧ b < w1.heap.size := by
  obtain ⟨A, c, rfl, hp⟩ := H.ex
  obtain ⟨b, w0, hb, hal, hs, hx, hb0⟩ := var_gram w
  have hB : Below w.heap.size w (w0.setRow b #[.int .u8 (g.kind : Int), .int .u8 (g.version : Int), .int .u32 (g.epoch : Int), .int .u32 (g.id : Int), .int .u16 (g.index : Int), .int .u16 (g.count : Int), .slice A g.body.length c]) := below_row (by rw [hb]; exact hb0) (by omega) _
  refine ⟨b, A, c, w0, _, rfl, hb, hal, hx.whole, rfl, ⟨hx.whole.row _, ?_, H.ok⟩, hB, by rw [size_setRow]; omega⟩
  have h1 := hp.all.below hB
  rw [hb] at h1
  exact h1
end
/-- an argument that is a datagram -/
theorem open_gram {H : Type} {enc : TypeId × Value → H} {w : World} {base : Nat} {held : Bool} {r : Reach} {b0 : Nat} {v : Value} {d : DataW H} {ps : List MemPlace}
    (hv : Value.okWide Try.prog w r b0 32 v) (hd : DataW.Trod enc Try.prog w base (fun _ => true) held 32 v d ps) : ∃ g, Gv w w.heap.size g v := by
  obtain ⟨cs, rfl, hsz, _⟩ : ∃ cs, v = .agg cs ∧ cs.size = Try.prog.cellsOf 32 ∧ Row.okWide Try.prog w r b0 32 cs := by simpa [Value.okWide, Try.underlying32] using hv
  rw [show Try.prog.cellsOf 32 = 7 by kernel_rfl] at hsz
  obtain ⟨fuel, hf⟩ := hd
  obtain ⟨xs, n, _, _, _, hlen, hx⟩ := DataW.trod_struct Try.underlying32 hf
  obtain ⟨l⟩ := cs
  match l, hsz with
  | [c0, c1, c2, c3, c4, c5, c6], _ =>
  match xs, hlen with
  | [x0, x1, x2, x3, x4, x5, x6], _ =>
  have one : ∀ t, t ∈ [5, 28, 29, 30] → Try.prog.cellsOf t = 1 := by
    intro t ht
    simp at ht
    rcases ht with rfl | rfl | rfl | rfl <;> kernel_rfl
  have h0 : DataW.trod enc Try.prog w base (fun _ => true) held n 5 [c0] = some x0 := each_field hx 0 _ rfl 5 0 1 rfl rfl (one _ (by decide))
  have h1 : DataW.trod enc Try.prog w base (fun _ => true) held n 5 [c1] = some x1 := each_field hx 1 _ rfl 5 1 1 rfl rfl (one _ (by decide))
  have h2 : DataW.trod enc Try.prog w base (fun _ => true) held n 28 [c2] = some x2 := each_field hx 2 _ rfl 28 2 1 rfl rfl (one _ (by decide))
  have h3 : DataW.trod enc Try.prog w base (fun _ => true) held n 28 [c3] = some x3 := each_field hx 3 _ rfl 28 3 1 rfl rfl (one _ (by decide))
  have h4 : DataW.trod enc Try.prog w base (fun _ => true) held n 29 [c4] = some x4 := each_field hx 4 _ rfl 29 4 1 rfl rfl (one _ (by decide))
  have h5 : DataW.trod enc Try.prog w base (fun _ => true) held n 29 [c5] = some x5 := each_field hx 5 _ rfl 29 5 1 rfl rfl (one _ (by decide))
  have h6 : DataW.trod enc Try.prog w base (fun _ => true) held n 30 [c6] = some x6 := each_field hx 6 _ rfl 30 6 1 rfl rfl (one _ (by decide))
  obtain ⟨z0, e0, _, w0⟩ := DataW.trod_int Try.underlying5 h0
  obtain ⟨z1, e1, _, w1⟩ := DataW.trod_int Try.underlying5 h1
  obtain ⟨z2, e2, _, w2⟩ := DataW.trod_int Try.underlying28 h2
  obtain ⟨z3, e3, _, w3⟩ := DataW.trod_int Try.underlying28 h3
  obtain ⟨z4, e4, _, w4⟩ := DataW.trod_int Try.underlying29 h4
  obtain ⟨z5, e5, _, w5⟩ := DataW.trod_int Try.underlying29 h5
  obtain ⟨v6, l6, e6, hp, hb⟩ := open_piece h6
  simp at e0 e1 e2 e3 e4 e5 e6
  subst e0 e1 e2 e3 e4 e5 e6
  obtain ⟨a0, b0⟩ := bounds_u8 w0
  obtain ⟨a1, b1⟩ := bounds_u8 w1
  obtain ⟨a2, b2⟩ := bounds_u32 w2
  obtain ⟨a3, b3⟩ := bounds_u32 w3
  obtain ⟨a4, b4⟩ := bounds_u16 w4
  obtain ⟨a5, b5⟩ := bounds_u16 w5
  obtain ⟨z0, rfl⟩ := Int.eq_ofNat_of_zero_le a0
  obtain ⟨z1, rfl⟩ := Int.eq_ofNat_of_zero_le a1
  obtain ⟨z2, rfl⟩ := Int.eq_ofNat_of_zero_le a2
  obtain ⟨z3, rfl⟩ := Int.eq_ofNat_of_zero_le a3
  obtain ⟨z4, rfl⟩ := Int.eq_ofNat_of_zero_le a4
  obtain ⟨z5, rfl⟩ := Int.eq_ofNat_of_zero_le a5
  have hp0 := hp
  obtain ⟨A, c, rfl, _⟩ := hp
  exact ⟨⟨z0, z1, z2, z3, z4, z5, l6⟩, ⟨A, c, rfl, hp0⟩, ⟨by simp only; omega, by simp only; omega, by simp only; omega, by simp only; omega, by simp only; omega, by simp only; omega, hb⟩⟩
end Go.Proofs.Ytgfjniogflmlmaa
