/- Slices of slices of bytes: as they are read, and as rows of the call's own. -/
import Derived.Test.YtbhdgfpaoghnbaaPA
import Derived.Test.YtbhdgfpaoghnbaaPC
namespace Go.Proofs.Ytbhdgfpaoghnbaa
open Go.RowKit
set_option linter.unusedVariables false
set_option maxRecDepth 100000

theorem rowsT : Try.prog.underlying 42 = some (.slice 34) := Try.underlying42
theorem rowsI : (Try.prog.info? 34).map (fun i => (i.zero, i.size, i.bytes)) = some (some (.slice none 0 0), 1, 24) := by kernel_rfl

theorem one_slice (A : Option Addr) (n c : Nat) : ∀ u ∈ [Value.slice A n c], u.oneCell' = true := fun u hu => by
  simp at hu
  subst hu
  rfl
/-- bytes that are read, in a block that meets P -/
def Bq (w : World) (P : Nat → Prop) (v : Value) (l : List Nat) : Prop :=
  ∃ A c, v = .slice A l.length c ∧ (0 < l.length → ∃ b off, A = some ⟨b, off, none⟩ ∧ P b ∧ ∀ i, i < l.length → w.cell? ⟨b, off + i, none⟩ = some (.int .u8 ((l.getD i 0 : Nat) : Int))) ∧ (A = none → c = 0) ∧ l.length ≤ c ∧ c ≤ maxLen
theorem Bq.keep {w w' : World} {P P' : Nat → Prop} {v : Value} {l : List Nat} (h : Bq w P v l) (hk : ∀ b, P b → b < w.heap.size → w'.heap[b]? = w.heap[b]? ∧ P' b) : Bq w' P' v l := by
  obtain ⟨A, c, e, h1, h2, h3, h4⟩ := h
  refine ⟨A, c, e, fun hl => ?_, h2, h3, h4⟩
  obtain ⟨b, off, e1, hP, hc⟩ := h1 hl
  obtain ⟨k1, k2⟩ := hk b hP (cell_lt (hc 0 hl))
  exact ⟨b, off, e1, k2, fun i hi => by rw [← hc i hi]; exact World.cell?_of_block (w := w) k1⟩
theorem Bq.piece {w : World} {P : Nat → Prop} {v : Value} {l : List Nat} (h : Bq w P v l) {B : Nat} (hB : ∀ b, P b → b < w.heap.size → b < B) : Piece w B v l := by
  obtain ⟨A, c, e, h1, h2, h3, h4⟩ := h
  refine ⟨A, c, e, fun hl => ?_, h2, h3, h4⟩
  obtain ⟨b, off, e1, hP, hc⟩ := h1 hl
  exact ⟨b, off, e1, hB b hP (cell_lt (hc 0 hl)), hc⟩
theorem Bq.any {w : World} {P : Nat → Prop} {v : Value} {l : List Nat} (h : Bq w P v l) : Piece w w.heap.size v l := h.piece (fun _ _ h => h)
theorem Piece.bq {w : World} {B : Nat} {v : Value} {l : List Nat} (h : Piece w B v l) : Bq w (· < B) v l := by
  obtain ⟨A, c, e, h1, h2, h3, h4⟩ := h
  exact ⟨A, c, e, h1, h2, h3, h4⟩
theorem Bq.own {w : World} {base : Nat} {v : Value} {l : List Nat} (h : w.ownsRow base 5 1 v l.length (ints .u8 l)) : Bq w (fun b => base ≤ b) v l := by
  obtain ⟨A, c, rfl, h1, h2, h3, h4⟩ := own_look h
  refine ⟨A, c, rfl, fun hl => ?_, h3, h1, h2⟩
  obtain ⟨b, e, hb, _, _⟩ := h4 0 _ (ints_get .u8 l 0 hl)
  refine ⟨b, 0, e, hb, fun i hi => ?_⟩
  obtain ⟨b', e', _, _, hc⟩ := h4 i _ (ints_get .u8 l i hi)
  rw [e] at e'
  cases e'
  rw [Nat.zero_add]
  exact hc
/-- a slice of byte slices -/
def Bl (w : World) (B : Nat) (v : Value) (ls : List (List Nat)) : Prop :=
  ∃ A c, ∃ L : List (Value × List Nat), v = .slice A L.length c ∧ L.map (·.2) = ls ∧ L.length ≤ c ∧ c ≤ maxLen ∧ (A = none → c = 0) ∧
    ∀ i (h : i < L.length), ∃ b off, A = some ⟨b, off, none⟩ ∧ b < B ∧ w.cell? ⟨b, off + i, none⟩ = some L[i].1 ∧ Piece w B L[i].1 L[i].2
theorem Bl.below {w w' : World} {B : Nat} {v : Value} {ls : List (List Nat)} (h : Bl w B v ls) (hb : Below B w w') : Bl w' B v ls := by
  obtain ⟨A, c, L, e, h1, h2, h3, h4, h5⟩ := h
  refine ⟨A, c, L, e, h1, h2, h3, h4, fun i hi => ?_⟩
  obtain ⟨b, off, k1, k2, k3, k4⟩ := h5 i hi
  exact ⟨b, off, k1, k2, (hb.cell k2).trans k3, k4.below hb⟩
theorem Bl.more {w : World} {B B' : Nat} {v : Value} {ls : List (List Nat)} (h : Bl w B v ls) (hB : B ≤ B') : Bl w B' v ls := by
  obtain ⟨A, c, L, e, h1, h2, h3, h4, h5⟩ := h
  refine ⟨A, c, L, e, h1, h2, h3, h4, fun i hi => ?_⟩
  obtain ⟨b, off, k1, k2, k3, k4⟩ := h5 i hi
  exact ⟨b, off, k1, by omega, k3, k4.more hB⟩
theorem Bl.kept {w w' : World} {v : Value} {ls : List (List Nat)} (h : Bl w w.heap.size v ls) (hb : Below w.heap.size w w') : Bl w' w'.heap.size v ls := (h.below hb).more hb.size
theorem Bl.nil (w : World) (B : Nat) : Bl w B (.slice none 0 0) [] := ⟨none, 0, [], rfl, rfl, Nat.le_refl _, by unfold maxLen; omega, fun _ => rfl, fun i h => by cases h⟩
/-- how it looks -/
theorem Bl.shape {w : World} {B : Nat} {v : Value} {ls : List (List Nat)} (h : Bl w B v ls) : ∃ A c, v = .slice A ls.length c ∧ ls.length ≤ c ∧ c ≤ maxLen ∧ (A = none → c = 0) := by
  obtain ⟨A, c, L, e, rfl, h2, h3, h4, h5⟩ := h
  exact ⟨A, c, by rw [e]; simp, by simpa using h2, h3, h4⟩
/-- an element -/
theorem Bl.at_ {w : World} {B : Nat} {A : Option Addr} {n c : Nat} {ls : List (List Nat)} (h : Bl w B (.slice A n c) ls) {i : Nat} (hi : i < ls.length) : ∃ b off u, A = some ⟨b, off, none⟩ ∧ b < B ∧ w.cell? ⟨b, off + i, none⟩ = some u ∧ Piece w B u ls[i] := by
  obtain ⟨A', c', L, e, rfl, h2, h3, h4, h5⟩ := h
  injection e with e1 _ _
  subst e1
  have hi' : i < L.length := by simpa using hi
  obtain ⟨b, off, k1, k2, k3, k4⟩ := h5 i hi'
  exact ⟨b, off, L[i].1, k1, k2, k3, by simpa using k4⟩
/-- an element, in all worlds to come -/
theorem Bl.all_ {w : World} {B : Nat} {A : Option Addr} {n c : Nat} {ls : List (List Nat)} (h : Bl w B (.slice A n c) ls) {i : Nat} (hi : i < ls.length) : ∃ b off u, A = some ⟨b, off, none⟩ ∧ b < B ∧ ∀ W, Below B w W → W.cell? ⟨b, off + i, none⟩ = some u ∧ Piece W B u ls[i] := by
  obtain ⟨b, off, u, e, hb, hc, hp⟩ := h.at_ hi
  exact ⟨b, off, u, e, hb, fun W hW => ⟨(hW.cell (p := ⟨b, off + i, none⟩) hb).trans hc, hp.below hW⟩⟩
/-- the first ones -/
theorem Bl.take {w : World} {B : Nat} {A : Option Addr} {n c : Nat} {ls : List (List Nat)} (h : Bl w B (.slice A n c) ls) (k : Nat) (hk : k ≤ ls.length) : Bl w B (.slice A k c) (ls.take k) := by
  obtain ⟨A', c', L, e, rfl, h2, h3, h4, h5⟩ := h
  injection e with e1 e2 e3
  subst e1 e3
  have hk' : k ≤ L.length := by simpa using hk
  refine ⟨A, c, L.take k, by rw [List.length_take, Nat.min_eq_left hk'], by rw [List.map_take], by rw [List.length_take]; omega, h3, h4, fun i hi => ?_⟩
  rw [List.length_take] at hi
  obtain ⟨b, off, k1, k2, k3, k4⟩ := h5 i (by omega)
  exact ⟨b, off, k1, k2, by rw [List.getElem_take]; exact k3, by rw [List.getElem_take]; exact k4⟩
/-! ### rows of the call's own -/
/-- the blocks that may hold elements of a row v -/
def Apart (base : Nat) (v : Value) (b : Nat) : Prop := base ≤ b ∧ v.ownBlock ≠ some b
/-- a row of the call's own, of pieces that are the call's own -/
structure BoAt (w : World) (base : Nat) (v : Value) (L : List (Value × List Nat)) : Prop where
  own : w.ownsRow base 34 1 v L.length (L.map (·.1))
  each : ∀ x ∈ L, Bq w (Apart base v) x.1 x.2
def Bo (w : World) (base : Nat) (v : Value) (ls : List (List Nat)) : Prop := ∃ L, L.map (·.2) = ls ∧ BoAt w base v L
theorem BoAt.nil (w : World) (base : Nat) : BoAt w base (.slice none 0 0) [] := ⟨World.ownsRow_nil w base 34 1, fun x hx => by cases hx⟩
theorem BoAt.below {w w' : World} {base : Nat} {v : Value} {L : List (Value × List Nat)} (h : BoAt w base v L) (hb : Below w.heap.size w w') : BoAt w' base v L :=
  ⟨own_below h.own hb, fun x hx => (h.each x hx).keep (fun b hP hlt => ⟨hb.block b hlt, hP⟩)⟩
theorem BoAt.one {w : World} {base : Nat} {v : Value} {L : List (Value × List Nat)} (h : BoAt w base v L) : ∀ u ∈ L.map (·.1), u.oneCell' = true := fun u hu => by
  obtain ⟨x, hx, rfl⟩ := List.mem_map.1 hu
  obtain ⟨A, c, e, _⟩ := h.each x hx
  rw [e]; rfl
theorem BoAt.bl {w : World} {base : Nat} {v : Value} {L : List (Value × List Nat)} (h : BoAt w base v L) : Bl w w.heap.size v (L.map (·.2)) := by
  obtain ⟨A, c, rfl, h1, h2, h3, h4⟩ := own_look h.own
  refine ⟨A, c, L, rfl, rfl, h1, h2, h3, fun i hi => ?_⟩
  obtain ⟨b, e, hb, hlt, hc⟩ := h4 i L[i].1 (by simp [List.getElem?_eq_getElem hi])
  exact ⟨b, 0, e, hlt, by rw [Nat.zero_add]; exact hc, (h.each _ (List.getElem_mem hi)).any⟩
theorem Bo.bl {w : World} {base : Nat} {v : Value} {ls : List (List Nat)} (h : Bo w base v ls) : Bl w w.heap.size v ls := by
  obtain ⟨L, rfl, h⟩ := h
  exact h.bl
theorem Bo.below {w w' : World} {base : Nat} {v : Value} {ls : List (List Nat)} (h : Bo w base v ls) (hb : Below w.heap.size w w') : Bo w' base v ls := by
  obtain ⟨L, e, h⟩ := h
  exact ⟨L, e, h.below hb⟩
theorem Bo.nil (w : World) (base : Nat) : Bo w base (.slice none 0 0) [] := ⟨[], rfl, BoAt.nil w base⟩
theorem own_lower1 {w : World} {base base' n sz : Nat} {t : TypeId} {v : Value} {xs : List Value} (h : w.ownsRow base t sz v n xs) (hb : base' ≤ base) : w.ownsRow base' t sz v n xs := by
  obtain ⟨h1, h2⟩ := h
  refine ⟨h1, ?_⟩
  rcases h2 with h2 | ⟨g, cap, cur, hv, hg, r⟩
  · exact .inl h2
  · exact .inr ⟨g, cap, cur, hv, by omega, r⟩
theorem Bo.lower {w : World} {base base' : Nat} {v : Value} {ls : List (List Nat)} (h : Bo w base v ls) (hb : base' ≤ base) : Bo w base' v ls := by
  obtain ⟨L, e, h⟩ := h
  exact ⟨L, e, own_lower1 h.own hb, fun x hx => (h.each x hx).keep (fun b hP _ => ⟨rfl, by have := hP.1; omega, hP.2⟩)⟩
/-- one more behind the row -/
theorem BoAt.snoc {w w2 w3 : World} {base : Nat} {v v' u : Value} {L : List (Value × List Nat)} {l : List Nat} (h : BoAt w base v L) (hb : Below w.heap.size w w2) (hu : Bq w2 (fun b => w.heap.size ≤ b) u l) (hbase : base ≤ w.heap.size)
    (ho : w3.ownsRow base 34 1 v' (L.length + 1) (L.map (·.1) ++ [u])) (hg : w2.grownBy w3 v.ownBlock) (hv : v'.ownBlock = v.ownBlock ∨ v'.ownBlock = some w2.heap.size) : BoAt w3 base v' (L ++ [(u, l)]) := by
  have hz := hb.size
  refine ⟨by simpa using ho, fun x hx => ?_⟩
  rcases List.mem_append.1 hx with hx | hx
  · refine (h.each x hx).keep (fun b hP hlt => ⟨?_, hP.1, ?_⟩)
    · rw [hg.block b (by omega) (fun e => hP.2 e.symm), hb.block b hlt]
    · rcases hv with e | e
      · rw [e]; exact hP.2
      · rw [e]; intro q; injection q with q; omega
  · obtain rfl : x = (u, l) := by simpa using hx
    have hvb : ∀ k, v.ownBlock = some k → k < w.heap.size := fun k hk => (h.own.lt k hk).2
    refine hu.keep (fun b hP hlt => ⟨hg.block b hlt (fun e => ?_), by omega, fun e => ?_⟩)
    · have := hvb b e.symm; omega
    · rcases hv with q | q
      · rw [q] at e; have := hvb b e; omega
      · rw [q] at e; injection e with e; omega
theorem BoAt.size {w : World} {base : Nat} {v : Value} {L : List (Value × List Nat)} (h : BoAt w base v L) : ∃ A c, v = .slice A L.length c ∧ L.length ≤ c ∧ c ≤ maxLen ∧ (A = none → c = 0) := by
  obtain ⟨A, c, e, h1, h2, h3, _⟩ := own_look h.own
  exact ⟨A, c, e, h1, h2, h3⟩
end Go.Proofs.Ytbhdgfpaoghnbaa
