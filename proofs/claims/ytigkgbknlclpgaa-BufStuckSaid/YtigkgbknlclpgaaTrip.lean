/- A slice of structs of three integers, as an argument. -/
import Derived.Test.YtigkgbknlclpgaaFrame
import Derived.Below
import Derived.Deep.Slices
import Derived.Deep.Strs
namespace Go.Proofs.Ytigkgbknlclpgaa
open Go.ChangeShapes Go.WideShapes Go.ChangeAt Go.RowKit
set_option linter.unusedVariables false

/-- what a walk is told of a slice of structs of three integers -/
structure Trip (k0 k1 k2 : IntKind) (w : World) (a : Option Addr) (len cap : Nat) (ds : List (Int × Int × Int)) : Prop where
  len_eq : ds.length = len
  sees : 0 < ds.length → ∃ b off, a = some ⟨b, off, none⟩ ∧ b < w.heap.size ∧ ∀ i, i < ds.length → w.cell? ⟨b, off + i * 3, none⟩ = some (.int k0 (ds.getD i (0, 0, 0)).1) ∧ w.cell? ⟨b, off + i * 3 + 1, none⟩ = some (.int k1 (ds.getD i (0, 0, 0)).2.1) ∧ w.cell? ⟨b, off + i * 3 + 2, none⟩ = some (.int k2 (ds.getD i (0, 0, 0)).2.2)
  wf : ∀ d ∈ ds, (Lit.int k0 d.1).wf = true ∧ (Lit.int k1 d.2.1).wf = true ∧ (Lit.int k2 d.2.2).wf = true
  le : len ≤ cap
  max : cap ≤ maxLen
theorem trip_none (k0 k1 k2 : IntKind) (w : World) : Trip k0 k1 k2 w none 0 0 [] := ⟨rfl, fun h => absurd h (by simp), fun _ h => by simp at h, by omega, by unfold maxLen; omega⟩
theorem open_trips {H : Type} {enc : TypeId × Value → H} {P : Program} {w : World} {base : Nat} {spare : Nat → Bool} {held : Bool} {t e : TypeId} {f0 f1 f2 : Field} {k0 k1 k2 : IntKind} {a : Option Addr} {len cap : Nat} {d : DataW H} {ps : List MemPlace}
    (ht : P.underlying t = some (.slice e)) (he : P.underlying e = some (.struct #[f0, f1, f2])) (ce : P.cellsOf e = 3) (o0 : f0.offset = 0) (o1 : f1.offset = 1) (o2 : f2.offset = 2)
    (c0 : P.cellsOf f0.type = 1) (c1 : P.cellsOf f1.type = 1) (c2 : P.cellsOf f2.type = 1) (u0 : P.underlying f0.type = some (.int k0)) (u1 : P.underlying f1.type = some (.int k1)) (u2 : P.underlying f2.type = some (.int k2))
    (hd : DataW.Trod enc P w base spare held t (.slice a len cap) d ps) : ∃ ds, Trip k0 k1 k2 w a len cap ds := by
  obtain ⟨fuel, hf⟩ := hd
  rcases Go.Deep.open_slice ht hf with ⟨hcs, _⟩ | ⟨x, l, c, m, n, D, Pl, hcs, _, hl, hm, hmm, _, hx⟩
  · simp [Value.cells] at hcs
    obtain ⟨rfl, rfl, rfl⟩ := hcs
    exact ⟨[], trip_none _ _ _ _⟩
  · simp [Value.cells] at hcs
    obtain ⟨rfl, rfl, rfl⟩ := hcs
    have hlm : len ≤ m := by rw [hmm]; split <;> omega
    have each : ∀ i, i < len → ∃ q : Int × Int × Int, w.cell? (x.add (i * 3)) = some (.int k0 q.1) ∧ w.cell? (x.add (i * 3 + 1)) = some (.int k1 q.2.1) ∧ w.cell? (x.add (i * 3 + 2)) = some (.int k2 q.2.2) ∧ (Lit.int k0 q.1).wf = true ∧ (Lit.int k1 q.2.1).wf = true ∧ (Lit.int k2 q.2.2).wf = true := by
      intro i hi
      obtain ⟨cs', h1, h2⟩ := hx i (by omega)
      rw [ce] at h1
      obtain ⟨_, hlen, hcell⟩ := World.cells?_some h1
      obtain ⟨y0, y1, y2, n', _, _, g0, g1, g2⟩ := Go.Deep.trod_struct3 he h2
      match cs', hlen with
      | [v0, v1, v2], _ =>
        simp [o0, c0] at g0
        simp [o1, c1] at g1
        simp [o2, c2] at g2
        obtain ⟨z0, e0, _, w0⟩ := DataW.trod_int u0 g0
        obtain ⟨z1, e1, _, w1⟩ := DataW.trod_int u1 g1
        obtain ⟨z2, e2, _, w2⟩ := DataW.trod_int u2 g2
        have d0 := hcell 0 (by omega)
        have d1 := hcell 1 (by omega)
        have d2 := hcell 2 (by omega)
        rw [Go.Deep.add_add] at d0 d1 d2
        simp at e0 e1 e2 d0 d1 d2
        subst e0 e1 e2
        exact ⟨(z0, z1, z2), d0, d1, d2, w0, w1, w2⟩
    obtain ⟨q, hq⟩ := Go.Deep.choose_lt each
    have hget : ∀ i, i < len → ((List.range len).map q).getD i (0, 0, 0) = q i := fun i hi => by simp [List.getD, hi]
    refine ⟨(List.range len).map q, by simp, ?_, ?_, hl, hm⟩
    · intro hp
      have hp : 0 < len := by simpa using hp
      obtain ⟨b, off, spot⟩ := x
      have hc0 := (hq 0 hp).1
      have hspot : spot = none := by simpa [Addr.add] using World.cell?_spot hc0
      subst hspot
      have hb : b < w.heap.size := by
        rcases Nat.lt_or_ge b w.heap.size with h | h
        · exact h
        · simp [World.cell?, Addr.add, Array.getElem?_eq_none h] at hc0
      have ha : ∀ j, (⟨b, off, none⟩ : Addr).add j = ⟨b, off + j, none⟩ := fun j => by unfold Addr.add; split <;> simp_all
      refine ⟨b, off, rfl, hb, fun i hi => ?_⟩
      have hi : i < len := by simpa using hi
      obtain ⟨e0, e1, e2, _⟩ := hq i hi
      rw [ha] at e0 e1 e2
      rw [hget i hi]
      exact ⟨e0, e1, e2⟩
    · intro y hy
      obtain ⟨i, hi, rfl⟩ := List.mem_map.1 hy
      exact (hq i (List.mem_range.1 hi)).2.2.2
section
variable {k0 k1 k2 : IntKind} {w w' : World} {a : Option Addr} {len cap : Nat} {ds : List (Int × Int × Int)}
theorem Trip.at_ (h : Trip k0 k1 k2 w a len cap ds) (hb : Below w.heap.size w w') {i : Nat} (hi : i < len) :
    ∃ b off, a = some ⟨b, off, none⟩ ∧ b < w.heap.size ∧ w'.cell? ⟨b, off + i * 3, none⟩ = some (.int k0 (ds.getD i (0, 0, 0)).1) ∧ w'.cell? ⟨b, off + i * 3 + 1, none⟩ = some (.int k1 (ds.getD i (0, 0, 0)).2.1) ∧ w'.cell? ⟨b, off + i * 3 + 2, none⟩ = some (.int k2 (ds.getD i (0, 0, 0)).2.2) := by
  obtain ⟨b, off, e, hlt, hc⟩ := h.sees (by rw [h.len_eq]; omega)
  obtain ⟨h0, h1, h2⟩ := hc i (by rw [h.len_eq]; exact hi)
  exact ⟨b, off, e, hlt, by rw [hb.cell (p := ⟨b, off + i * 3, none⟩) hlt]; exact h0, by rw [hb.cell (p := ⟨b, off + i * 3 + 1, none⟩) hlt]; exact h1, by rw [hb.cell (p := ⟨b, off + i * 3 + 2, none⟩) hlt]; exact h2⟩
theorem Trip.ok (h : Trip k0 k1 k2 w a len cap ds) {i : Nat} (hi : i < len) : (Lit.int k0 (ds.getD i (0, 0, 0)).1).wf = true ∧ (Lit.int k1 (ds.getD i (0, 0, 0)).2.1).wf = true ∧ (Lit.int k2 (ds.getD i (0, 0, 0)).2.2).wf = true := by
  have hl : i < ds.length := by rw [h.len_eq]; exact hi
  have e : ds.getD i (0, 0, 0) = ds[i] := by simp [List.getD, List.getElem?_eq_getElem hl]
  rw [e]
  exact h.wf _ (List.getElem_mem hl)
end
end Go.Proofs.Ytigkgbknlclpgaa
