/- An argument that is a slice of parts; one that is a slice of byte slices, each of no more bytes than the form's reach. -/
import Derived.Test.YtlbejddmnflmbaaPw21
import Derived.Test.YtlbejddmnflmbaaOpb
import Derived.SizedLaws
namespace Go.Proofs.Ytlbejddmnflmbaa
open Go.RowKit Go.ChangeShapes Go.WideShapes
set_option linter.unusedVariables false
set_option maxRecDepth 100000

theorem open_parts {H : Type} {enc : TypeId × Value → H} {w : World} {base : Nat} {held : Bool} {r : Reach} {b0 : Nat} {v : Value} {d : DataW H} {ps : List MemPlace}
    (hv : Value.okWide Try.prog w r b0 22 v) (hd : DataW.Trod enc Try.prog w base (fun _ => true) held 22 v d ps) : ∃ l, Cl fPa 2 w w.heap.size v l ∧ ∀ x ∈ l, PaOk w x := by
  obtain ⟨a, len, cap, rfl⟩ := okWide_slice Try.underlying22 hv
  obtain ⟨fuel, hf⟩ := hd
  obtain ⟨v', l, hcs, h1, h2⟩ := open_cl (f := fPa) (k := 2) (by decide) (ok := PaOk w) Try.underlying22 (by kernel_rfl) (fun n cs y hlen hy => by
    obtain ⟨xs, m, _, _, _, hl, hx⟩ := DataW.trod_struct Try.underlying35 hy
    match cs, hlen with
    | [c0, c1], _ =>
    match xs, hl with
    | [x0, x1], _ =>
    have h0 : DataW.trod enc Try.prog w base (fun _ => true) held m 3 [c0] = some x0 := each_field hx 0 _ rfl 3 0 1 rfl rfl (by kernel_rfl)
    have h1 : DataW.trod enc Try.prog w base (fun _ => true) held m 33 [c1] = some x1 := each_field hx 1 _ rfl 33 1 1 rfl rfl (by kernel_rfl)
    obtain ⟨z0, e0, _, w0⟩ := DataW.trod_int Try.underlying3 h0
    obtain ⟨v1, l1, e1, p1, y1⟩ := open_piece h1
    simp at e0 e1
    subst e0 e1
    obtain ⟨a0, b0⟩ := bounds_i64 w0
    exact ⟨(z0, _, l1), rfl, a0, b0, p1, y1⟩) (0, .bool false, []) hf
  simp [Value.cells] at hcs
  subst hcs
  exact ⟨l, h1, h2⟩
/-- a slice of bytes, of which the form tells how many they may be -/
theorem open_piece_sized {H : Type} {enc : TypeId × Value → H} {w : World} {base : Nat} {held : Bool} {fuel : Nat} {cs : List Value} {x : DataW H × List MemPlace} (h : DataW.trod enc Try.prog w base (fun _ => true) held fuel 33 cs = some x)
    (hw : ∀ n ∈ x.1.weights Try.prog 33, n ≤ reachBytes) : ∃ v l, cs = [v] ∧ Piece w w.heap.size v l ∧ (∀ y ∈ l, y < 256) ∧ l.length ≤ 140737488351232 := by
  obtain ⟨v, l, rfl, h1, h2⟩ := open_piece h
  refine ⟨v, l, rfl, h1, h2, ?_⟩
  obtain ⟨A, c, rfl, _⟩ := h1
  rcases DataW.trod_slice Try.underlying33 h with ⟨h0, _⟩ | ⟨a, len, cap, elems, rest, n, hf, hc, rfl, hb, hl, hm, hlen, _⟩
  · simp at h0
    omega
  · simp at hc
    have h3 := hw ((elems.length + rest.length) * Try.prog.bytesOf 5) (by simp [DataW.weights, Try.underlying33])
    rw [show Try.prog.bytesOf 5 = 1 by kernel_rfl] at h3
    have : reachBytes = 140737488351232 := rfl
    omega
theorem open_pieces_sized {H : Type} {enc : TypeId × Value → H} {w : World} {base : Nat} {held : Bool} {fuel : Nat} {cs : List Value} {x : DataW H × List MemPlace} (h : DataW.trod enc Try.prog w base (fun _ => true) held fuel 44 cs = some x)
    (hw : ∀ n ∈ x.1.weights Try.prog 44, n ≤ reachBytes) : ∃ v ls, cs = [v] ∧ Bl w w.heap.size v ls ∧ (∀ l ∈ ls, ∀ y ∈ l, y < 256) ∧ ∀ l ∈ ls, l.length ≤ 140737488351232 := by
  rcases DataW.trod_slice Try.underlying44 h with ⟨rfl, _⟩ | ⟨a, len, cap, elems, rest, n, _, rfl, rfl, _, hl, hm, hlen, hel, _, _⟩
  · exact ⟨_, [], rfl, Bl.nil _ _, (fun l hl => by cases hl), fun l hl => by cases hl⟩
  · rw [show Try.prog.cellsOf 33 = 1 by kernel_rfl] at hel
    have each : ∀ i, i < len → ∃ u : Value × List Nat, w.cell? (a.add i) = some u.1 ∧ Piece w w.heap.size u.1 u.2 ∧ (∀ y ∈ u.2, y < 256) ∧ u.2.length ≤ 140737488351232 := fun i hi => by
      have h1 := hel i hi
      rw [List.getElem?_eq_getElem (by omega), Nat.mul_one] at h1
      obtain ⟨cs', h2, h3⟩ := Option.bind_eq_some_iff.1 h1
      obtain ⟨v, l, rfl, h4, h5, h6⟩ := open_piece_sized h3 (fun k hk => hw k (by
        simp only [DataW.weights, Try.underlying44, List.mem_cons, List.mem_append]
        refine .inr (.inl ?_)
        have hmem : ∀ (L : List (DataW H)) (e : TypeId) (d : DataW H), d ∈ L → ∀ k ∈ d.weights Try.prog e, k ∈ DataW.weightsAll Try.prog e L := by
          intro L e d hd k hk
          induction L with
          | nil => cases hd
          | cons y L ih =>
            simp only [DataW.weightsAll, List.mem_append]
            rcases List.mem_cons.1 hd with rfl | hd
            · exact .inl hk
            · exact .inr (ih hd)
        exact hmem _ _ _ (List.mem_map.2 ⟨_, List.getElem_mem _, rfl⟩) k hk))
      exact ⟨(v, l), cell_of_cells?_one h2, h4, h5, h6⟩
    haveI : Inhabited (Value × List Nat) := ⟨(.bool false, [])⟩
    obtain ⟨q, hq⟩ := Go.Deep.choose_lt each
    refine ⟨_, ((List.range len).map q).map (·.2), rfl, ⟨some a, cap, (List.range len).map q, by simp, rfl, by simpa using hl, hm, (fun h => by cases h), ?_⟩, ?_, ?_⟩
    · intro i hi
      have hi' : i < len := by simpa using hi
      have h0 := (hq i hi').1
      obtain ⟨b0, off0, e0, hb0⟩ := spot_of h0
      obtain ⟨b, off, spot⟩ := a
      have : spot = none := by simpa [Addr.add] using World.cell?_spot (hq 0 (by omega)).1
      subst this
      rw [add_plain] at h0 e0
      injection e0 with e1 _ _
      subst e1
      exact ⟨b, off, rfl, hb0, by simpa using h0, by simpa using (hq i hi').2.1⟩
    · intro l hl y hy
      obtain ⟨u, hu, rfl⟩ := List.mem_map.1 hl
      obtain ⟨i, hi, rfl⟩ := List.mem_map.1 hu
      exact (hq i (List.mem_range.1 hi)).2.2.1 y hy
    · intro l hl
      obtain ⟨u, hu, rfl⟩ := List.mem_map.1 hl
      obtain ⟨i, hi, rfl⟩ := List.mem_map.1 hu
      exact (hq i (List.mem_range.1 hi)).2.2.2
theorem open_rows_sized {H : Type} {enc : TypeId × Value → H} {w : World} {base : Nat} {held : Bool} {r : Reach} {b0 : Nat} {v : Value} {d : DataW H} {ps : List MemPlace}
    (hv : Value.okWide Try.prog w r b0 44 v) (hd : DataW.Trod enc Try.prog w base (fun _ => true) held 44 v d ps) (hw : ∀ n ∈ d.weights Try.prog 44, n ≤ reachBytes) :
    ∃ ls, Bl w w.heap.size v ls ∧ (∀ l ∈ ls, ∀ y ∈ l, y < 256) ∧ ∀ l ∈ ls, l.length ≤ 140737488351232 := by
  obtain ⟨a, len, cap, rfl⟩ := okWide_slice Try.underlying44 hv
  obtain ⟨fuel, hf⟩ := hd
  obtain ⟨v, ls, hcs, h1, h2, h3⟩ := open_pieces_sized hf hw
  have : v = .slice a len cap := by simpa [Value.cells] using hcs.symm
  subst this
  exact ⟨ls, h1, h2, h3⟩
end Go.Proofs.Ytlbejddmnflmbaa
