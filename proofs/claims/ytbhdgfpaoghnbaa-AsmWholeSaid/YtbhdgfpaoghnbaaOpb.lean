/- An argument that is a slice of byte slices. -/
import Derived.Test.YtbhdgfpaoghnbaaPM
import Derived.Test.YtbhdgfpaoghnbaaBl
namespace Go.Proofs.Ytbhdgfpaoghnbaa
open Go.RowKit Go.ChangeShapes Go.WideShapes
set_option linter.unusedVariables false
set_option maxRecDepth 100000

theorem open_piece {H : Type} {enc : TypeId × Value → H} {w : World} {base : Nat} {held : Bool} {fuel : Nat} {cs : List Value} {x : DataW H × List MemPlace} (h : DataW.trod enc Try.prog w base (fun _ => true) held fuel 34 cs = some x) :
    ∃ v l, cs = [v] ∧ Piece w w.heap.size v l ∧ ∀ y ∈ l, y < 256 := by
  rcases open_ints Try.underlying34 Try.underlying5 (by kernel_rfl) h with ⟨hcs, _⟩ | ⟨x, l, c, zs, hcs, _, hl, hm, hz, _, hcell, hwz⟩
  · exact ⟨_, [], hcs, Piece.nil _ _, fun y hy => by cases hy⟩
  · have R : Row .u8 w (some x) l c ((zs.take l).map Int.toNat) := row_of (fun _ h => (bounds_u8 h).1) hl hm (by simpa using hz) hcell hwz
    obtain ⟨h1, _, h2⟩ := row_piece R
    exact ⟨_, _, hcs, h1, h2⟩
theorem open_pieces {H : Type} {enc : TypeId × Value → H} {w : World} {base : Nat} {held : Bool} {fuel : Nat} {cs : List Value} {x : DataW H × List MemPlace} (h : DataW.trod enc Try.prog w base (fun _ => true) held fuel 42 cs = some x) :
    ∃ v ls, cs = [v] ∧ Bl w w.heap.size v ls ∧ ∀ l ∈ ls, ∀ y ∈ l, y < 256 := by
  rcases open_each Try.underlying42 h with rfl | ⟨a, len, cap, n, _, rfl, hl, hm, hx⟩
  · exact ⟨_, [], rfl, Bl.nil _ _, fun l hl => by cases hl⟩
  · rw [show Try.prog.cellsOf 34 = 1 by kernel_rfl] at hx
    have each : ∀ i, i < len → ∃ u : Value × List Nat, w.cell? (a.add i) = some u.1 ∧ Piece w w.heap.size u.1 u.2 ∧ ∀ y ∈ u.2, y < 256 := fun i hi => by
      obtain ⟨cs', y, h1, h2⟩ := hx i hi
      obtain ⟨v, l, rfl, h3, h4⟩ := open_piece h2
      rw [Nat.mul_one] at h1
      exact ⟨(v, l), cell_of_cells?_one h1, h3, h4⟩
    haveI : Inhabited (Value × List Nat) := ⟨(.bool false, [])⟩
    obtain ⟨q, hq⟩ := Go.Deep.choose_lt each
    refine ⟨_, ((List.range len).map q).map (·.2), rfl, ⟨some a, cap, (List.range len).map q, by simp, rfl, by simpa using hl, hm, (fun h => by cases h), ?_⟩, ?_⟩
    · intro i hi
      have hi' : i < len := by simpa using hi
      have h0 := (hq i hi').1
      obtain ⟨b0, off0, e0, hb0⟩ := spot_of h0
      obtain ⟨b, off, spot⟩ := a
      have : spot = none := by simpa [Addr.add] using World.cell?_spot (hq 0 (by omega)).1
      subst this
      rw [add_plain] at h0 e0
      injection e0 with e1 _ _
      subst e1
      exact ⟨b, off, rfl, hb0, by simpa using h0, by simpa using (hq i hi').2.1⟩
    · intro l hl y hy
      obtain ⟨u, hu, rfl⟩ := List.mem_map.1 hl
      obtain ⟨i, hi, rfl⟩ := List.mem_map.1 hu
      exact (hq i (List.mem_range.1 hi)).2.2 y hy
/-- the argument itself -/
theorem open_rows {H : Type} {enc : TypeId × Value → H} {w : World} {base : Nat} {held : Bool} {r : Reach} {b0 : Nat} {v : Value} {d : DataW H} {ps : List MemPlace}
    (hv : Value.okWide Try.prog w r b0 42 v) (hd : DataW.Trod enc Try.prog w base (fun _ => true) held 42 v d ps) : ∃ ls, Bl w w.heap.size v ls ∧ ∀ l ∈ ls, ∀ y ∈ l, y < 256 := by
  obtain ⟨a, len, cap, rfl⟩ := okWide_slice Try.underlying42 hv
  obtain ⟨fuel, hf⟩ := hd
  obtain ⟨v, ls, hcs, h1, h2⟩ := open_pieces hf
  have : v = .slice a len cap := by simpa [Value.cells] using hcs.symm
  subst this
  exact ⟨ls, h1, h2⟩
end Go.Proofs.Ytbhdgfpaoghnbaa
