/- An argument that is a slice of trees. -/
import Derived.Test.YtldjdoebappkoaaGreatDoorPK
namespace Go.Proofs.YtldjdoebappkoaaGreatDoor
open Go.RowKit Go.ChangeShapes Go.WideShapes
set_option linter.unusedVariables false
set_option maxRecDepth 100000

section
variable {H : Type} {enc : TypeId × Value → H} {w : World} {base : Nat} {spare : Nat → Bool} {held : Bool}
theorem open_forest {r : Reach} {b0 : Nat} {v : Value} {d : DataW H} {ps : List MemPlace}
    (hv : Value.okWide Tryz.prog w r b0 23 v) (hd : DataW.Trod enc Tryz.prog w base spare held 23 v d ps) : ∃ l, Kv w w.heap.size v l := by
  obtain ⟨a0, len0, cap0, rfl⟩ := okWide_slice Tryz.underlying23 hv
  obtain ⟨fuel, hf⟩ := hd
  rcases open_each Tryz.underlying23 hf with e | ⟨a, len, cap, n, _, e, hl, hm, hx⟩
  · simp [Value.cells] at e
    obtain ⟨rfl, rfl, rfl⟩ := e
    exact ⟨[], Kv.nil _ _⟩
  · simp [Value.cells] at e
    obtain ⟨rfl, rfl, rfl⟩ := e
    rw [cells_tree] at hx
    have each : ∀ i, i < len0 → ∃ q : Tq, (∀ j (u : Value), [Value.int .i64 q.1.kind, .int .i64 q.1.n, .string q.1.s, q.2.1, q.2.2][j]? = some u → w.cell? ((a.add (i * 5)).add j) = some u) ∧ Tv w w.heap.size q.1 q.2.1 q.2.2 := fun i hi => by
      obtain ⟨cs', y, k1, k2⟩ := hx i hi
      obtain ⟨t, vk', vq', rfl, ht⟩ := open_tree_cells n k2
      obtain ⟨_, _, hcell⟩ := World.cells?_some k1
      refine ⟨(t, vk', vq'), fun j u hu => ?_, ht⟩
      have hj : j < 5 := by
        rcases Nat.lt_or_ge j 5 with h | h
        · exact h
        · rw [List.getElem?_eq_none (by simpa using h)] at hu; cases hu
      rw [hcell j hj]
      exact hu
    haveI : Inhabited Tq := ⟨(.mk 0 0 ⟨#[]⟩ [] [], .bool false, .bool false)⟩
    obtain ⟨q, hq⟩ := Go.Deep.choose_lt each
    refine ⟨_, Kv.of_list (L := (List.range len0).map q) (A := some a) (c := cap0) rfl (by simpa using hl) hm (fun h => by cases h) (fun i hi => ?_) |> fun h => by simpa using h⟩
    have hi' : i < len0 := by simpa using hi
    obtain ⟨k1, k2⟩ := hq i hi'
    obtain ⟨b, off, spot⟩ := a
    have : spot = none := by simpa [Addr.add] using World.cell?_spot ((hq 0 (by omega)).1 0 _ rfl)
    subst this
    have key : ∀ j u, [Value.int .i64 (q i).1.kind, .int .i64 (q i).1.n, .string (q i).1.s, (q i).2.1, (q i).2.2][j]? = some u → w.cell? ⟨b, off + i * 5 + j, none⟩ = some u := fun j u hu => by
      have := k1 j u hu
      rwa [add_plain, add_plain] at this
    have g0 := key 0 _ rfl
    have hget : ((List.range len0).map q)[i] = q i := by simp
    simp only [hget]
    exact ⟨b, off, rfl, lt_of_cell g0, ⟨g0, key 1 _ rfl, key 2 _ rfl, key 3 _ rfl, key 4 _ rfl⟩, k2⟩
end
end Go.Proofs.YtldjdoebappkoaaGreatDoor
