/- A slice of numbers as an argument, and what becomes of an empty memory by them. -/
import Derived.Test.YtandkgdlcdoikaaSeq20
import Derived.Test.YtandkgdlcdoikaaPA
import Derived.Test.YtandkgdlcdoikaaEach
namespace Go.Proofs.Ytandkgdlcdoikaa
open Go.RowKit Go.ChangeShapes Go.WideShapes
set_option linter.unusedVariables false
set_option maxRecDepth 100000
set_option linter.unusedSimpArgs false

def fNum (p : Nat × Nat) : Value × Value := (.int .u32 (p.1 : Int), .int .u32 (p.2 : Int))
/-- the value is a slice of the numbers l -/
structure Nl (w : World) (v : Value) (l : List (Nat × Nat)) : Prop where
  sl : Sl fNum w w.heap.size v l
  ok : ∀ p ∈ l, p.1 < 4294967296 ∧ p.2 < 4294967296
theorem open_numbers {H : Type} {enc : TypeId × Value → H} {w : World} {base : Nat} {held : Bool} {r : Reach} {b0 : Nat} {v : Value} {d : DataW H} {ps : List MemPlace}
    (hv : Value.okWide Try.prog w r b0 31 v) (hd : DataW.Trod enc Try.prog w base (fun _ => true) held 31 v d ps) : ∃ l, Nl w v l := by
  obtain ⟨a, len, cap, rfl⟩ := okWide_slice Try.underlying31 hv
  obtain ⟨fuel, hf⟩ := hd
  obtain ⟨v', l, hcs, hsl, hok⟩ := open_two (f := fNum) (ok := fun p => p.1 < 4294967296 ∧ p.2 < 4294967296) Try.underlying31 Try.underlying33 (by kernel_rfl) rfl rfl (by kernel_rfl) (by kernel_rfl)
    (fun n v0 v1 x0 x1 h0 h1 => by
      obtain ⟨z0, e0, _, w0⟩ := DataW.trod_int Try.underlying22 h0
      obtain ⟨z1, e1, _, w1⟩ := DataW.trod_int Try.underlying22 h1
      simp at e0 e1
      subst e0 e1
      obtain ⟨a0, b0⟩ := bounds_u32 w0
      obtain ⟨a1, b1⟩ := bounds_u32 w1
      obtain ⟨z0, rfl⟩ := Int.eq_ofNat_of_zero_le a0
      obtain ⟨z1, rfl⟩ := Int.eq_ofNat_of_zero_le a1
      exact ⟨(z0, z1), rfl, by simp only; omega, by simp only; omega⟩) hf
  simp [Value.cells] at hcs
  subst hcs
  exact ⟨l, hsl, hok⟩
/-- an argument that is a memory -/
theorem open_seen {H : Type} {enc : TypeId × Value → H} {w : World} {base : Nat} {held : Bool} {r : Reach} {b0 : Nat} {v : Value} {d : DataW H} {ps : List MemPlace}
    (hv : Value.okWide Try.prog w r b0 25 v) (hd : DataW.Trod enc Try.prog w base (fun _ => true) held 25 v d ps) : ∃ s : Sn, v = .agg #[.bool s.any, .int .u32 (s.epoch : Int), .int .u32 (s.top : Int), .int .u64 (s.bits : Int)] ∧ s.Ok := by
  obtain ⟨cs, rfl, hsz, _⟩ : ∃ cs, v = .agg cs ∧ cs.size = Try.prog.cellsOf 25 ∧ Row.okWide Try.prog w r b0 25 cs := by simpa [Value.okWide, Try.underlying25] using hv
  rw [show Try.prog.cellsOf 25 = 4 by kernel_rfl] at hsz
  obtain ⟨fuel, hf⟩ := hd
  obtain ⟨xs, n, _, _, _, hlen, hx⟩ := DataW.trod_struct Try.underlying25 hf
  obtain ⟨l⟩ := cs
  match l, hsz with
  | [c0, c1, c2, c3], _ =>
  match xs, hlen with
  | [x0, x1, x2, x3], _ =>
  have one : ∀ t, t ∈ [4, 22, 23] → Try.prog.cellsOf t = 1 := by
    intro t ht
    simp at ht
    rcases ht with rfl | rfl | rfl <;> kernel_rfl
  have h0 : DataW.trod enc Try.prog w base (fun _ => true) held n 4 [c0] = some x0 := each_field hx 0 _ rfl 4 0 1 rfl rfl (one _ (by decide))
  have h1 : DataW.trod enc Try.prog w base (fun _ => true) held n 22 [c1] = some x1 := each_field hx 1 _ rfl 22 1 1 rfl rfl (one _ (by decide))
  have h2 : DataW.trod enc Try.prog w base (fun _ => true) held n 22 [c2] = some x2 := each_field hx 2 _ rfl 22 2 1 rfl rfl (one _ (by decide))
  have h3 : DataW.trod enc Try.prog w base (fun _ => true) held n 23 [c3] = some x3 := each_field hx 3 _ rfl 23 3 1 rfl rfl (one _ (by decide))
  obtain ⟨z0, e0, _⟩ := DataW.trod_bool Try.underlying4 h0
  obtain ⟨z1, e1, _, w1⟩ := DataW.trod_int Try.underlying22 h1
  obtain ⟨z2, e2, _, w2⟩ := DataW.trod_int Try.underlying22 h2
  obtain ⟨z3, e3, _, w3⟩ := DataW.trod_int Try.underlying23 h3
  simp at e0 e1 e2 e3
  subst e0 e1 e2 e3
  obtain ⟨a1, b1⟩ := bounds_u32 w1
  obtain ⟨a2, b2⟩ := bounds_u32 w2
  obtain ⟨a3, b3⟩ := bounds_u64 w3
  obtain ⟨z1, rfl⟩ := Int.eq_ofNat_of_zero_le a1
  obtain ⟨z2, rfl⟩ := Int.eq_ofNat_of_zero_le a2
  obtain ⟨z3, rfl⟩ := Int.eq_ofNat_of_zero_le a3
  exact ⟨⟨z0, z1, z2, z3⟩, rfl, ⟨by simp only; omega, by simp only; omega, by simp only; omega⟩⟩
namespace Sn
/-- the memory behind the first j numbers -/
def run (l : List (Nat × Nat)) (j : Nat) : Sn := (l.take j).foldl (fun s p => s.mark p.1 p.2) zero
theorem run_zero (l : List (Nat × Nat)) : run l 0 = zero := by simp [run]
theorem run_succ {l : List (Nat × Nat)} {j : Nat} (h : j < l.length) : run l (j + 1) = (run l j).mark l[j].1 l[j].2 := by
  unfold run
  rw [List.take_succ_eq_append_getElem h, List.foldl_append]
  rfl
theorem run_ok {l : List (Nat × Nat)} (ok : ∀ p ∈ l, p.1 < 4294967296 ∧ p.2 < 4294967296) : ∀ j, j ≤ l.length → (run l j).Ok
  | 0, _ => by rw [run_zero]; exact ⟨by decide, by decide, by decide⟩
  | j + 1, h => by
    rw [run_succ (by omega)]
    have := ok _ (List.getElem_mem (show j < l.length by omega))
    exact mark_ok (run_ok ok j (by omega)) this.1 this.2
theorem run_clean {l : List (Nat × Nat)} : ∀ j, j ≤ l.length → (run l j).Clean
  | 0, _ => by rw [run_zero]; exact clean_zero
  | j + 1, h => by rw [run_succ (by omega)]; exact clean_mark (run_clean j (by omega)) _ _
theorem run_marked {l : List (Nat × Nat)} {k : Nat} (hk : k < l.length) : ∀ j, k < j → j ≤ l.length → ¬ (run l j).fresh l[k].1 l[k].2 = 0
  | 0, h, _ => absurd h (by omega)
  | j + 1, h, hj => by
    rw [run_succ (by omega)]
    by_cases e : k = j
    · subst e; exact marked _ _ _
    · exact stays _ _ _ _ _ (run_marked hk j (by omega) (by omega))
end Sn
end Go.Proofs.Ytandkgdlcdoikaa
