/- Arguments: limits; a slice of deeds. -/
import Derived.Test.YtbhdgfpaoghnbaaDe22
import Derived.Test.YtbhdgfpaoghnbaaOpb
namespace Go.Proofs.Ytbhdgfpaoghnbaa
open Go.RowKit Go.ChangeShapes Go.WideShapes
set_option linter.unusedVariables false
set_option maxRecDepth 100000

theorem open_limits {H : Type} {enc : TypeId × Value → H} {w : World} {base : Nat} {held : Bool} {r : Reach} {b0 : Nat} {v : Value} {d : DataW H} {ps : List MemPlace}
    (hv : Value.okWide Try.prog w r b0 23 v) (hd : DataW.Trod enc Try.prog w base (fun _ => true) held 23 v d ps) : ∃ a b c : Int, v = .agg #[.int .i64 a, .int .i64 b, .int .i64 c] ∧ (Lit.int .i64 a).wf = true ∧ (Lit.int .i64 b).wf = true ∧ (Lit.int .i64 c).wf = true := by
  obtain ⟨cs, rfl, hsz, _⟩ : ∃ cs, v = .agg cs ∧ cs.size = Try.prog.cellsOf 23 ∧ Row.okWide Try.prog w r b0 23 cs := by simpa [Value.okWide, Try.underlying23] using hv
  rw [show Try.prog.cellsOf 23 = 3 by kernel_rfl] at hsz
  obtain ⟨fuel, hf⟩ := hd
  obtain ⟨xs, n, _, _, _, hlen, hx⟩ := DataW.trod_struct Try.underlying23 hf
  obtain ⟨l⟩ := cs
  match l, hsz with
  | [c0, c1, c2], _ =>
  match xs, hlen with
  | [x0, x1, x2], _ =>
  have h0 : DataW.trod enc Try.prog w base (fun _ => true) held n 3 [c0] = some x0 := each_field hx 0 _ rfl 3 0 1 rfl rfl (by kernel_rfl)
  have h1 : DataW.trod enc Try.prog w base (fun _ => true) held n 3 [c1] = some x1 := each_field hx 1 _ rfl 3 1 1 rfl rfl (by kernel_rfl)
  have h2 : DataW.trod enc Try.prog w base (fun _ => true) held n 3 [c2] = some x2 := each_field hx 2 _ rfl 3 2 1 rfl rfl (by kernel_rfl)
  obtain ⟨z0, e0, _, w0⟩ := DataW.trod_int Try.underlying3 h0
  obtain ⟨z1, e1, _, w1⟩ := DataW.trod_int Try.underlying3 h1
  obtain ⟨z2, e2, _, w2⟩ := DataW.trod_int Try.underlying3 h2
  simp at e0 e1 e2
  subst e0 e1 e2
  exact ⟨z0, z1, z2, rfl, w0, w1, w2⟩
/-- a datagram's cells -/
theorem trod_gram {H : Type} {enc : TypeId × Value → H} {w : World} {base : Nat} {held : Bool} {fuel : Nat} {c0 c1 c2 c3 c4 c5 c6 : Value} {x : DataW H × List MemPlace}
    (hf : DataW.trod enc Try.prog w base (fun _ => true) held fuel 36 [c0, c1, c2, c3, c4, c5, c6] = some x) :
    ∃ g : Gd, g.Ok ∧ c0 = .int .u8 (g.kind : Int) ∧ c1 = .int .u8 (g.version : Int) ∧ c2 = .int .u32 (g.epoch : Int) ∧ c3 = .int .u32 (g.id : Int) ∧ c4 = .int .u16 (g.index : Int) ∧ c5 = .int .u16 (g.count : Int) ∧ Piece w w.heap.size c6 g.body := by
  obtain ⟨xs, n, _, _, _, hlen, hx⟩ := DataW.trod_struct Try.underlying36 hf
  match xs, hlen with
  | [x0, x1, x2, x3, x4, x5, x6], _ =>
  have one : ∀ t, t ∈ [5, 33, 32, 34] → Try.prog.cellsOf t = 1 := by
    intro t ht
    simp at ht
    rcases ht with rfl | rfl | rfl | rfl <;> kernel_rfl
  have h0 : DataW.trod enc Try.prog w base (fun _ => true) held n 5 [c0] = some x0 := each_field hx 0 _ rfl 5 0 1 rfl rfl (one _ (by decide))
  have h1 : DataW.trod enc Try.prog w base (fun _ => true) held n 5 [c1] = some x1 := each_field hx 1 _ rfl 5 1 1 rfl rfl (one _ (by decide))
  have h2 : DataW.trod enc Try.prog w base (fun _ => true) held n 33 [c2] = some x2 := each_field hx 2 _ rfl 33 2 1 rfl rfl (one _ (by decide))
  have h3 : DataW.trod enc Try.prog w base (fun _ => true) held n 33 [c3] = some x3 := each_field hx 3 _ rfl 33 3 1 rfl rfl (one _ (by decide))
  have h4 : DataW.trod enc Try.prog w base (fun _ => true) held n 32 [c4] = some x4 := each_field hx 4 _ rfl 32 4 1 rfl rfl (one _ (by decide))
  have h5 : DataW.trod enc Try.prog w base (fun _ => true) held n 32 [c5] = some x5 := each_field hx 5 _ rfl 32 5 1 rfl rfl (one _ (by decide))
  have h6 : DataW.trod enc Try.prog w base (fun _ => true) held n 34 [c6] = some x6 := each_field hx 6 _ rfl 34 6 1 rfl rfl (one _ (by decide))
  obtain ⟨z0, e0, _, w0⟩ := DataW.trod_int Try.underlying5 h0
  obtain ⟨z1, e1, _, w1⟩ := DataW.trod_int Try.underlying5 h1
  obtain ⟨z2, e2, _, w2⟩ := DataW.trod_int Try.underlying33 h2
  obtain ⟨z3, e3, _, w3⟩ := DataW.trod_int Try.underlying33 h3
  obtain ⟨z4, e4, _, w4⟩ := DataW.trod_int Try.underlying32 h4
  obtain ⟨z5, e5, _, w5⟩ := DataW.trod_int Try.underlying32 h5
  obtain ⟨v6, l6, e6, hp, hb⟩ := open_piece h6
  simp at e0 e1 e2 e3 e4 e5 e6
  subst e0 e1 e2 e3 e4 e5 e6
  obtain ⟨a0, b0⟩ := bounds_u8 w0
  obtain ⟨a1, b1⟩ := bounds_u8 w1
  obtain ⟨a2, b2⟩ := bounds_u32 w2
  obtain ⟨a3, b3⟩ := bounds_u32 w3
  obtain ⟨a4, b4⟩ := bounds_u16 w4
  obtain ⟨a5, b5⟩ := bounds_u16 w5
  obtain ⟨z0, rfl⟩ := Int.eq_ofNat_of_zero_le a0
  obtain ⟨z1, rfl⟩ := Int.eq_ofNat_of_zero_le a1
  obtain ⟨z2, rfl⟩ := Int.eq_ofNat_of_zero_le a2
  obtain ⟨z3, rfl⟩ := Int.eq_ofNat_of_zero_le a3
  obtain ⟨z4, rfl⟩ := Int.eq_ofNat_of_zero_le a4
  obtain ⟨z5, rfl⟩ := Int.eq_ofNat_of_zero_le a5
  exact ⟨⟨z0, z1, z2, z3, z4, z5, l6⟩, ⟨by simp only; omega, by simp only; omega, by simp only; omega, by simp only; omega, by simp only; omega, by simp only; omega, hb⟩, rfl, rfl, rfl, rfl, rfl, rfl, hp⟩
theorem open_deeds {H : Type} {enc : TypeId × Value → H} {w : World} {base : Nat} {held : Bool} {r : Reach} {b0 : Nat} {v : Value} {d : DataW H} {ps : List MemPlace}
    (hv : Value.okWide Try.prog w r b0 24 v) (hd : DataW.Trod enc Try.prog w base (fun _ => true) held 24 v d ps) : ∃ l, Cl fDe 9 w w.heap.size v l ∧ ∀ x ∈ l, DeOk w x := by
  obtain ⟨a, len, cap, rfl⟩ := okWide_slice Try.underlying24 hv
  obtain ⟨fuel, hf⟩ := hd
  obtain ⟨v', l, hcs, h1, h2⟩ := open_cl (f := fDe) (k := 9) (by decide) (ok := DeOk w) Try.underlying24 (by kernel_rfl) (fun n cs y hlen hy => by
    obtain ⟨xs, m, _, _, _, hl, hx⟩ := DataW.trod_struct Try.underlying38 hy
    match cs, hlen with
    | [c0, c1, c2, c3, c4, c5, c6, c7, c8], _ =>
    match xs, hl with
    | [x0, x1, x2], _ =>
    have h0 : DataW.trod enc Try.prog w base (fun _ => true) held m 4 [c0] = some x0 := each_field hx 0 _ rfl 4 0 1 rfl rfl (by kernel_rfl)
    have h1 : DataW.trod enc Try.prog w base (fun _ => true) held m 32 [c1] = some x1 := each_field hx 1 _ rfl 32 1 1 rfl rfl (by kernel_rfl)
    have h2 : DataW.trod enc Try.prog w base (fun _ => true) held m 36 [c2, c3, c4, c5, c6, c7, c8] = some x2 := each_field hx 2 _ rfl 36 2 7 rfl rfl (by kernel_rfl)
    obtain ⟨z0, e0, _⟩ := DataW.trod_bool Try.underlying4 h0
    obtain ⟨z1, e1, _, w1⟩ := DataW.trod_int Try.underlying32 h1
    obtain ⟨g, gok, r0, r1, r2, r3, r4, r5, hp⟩ := trod_gram h2
    simp at e0 e1
    subst e0 e1 r0 r1 r2 r3 r4 r5
    obtain ⟨a1, b1⟩ := bounds_u16 w1
    obtain ⟨z1, rfl⟩ := Int.eq_ofNat_of_zero_le a1
    exact ⟨⟨z0, z1, g, c8⟩, rfl, by simp only; omega, gok, hp⟩) ⟨false, 0, Gr.zero, .bool false⟩ hf
  simp [Value.cells] at hcs
  subst hcs
  exact ⟨l, h1, h2⟩
end Go.Proofs.Ytbhdgfpaoghnbaa
