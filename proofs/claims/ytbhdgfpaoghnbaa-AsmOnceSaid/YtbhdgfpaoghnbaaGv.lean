/- Datagrams as memory: values that are read, boxes, an argument. -/
import Derived.Test.YtbhdgfpaoghnbaaPR
import Derived.Test.YtbhdgfpaoghnbaaPC
import Derived.Test.YtbhdgfpaoghnbaaPA
import Derived.Test.YtbhdgfpaoghnbaaOpb
namespace Go.Proofs.Ytbhdgfpaoghnbaa
open Go.RowKit Go.ChangeShapes Go.WideShapes
set_option linter.unusedVariables false
set_option maxRecDepth 100000

/-- the value is the datagram -/
structure Gv (w : World) (B : Nat) (g : Gd) (v : Value) : Prop where
  ex : ∃ A c, v = .agg #[.int .u8 (g.kind : Int), .int .u8 (g.version : Int), .int .u32 (g.epoch : Int), .int .u32 (g.id : Int), .int .u16 (g.index : Int), .int .u16 (g.count : Int), .slice A g.body.length c] ∧ Piece w B (.slice A g.body.length c) g.body
  ok : g.Ok
/-- block b holds the datagram -/
structure Gx (w : World) (b : Nat) (g : Gd) (A : Option Addr) (c : Nat) : Prop where
  whole : Whole w b 36 #[.int .u8 (g.kind : Int), .int .u8 (g.version : Int), .int .u32 (g.epoch : Int), .int .u32 (g.id : Int), .int .u16 (g.index : Int), .int .u16 (g.count : Int), .slice A g.body.length c]
  piece : Piece w b (.slice A g.body.length c) g.body
  ok : g.Ok
theorem gramI {cs : Array Value} (h : cs.size = 7) : (Try.prog.info? 36).map (·.size) = some cs.size := by rw [h]; kernel_rfl
section
variable {w w' : World} {B B' b : Nat} {g : Gd} {v : Value} {A : Option Addr} {c : Nat}
theorem Gv.below (h : Gv w B g v) (hb : Below B w w') : Gv w' B g v := by
  obtain ⟨⟨A, c, e, hp⟩, ok⟩ := h
  exact ⟨⟨A, c, e, hp.below hb⟩, ok⟩
theorem Gv.more (h : Gv w B g v) (hB : B ≤ B') : Gv w B' g v := by
  obtain ⟨⟨A, c, e, hp⟩, ok⟩ := h
  exact ⟨⟨A, c, e, hp.more hB⟩, ok⟩
theorem Gv.all (h : Gv w B g v) : Gv w w.heap.size g v := by
  obtain ⟨⟨A, c, e, hp⟩, ok⟩ := h
  exact ⟨⟨A, c, e, hp.all⟩, ok⟩
theorem Gv.kept (h : Gv w B g v) (hb : Below w.heap.size w w') : Gv w' w'.heap.size g v := (h.all.below hb).more hb.size
theorem Gx.lt (h : Gx w b g A c) : b < w.heap.size := h.whole.lt
theorem Gx.below (h : Gx w b g A c) (hb : Below B w w') (hg : b < B) : Gx w' b g A c := ⟨h.whole.below hb hg, h.piece.below (hb.mono (by omega)), h.ok⟩
theorem Gx.kept (h : Gx w b g A c) (hb : Below w.heap.size w w') : Gx w' b g A c := h.below hb h.lt
theorem Gx.gv (h : Gx w b g A c) : Gv w b g (.agg #[.int .u8 (g.kind : Int), .int .u8 (g.version : Int), .int .u32 (g.epoch : Int), .int .u32 (g.id : Int), .int .u16 (g.index : Int), .int .u16 (g.count : Int), .slice A g.body.length c]) := ⟨⟨A, c, rfl, h.piece⟩, h.ok⟩
theorem Gx.cells (h : Gx w b g A c) : w.cell? ⟨b, 0, none⟩ = some (.int .u8 (g.kind : Int)) ∧ w.cell? ⟨b, 1, none⟩ = some (.int .u8 (g.version : Int)) ∧ w.cell? ⟨b, 2, none⟩ = some (.int .u32 (g.epoch : Int)) ∧ w.cell? ⟨b, 3, none⟩ = some (.int .u32 (g.id : Int)) ∧
    w.cell? ⟨b, 4, none⟩ = some (.int .u16 (g.index : Int)) ∧ w.cell? ⟨b, 5, none⟩ = some (.int .u16 (g.count : Int)) ∧ w.cell? ⟨b, 6, none⟩ = some (.slice A g.body.length c) :=
  ⟨h.whole.at_ 0, h.whole.at_ 1, h.whole.at_ 2, h.whole.at_ 3, h.whole.at_ 4, h.whole.at_ 5, h.whole.at_ 6⟩
/-- an argument in its block -/
theorem boxedG (H : Gv w B g v) : ∃ b A c w0, v = .agg #[.int .u8 (g.kind : Int), .int .u8 (g.version : Int), .int .u32 (g.epoch : Int), .int .u32 (g.id : Int), .int .u16 (g.index : Int), .int .u16 (g.count : Int), .slice A g.body.length c] ∧ w.heap.size = b ∧ w.alloc (.cells #[.int .u8 (g.kind : Int), .int .u8 (g.version : Int), .int .u32 (g.epoch : Int), .int .u32 (g.id : Int), .int .u16 (g.index : Int), .int .u16 (g.count : Int), .slice A g.body.length c] 36) = w0 ∧ w0.heap.size = b + 1 ∧ Gx w0 b g A c ∧ Below b w w0 := by
  obtain ⟨A, c, rfl, hp⟩ := H.ex
  have B0 : Below w.heap.size w (w.alloc (.cells #[.int .u8 (g.kind : Int), .int .u8 (g.version : Int), .int .u32 (g.epoch : Int), .int .u32 (g.id : Int), .int .u16 (g.index : Int), .int .u16 (g.count : Int), .slice A g.body.length c] 36)) := (Below.refl _ _).alloc (Nat.le_refl _) _
  exact ⟨_, A, c, _, rfl, rfl, rfl, by simp, ⟨Whole.made _ _ _, hp.all.below B0, H.ok⟩, B0⟩
/-- a new variable -/
theorem var_gram (w : World) : ∃ b w0, w.heap.size = b ∧ w.alloc (.cells #[.int .u8 0, .int .u8 0, .int .u32 0, .int .u32 0, .int .u16 0, .int .u16 0, .slice none 0 0] 36) = w0 ∧ w0.heap.size = b + 1 ∧ Gx w0 b Gr.zero none 0 ∧ Below b w w0 :=
  ⟨_, _, rfl, rfl, by simp, ⟨Whole.made _ _ _, Piece.nil _ _, Gr.ok_zero⟩, (Below.refl _ _).alloc (Nat.le_refl _) _⟩
/-- a datagram that is stored in a new variable -/
theorem var_gv (H : Gv w B g v) : ∃ b A c w0 w1, v = .agg #[.int .u8 (g.kind : Int), .int .u8 (g.version : Int), .int .u32 (g.epoch : Int), .int .u32 (g.id : Int), .int .u16 (g.index : Int), .int .u16 (g.count : Int), .slice A g.body.length c] ∧ w.heap.size = b ∧ w.alloc (.cells #[.int .u8 0, .int .u8 0, .int .u32 0, .int .u32 0, .int .u16 0, .int .u16 0, .slice none 0 0] 36) = w0 ∧ Whole w0 b 36 #[.int .u8 0, .int .u8 0, .int .u32 0, .int .u32 0, .int .u16 0, .int .u16 0, .slice none 0 0] ∧ w0.setRow b #[.int .u8 (g.kind : Int), .int .u8 (g.version : Int), .int .u32 (g.epoch : Int), .int .u32 (g.id : Int), .int .u16 (g.index : Int), .int .u16 (g.count : Int), .slice A g.body.length c] = w1 ∧ Gx w1 b g A c ∧ Below w.heap.size w w1 ∧ b < w1.heap.size := by
  obtain ⟨A, c, rfl, hp⟩ := H.ex
  obtain ⟨b, w0, hb, hal, hs, hx, hb0⟩ := var_gram w
  have hB : Below w.heap.size w (w0.setRow b #[.int .u8 (g.kind : Int), .int .u8 (g.version : Int), .int .u32 (g.epoch : Int), .int .u32 (g.id : Int), .int .u16 (g.index : Int), .int .u16 (g.count : Int), .slice A g.body.length c]) := below_row (by rw [hb]; exact hb0) (by omega) _
  refine ⟨b, A, c, w0, _, rfl, hb, hal, hx.whole, rfl, ⟨hx.whole.row _, ?_, H.ok⟩, hB, by rw [size_setRow]; omega⟩
  have h1 := hp.all.below hB
  rw [hb] at h1
  exact h1
end
/-- an argument that is a datagram -/
theorem open_gram {H : Type} {enc : TypeId × Value → H} {w : World} {base : Nat} {held : Bool} {r : Reach} {b0 : Nat} {v : Value} {d : DataW H} {ps : List MemPlace}
    (hv : Value.okWide Try.prog w r b0 36 v) (hd : DataW.Trod enc Try.prog w base (fun _ => true) held 36 v d ps) : ∃ g, Gv w w.heap.size g v := by
  obtain ⟨cs, rfl, hsz, _⟩ : ∃ cs, v = .agg cs ∧ cs.size = Try.prog.cellsOf 36 ∧ Row.okWide Try.prog w r b0 36 cs := by simpa [Value.okWide, Try.underlying36] using hv
  rw [show Try.prog.cellsOf 36 = 7 by kernel_rfl] at hsz
  obtain ⟨fuel, hf⟩ := hd
  obtain ⟨xs, n, _, _, _, hlen, hx⟩ := DataW.trod_struct Try.underlying36 hf
  obtain ⟨l⟩ := cs
  match l, hsz with
  | [c0, c1, c2, c3, c4, c5, c6], _ =>
  match xs, hlen with
  | [x0, x1, x2, x3, x4, x5, x6], _ =>
  have one : ∀ t, t ∈ [5, 33, 32, 34] → Try.prog.cellsOf t = 1 := by
    intro t ht
    simp at ht
    rcases ht with rfl | rfl | rfl | rfl <;> kernel_rfl
  have h0 : DataW.trod enc Try.prog w base (fun _ => true) held n 5 [c0] = some x0 := each_field hx 0 _ rfl 5 0 1 rfl rfl (one _ (by decide))
  have h1 : DataW.trod enc Try.prog w base (fun _ => true) held n 5 [c1] = some x1 := each_field hx 1 _ rfl 5 1 1 rfl rfl (one _ (by decide))
  have h2 : DataW.trod enc Try.prog w base (fun _ => true) held n 33 [c2] = some x2 := each_field hx 2 _ rfl 33 2 1 rfl rfl (one _ (by decide))
  have h3 : DataW.trod enc Try.prog w base (fun _ => true) held n 33 [c3] = some x3 := each_field hx 3 _ rfl 33 3 1 rfl rfl (one _ (by decide))
  have h4 : DataW.trod enc Try.prog w base (fun _ => true) held n 32 [c4] = some x4 := each_field hx 4 _ rfl 32 4 1 rfl rfl (one _ (by decide))
  have h5 : DataW.trod enc Try.prog w base (fun _ => true) held n 32 [c5] = some x5 := each_field hx 5 _ rfl 32 5 1 rfl rfl (one _ (by decide))
  have h6 : DataW.trod enc Try.prog w base (fun _ => true) held n 34 [c6] = some x6 := each_field hx 6 _ rfl 34 6 1 rfl rfl (one _ (by decide))
  obtain ⟨z0, e0, _, w0⟩ := DataW.trod_int Try.underlying5 h0
  obtain ⟨z1, e1, _, w1⟩ := DataW.trod_int Try.underlying5 h1
  obtain ⟨z2, e2, _, w2⟩ := DataW.trod_int Try.underlying33 h2
  obtain ⟨z3, e3, _, w3⟩ := DataW.trod_int Try.underlying33 h3
  obtain ⟨z4, e4, _, w4⟩ := DataW.trod_int Try.underlying32 h4
  obtain ⟨z5, e5, _, w5⟩ := DataW.trod_int Try.underlying32 h5
  obtain ⟨v6, l6, e6, hp, hb⟩ := open_piece h6
  simp at e0 e1 e2 e3 e4 e5 e6
  subst e0 e1 e2 e3 e4 e5 e6
  obtain ⟨a0, b0⟩ := bounds_u8 w0
  obtain ⟨a1, b1⟩ := bounds_u8 w1
  obtain ⟨a2, b2⟩ := bounds_u32 w2
  obtain ⟨a3, b3⟩ := bounds_u32 w3
  obtain ⟨a4, b4⟩ := bounds_u16 w4
  obtain ⟨a5, b5⟩ := bounds_u16 w5
  obtain ⟨z0, rfl⟩ := Int.eq_ofNat_of_zero_le a0
  obtain ⟨z1, rfl⟩ := Int.eq_ofNat_of_zero_le a1
  obtain ⟨z2, rfl⟩ := Int.eq_ofNat_of_zero_le a2
  obtain ⟨z3, rfl⟩ := Int.eq_ofNat_of_zero_le a3
  obtain ⟨z4, rfl⟩ := Int.eq_ofNat_of_zero_le a4
  obtain ⟨z5, rfl⟩ := Int.eq_ofNat_of_zero_le a5
  have hp0 := hp
  obtain ⟨A, c, rfl, _⟩ := hp
  exact ⟨⟨z0, z1, z2, z3, z4, z5, l6⟩, ⟨A, c, rfl, hp0⟩, ⟨by simp only; omega, by simp only; omega, by simp only; omega, by simp only; omega, by simp only; omega, by simp only; omega, hb⟩⟩
end Go.Proofs.Ytbhdgfpaoghnbaa
