/- Messages in memory. -/
import Derived.Test.YtpfeccbnkgnioaaDoorTwo
import Derived.Test.YtpfeccbnkgnioaaDoorGm
namespace Go.Proofs.YtpfeccbnkgnioaaDoor
open Go.ChangeShapes Go.WideShapes Go.ChangeAt Go.RowKit
set_option linter.unusedVariables false

def fPeer (p : Nat × Nat) : Value × Value := (.int .u64 (p.1 : Int), .int .u16 (p.2 : Int))
def fPair (p : ByteArray × ByteArray) : Value × Value := (.string p.1, .string p.2)
theorem fPeer_one (p : Nat × Nat) : (fPeer p).1.oneCell' = true ∧ (fPeer p).2.oneCell' = true := ⟨rfl, rfl⟩
theorem fPair_one (p : ByteArray × ByteArray) : (fPair p).1.oneCell' = true ∧ (fPair p).2.oneCell' = true := ⟨rfl, rfl⟩
theorem peerT2 : ElemT2 Tryd.prog 27 26 (.agg #[.int .u64 0, .int .u16 0]) 16 := ⟨Tryd.underlying27, by kernel_rfl, rfl, by decide⟩
theorem pairT2 : ElemT2 Tryd.prog 28 43 (.agg #[.string ByteArray.empty, .string ByteArray.empty]) 32 := ⟨Tryd.underlying28, by kernel_rfl, rfl, by decide⟩

namespace Gm
/-- the numbers and lengths fit -/
structure Ok (m : Ms) : Prop where
  kind : -9223372036854775808 ≤ m.kind ∧ m.kind ≤ 9223372036854775807
  rid : m.rid < 4294967296
  code : m.code < 256
  id : m.id < 18446744073709551616
  key : m.key.size ≤ maxLen
  val : m.val.size ≤ maxLen
  pid : m.pid < 18446744073709551616
  pad : m.pad < 65536
  peers : ∀ p ∈ m.peers, p.1 < 18446744073709551616 ∧ p.2 < 65536
  pairs : ∀ p ∈ m.pairs, p.1.size ≤ maxLen ∧ p.2.size ≤ maxLen
theorem Ok.bareBy {m : Ms} (h : Ok m) (c h' i p ps k v pr : Bool) : Ok (bareBy c h' i p ps k v pr m) := by
  obtain ⟨h1, h2, h3, h4, h5, h6, h7, h8, h9, h10⟩ := h
  have z : (⟨#[]⟩ : ByteArray).size ≤ maxLen := Nat.zero_le _
  exact ⟨h1, h2, by cases c <;> simp [Gm.bareBy, oi]; exact h3, by cases i <;> simp [Gm.bareBy, oi]; exact h4, by cases k <;> simp only [Gm.bareBy, oi, cond] <;> assumption, by cases v <;> simp only [Gm.bareBy, oi, cond] <;> assumption,
    by cases p <;> simp [Gm.bareBy, oi]; exact h7, by cases p <;> simp [Gm.bareBy, oi]; exact h8, by cases ps <;> simp [Gm.bareBy, oi]; exact fun a b hab => h9 (a, b) hab, by cases pr <;> simp [Gm.bareBy, oi]; exact fun a b hab => h10 (a, b) hab⟩
theorem Ok.bare {m : Ms} (h : Ok m) : Ok (bare m) := h.bareBy _ _ _ _ _ _ _ _
end Gm
open Gm

/-- the value is the message -/
structure Mv (w : World) (B : Nat) (m : Ms) (v : Value) : Prop where
  ex : ∃ vp vq, v = .agg #[.int .i64 m.kind, .int .u32 (m.rid : Int), .int .u8 (m.code : Int), .bool m.has, .int .u64 (m.id : Int), .string m.key, .string m.val, .int .u64 (m.pid : Int), .int .u16 (m.pad : Int), vp, vq] ∧ Sl fPeer w B vp m.peers ∧ Sl fPair w B vq m.pairs
  ok : Ok m
section
variable {w w' : World} {B B' : Nat} {m : Ms} {v : Value}
theorem Mv.below (h : Mv w B m v) (hb : Below B w w') : Mv w' B m v := by
  obtain ⟨⟨p, q, h1, h2, h3⟩, h4⟩ := h
  exact ⟨⟨p, q, h1, h2.below hb, h3.below hb⟩, h4⟩
theorem Mv.more (h : Mv w B m v) (hB : B ≤ B') : Mv w B' m v := by
  obtain ⟨⟨p, q, h1, h2, h3⟩, h4⟩ := h
  exact ⟨⟨p, q, h1, h2.more hB, h3.more hB⟩, h4⟩
theorem Mv.all (h : Mv w B m v) : Mv w w.heap.size m v := by
  obtain ⟨⟨p, q, h1, h2, h3⟩, h4⟩ := h
  exact ⟨⟨p, q, h1, h2.all, h3.all⟩, h4⟩
theorem Mv.kept (h : Mv w B m v) (hb : Below w.heap.size w w') : Mv w' w'.heap.size m v := (h.all.below hb).more hb.size
/-- a boxed message: block g holds its cells -/
def Bx (w : World) (g : Nat) (m : Ms) (vp vq : Value) : Prop :=
  Whole w g 30 #[.int .i64 m.kind, .int .u32 (m.rid : Int), .int .u8 (m.code : Int), .bool m.has, .int .u64 (m.id : Int), .string m.key, .string m.val, .int .u64 (m.pid : Int), .int .u16 (m.pad : Int), vp, vq]
variable {g : Nat} {vp vq : Value}
theorem Bx.cells (h : Bx w g m vp vq) : w.cell? ⟨g, 0, none⟩ = some (.int .i64 m.kind) ∧ w.cell? ⟨g, 1, none⟩ = some (.int .u32 (m.rid : Int)) ∧ w.cell? ⟨g, 2, none⟩ = some (.int .u8 (m.code : Int)) ∧ w.cell? ⟨g, 3, none⟩ = some (.bool m.has) ∧
    w.cell? ⟨g, 4, none⟩ = some (.int .u64 (m.id : Int)) ∧ w.cell? ⟨g, 5, none⟩ = some (.string m.key) ∧ w.cell? ⟨g, 6, none⟩ = some (.string m.val) ∧ w.cell? ⟨g, 7, none⟩ = some (.int .u64 (m.pid : Int)) ∧ w.cell? ⟨g, 8, none⟩ = some (.int .u16 (m.pad : Int)) ∧
    w.cell? ⟨g, 9, none⟩ = some vp ∧ w.cell? ⟨g, 10, none⟩ = some vq :=
  ⟨h.at_ 0, h.at_ 1, h.at_ 2, h.at_ 3, h.at_ 4, h.at_ 5, h.at_ 6, h.at_ 7, h.at_ 8, h.at_ 9, h.at_ 10⟩
theorem Bx.below (h : Bx w g m vp vq) (hb : Below B w w') (hg : g < B) : Bx w' g m vp vq := Whole.below h hb hg
end

/-- a boxed message and what it leads to -/
structure Box (w : World) (b : Nat) (m : Ms) (vp vq : Value) : Prop where
  bx : Bx w b m vp vq
  peers : Sl fPeer w b vp m.peers
  pairs : Sl fPair w b vq m.pairs
  ok : Ok m
section
variable {w w' : World} {B b : Nat} {m : Ms} {v vp vq : Value}
theorem Box.below (h : Box w b m vp vq) (hb : Below B w w') (hg : b < B) : Box w' b m vp vq := ⟨h.bx.below hb hg, h.peers.below (hb.mono (by omega)), h.pairs.below (hb.mono (by omega)), h.ok⟩
theorem Box.lt (h : Box w b m vp vq) : b < w.heap.size := Whole.lt h.bx
theorem Box.kept (h : Box w b m vp vq) (hb : Below w.heap.size w w') : Box w' b m vp vq := h.below hb h.lt
theorem Box.drew (h : Box w b m vp vq) : Box w.drew b m vp vq := h.below (Below.refl _ _).drew h.lt
theorem Box.mv (h : Box w b m vp vq) : Mv w b m (.agg #[.int .i64 m.kind, .int .u32 (m.rid : Int), .int .u8 (m.code : Int), .bool m.has, .int .u64 (m.id : Int), .string m.key, .string m.val, .int .u64 (m.pid : Int), .int .u16 (m.pad : Int), vp, vq]) := ⟨⟨vp, vq, rfl, h.peers, h.pairs⟩, h.ok⟩
theorem Box.cells (h : Box w b m vp vq) : w.cell? ⟨b, 0, none⟩ = some (.int .i64 m.kind) ∧ w.cell? ⟨b, 1, none⟩ = some (.int .u32 (m.rid : Int)) ∧ w.cell? ⟨b, 2, none⟩ = some (.int .u8 (m.code : Int)) ∧ w.cell? ⟨b, 3, none⟩ = some (.bool m.has) ∧
    w.cell? ⟨b, 4, none⟩ = some (.int .u64 (m.id : Int)) ∧ w.cell? ⟨b, 5, none⟩ = some (.string m.key) ∧ w.cell? ⟨b, 6, none⟩ = some (.string m.val) ∧ w.cell? ⟨b, 7, none⟩ = some (.int .u64 (m.pid : Int)) ∧ w.cell? ⟨b, 8, none⟩ = some (.int .u16 (m.pad : Int)) ∧
    w.cell? ⟨b, 9, none⟩ = some vp ∧ w.cell? ⟨b, 10, none⟩ = some vq := h.bx.cells
set_option maxRecDepth 100000 in
theorem boxed (H : Mv w B m v) : ∃ b vp vq w0, v = .agg #[.int .i64 m.kind, .int .u32 (m.rid : Int), .int .u8 (m.code : Int), .bool m.has, .int .u64 (m.id : Int), .string m.key, .string m.val, .int .u64 (m.pid : Int), .int .u16 (m.pad : Int), vp, vq] ∧ w.heap.size = b ∧ w.alloc (.cells #[.int .i64 m.kind, .int .u32 (m.rid : Int), .int .u8 (m.code : Int), .bool m.has, .int .u64 (m.id : Int), .string m.key, .string m.val, .int .u64 (m.pid : Int), .int .u16 (m.pad : Int), vp, vq] 30) = w0 ∧ w0.heap.size = b + 1 ∧ Box w0 b m vp vq ∧ Below b w w0 := by
  obtain ⟨vp, vq, rfl, hp, hq⟩ := H.ex
  have B0 : Below w.heap.size w (w.alloc (.cells #[.int .i64 m.kind, .int .u32 (m.rid : Int), .int .u8 (m.code : Int), .bool m.has, .int .u64 (m.id : Int), .string m.key, .string m.val, .int .u64 (m.pid : Int), .int .u16 (m.pad : Int), vp, vq] 30)) := (Below.refl _ _).alloc (Nat.le_refl _) _
  exact ⟨_, vp, vq, _, rfl, rfl, rfl, by simp, ⟨Whole.made _ _ _, hp.all.below B0, hq.all.below B0, H.ok⟩, B0⟩
end
theorem msgI {cs : Array Value} (h : cs.size = 11) : (Tryd.prog.info? 30).map (·.size) = some cs.size := by rw [h]; kernel_rfl

theorem trod_field {H : Type} {enc : TypeId × Value → H} {P : Program} {w : World} {base : Nat} {spare : Nat → Bool} {held : Bool} {n : Nat} {fs : Array Field} {cs : List Value} {xs : List (DataW H × List MemPlace)}
    (hx : ∀ (i : Nat) (f : Field), fs[i]? = some f → DataW.trod enc P w base spare held n f.type ((cs.drop f.offset).take (P.cellsOf f.type)) = xs[i]?) (i : Nat) (f : Field) (hi : fs[i]? = some f) (ty off c : Nat) (h1 : f.type = ty) (h2 : f.offset = off) (h3 : P.cellsOf ty = c) :
    DataW.trod enc P w base spare held n ty ((cs.drop off).take c) = xs[i]? := by
  subst h1 h2 h3
  exact hx i f hi

set_option maxRecDepth 100000 in
/-- an argument that is a message -/
theorem open_msg {H : Type} {enc : TypeId × Value → H} {w : World} {base : Nat} {spare : Nat → Bool} {held : Bool} {r : Reach} {b0 : Nat} {v : Value} {d : DataW H} {ps : List MemPlace}
    (hv : Value.okWide Tryd.prog w r b0 30 v) (hd : DataW.Trod enc Tryd.prog w base spare held 30 v d ps) : ∃ m, Mv w w.heap.size m v := by
  obtain ⟨cs, rfl, hsz, _⟩ : ∃ cs, v = .agg cs ∧ cs.size = Tryd.prog.cellsOf 30 ∧ Row.okWide Tryd.prog w r b0 30 cs := by simpa [Value.okWide, Tryd.underlying30] using hv
  rw [show Tryd.prog.cellsOf 30 = 11 by kernel_rfl] at hsz
  obtain ⟨fuel, hf⟩ := hd
  obtain ⟨xs, n, _, _, _, hlen, hx⟩ := DataW.trod_struct Tryd.underlying30 hf
  obtain ⟨l⟩ := cs
  match l, hsz with
  | [c0, c1, c2, c3, c4, c5, c6, c7, c8, c9, c10], _ =>
  match xs, hlen with
  | [x0, x1, x2, x3, x4, x5, x6, x7, x8, x9], _ =>
  have one : ∀ t, t ∈ [3, 22, 5, 4, 23, 9, 24, 27, 28] → Tryd.prog.cellsOf t = 1 := by
    intro t ht
    simp at ht
    rcases ht with rfl | rfl | rfl | rfl | rfl | rfl | rfl | rfl | rfl <;> kernel_rfl
  have two2 : Tryd.prog.cellsOf 26 = 2 := by kernel_rfl
  have two3 : Tryd.prog.cellsOf 43 = 2 := by kernel_rfl
  have h0 : DataW.trod enc Tryd.prog w base spare held n 3 [c0] = some x0 := trod_field hx 0 _ rfl 3 0 1 rfl rfl (one _ (by decide))
  have h1 : DataW.trod enc Tryd.prog w base spare held n 22 [c1] = some x1 := trod_field hx 1 _ rfl 22 1 1 rfl rfl (one _ (by decide))
  have h2 : DataW.trod enc Tryd.prog w base spare held n 5 [c2] = some x2 := trod_field hx 2 _ rfl 5 2 1 rfl rfl (one _ (by decide))
  have h3 : DataW.trod enc Tryd.prog w base spare held n 4 [c3] = some x3 := trod_field hx 3 _ rfl 4 3 1 rfl rfl (one _ (by decide))
  have h4 : DataW.trod enc Tryd.prog w base spare held n 23 [c4] = some x4 := trod_field hx 4 _ rfl 23 4 1 rfl rfl (one _ (by decide))
  have h5 : DataW.trod enc Tryd.prog w base spare held n 9 [c5] = some x5 := trod_field hx 5 _ rfl 9 5 1 rfl rfl (one _ (by decide))
  have h6 : DataW.trod enc Tryd.prog w base spare held n 9 [c6] = some x6 := trod_field hx 6 _ rfl 9 6 1 rfl rfl (one _ (by decide))
  have h7 : DataW.trod enc Tryd.prog w base spare held n 26 [c7, c8] = some x7 := trod_field hx 7 _ rfl 26 7 2 rfl rfl two2
  have h8 : DataW.trod enc Tryd.prog w base spare held n 27 [c9] = some x8 := trod_field hx 8 _ rfl 27 9 1 rfl rfl (one _ (by decide))
  have h9 : DataW.trod enc Tryd.prog w base spare held n 28 [c10] = some x9 := trod_field hx 9 _ rfl 28 10 1 rfl rfl (one _ (by decide))
  obtain ⟨z0, e0, _, w0⟩ := DataW.trod_int Tryd.underlying3 h0
  obtain ⟨z1, e1, _, w1⟩ := DataW.trod_int Tryd.underlying22 h1
  obtain ⟨z2, e2, _, w2⟩ := DataW.trod_int Tryd.underlying5 h2
  obtain ⟨z3, e3, _⟩ := DataW.trod_bool Tryd.underlying4 h3
  obtain ⟨z4, e4, _, w4⟩ := DataW.trod_int Tryd.underlying23 h4
  obtain ⟨z5, e5, _, w5⟩ := DataW.trod_string Tryd.underlying9 h5
  obtain ⟨z6, e6, _, w6⟩ := DataW.trod_string Tryd.underlying9 h6
  obtain ⟨ys, n', _, _, _, hlen7, hx7⟩ := DataW.trod_struct Tryd.underlying26 h7
  match ys, hlen7 with
  | [y0, y1], _ =>
  have g0 : DataW.trod enc Tryd.prog w base spare held n' 23 [c7] = some y0 := trod_field hx7 0 _ rfl 23 0 1 rfl rfl (one _ (by decide))
  have g1 : DataW.trod enc Tryd.prog w base spare held n' 24 [c8] = some y1 := trod_field hx7 1 _ rfl 24 1 1 rfl rfl (one _ (by decide))
  obtain ⟨z7, e7, _, w7⟩ := DataW.trod_int Tryd.underlying23 g0
  obtain ⟨z8, e8, _, w8⟩ := DataW.trod_int Tryd.underlying24 g1
  obtain ⟨vp, lp, ep, hp, op⟩ := open_two (f := fPeer) (ok := fun p => p.1 < 18446744073709551616 ∧ p.2 < 65536) Tryd.underlying27 Tryd.underlying26 two2 rfl rfl (one _ (by decide)) (one _ (by decide)) (fun n v0 v1 x0 x1 k0 k1 => by
    obtain ⟨a, ea, _, wa⟩ := DataW.trod_int Tryd.underlying23 k0
    obtain ⟨b, eb, _, wb⟩ := DataW.trod_int Tryd.underlying24 k1
    have ba := bounds_u64 wa
    have bb := bounds_u16 wb
    simp at ea eb
    subst ea eb
    obtain ⟨a, rfl⟩ : ∃ q : Nat, a = (q : Int) := ⟨a.toNat, by omega⟩
    obtain ⟨b, rfl⟩ : ∃ q : Nat, b = (q : Int) := ⟨b.toNat, by omega⟩
    exact ⟨(a, b), rfl, by omega, by omega⟩) h8
  obtain ⟨vq, lq, eq, hq, oq⟩ := open_two (f := fPair) (ok := fun p => p.1.size ≤ maxLen ∧ p.2.size ≤ maxLen) Tryd.underlying28 Tryd.underlying43 two3 rfl rfl (one _ (by decide)) (one _ (by decide)) (fun n v0 v1 x0 x1 k0 k1 => by
    obtain ⟨a, ea, _, wa⟩ := DataW.trod_string Tryd.underlying9 k0
    obtain ⟨b, eb, _, wb⟩ := DataW.trod_string Tryd.underlying9 k1
    simp at ea eb
    subst ea eb
    exact ⟨(a, b), rfl, wa, wb⟩) h9
  simp only [List.cons.injEq, and_true] at e0 e1 e2 e3 e4 e5 e6 e7 e8 ep eq
  subst e0 e1 e2 e3 e4 e5 e6 e7 e8 ep eq
  have b0' := bounds_i64 w0
  have b1 := bounds_u32 w1
  have b2 := bounds_u8 w2
  have b4 := bounds_u64 w4
  have b7 := bounds_u64 w7
  have b8 := bounds_u16 w8
  obtain ⟨z1, rfl⟩ : ∃ q : Nat, z1 = (q : Int) := ⟨z1.toNat, by omega⟩
  obtain ⟨z2, rfl⟩ : ∃ q : Nat, z2 = (q : Int) := ⟨z2.toNat, by omega⟩
  obtain ⟨z4, rfl⟩ : ∃ q : Nat, z4 = (q : Int) := ⟨z4.toNat, by omega⟩
  obtain ⟨z7, rfl⟩ : ∃ q : Nat, z7 = (q : Int) := ⟨z7.toNat, by omega⟩
  obtain ⟨z8, rfl⟩ : ∃ q : Nat, z8 = (q : Int) := ⟨z8.toNat, by omega⟩
  have k1 : z1 < 4294967296 := by omega
  have k2 : z2 < 256 := by omega
  have k4 : z4 < 18446744073709551616 := by omega
  have k7 : z7 < 18446744073709551616 := by omega
  have k8 : z8 < 65536 := by omega
  exact ⟨⟨z0, z1, z2, z3, z4, z5, z6, z7, z8, lp, lq⟩, ⟨_, _, rfl, hp, hq⟩, ⟨b0', k1, k2, k4, w5, w6, k7, k8, op, oq⟩⟩
end Go.Proofs.YtpfeccbnkgnioaaDoor
