/- Lists of messages, and talks, as memory and as arguments. -/
import Derived.Test.YtjomchehnlnfcaaPE
import Derived.Test.YtjomchehnlnfcaaEach
import Derived.Test.YtjomchehnlnfcaaPV
namespace Go.Proofs.Ytjomchehnlnfcaa
open Go.RowKit Go.ChangeShapes Go.WideShapes
open Gm
set_option linter.unusedVariables false
set_option linter.unusedSimpArgs false
set_option maxRecDepth 100000

def msgRow (m : Ms) (vp vq : Value) : List Value := [.int .i64 m.kind, .int .u32 (m.rid : Int), .int .u8 (m.code : Int), .bool m.has, .int .u64 (m.id : Int), .string m.key, .string m.val, .int .u64 (m.pid : Int), .int .u16 (m.pad : Int), vp, vq]
/-- the value is a slice of the messages -/
def Ml (w : World) (B : Nat) (v : Value) (ms : List Ms) : Prop := ∃ A c, v = .slice A ms.length c ∧ ms.length ≤ c ∧ c ≤ maxLen ∧ (A = none → c = 0) ∧
  ∀ i (h : i < ms.length), ∃ b off vp vq, A = some ⟨b, off, none⟩ ∧ b < B ∧ (∀ k, k < 11 → w.cell? ⟨b, off + i * 11 + k, none⟩ = (msgRow ms[i] vp vq)[k]?) ∧ Sl fPeer w B vp ms[i].peers ∧ Sl fPair w B vq ms[i].pairs ∧ Ok ms[i]
section
variable {w w' : World} {B B' : Nat} {v : Value} {ms : List Ms}
theorem Ml.below (h : Ml w B v ms) (hb : Below B w w') : Ml w' B v ms := by
  obtain ⟨A, c, e, h1, h2, h3, h4⟩ := h
  refine ⟨A, c, e, h1, h2, h3, fun i hi => ?_⟩
  obtain ⟨b, off, vp, vq, e, hlt, hc, hp, hq, hok⟩ := h4 i hi
  exact ⟨b, off, vp, vq, e, hlt, fun k hk => (hb.cell (p := ⟨b, off + i * 11 + k, none⟩) hlt).trans (hc k hk), hp.below hb, hq.below hb, hok⟩
theorem Ml.more (h : Ml w B v ms) (hB : B ≤ B') : Ml w B' v ms := by
  obtain ⟨A, c, e, h1, h2, h3, h4⟩ := h
  refine ⟨A, c, e, h1, h2, h3, fun i hi => ?_⟩
  obtain ⟨b, off, vp, vq, e, hlt, hc, hp, hq, hok⟩ := h4 i hi
  exact ⟨b, off, vp, vq, e, by omega, hc, hp.more hB, hq.more hB, hok⟩
theorem Ml.kept (h : Ml w w.heap.size v ms) (hb : Below w.heap.size w w') : Ml w' w'.heap.size v ms := (h.below hb).more hb.size
theorem Ml.nil (w : World) (B : Nat) : Ml w B (.slice none 0 0) [] := ⟨none, 0, rfl, Nat.le_refl _, by unfold maxLen; omega, fun _ => rfl, fun i h => by cases h⟩
theorem Ml.shape (h : Ml w B v ms) : ∃ A c, v = .slice A ms.length c ∧ ms.length ≤ c ∧ c ≤ maxLen := by
  obtain ⟨A, c, e, h1, h2, _⟩ := h
  exact ⟨A, c, e, h1, h2⟩
theorem Ml.at_ {A : Option Addr} {n c : Nat} (h : Ml w B (.slice A n c) ms) {i : Nat} (hi : i < ms.length) : ∃ b off vp vq, A = some ⟨b, off, none⟩ ∧ b < B ∧ ∀ W, Below B w W → (∀ k, k < 11 → W.cell? ⟨b, off + i * 11 + k, none⟩ = (msgRow ms[i] vp vq)[k]?) ∧ Mv W B ms[i] (.agg (msgRow ms[i] vp vq).toArray) := by
  obtain ⟨A', c', e, _, _, _, h4⟩ := h
  cases e
  obtain ⟨b, off, vp, vq, e, hlt, hc, hp, hq, hok⟩ := h4 i hi
  exact ⟨b, off, vp, vq, e, hlt, fun W hW => ⟨fun k hk => (hW.cell (p := ⟨b, off + i * 11 + k, none⟩) hlt).trans (hc k hk), ⟨⟨vp, vq, rfl, hp.below hW, hq.below hW⟩, hok⟩⟩⟩
end
set_option maxHeartbeats 1000000 in
theorem open_msg_cells {H : Type} {enc : TypeId × Value → H} {w : World} {base : Nat} {held : Bool} {fuel : Nat} {cs : List Value} {x : DataW H × List MemPlace} (hcl : cs.length = 11)
    (hf : DataW.trod enc Try.prog w base (fun _ => true) held fuel 66 cs = some x) : ∃ m vp vq, cs = msgRow m vp vq ∧ Sl fPeer w w.heap.size vp m.peers ∧ Sl fPair w w.heap.size vq m.pairs ∧ Ok m := by
  obtain ⟨xs, n, _, _, _, hlen, hx⟩ := DataW.trod_struct Try.underlying66 hf
  match cs, hcl with
  | [c0, c1, c2, c3, c4, c5, c6, c7, c8, c9, c10], _ =>
  match xs, hlen with
  | [x0, x1, x2, x3, x4, x5, x6, x7, x8, x9], _ =>
  have one : ∀ t, t ∈ [3, 23, 5, 4, 55, 9, 22, 63, 64] → Try.prog.cellsOf t = 1 := by
    intro t ht
    simp at ht
    rcases ht with rfl | rfl | rfl | rfl | rfl | rfl | rfl | rfl | rfl <;> kernel_rfl
  have two2 : Try.prog.cellsOf 62 = 2 := by kernel_rfl
  have two3 : Try.prog.cellsOf 71 = 2 := by kernel_rfl
  have h0 : DataW.trod enc Try.prog w base (fun _ => true) held n 3 [c0] = some x0 := trod_field hx 0 _ rfl 3 0 1 rfl rfl (one _ (by decide))
  have h1 : DataW.trod enc Try.prog w base (fun _ => true) held n 23 [c1] = some x1 := trod_field hx 1 _ rfl 23 1 1 rfl rfl (one _ (by decide))
  have h2 : DataW.trod enc Try.prog w base (fun _ => true) held n 5 [c2] = some x2 := trod_field hx 2 _ rfl 5 2 1 rfl rfl (one _ (by decide))
  have h3 : DataW.trod enc Try.prog w base (fun _ => true) held n 4 [c3] = some x3 := trod_field hx 3 _ rfl 4 3 1 rfl rfl (one _ (by decide))
  have h4 : DataW.trod enc Try.prog w base (fun _ => true) held n 55 [c4] = some x4 := trod_field hx 4 _ rfl 55 4 1 rfl rfl (one _ (by decide))
  have h5 : DataW.trod enc Try.prog w base (fun _ => true) held n 9 [c5] = some x5 := trod_field hx 5 _ rfl 9 5 1 rfl rfl (one _ (by decide))
  have h6 : DataW.trod enc Try.prog w base (fun _ => true) held n 9 [c6] = some x6 := trod_field hx 6 _ rfl 9 6 1 rfl rfl (one _ (by decide))
  have h7 : DataW.trod enc Try.prog w base (fun _ => true) held n 62 [c7, c8] = some x7 := trod_field hx 7 _ rfl 62 7 2 rfl rfl two2
  have h8 : DataW.trod enc Try.prog w base (fun _ => true) held n 63 [c9] = some x8 := trod_field hx 8 _ rfl 63 9 1 rfl rfl (one _ (by decide))
  have h9 : DataW.trod enc Try.prog w base (fun _ => true) held n 64 [c10] = some x9 := trod_field hx 9 _ rfl 64 10 1 rfl rfl (one _ (by decide))
  obtain ⟨z0, e0, _, w0⟩ := DataW.trod_int Try.underlying3 h0
  obtain ⟨z1, e1, _, w1⟩ := DataW.trod_int Try.underlying23 h1
  obtain ⟨z2, e2, _, w2⟩ := DataW.trod_int Try.underlying5 h2
  obtain ⟨z3, e3, _⟩ := DataW.trod_bool Try.underlying4 h3
  obtain ⟨z4, e4, _, w4⟩ := DataW.trod_int Try.underlying55 h4
  obtain ⟨z5, e5, _, w5⟩ := DataW.trod_string Try.underlying9 h5
  obtain ⟨z6, e6, _, w6⟩ := DataW.trod_string Try.underlying9 h6
  obtain ⟨ys, n', _, _, _, hlen7, hx7⟩ := DataW.trod_struct Try.underlying62 h7
  match ys, hlen7 with
  | [y0, y1], _ =>
  have g0 : DataW.trod enc Try.prog w base (fun _ => true) held n' 55 [c7] = some y0 := trod_field hx7 0 _ rfl 55 0 1 rfl rfl (one _ (by decide))
  have g1 : DataW.trod enc Try.prog w base (fun _ => true) held n' 22 [c8] = some y1 := trod_field hx7 1 _ rfl 22 1 1 rfl rfl (one _ (by decide))
  obtain ⟨z7, e7, _, w7⟩ := DataW.trod_int Try.underlying55 g0
  obtain ⟨z8, e8, _, w8⟩ := DataW.trod_int Try.underlying22 g1
  obtain ⟨vp, lp, ep, hp, op⟩ := open_two (f := fPeer) (ok := fun p => p.1 < 18446744073709551616 ∧ p.2 < 65536) Try.underlying63 Try.underlying62 two2 rfl rfl (one _ (by decide)) (one _ (by decide)) (fun n v0 v1 x0 x1 k0 k1 => by
    obtain ⟨a, ea, _, wa⟩ := DataW.trod_int Try.underlying55 k0
    obtain ⟨b, eb, _, wb⟩ := DataW.trod_int Try.underlying22 k1
    have ba := bounds_u64 wa
    have bb := bounds_u16 wb
    simp at ea eb
    subst ea eb
    obtain ⟨a, rfl⟩ : ∃ q : Nat, a = (q : Int) := ⟨a.toNat, by omega⟩
    obtain ⟨b, rfl⟩ : ∃ q : Nat, b = (q : Int) := ⟨b.toNat, by omega⟩
    exact ⟨(a, b), rfl, by omega, by omega⟩) h8
  obtain ⟨vq, lq, eq, hq, oq⟩ := open_two (f := fPair) (ok := fun p => p.1.size ≤ maxLen ∧ p.2.size ≤ maxLen) Try.underlying64 Try.underlying71 two3 rfl rfl (one _ (by decide)) (one _ (by decide)) (fun n v0 v1 x0 x1 k0 k1 => by
    obtain ⟨a, ea, _, wa⟩ := DataW.trod_string Try.underlying9 k0
    obtain ⟨b, eb, _, wb⟩ := DataW.trod_string Try.underlying9 k1
    simp at ea eb
    subst ea eb
    exact ⟨(a, b), rfl, wa, wb⟩) h9
  simp only [List.cons.injEq, and_true] at e0 e1 e2 e3 e4 e5 e6 e7 e8 ep eq
  subst e0 e1 e2 e3 e4 e5 e6 e7 e8 ep eq
  have b0' := bounds_i64 w0
  have b1 := bounds_u32 w1
  have b2 := bounds_u8 w2
  have b4 := bounds_u64 w4
  have b7 := bounds_u64 w7
  have b8 := bounds_u16 w8
  obtain ⟨z1, rfl⟩ : ∃ q : Nat, z1 = (q : Int) := ⟨z1.toNat, by omega⟩
  obtain ⟨z2, rfl⟩ : ∃ q : Nat, z2 = (q : Int) := ⟨z2.toNat, by omega⟩
  obtain ⟨z4, rfl⟩ : ∃ q : Nat, z4 = (q : Int) := ⟨z4.toNat, by omega⟩
  obtain ⟨z7, rfl⟩ : ∃ q : Nat, z7 = (q : Int) := ⟨z7.toNat, by omega⟩
  obtain ⟨z8, rfl⟩ : ∃ q : Nat, z8 = (q : Int) := ⟨z8.toNat, by omega⟩
  have k1 : z1 < 4294967296 := by omega
  have k2 : z2 < 256 := by omega
  have k4 : z4 < 18446744073709551616 := by omega
  have k7 : z7 < 18446744073709551616 := by omega
  have k8 : z8 < 65536 := by omega
  exact ⟨⟨z0, z1, z2, z3, z4, z5, z6, z7, z8, lp, lq⟩, _, _, rfl, hp, hq, ⟨b0', k1, k2, k4, w5, w6, k7, k8, op, oq⟩⟩
theorem open_msgs {H : Type} {enc : TypeId × Value → H} {w : World} {base : Nat} {held : Bool} {fuel : Nat} {cs : List Value} {x : DataW H × List MemPlace} (h : DataW.trod enc Try.prog w base (fun _ => true) held fuel 24 cs = some x) :
    ∃ v ms, cs = [v] ∧ Ml w w.heap.size v ms := by
  rcases open_each Try.underlying24 h with rfl | ⟨a, len, cap, n, _, rfl, hl, hm, hx⟩
  · exact ⟨_, [], rfl, Ml.nil _ _⟩
  · rw [show Try.prog.cellsOf 66 = 11 by kernel_rfl] at hx
    have each : ∀ i, i < len → ∃ u : Ms × Value × Value, (∀ k, k < 11 → w.cell? ((a.add (i * 11)).add k) = (msgRow u.1 u.2.1 u.2.2)[k]?) ∧ Sl fPeer w w.heap.size u.2.1 u.1.peers ∧ Sl fPair w w.heap.size u.2.2 u.1.pairs ∧ Ok u.1 := fun i hi => by
      obtain ⟨cs', y, h1, h2⟩ := hx i hi
      obtain ⟨_, hlen, hcell⟩ := World.cells?_some h1
      obtain ⟨m, vp, vq, rfl, h3, h4, h5⟩ := open_msg_cells hlen h2
      refine ⟨(m, vp, vq), fun k hk => ?_, h3, h4, h5⟩
      rw [hcell k hk]
    haveI : Inhabited (Ms × Value × Value) := ⟨(⟨0, 0, 0, false, 0, ⟨#[]⟩, ⟨#[]⟩, 0, 0, [], []⟩, .bool false, .bool false)⟩
    obtain ⟨q, hq⟩ := Go.Deep.choose_lt each
    refine ⟨_, (List.range len).map fun i => (q i).1, rfl, some a, cap, by simp, by simpa using hl, hm, (fun h => by cases h), fun i hi => ?_⟩
    have hi' : i < len := by simpa using hi
    have h0 := (hq i hi').1 0 (by omega)
    obtain ⟨b0, off0, e0, hb0⟩ := spot_of h0
    obtain ⟨b, off, spot⟩ := a
    have hsp : spot = none := by
      have hz := (hq 0 (by omega)).1 0 (by omega)
      rw [Go.Deep.add_add] at hz
      simpa [Addr.add] using World.cell?_spot hz
    subst hsp
    rw [add_plain, add_plain] at e0
    injection e0 with e1 _ _
    subst e1
    have hcs := (hq i hi').1
    refine ⟨b, off, (q i).2.1, (q i).2.2, rfl, hb0, fun k hk => ?_, by simpa using (hq i hi').2.1, by simpa using (hq i hi').2.2.1, by simpa using (hq i hi').2.2.2⟩
    have := hcs k hk
    rw [add_plain, add_plain] at this
    simpa using this
/-! ### talks -/
/-- a talk -/
structure Tk where
  addr : Nat
  state : Int
  theirs : Nat
  version : Int
  since : Int
  epoch : Nat
  next : Nat
  waits : List Ms
structure Tk.Ok (t : Tk) : Prop where
  addr : t.addr < 65536
  state : -9223372036854775808 ≤ t.state ∧ t.state ≤ 9223372036854775807
  theirs : t.theirs < 65536
  version : -9223372036854775808 ≤ t.version ∧ t.version ≤ 9223372036854775807
  since : -9223372036854775808 ≤ t.since ∧ t.since ≤ 9223372036854775807
  epoch : t.epoch < 4294967296
  next : t.next < 4294967296
/-- the cells of a talk -/
def Tk.row (t : Tk) (v : Value) : Array Value := #[.int .u16 (t.addr : Int), .int .i64 t.state, .int .u16 (t.theirs : Int), .int .i64 t.version, .int .i64 t.since, .int .u32 (t.epoch : Int), .int .u32 (t.next : Int), v]
theorem open_talk {H : Type} {enc : TypeId × Value → H} {w : World} {base : Nat} {held : Bool} {r : Reach} {b0 : Nat} {v : Value} {d : DataW H} {ps : List MemPlace}
    (hv : Value.okWide Try.prog w r b0 26 v) (hd : DataW.Trod enc Try.prog w base (fun _ => true) held 26 v d ps) : ∃ t W, v = .agg (Tk.row t W) ∧ Ml w w.heap.size W t.waits ∧ t.Ok := by
  obtain ⟨cs, rfl, hsz, _⟩ : ∃ cs, v = .agg cs ∧ cs.size = Try.prog.cellsOf 26 ∧ Row.okWide Try.prog w r b0 26 cs := by simpa [Value.okWide, Try.underlying26] using hv
  rw [show Try.prog.cellsOf 26 = 8 by kernel_rfl] at hsz
  obtain ⟨fuel, hf⟩ := hd
  obtain ⟨xs, n, _, _, _, hlen, hx⟩ := DataW.trod_struct Try.underlying26 hf
  obtain ⟨l⟩ := cs
  match l, hsz with
  | [c0, c1, c2, c3, c4, c5, c6, c7], _ =>
  match xs, hlen with
  | [x0, x1, x2, x3, x4, x5, x6, x7], _ =>
  have one : ∀ t, t ∈ [22, 3, 23, 24] → Try.prog.cellsOf t = 1 := by
    intro t ht
    simp at ht
    rcases ht with rfl | rfl | rfl | rfl <;> kernel_rfl
  have h0 : DataW.trod enc Try.prog w base (fun _ => true) held n 22 [c0] = some x0 := each_field hx 0 _ rfl 22 0 1 rfl rfl (one _ (by decide))
  have h1 : DataW.trod enc Try.prog w base (fun _ => true) held n 3 [c1] = some x1 := each_field hx 1 _ rfl 3 1 1 rfl rfl (one _ (by decide))
  have h2 : DataW.trod enc Try.prog w base (fun _ => true) held n 22 [c2] = some x2 := each_field hx 2 _ rfl 22 2 1 rfl rfl (one _ (by decide))
  have h3 : DataW.trod enc Try.prog w base (fun _ => true) held n 3 [c3] = some x3 := each_field hx 3 _ rfl 3 3 1 rfl rfl (one _ (by decide))
  have h4 : DataW.trod enc Try.prog w base (fun _ => true) held n 3 [c4] = some x4 := each_field hx 4 _ rfl 3 4 1 rfl rfl (one _ (by decide))
  have h5 : DataW.trod enc Try.prog w base (fun _ => true) held n 23 [c5] = some x5 := each_field hx 5 _ rfl 23 5 1 rfl rfl (one _ (by decide))
  have h6 : DataW.trod enc Try.prog w base (fun _ => true) held n 23 [c6] = some x6 := each_field hx 6 _ rfl 23 6 1 rfl rfl (one _ (by decide))
  have h7 : DataW.trod enc Try.prog w base (fun _ => true) held n 24 [c7] = some x7 := each_field hx 7 _ rfl 24 7 1 rfl rfl (one _ (by decide))
  obtain ⟨z0, e0, _, w0⟩ := DataW.trod_int Try.underlying22 h0
  obtain ⟨z1, e1, _, w1⟩ := DataW.trod_int Try.underlying3 h1
  obtain ⟨z2, e2, _, w2⟩ := DataW.trod_int Try.underlying22 h2
  obtain ⟨z3, e3, _, w3⟩ := DataW.trod_int Try.underlying3 h3
  obtain ⟨z4, e4, _, w4⟩ := DataW.trod_int Try.underlying3 h4
  obtain ⟨z5, e5, _, w5⟩ := DataW.trod_int Try.underlying23 h5
  obtain ⟨z6, e6, _, w6⟩ := DataW.trod_int Try.underlying23 h6
  obtain ⟨W, ms, e7, hm⟩ := open_msgs h7
  simp at e0 e1 e2 e3 e4 e5 e6 e7
  subst e0 e1 e2 e3 e4 e5 e6 e7
  obtain ⟨p0, q0⟩ := bounds_u16 w0
  obtain ⟨p2, q2⟩ := bounds_u16 w2
  obtain ⟨p5, q5⟩ := bounds_u32 w5
  obtain ⟨p6, q6⟩ := bounds_u32 w6
  obtain ⟨z0, rfl⟩ := Int.eq_ofNat_of_zero_le p0
  obtain ⟨z2, rfl⟩ := Int.eq_ofNat_of_zero_le p2
  obtain ⟨z5, rfl⟩ := Int.eq_ofNat_of_zero_le p5
  obtain ⟨z6, rfl⟩ := Int.eq_ofNat_of_zero_le p6
  exact ⟨⟨z0, z1, z2, z3, z4, z5, z6, ms⟩, _, rfl, hm, ⟨by show z0 < _; omega, bounds_i64 w1, by show z2 < _; omega, bounds_i64 w3, bounds_i64 w4, by show z5 < _; omega, by show z6 < _; omega⟩⟩
namespace Ng
def ask (t : Tk) : Tk × Bool := if t.state = 0 then (⟨t.addr, 1, t.theirs, t.version, 0, t.epoch, t.next, t.waits⟩, true) else (t, false)
def hear (t : Tk) (own theirs : Nat) (reply : Bool) : Tk × Bool := (⟨t.addr, if Vs.best own theirs = 0 then 3 else 2, theirs, (Vs.best own theirs : Nat), 0, t.epoch, t.next, t.waits⟩, !reply)
def tick (t : Tk) : Tk × Bool :=
  if t.state = 1 then (if 0 ≤ t.since ∧ t.since ≤ 2 then (⟨t.addr, t.state, t.theirs, t.version, t.since + 1, t.epoch, t.next, t.waits⟩, false) else (⟨t.addr, t.state, t.theirs, t.version, 0, t.epoch, t.next, t.waits⟩, true)) else (t, false)
theorem ask_ok {t : Tk} (h : t.Ok) : (ask t).1.Ok := by
  unfold ask
  split
  · exact ⟨h.addr, (by show -9223372036854775808 ≤ (1 : Int) ∧ (1 : Int) ≤ 9223372036854775807; decide), h.theirs, h.version, (by show -9223372036854775808 ≤ (0 : Int) ∧ (0 : Int) ≤ 9223372036854775807; decide), h.epoch, h.next⟩
  · exact h
theorem hear_ok {t : Tk} (h : t.Ok) {own theirs : Nat} (ht : theirs < 65536) (reply : Bool) : (hear t own theirs reply).1.Ok := by
  have hb : Vs.best own theirs ≤ 16 := Vs.bestN_le own theirs 16
  refine ⟨h.addr, ?_, ht, ?_, (by show -9223372036854775808 ≤ (0 : Int) ∧ (0 : Int) ≤ 9223372036854775807; decide), h.epoch, h.next⟩
  · have e : (hear t own theirs reply).1.state = if Vs.best own theirs = 0 then 3 else 2 := rfl
    rw [e]
    split <;> decide
  · show -9223372036854775808 ≤ ((Vs.best own theirs : Nat) : Int) ∧ ((Vs.best own theirs : Nat) : Int) ≤ 9223372036854775807
    omega
theorem tick_ok {t : Tk} (h : t.Ok) : (tick t).1.Ok := by
  unfold tick
  split
  · split
    · rename_i k
      exact ⟨h.addr, h.state, h.theirs, h.version, by show -9223372036854775808 ≤ t.since + 1 ∧ t.since + 1 ≤ 9223372036854775807; omega, h.epoch, h.next⟩
    · exact ⟨h.addr, h.state, h.theirs, h.version, (by show -9223372036854775808 ≤ (0 : Int) ∧ (0 : Int) ≤ 9223372036854775807; decide), h.epoch, h.next⟩
  · exact h
theorem ask_waits (t : Tk) : (ask t).1.waits = t.waits := by unfold ask; split <;> rfl
theorem tick_waits (t : Tk) : (tick t).1.waits = t.waits := by unfold tick; split <;> (try split) <;> rfl
def hello (set : Nat) (reply : Bool) : List Nat := [if reply = true then 2 else 1, set / 256, set % 256]
def read (l : List Nat) : Nat × Bool × Nat :=
  if l.length = 3 ∧ 1 ≤ l.getD 0 0 ∧ l.getD 0 0 ≤ 2 then (l.getD 1 0 * 256 + l.getD 2 0, decide (l.getD 0 0 = 2), 0) else (0, false, 3)
theorem read_hello {set : Nat} (h : set < 65536) (reply : Bool) : read (hello set reply) = (set, reply, 0) := by
  unfold read hello
  cases reply <;> simp <;> omega
end Ng
end Go.Proofs.Ytjomchehnlnfcaa
