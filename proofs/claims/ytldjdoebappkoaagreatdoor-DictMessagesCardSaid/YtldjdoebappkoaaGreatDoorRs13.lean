/- The state of layer 13's reference while a message is read out of a tree. -/
import Derived.Test.YtldjdoebappkoaaGreatDoorTt13
import Derived.Test.YtldjdoebappkoaaGreatDoorPF
namespace Go.Proofs.YtldjdoebappkoaaGreatDoor
open Go.RowKit
set_option linter.unusedVariables false
set_option maxRecDepth 100000
set_option linter.unusedSimpArgs false
open Gm

/-- the tree in block b, the answer (zero) in block r, the message in block gm, the tree found last in block gx -/
structure Rs (w0 : World) (b r gm gx : Nat) (t : Tn) (tk tq : Value) (cs : Array Value) (x : Tn) (xk xq : Value) (w : World) : Prop where
  box : Tb w b t tk tq
  res : Whole w r 36 #[.int .i64 0, .int .u32 0, .int .u8 0, .bool false, .int .u64 0, .string ⟨#[]⟩, .string ⟨#[]⟩, .int .u64 0, .int .u16 0, .slice none 0 0, .slice none 0 0]
  msg : Whole w gm 36 cs
  var : Whole w gx 25 #[.int .i64 x.kind, .int .i64 x.n, .string x.s, xk, xq]
  xt : Tv w b x xk xq
  low : Below w0.heap.size w0 w
  lt : w0.heap.size ≤ b ∧ b < r ∧ r < gm ∧ gm < gx
section
variable {w0 : World} {b r gm gx : Nat} {t : Tn} {tk tq : Value} {cs : Array Value} {x x' : Tn} {xk xq xk' xq' : Value} {w w' : World}
theorem Rs.under (H : Rs w0 b r gm gx t tk tq cs x xk xq w) (hb : Below (gx + 1) w w') : Rs w0 b r gm gx t tk tq cs x xk xq w' := by
  have hlt := H.lt
  exact ⟨H.box.below hb (by omega), H.res.below hb (by omega), H.msg.below hb (by omega), H.var.below hb (by omega), H.xt.keep (hb.mono (by omega)), H.low.trans (hb.mono (by omega)), hlt⟩
theorem Rs.behind (H : Rs w0 b r gm gx t tk tq cs x xk xq w) (hb : Below w.heap.size w w') : Rs w0 b r gm gx t tk tq cs x xk xq w' := H.under (hb.mono (by have := H.var.lt; omega))
theorem Rs.putx (H : Rs w0 b r gm gx t tk tq cs x xk xq w) (hx : Tv w b x' xk' xq') : Rs w0 b r gm gx t tk tq cs x' xk' xq' (w.setRow gx #[.int .i64 x'.kind, .int .i64 x'.n, .string x'.s, xk', xq']) := by
  have hlt := H.lt
  have hb : Below gx w (w.setRow gx #[.int .i64 x'.kind, .int .i64 x'.n, .string x'.s, xk', xq']) := below_row (Below.refl _ _) (Nat.le_refl _) _
  exact ⟨H.box.below hb (by omega), H.res.below hb (by omega), H.msg.below hb (by omega), H.var.row _, hx.keep (hb.mono (by omega)), H.low.trans (hb.mono (by omega)), hlt⟩
theorem Rs.putm (H : Rs w0 b r gm gx t tk tq cs x xk xq w) (i : Nat) (u : Value) : Rs w0 b r gm gx t tk tq (cs.setIfInBounds i u) x xk xq (w.setCell ⟨gm, i, none⟩ u) := by
  have hlt := H.lt
  have hb : Below gm w (w.setCell ⟨gm, i, none⟩ u) := (Below.refl gm w).setCell (p := ⟨gm, i, none⟩) (Nat.le_refl _) _
  exact ⟨H.box.below hb (by omega), H.res.below hb (by omega), H.msg.put i u, H.var.other (p := ⟨gm, i, none⟩) (by show gx ≠ gm; omega) _, H.xt.keep (hb.mono (by omega)), H.low.trans (hb.mono (by omega)), hlt⟩
theorem Rs.cells (H : Rs w0 b r gm gx t tk tq cs x xk xq w) : w.cell? ⟨gx, 0, none⟩ = some (.int .i64 x.kind) ∧ w.cell? ⟨gx, 1, none⟩ = some (.int .i64 x.n) ∧ w.cell? ⟨gx, 2, none⟩ = some (.string x.s) ∧ w.cell? ⟨gx, 3, none⟩ = some xk ∧ w.cell? ⟨gx, 4, none⟩ = some xq :=
  ⟨H.var.at_ 0, H.var.at_ 1, H.var.at_ 2, H.var.at_ 3, H.var.at_ 4⟩
/-- Get, asked from here -/
theorem Rs.get (H : Rs w0 b r gm gx t tk tq cs x xk xq w) {k : ByteArray} {X : Tn} (hX : Dm.field t k = X) {s : Bool} (hs : (t.get k).isSome = s) :
    Calls Tryz.prog 17 #[.agg #[.int .i64 t.kind, .int .i64 t.n, .string t.s, tk, tq], .string k] w fun e w' => ∃ Ak ck At ct, e = .returned (.tuple #[.agg #[.int .i64 X.kind, .int .i64 X.n, .string X.s, .slice Ak X.keys.length ck, .slice At X.kids.length ct], .bool s]) ∧
      Rs w0 b r gm gx t tk tq cs x xk xq w' ∧ Tv w' b X (.slice Ak X.keys.length ck) (.slice At X.kids.length ct) ∧ Below w.heap.size w w' := by
  refine (rget11_at H.box.tv (Nat.le_of_lt H.box.lt) k).mono ?_
  rintro e w' ⟨yk, yq, rfl, hv, hb⟩
  have e1 : (t.get k).getD Tn.zero = X := hX
  rw [e1] at hv ⊢
  rw [hs]
  obtain ⟨Ak, ck, rfl, _⟩ := hv.keys
  obtain ⟨At, ct, rfl, _⟩ := hv.kids
  exact ⟨Ak, ck, At, ct, rfl, H.behind hb, hv, hb⟩
end
/-- a kid's cells -/
theorem Tv.kid_at {w : World} {b : Nat} {x : Tn} {xk : Value} {A : Option Addr} {n c : Nat} (H : Tv w b x xk (.slice A n c)) {j : Nat} (hj : j < x.kids.length) : ∃ bk ok K Q, A = some ⟨bk, ok, none⟩ ∧ bk < b ∧ Cell5 w bk (ok + j * 5) x.kids[j] K Q ∧ Tv w b x.kids[j] K Q := by
  obtain ⟨A', c', e, _, _, _, K, Q, h⟩ := H.kids
  injection e with e1 e2 e3
  subst e1
  obtain ⟨bk, ok, h1, h2, h3, h4⟩ := h j hj
  exact ⟨bk, ok, K j, Q j, h1, h2, h3, h4⟩
theorem peerZ13 : (Tryz.prog.info? 32).map (fun i => (i.zero, i.size, i.bytes)) = some (some (.agg #[.int .u64 0, .int .u16 0]), 2, 16) := by kernel_rfl
theorem pairZ13 : (Tryz.prog.info? 65).map (fun i => (i.zero, i.size, i.bytes)) = some (some (.agg #[.string ByteArray.empty, .string ByteArray.empty]), 2, 32) := by kernel_rfl
theorem two_more {α : Type} (f : α → Value × Value) (a b : List α) : two f (a ++ b) = two f a ++ two f b := by unfold two; rw [List.flatMap_append]
theorem wrap13_u8 (n : Int) : IntKind.u8.wrap n = (((n % 256).toNat : Nat) : Int) := by rw [IntKind.wrap_u8]; omega
theorem wrap13_u32 (n : Int) : IntKind.u32.wrap n = (((n % 4294967296).toNat : Nat) : Int) := by rw [IntKind.wrap_u32]; omega
theorem whole_there {w : World} {g t : Nat} {cs : Array Value} (h : Whole w g t cs) {o n : Nat} (hn : o + n ≤ cs.size) : w.there g o n := fun j hj => by
  refine ⟨?_, h.free _⟩
  rw [h.at_, Array.getElem?_eq_getElem (by omega)]
  rfl
/-- the rows of the message that is read -/
structure Ro (gx : Nat) (vp : Value) (L : List (Nat × Nat)) (vq : Value) (M : List (ByteArray × ByteArray)) (w : World) : Prop where
  peers : w.ownsRow (gx + 1) 32 2 vp L.length (two fPeer L)
  pairs : w.ownsRow (gx + 1) 65 2 vq M.length (two fPair M)
  apart : ∀ b, vp.ownBlock = some b → vq.ownBlock ≠ some b
section
variable {gx : Nat} {vp : Value} {L : List (Nat × Nat)} {vq : Value} {M : List (ByteArray × ByteArray)} {w w' : World}
theorem Ro.behind (H : Ro gx vp L vq M w) (hb : Below w.heap.size w w') : Ro gx vp L vq M w' := ⟨own2_below H.peers hb, own2_below H.pairs hb, H.apart⟩
theorem Ro.row (H : Ro gx vp L vq M w) {g : Nat} (hg : g ≤ gx) (cs : Array Value) : Ro gx vp L vq M (w.setRow g cs) :=
  ⟨own_same12 H.peers (fun q e _ => setRow_other w g q cs (by have := (H.peers.lt q e).1; omega)), own_same12 H.pairs (fun q e _ => setRow_other w g q cs (by have := (H.pairs.lt q e).1; omega)), H.apart⟩
theorem Ro.cell (H : Ro gx vp L vq M w) {g i : Nat} (hg : g ≤ gx) (u : Value) : Ro gx vp L vq M (w.setCell ⟨g, i, none⟩ u) :=
  ⟨own_same12 H.peers (fun q e _ => heap_setCell_other w ⟨g, i, none⟩ q u (by have := (H.peers.lt q e).1; show q ≠ g; omega)), own_same12 H.pairs (fun q e _ => heap_setCell_other w ⟨g, i, none⟩ q u (by have := (H.pairs.lt q e).1; show q ≠ g; omega)), H.apart⟩
/-- a pair is appended -/
theorem Ro.pair (H : Ro gx vp L vq M w) {y : ByteArray × ByteArray} {v' : Value} (ho : w'.ownsRow (gx + 1) 65 2 v' (M.length + 1) (two fPair M ++ two fPair [y])) (hg : w.grownBy w' vq.ownBlock) (hv : v'.ownBlock = vq.ownBlock ∨ v'.ownBlock = some w.heap.size) : Ro gx vp L v' (M ++ [y]) w' := by
  refine ⟨own_same12 H.peers (fun q e hq => hg.block q hq (fun e' => H.apart q e e'.symm)), by rw [two_more, List.length_append]; exact ho, fun q e e' => ?_⟩
  rcases hv with h | h
  · rw [h] at e'; exact H.apart q e e'
  · rw [h] at e'; injection e' with e'; have := (H.peers.lt q e).2; omega
end
theorem pairOf_two {t : Tn} (h : t.kids.length = 2) : Dm.pairOf t = ((t.kids[0]'(by omega)).s, (t.kids[1]'(by omega)).s) := by
  obtain ⟨k, n, s, keys, kids⟩ := t
  change kids.length = 2 at h
  match kids, h with
  | [a, b], _ => rfl
theorem pairOf_not {t : Tn} (h : ¬ t.kids.length = 2) : Dm.pairOf t = (⟨#[]⟩, ⟨#[]⟩) := by
  obtain ⟨k, n, s, keys, kids⟩ := t
  change ¬ kids.length = 2 at h
  match kids, h with
  | [], _ => rfl
  | [a], _ => rfl
  | [a, b], h => exact absurd rfl h
  | a :: b :: c :: l, _ => rfl
theorem pairI13 {cs : Array Value} (h : cs.size = 2) : (Tryz.prog.info? 65).map (·.size) = some cs.size := by rw [h]; kernel_rfl
theorem Tv.mem {w : World} {B : Nat} {t u : Tn} {vk vq : Value} (H : Tv w B t vk vq) (hu : u ∈ t.kids) : ∃ K Q, Tv w B u K Q := by
  obtain ⟨_, _, _, _, _, _, K, Q, h⟩ := H.kids
  obtain ⟨i, hi, rfl⟩ := List.mem_iff_getElem.1 hu
  obtain ⟨_, _, _, _, _, h4⟩ := h i hi
  exact ⟨_, _, h4⟩
theorem Tv.field {w : World} {B : Nat} {t : Tn} {vk vq : Value} (H : Tv w B t vk vq) (k : ByteArray) : ∃ K Q, Tv w B (Dm.field t k) K Q := by
  unfold Dm.field Tn.get
  split
  · cases h : t.kids[Tn.place t.keys k]? with
    | none => exact ⟨_, _, Tv.zero w B⟩
    | some u => exact H.mem (List.mem_of_getElem? h)
  · exact ⟨_, _, Tv.zero w B⟩
theorem kindFrom_le (s : ByteArray) : ∀ (n i : Nat), kindFrom s n i ≤ i + n
  | 0, i => by unfold kindFrom; omega
  | n + 1, i => by
    unfold kindFrom
    split
    · omega
    · have := kindFrom_le s n (i + 1); omega
theorem word_lt (s : ByteArray) (i n : Nat) : Dm.word s i n < 256 ^ n := be_lt _ (fun x hx => (Txt.nums s).byte x (List.mem_of_mem_drop hx)) n
theorem one_lt (s : ByteArray) : (Dm.one s).1 < 18446744073709551616 ∧ (Dm.one s).2 < 65536 := by
  have h1 := word_lt s 0 8
  have h2 := word_lt s 8 2
  have e1 : (256 : Nat) ^ 8 = 18446744073709551616 := by decide
  have e2 : (256 : Nat) ^ 2 = 65536 := by decide
  exact ⟨by show Dm.word s 0 8 < _; omega, by show Dm.word s 8 2 < _; omega⟩
theorem read_ok {w : World} {B : Nat} {t : Tn} {vk vq : Value} (H : Tv w B t vk vq) : Ok (Dm.read t) := by
  have str : ∀ k, (Dm.field t k).s.size ≤ maxLen := fun k => by obtain ⟨K, Q, h⟩ := H.field k; exact h.str
  refine ⟨?_, ?_, ?_, ?_, str _, str _, (one_lt _).1, (one_lt _).2, ?_, ?_⟩
  · have := kindFrom_le (Dm.field t Dm.kQ).s 12 1
    show -9223372036854775808 ≤ (kindFrom (Dm.field t Dm.kQ).s 12 1 : Int) ∧ (kindFrom (Dm.field t Dm.kQ).s 12 1 : Int) ≤ 9223372036854775807
    omega
  · show ((Dm.field t Dm.kR).n % 4294967296).toNat < _; omega
  · show ((Dm.field t Dm.kC).n % 256).toNat < _; omega
  · have := word_lt (Dm.field t Dm.kI).s 0 8
    have e1 : (256 : Nat) ^ 8 = 18446744073709551616 := by decide
    show Dm.word (Dm.field t Dm.kI).s 0 8 < _
    omega
  · intro p hp
    obtain ⟨u, _, rfl⟩ := List.mem_map.1 (show p ∈ (Dm.field t Dm.kP).kids.map (fun x => Dm.one x.s) from hp)
    exact one_lt _
  · intro p hp
    obtain ⟨u, hu, rfl⟩ := List.mem_map.1 (show p ∈ (Dm.field t Dm.kT).kids.map Dm.pairOf from hp)
    obtain ⟨K, Q, h⟩ := H.field Dm.kT
    obtain ⟨K', Q', h'⟩ := h.mem hu
    by_cases h2 : u.kids.length = 2
    · rw [pairOf_two h2]
      obtain ⟨_, _, g1⟩ := h'.mem (List.getElem_mem (show 0 < u.kids.length by omega))
      obtain ⟨_, _, g2⟩ := h'.mem (List.getElem_mem (show 1 < u.kids.length by omega))
      exact ⟨g1.str, g2.str⟩
    · rw [pairOf_not h2]; exact ⟨Nat.zero_le _, Nat.zero_le _⟩
end Go.Proofs.YtldjdoebappkoaaGreatDoor
