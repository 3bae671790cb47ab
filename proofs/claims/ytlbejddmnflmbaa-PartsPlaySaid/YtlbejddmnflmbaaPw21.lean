/- Words for layer 21's laws: the parts that come, as an argument; both collections side by side; large. -/
import Derived.Test.YtlbejddmnflmbaaFc21
import Derived.Test.YtlbejddmnflmbaaCl
namespace Go.Proofs.Ytlbejddmnflmbaa
open Go.RowKit
set_option linter.unusedVariables false
set_option maxRecDepth 100000
set_option linter.unusedSimpArgs false

/-- a part as its two cells -/
def fPa (x : Int × Value × List Nat) : List Value := [.int .i64 x.1, x.2.1]
theorem fPa_len : ∀ x, (fPa x).length = 2 := fun _ => rfl
structure PaOk (w : World) (x : Int × Value × List Nat) : Prop where
  lo : -9223372036854775808 ≤ x.1
  hi : x.1 ≤ 9223372036854775807
  piece : Piece w w.heap.size x.2.1 x.2.2
  byte : ∀ y ∈ x.2.2, y < 256
/-- how many bytes they have -/
def paSum (l : List (Int × Value × List Nat)) : Nat := (l.map (fun x => x.2.2.length)).sum
def paMin (m : Nat) (l : List (Int × Value × List Nat)) : Nat := (l.map (fun x => min x.2.2.length m)).sum
theorem paMin_sum {m n : Nat} (hm : n < m) : ∀ (l : List (Int × Value × List Nat)), paMin m l ≤ n → paSum l = paMin m l
  | [], _ => rfl
  | x :: l, h => by
    unfold paMin paSum at *
    rw [List.map_cons, List.sum_cons] at h ⊢
    have := paMin_sum hm l (by unfold paMin; omega)
    unfold paMin paSum at this
    rw [List.map_cons, List.sum_cons, this]
    omega
theorem paMin_take (m : Nat) (l : List (Int × Value × List Nat)) (k : Nat) (h : k < l.length) : paMin m (l.take (k + 1)) = paMin m (l.take k) + min l[k].2.2.length m := by
  unfold paMin
  rw [List.take_succ_eq_append_getElem h, List.map_append, List.sum_append]
  simp
theorem paMin_le (m : Nat) : ∀ (l : List (Int × Value × List Nat)), paMin m l ≤ l.length * m
  | [] => by simp [paMin]
  | x :: l => by
    have := paMin_le m l
    unfold paMin at *
    rw [List.map_cons, List.sum_cons, List.length_cons, Nat.add_mul]
    omega
/-- an answer that says more where it is false -/
def BigPost (good : Prop) (e : Ending) : Prop := ∃ b, e = .returned (.bool b) ∧ (b = false → good)
/-- both collections -/
structure TwoAt (w : World) (F G : Nat → Prop) (p x : Nat) (s t : Pm.S) (W : World) : Prop where
  pt : Pt W F p s
  rt : Rp W G x t
  aside : Aside F G
  lo : ∀ b, F b → w.heap.size ≤ b
  lo' : ∀ b, G b → w.heap.size ≤ b
  below : Below w.heap.size w W
def Two21 (w : World) (p x : Nat) (s t : Pm.S) (W : World) : Prop := ∃ F G, TwoAt w F G p x s t W
section
variable {w W W1 : World} {F G : Nat → Prop} {p x : Nat} {s t s' : Pm.S}
theorem TwoAt.left (h : TwoAt w F G p x s t W) (hp : Pt W1 (Wide F W W1) p s') (hf : Foot F W W1) : TwoAt w (Wide F W W1) G p x s' t W1 := by
  have hz := h.below.size
  exact ⟨hp, h.rt.keep (hf.aside h.aside.symm h.rt.lt), (h.aside.symm.wide h.rt.lt).symm, Wide.low h.lo hz, h.lo', h.below.trans (hf.below h.lo hz)⟩
theorem TwoAt.right (h : TwoAt w F G p x s t W) (hp : Rp W1 (Wide G W W1) x s') (hf : Foot G W W1) : TwoAt w F (Wide G W W1) p x s s' W1 := by
  have hz := h.below.size
  exact ⟨h.pt.keep (hf.aside h.aside h.pt.lt), hp, h.aside.wide h.pt.lt, h.lo, Wide.low h.lo' hz, h.below.trans (hf.below h.lo' hz)⟩
theorem TwoAt.stay (h : TwoAt w F G p x s t W) (hb : Below W.heap.size W W1) : TwoAt w F G p x s t W1 :=
  ⟨h.pt.keep (fun b hb' => hb.block b (h.pt.lt b hb')), h.rt.keep (fun b hb' => hb.block b (h.rt.lt b hb')), h.aside, h.lo, h.lo', h.below.trans (hb.mono h.below.size)⟩
end
/-! ### the calls, with all that is there -/
section
variable {w W : World} {p x : Nat} {s t : Pm.S}
theorem Two21.stay {W1 : World} (h : Two21 w p x s t W) (hb : Below W.heap.size W W1) : Two21 w p x s t W1 := by obtain ⟨F, G, h⟩ := h; exact ⟨F, G, h.stay hb⟩
theorem Two21.below (h : Two21 w p x s t W) : Below w.heap.size w W := by obtain ⟨F, G, h⟩ := h; exact h.below
theorem Two21.ok (h : Two21 w p x s t W) : s.Ok := by obtain ⟨F, G, h⟩ := h; exact h.pt.ok
theorem padd_two (h : Two21 w p x s t W) (hs : s.size ≤ 1152921504606846976) (z : Int) (h1 : -9223372036854775808 ≤ z) (h2 : z ≤ 9223372036854775807) {B : Nat} {v : Value} {b : List Nat} (P : Piece W B v b) (hb : ∀ x ∈ b, x < 256) (hl : b.length ≤ 140737488351232) :
    Calls Try.prog 9 #[.pointer (some ⟨p, 0, none⟩), .int .i64 z, v] W fun e w' => e = .returned (.int .i64 (s.err z : Int)) ∧ Two21 w p x (s.put z b) t w' := by
  obtain ⟨F, G, h⟩ := h
  exact (padd21_any h.pt hs z h1 h2 P hb hl).mono fun e w' ⟨e1, e2, e3⟩ => ⟨e1, _, _, h.left e2 e3⟩
theorem radd_two (h : Two21 w p x s t W) (z : Int) (h1 : -9223372036854775808 ≤ z) (h2 : z ≤ 9223372036854775807) {u : ByteArray} {b : List Nat} (T : Txt u b) :
    Calls Try.prog 10 #[.pointer (some ⟨x, 0, none⟩), .int .i64 z, .string u] W fun e w' => e = .returned (.int .i64 (t.err z : Int)) ∧ Two21 w p x s (t.put z b) w' := by
  obtain ⟨F, G, h⟩ := h
  exact (radd21_any h.rt z h1 h2 T).mono fun e w' ⟨e1, e2, e3⟩ => ⟨e1, _, _, h.right e2 e3⟩
theorem pmissing_two (h : Two21 w p x s t W) : Calls Try.prog 11 #[.pointer (some ⟨p, 0, none⟩)] W fun e w' => e = .returned (.int .i64 ((s.count : Int) - (s.l.length : Int))) ∧ Two21 w p x s t w' := by
  obtain ⟨F, G, h⟩ := h
  exact (pmissing21_any h.pt).mono fun e w' ⟨e1, e2⟩ => ⟨e1, _, _, h.stay e2⟩
theorem rmissing_two (h : Two21 w p x s t W) : Calls Try.prog 12 #[.pointer (some ⟨x, 0, none⟩)] W fun e w' => e = .returned (.int .i64 ((t.count : Int) - (t.l.length : Int))) ∧ Two21 w p x s t w' := by
  obtain ⟨F, G, h⟩ := h
  exact (rmissing21_any h.rt).mono fun e w' ⟨e1, q, e2⟩ => ⟨e1, _, _, h.stay (by subst e2; exact below_draws _ _ _)⟩
theorem psize_two (h : Two21 w p x s t W) (hs : s.size ≤ 1000000000) : Calls Try.prog 13 #[.pointer (some ⟨p, 0, none⟩)] W fun e w' => e = .returned (.int .i64 (s.size : Int)) ∧ Two21 w p x s t w' := by
  obtain ⟨F, G, h⟩ := h
  exact (psize21_any h.pt hs).mono fun e w' ⟨e1, e2⟩ => ⟨e1, _, _, h.stay e2⟩
theorem rsize_two (h : Two21 w p x s t W) (hs : t.size ≤ 1000000000) : Calls Try.prog 14 #[.pointer (some ⟨x, 0, none⟩)] W fun e w' => e = .returned (.int .i64 (t.size : Int)) ∧ Two21 w p x s t w' := by
  obtain ⟨F, G, h⟩ := h
  exact (rsize21_any h.rt hs).mono fun e w' ⟨e1, e2⟩ => ⟨e1, _, _, h.stay (by subst e2; exact Below.refl _ _)⟩
theorem phas_two (h : Two21 w p x s t W) (i : Nat) (hi : i ≤ 9223372036854775807) : Calls Try.prog 15 #[.pointer (some ⟨p, 0, none⟩), .int .i64 (i : Int)] W fun e w' => e = .returned (.bool (s.has i)) ∧ Two21 w p x s t w' := by
  obtain ⟨F, G, h⟩ := h
  exact (phas21_any h.pt i hi).mono fun e w' ⟨e1, e2⟩ => ⟨e1, _, _, h.stay e2⟩
theorem rhas_two (h : Two21 w p x s t W) (i : Nat) (hi : i ≤ 9223372036854775807) : Calls Try.prog 16 #[.pointer (some ⟨x, 0, none⟩), .int .i64 (i : Int)] W fun e w' => e = .returned (.bool (t.has i)) ∧ Two21 w p x s t w' := by
  obtain ⟨F, G, h⟩ := h
  exact (rhas21_any h.rt i hi).mono fun e w' ⟨e1, e2⟩ => ⟨e1, _, _, h.stay (by subst e2; exact Below.refl _ _)⟩
theorem pwhole_two (h : Two21 w p x s t W) (hs : s.size ≤ 1000000) : Calls Try.prog 17 #[.pointer (some ⟨p, 0, none⟩)] W fun e w' => ∃ v, e = .returned (.tuple #[v, .bool s.full]) ∧ Piece w' w'.heap.size v s.told ∧ Two21 w p x s t w' := by
  obtain ⟨F, G, h⟩ := h
  exact (pwhole21_any h.pt hs).mono fun e w' ⟨v, e1, e2, e3⟩ => ⟨v, e1, own_piece e2, _, _, h.stay e3⟩
theorem rwhole_two (h : Two21 w p x s t W) (hs : t.size ≤ 1000000000) : Calls Try.prog 18 #[.pointer (some ⟨x, 0, none⟩)] W fun e w' => e = .returned (.tuple #[.string (strOf t.told), .bool t.full]) ∧ Two21 w p x s t w' ∧ Below W.heap.size W w' := by
  obtain ⟨F, G, h⟩ := h
  exact (rwhole21_any h.rt hs).mono fun e w' ⟨e1, q, e2⟩ => ⟨e1, ⟨_, _, h.stay (by subst e2; exact below_draws _ _ _)⟩, by subst e2; exact below_draws _ _ _⟩
end
/-- one collection of the program's -/
def Lone21 (w : World) (p : Nat) (s : Pm.S) (W : World) : Prop := ∃ F, Pt W F p s ∧ (∀ b, F b → w.heap.size ≤ b) ∧ Below w.heap.size w W
section
variable {w W W1 : World} {p : Nat} {s : Pm.S}
theorem Lone21.stay (h : Lone21 w p s W) (hb : Below W.heap.size W W1) : Lone21 w p s W1 := by
  obtain ⟨F, h1, h2, h3⟩ := h
  exact ⟨F, h1.keep (fun b hb' => hb.block b (h1.lt b hb')), h2, h3.trans (hb.mono h3.size)⟩
theorem Lone21.below (h : Lone21 w p s W) : Below w.heap.size w W := by obtain ⟨F, h1, h2, h3⟩ := h; exact h3
theorem Lone21.new {F : Nat → Prop} (h : Pt W F p s) (hF : ∀ b, F b → w.heap.size ≤ b) (hb : Below w.heap.size w W) : Lone21 w p s W := ⟨F, h, hF, hb⟩
theorem padd_lone (h : Lone21 w p s W) (hs : s.size ≤ 1152921504606846976) (z : Int) (h1 : -9223372036854775808 ≤ z) (h2 : z ≤ 9223372036854775807) {B : Nat} {v : Value} {b : List Nat} (P : Piece W B v b) (hb : ∀ x ∈ b, x < 256) (hl : b.length ≤ 140737488351232) :
    Calls Try.prog 9 #[.pointer (some ⟨p, 0, none⟩), .int .i64 z, v] W fun e w' => e = .returned (.int .i64 (s.err z : Int)) ∧ Lone21 w p (s.put z b) w' := by
  obtain ⟨F, k1, k2, k3⟩ := h
  exact (padd21_any k1 hs z h1 h2 P hb hl).mono fun e w' ⟨e1, e2, e3⟩ => ⟨e1, _, e2, Wide.low k2 k3.size, k3.trans (e3.below k2 k3.size)⟩
theorem pwhole_lone (h : Lone21 w p s W) (hs : s.size ≤ 1000000) : Calls Try.prog 17 #[.pointer (some ⟨p, 0, none⟩)] W fun e w' => ∃ v, e = .returned (.tuple #[v, .bool s.full]) ∧ Piece w' w'.heap.size v s.told ∧ Lone21 w p s w' := by
  obtain ⟨F, k1, k2, k3⟩ := h
  exact (pwhole21_any k1 hs).mono fun e w' ⟨v, e1, e2, e3⟩ => ⟨v, e1, own_piece e2, Lone21.stay ⟨F, k1, k2, k3⟩ e3⟩
end
/-- two collections of the program's -/
structure DuoAt (w : World) (F G : Nat → Prop) (p q : Nat) (s t : Pm.S) (W : World) : Prop where
  pt : Pt W F p s
  qt : Pt W G q t
  aside : Aside F G
  lo : ∀ b, F b → w.heap.size ≤ b
  lo' : ∀ b, G b → w.heap.size ≤ b
  below : Below w.heap.size w W
def Duo21 (w : World) (p q : Nat) (s t : Pm.S) (W : World) : Prop := ∃ F G, DuoAt w F G p q s t W
section
variable {w W : World} {p q : Nat} {s t : Pm.S}
theorem Duo21.symm (h : Duo21 w p q s t W) : Duo21 w q p t s W := by
  obtain ⟨F, G, h⟩ := h
  exact ⟨G, F, h.qt, h.pt, h.aside.symm, h.lo', h.lo, h.below⟩
theorem Duo21.stay {W1 : World} (h : Duo21 w p q s t W) (hb : Below W.heap.size W W1) : Duo21 w p q s t W1 := by
  obtain ⟨F, G, h⟩ := h
  exact ⟨F, G, h.pt.keep (fun b hb' => hb.block b (h.pt.lt b hb')), h.qt.keep (fun b hb' => hb.block b (h.qt.lt b hb')), h.aside, h.lo, h.lo', h.below.trans (hb.mono h.below.size)⟩
theorem Duo21.below (h : Duo21 w p q s t W) : Below w.heap.size w W := by obtain ⟨F, G, h⟩ := h; exact h.below
theorem padd_duo (h : Duo21 w p q s t W) (hs : s.size ≤ 1152921504606846976) (z : Int) (h1 : -9223372036854775808 ≤ z) (h2 : z ≤ 9223372036854775807) {B : Nat} {v : Value} {b : List Nat} (P : Piece W B v b) (hb : ∀ x ∈ b, x < 256) (hl : b.length ≤ 140737488351232) :
    Calls Try.prog 9 #[.pointer (some ⟨p, 0, none⟩), .int .i64 z, v] W fun e w' => e = .returned (.int .i64 (s.err z : Int)) ∧ Duo21 w p q (s.put z b) t w' := by
  obtain ⟨F, G, h⟩ := h
  have hz := h.below.size
  exact (padd21_any h.pt hs z h1 h2 P hb hl).mono fun e w' ⟨e1, e2, e3⟩ => ⟨e1, _, _, e2, h.qt.keep (e3.aside h.aside.symm h.qt.lt), (h.aside.symm.wide h.qt.lt).symm, Wide.low h.lo hz, h.lo', h.below.trans (e3.below h.lo hz)⟩
theorem pwhole_duo (h : Duo21 w p q s t W) (hs : s.size ≤ 1000000) : Calls Try.prog 17 #[.pointer (some ⟨p, 0, none⟩)] W fun e w' => ∃ v, e = .returned (.tuple #[v, .bool s.full]) ∧ Piece w' w'.heap.size v s.told ∧ Duo21 w p q s t w' ∧ Below W.heap.size W w' := by
  have H := h
  obtain ⟨F, G, h⟩ := h
  exact (pwhole21_any h.pt hs).mono fun e w' ⟨v, e1, e2, e3⟩ => ⟨v, e1, own_piece e2, H.stay e3, e3⟩
theorem psize_duo (h : Duo21 w p q s t W) (hs : s.size ≤ 1000000000) : Calls Try.prog 13 #[.pointer (some ⟨p, 0, none⟩)] W fun e w' => e = .returned (.int .i64 (s.size : Int)) ∧ Duo21 w p q s t w' := by
  have H := h
  obtain ⟨F, G, h⟩ := h
  exact (psize21_any h.pt hs).mono fun e w' ⟨e1, e2⟩ => ⟨e1, H.stay e2⟩
theorem pmissing_duo (h : Duo21 w p q s t W) : Calls Try.prog 11 #[.pointer (some ⟨p, 0, none⟩)] W fun e w' => e = .returned (.int .i64 ((s.count : Int) - (s.l.length : Int))) ∧ Duo21 w p q s t w' := by
  have H := h
  obtain ⟨F, G, h⟩ := h
  exact (pmissing21_any h.pt).mono fun e w' ⟨e1, e2⟩ => ⟨e1, H.stay e2⟩
end
end Go.Proofs.Ytlbejddmnflmbaa
