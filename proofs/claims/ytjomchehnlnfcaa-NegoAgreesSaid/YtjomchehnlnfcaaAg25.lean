/- Words for the law NegoAgrees: two talks, two sets, the hellos on their way. -/
import Derived.Test.YtjomchehnlnfcaaAwake25
import Derived.Test.YtjomchehnlnfcaaStepc
import Derived.Test.YtjomchehnlnfcaaCl
import Derived.Deep.MidRow
import Derived.Deep.CutRange
import Derived.BigQuiet
import Derived.Laws.OwnMore
namespace Go.Proofs.Ytjomchehnlnfcaa
open Go.RowKit
open Gm
set_option linter.unusedVariables false
set_option maxRecDepth 100000
set_option linter.unusedSimpArgs false

/-- a deed's cells -/
def fDe (x : Int × Int) : Value × Value := (.int .i64 x.1, .int .i64 x.2)
/-- a hello's cells -/
def fTo (x : Bool × Bool × Nat) : List Value := [.bool x.1, .bool x.2.1, .int .u16 (x.2.2 : Int)]
theorem fTo_len (x : Bool × Bool × Nat) : (fTo x).length = 3 := rfl
theorem fTo_one (l : List (Bool × Bool × Nat)) : ∀ u ∈ rowsOf fTo l, u.oneCell' = true := fun u hu => by
  simp only [rowsOf, List.mem_flatMap] at hu
  obtain ⟨x, _, hu⟩ := hu
  simp only [fTo, List.mem_cons, List.not_mem_nil, or_false] at hu
  rcases hu with rfl | rfl | rfl <;> rfl
theorem toI : (Try.prog.info? 48).map (fun i => (i.zero, i.size, i.bytes)) = some (some (.agg #[.bool false, .bool false, .int .u16 0]), 3, 4) := by kernel_rfl
namespace Ag
/-- a talk of the law: its state, the other one's set, the version, the count, and the slice of no messages -/
structure Ta where
  s : Int
  th : Nat
  v : Int
  i : Int
  A : Option Addr
  c : Nat
def Ta.tk (t : Ta) : Tk := ⟨0, t.s, t.th, t.v, t.i, 0, 0, []⟩
def Ta.cells (t : Ta) : List Value := [.int .u16 0, .int .i64 t.s, .int .u16 (t.th : Int), .int .i64 t.v, .int .i64 t.i, .int .u32 0, .int .u32 0, .slice t.A 0 t.c]
structure Good (best : Nat) (t : Ta) : Prop where
  way : t.s = 0 ∨ t.s = 1 ∨ (t.s = 2 ∧ t.v = (best : Int) ∧ best ≠ 0) ∨ (t.s = 3 ∧ best = 0)
  th : t.th < 65536
  v : -9223372036854775808 ≤ t.v ∧ t.v ≤ 9223372036854775807
  i : -9223372036854775808 ≤ t.i ∧ t.i ≤ 9223372036854775807
  c : t.c ≤ maxLen
  nul : t.A = none → t.c = 0
theorem Good.ok {best : Nat} {t : Ta} (h : Good best t) : t.tk.Ok :=
  ⟨by show 0 < 65536; decide, by show -9223372036854775808 ≤ t.s ∧ t.s ≤ 9223372036854775807; rcases h.way with h | h | ⟨h, _⟩ | ⟨h, _⟩ <;> omega, h.th, h.v, h.i, by show 0 < 4294967296; decide, by show 0 < 4294967296; decide⟩
theorem Good.ml {best : Nat} {t : Ta} (h : Good best t) (W : World) (B : Nat) : Ml W B (.slice t.A 0 t.c) [] := ⟨t.A, t.c, rfl, Nat.zero_le _, h.c, h.nul, fun i hi => by cases hi⟩
def Ta.zero : Ta := ⟨0, 0, 0, 0, none, 0⟩
theorem Good.zero (best : Nat) : Good best Ta.zero := ⟨.inl rfl, by decide, by decide, by decide, by show 0 ≤ maxLen; omega, fun _ => rfl⟩
/-- what Ask, Hear and Tick answer of such a talk -/
def TaPost (best : Nat) (w : World) (e : Ending) (w' : World) : Prop :=
  ∃ (t : Ta) (b : Bool), e = .returned (.tuple #[.agg #[.int .u16 0, .int .i64 t.s, .int .u16 (t.th : Int), .int .i64 t.v, .int .i64 t.i, .int .u32 0, .int .u32 0, .slice t.A 0 t.c], .bool b]) ∧ Good best t ∧ Below w.heap.size w w'
theorem TaPost.of {best : Nat} {t' : Tk} {b : Bool} {w w' : World} {e : Ending} (h : TalkPost (t', b) w e w') (h1 : t'.addr = 0) (h2 : t'.epoch = 0) (h3 : t'.next = 0) (h4 : t'.waits = [])
    (hw : t'.state = 0 ∨ t'.state = 1 ∨ (t'.state = 2 ∧ t'.version = (best : Int) ∧ best ≠ 0) ∨ (t'.state = 3 ∧ best = 0)) (ok : t'.Ok) : ∃ A c, e = .returned (.tuple #[.agg #[.int .u16 0, .int .i64 t'.state, .int .u16 (t'.theirs : Int), .int .i64 t'.version, .int .i64 t'.since, .int .u32 0, .int .u32 0, .slice A 0 c], .bool b]) ∧ Good best ⟨t'.state, t'.theirs, t'.version, t'.since, A, c⟩ ∧ Below w.heap.size w w' := by
  obtain ⟨A, c, he, hm, hb⟩ := h
  obtain ⟨xa, xs, xt, xv, xi, xe, xn, ms⟩ := t'
  simp only at h1 h2 h3 h4 hw he hm
  subst h1 h2 h3 h4
  obtain ⟨A', c', e1, _, hc, hn, _⟩ := hm
  cases e1
  exact ⟨A, c, he, ⟨hw, ok.theirs, ok.version, ok.since, hc, hn⟩, hb⟩
theorem ask_post {best : Nat} {t : Ta} (h : Good best t) (w : World) :
    Calls Try.prog 9 #[.agg #[.int .u16 0, .int .i64 t.s, .int .u16 (t.th : Int), .int .i64 t.v, .int .i64 t.i, .int .u32 0, .int .u32 0, .slice t.A 0 t.c]] w (TaPost best w) := by
  refine (cask25_any (w := w) (t := t.tk) h.ok (h.ml w _) Sz.nil).mono ?_
  intro e w' hp
  have hok := Ng.ask_ok h.ok
  obtain ⟨r, hr⟩ : ∃ r, Ng.ask t.tk = r := ⟨_, rfl⟩
  rw [hr] at hp hok
  unfold Ng.ask at hr
  by_cases p : t.tk.state = 0
  · rw [if_pos p] at hr
    subst hr
    obtain ⟨A, c, h1, h2, h3⟩ := TaPost.of (best := best) hp rfl rfl rfl rfl (.inr (.inl rfl)) hok
    exact ⟨_, _, h1, h2, h3⟩
  · rw [if_neg p] at hr
    subst hr
    obtain ⟨A, c, h1, h2, h3⟩ := TaPost.of (best := best) hp rfl rfl rfl rfl h.way hok
    exact ⟨_, _, h1, h2, h3⟩
theorem tick_post {best : Nat} {t : Ta} (h : Good best t) (w : World) :
    Calls Try.prog 13 #[.agg #[.int .u16 0, .int .i64 t.s, .int .u16 (t.th : Int), .int .i64 t.v, .int .i64 t.i, .int .u32 0, .int .u32 0, .slice t.A 0 t.c]] w (TaPost best w) := by
  refine (ctick25_any (w := w) (t := t.tk) h.ok (h.ml w _) Sz.nil).mono ?_
  intro e w' hp
  have hok := Ng.tick_ok h.ok
  obtain ⟨r, hr⟩ : ∃ r, Ng.tick t.tk = r := ⟨_, rfl⟩
  rw [hr] at hp hok
  unfold Ng.tick at hr
  by_cases p : t.tk.state = 1
  · rw [if_pos p] at hr
    by_cases q : 0 ≤ t.tk.since ∧ t.tk.since ≤ 2
    · rw [if_pos q] at hr
      subst hr
      obtain ⟨A, c, h1, h2, h3⟩ := TaPost.of (best := best) hp rfl rfl rfl rfl h.way hok
      exact ⟨_, _, h1, h2, h3⟩
    · rw [if_neg q] at hr
      subst hr
      obtain ⟨A, c, h1, h2, h3⟩ := TaPost.of (best := best) hp rfl rfl rfl rfl h.way hok
      exact ⟨_, _, h1, h2, h3⟩
  · rw [if_neg p] at hr
    subst hr
    obtain ⟨A, c, h1, h2, h3⟩ := TaPost.of (best := best) hp rfl rfl rfl rfl h.way hok
    exact ⟨_, _, h1, h2, h3⟩
/-- what Hear answers of such a talk -/
theorem hear_post {best : Nat} {t : Ta} (h : Good best t) {own th : Nat} (hown : own < 65536) (hth : th < 65536) (hbest : Vs.best own th = best) (rp : Bool) (w : World) :
    Calls Try.prog 11 #[.agg #[.int .u16 0, .int .i64 t.s, .int .u16 (t.th : Int), .int .i64 t.v, .int .i64 t.i, .int .u32 0, .int .u32 0, .slice t.A 0 t.c], .int .u16 (own : Int), .int .u16 (th : Int), .bool rp] w
      fun e w' => ∃ (t : Ta), e = .returned (.tuple #[.agg #[.int .u16 0, .int .i64 t.s, .int .u16 (t.th : Int), .int .i64 t.v, .int .i64 t.i, .int .u32 0, .int .u32 0, .slice t.A 0 t.c], .bool (!rp)]) ∧ Good best t ∧ Below w.heap.size w w' := by
  refine (chear25_any (w := w) (t := t.tk) h.ok (h.ml w _) Sz.nil hown hth rp).mono ?_
  intro e w' hp
  have hok := Ng.hear_ok h.ok (own := own) hth rp
  obtain ⟨A, c, h1, h2, h3⟩ := TaPost.of (best := best) hp rfl rfl rfl rfl (by
    show (if Vs.best own th = 0 then (3 : Int) else 2) = 0 ∨ (if Vs.best own th = 0 then (3 : Int) else 2) = 1 ∨ ((if Vs.best own th = 0 then (3 : Int) else 2) = 2 ∧ ((Vs.best own th : Nat) : Int) = best ∧ best ≠ 0) ∨ ((if Vs.best own th = 0 then (3 : Int) else 2) = 3 ∧ best = 0)
    rw [hbest]
    by_cases p : best = 0
    · rw [if_pos p]; exact .inr (.inr (.inr ⟨rfl, p⟩))
    · rw [if_neg p]; exact .inr (.inr (.inl ⟨rfl, rfl, p⟩))) hok
  exact ⟨_, h1, h2, h3⟩
/-- two talks in one block -/
def cells2 (x y : Ta) : Array Value := #[.int .u16 0, .int .i64 x.s, .int .u16 (x.th : Int), .int .i64 x.v, .int .i64 x.i, .int .u32 0, .int .u32 0, .slice x.A 0 x.c, .int .u16 0, .int .i64 y.s, .int .u16 (y.th : Int), .int .i64 y.v, .int .i64 y.i, .int .u32 0, .int .u32 0, .slice y.A 0 y.c]
section
variable {w w' : World} {g : Nat} {x y z : Ta}
theorem put0 (h : Whole w g 41 (cells2 x y)) : Whole (w.setCells g 0 z.cells) g 41 (cells2 z y) := by
  have h0 := h
  have h1 := h0.put 0 (.int .u16 0)
  have h2 := h1.put 1 (.int .i64 z.s)
  have h3 := h2.put 2 (.int .u16 (z.th : Int))
  have h4 := h3.put 3 (.int .i64 z.v)
  have h5 := h4.put 4 (.int .i64 z.i)
  have h6 := h5.put 5 (.int .u32 0)
  have h7 := h6.put 6 (.int .u32 0)
  have h8 := h7.put 7 (.slice z.A 0 z.c)
  unfold cells2 at h8 ⊢
  simp only [List.setIfInBounds_toArray, List.set_cons_zero, List.set_cons_succ] at h8
  exact h8
theorem put1 (h : Whole w g 41 (cells2 x y)) : Whole (w.setCells g 8 z.cells) g 41 (cells2 x z) := by
  have h0 := h
  have h1 := h0.put 8 (.int .u16 0)
  have h2 := h1.put 9 (.int .i64 z.s)
  have h3 := h2.put 10 (.int .u16 (z.th : Int))
  have h4 := h3.put 11 (.int .i64 z.v)
  have h5 := h4.put 12 (.int .i64 z.i)
  have h6 := h5.put 13 (.int .u32 0)
  have h7 := h6.put 14 (.int .u32 0)
  have h8 := h7.put 15 (.slice z.A 0 z.c)
  unfold cells2 at h8 ⊢
  simp only [List.setIfInBounds_toArray, List.set_cons_zero, List.set_cons_succ] at h8
  exact h8
theorem whole_there {t : Nat} {cs : Array Value} (h : Whole w g t cs) {o n : Nat} (ho : o + n ≤ cs.size) : w.there g o n := fun j hj => ⟨by rw [h.at_, Array.getElem?_eq_getElem (by omega)]; rfl, h.free _⟩
theorem setCells_other (b : Nat) : ∀ (vs : List Value) (o : Nat) (w : World) (k : Nat), k ≠ b → (w.setCells b o vs).heap[k]? = w.heap[k]?
  | [], _, _, _, _ => rfl
  | v :: r, o, w, k, hk => (setCells_other b r (o + 1) _ k hk).trans (Below.heap_setCell w ⟨b, o, none⟩ v k hk)
theorem below_cells25 {B : Nat} {a : World} (b : Nat) (hb : B ≤ b) : ∀ (vs : List Value) (o : Nat) (w : World), Below B a w → Below B a (w.setCells b o vs)
  | [], _, _, h => h
  | v :: r, o, w, h => below_cells25 b hb r (o + 1) _ (h.setCell (p := ⟨b, o, none⟩) hb v)
end
/-- the law's state: two talks, two sets, the hellos on their way -/
structure St (w0 : World) (g h a b best k : Nat) (V : Value) (w : World) : Prop where
  two : ∃ x y, Good best x ∧ Good best y ∧ Whole w g 41 (cells2 x y)
  sets : Whole w h 42 #[.int .u16 (a : Int), .int .u16 (b : Int)]
  way : ∃ l : List (Bool × Bool × Nat), l.length ≤ k ∧ (∀ x ∈ l, x.2.2 = if x.1 = true then a else b) ∧ w.ownsRow (h + 1) 48 3 V l.length (rowsOf fTo l)
  below : Below w0.heap.size w0 w
  lo : w0.heap.size ≤ g
  gh : g < h
section
variable {w0 w w' : World} {g h a b best k : Nat} {V : Value}
theorem St.later (q : St w0 g h a b best k V w) (hb : Below w.heap.size w w') : St w0 g h a b best k V w' := by
  obtain ⟨x, y, h1, h2, h3⟩ := q.two
  obtain ⟨l, h4, h5, h6⟩ := q.way
  exact ⟨⟨x, y, h1, h2, h3.below hb h3.lt⟩, q.sets.below hb q.sets.lt, ⟨l, h4, h5, own2_below h6 hb⟩, q.below.trans (hb.mono q.below.size), q.lo, q.gh⟩
theorem St.more {k' : Nat} (q : St w0 g h a b best k V w) (hk : k ≤ k') : St w0 g h a b best k' V w := by
  obtain ⟨l, h4, h5, h6⟩ := q.way
  exact ⟨q.two, q.sets, ⟨l, by omega, h5, h6⟩, q.below, q.lo, q.gh⟩
theorem St.put0 (q : St w0 g h a b best k V w) {z : Ta} (hz : Good best z) : St w0 g h a b best k V (w.setCells g 0 z.cells) := by
  obtain ⟨x, y, h1, h2, h3⟩ := q.two
  obtain ⟨l, h4, h5, h6⟩ := q.way
  have hgh := q.gh
  exact ⟨⟨z, y, hz, h2, Ag.put0 h3⟩, (setCells_other g _ _ _ h (by omega)).trans q.sets, ⟨l, h4, h5, own2_keep h6 (fun i hi _ => setCells_other g _ _ _ i (by omega))⟩, below_cells25 g q.lo _ _ _ q.below, q.lo, q.gh⟩
theorem St.put1 (q : St w0 g h a b best k V w) {z : Ta} (hz : Good best z) : St w0 g h a b best k V (w.setCells g 8 z.cells) := by
  obtain ⟨x, y, h1, h2, h3⟩ := q.two
  obtain ⟨l, h4, h5, h6⟩ := q.way
  have hgh := q.gh
  exact ⟨⟨x, z, h1, hz, Ag.put1 h3⟩, (setCells_other g _ _ _ h (by omega)).trans q.sets, ⟨l, h4, h5, own2_keep h6 (fun i hi _ => setCells_other g _ _ _ i (by omega))⟩, below_cells25 g q.lo _ _ _ q.below, q.lo, q.gh⟩
/-- another row of hellos -/
theorem St.turn (q : St w0 g h a b best k V w) (hh : w0.heap.size ≤ h) {V' : Value} {k' : Nat} {l' : List (Bool × Bool × Nat)} (hk : l'.length ≤ k') (hl : ∀ x ∈ l', x.2.2 = if x.1 = true then a else b) (ho : w'.ownsRow (h + 1) 48 3 V' l'.length (rowsOf fTo l'))
    (hb : Below (h + 1) w w') : St w0 g h a b best k' V' w' := by
  obtain ⟨x, y, h1, h2, h3⟩ := q.two
  have hgh := q.gh
  exact ⟨⟨x, y, h1, h2, h3.below hb (by omega)⟩, q.sets.below hb (by omega), ⟨l', hk, hl, ho⟩, q.below.trans (hb.mono (by omega)), q.lo, q.gh⟩
end
end Ag
theorem step_store_mid25 {P : Program} {ops : Array Oper} {o : Oper} {a : Act} {w : World} {K : Act → World → Prop} {Q : Exit → Act → World → Prop} {F : Prop} (ty : TypeId) (x y : Operand) (hgd : o.guard = none) (ho : o.op = .store ty x y) (b off : Nat) (cells : Array Value)
    (hx : a.eval x = .pointer (some ⟨b, off, none⟩)) (hy : a.eval y = .agg cells) (ht : w.there b off cells.size) (hi : (P.info? ty).map (·.size) = some cells.size) (h1 : cells.all (·.oneCell') = true)
    (h : K (a.put o.dst undef) (w.setCells b off cells.toList)) : if Region.wanted o (yielded ops a.tmps) = true then Oper.wp P o a w K Q else F := by
  have hw : Region.wanted o (yielded ops a.tmps) = true := by simp [Region.wanted, hgd]
  rw [if_pos hw]
  exact wp_store_mid ty x y ho b off cells hx hy ht hi h1 h
namespace Ag
def pickIf (c j : Nat) (X Y : Option Addr) : Option Addr := if c = j then X else Y
section
variable {w : World} {base m cw q0 : Nat} {L : List (Bool × Bool × Nat)}
/-- the hellos ahead of p, and those behind it, as what an append reads -/
theorem src_ahead (h : w.ownsRow base 48 3 (.slice (some ⟨q0, 0, none⟩) m cw) m (rowsOf fTo L)) {p : Nat} (hp : p ≤ L.length) : Src w (some ⟨q0, 0, none⟩) (rowsOf fTo (L.take p)) := fun j u hu => by
  refine ⟨q0, 0, rfl, ?_⟩
  have hlen : (rowsOf fTo L).length = m * 3 := h.1
  have e : rowsOf fTo L = rowsOf fTo (L.take p) ++ rowsOf fTo (L.drop p) := by rw [← rowsOf_append, List.take_append_drop]
  have hj : j < (rowsOf fTo (L.take p)).length := (List.getElem?_eq_some_iff.1 hu).1
  have hj2 : j < m * 3 := by rw [← hlen, e, List.length_append]; omega
  rw [Nat.zero_add, h.cellAt j hj2, e, List.getElem?_append_left hj]
  exact hu
theorem src_behind (h : w.ownsRow base 48 3 (.slice (some ⟨q0, 0, none⟩) m cw) m (rowsOf fTo L)) {p : Nat} (hp : p < L.length) (hm : L.length = m) (hc : m ≤ cw) : Src w (pickIf cw (p + 1) (some ⟨q0, 0, none⟩) (some ⟨q0, (p + 1) * 3, none⟩)) (rowsOf fTo (L.drop (p + 1))) := fun j u hu => by
  have hlen : (rowsOf fTo L).length = m * 3 := h.1
  have e : rowsOf fTo L = rowsOf fTo (L.take (p + 1)) ++ rowsOf fTo (L.drop (p + 1)) := by rw [← rowsOf_append, List.take_append_drop]
  have hj : j < (rowsOf fTo (L.drop (p + 1))).length := (List.getElem?_eq_some_iff.1 hu).1
  have hl2 : (rowsOf fTo (L.drop (p + 1))).length = (L.length - (p + 1)) * 3 := by rw [rowsOf_length fTo_len, List.length_drop]
  have hl1 : (rowsOf fTo (L.take (p + 1))).length = (p + 1) * 3 := by rw [rowsOf_length fTo_len, List.length_take]; congr 1; omega
  have hne : ¬ cw = p + 1 := by
    intro e1
    have : L.length - (p + 1) = 0 := by omega
    rw [this] at hl2
    omega
  have hj2 : (p + 1) * 3 + j < m * 3 := by
    rw [hl2, hm] at hj
    omega
  refine ⟨q0, (p + 1) * 3, by unfold pickIf; rw [if_neg hne], ?_⟩
  rw [h.cellAt _ hj2, e, List.getElem?_append_right (by omega), hl1, Nat.add_sub_cancel_left]
  exact hu
/-- the hello of place p -/
theorem way_cell (h : w.ownsRow base 48 3 (.slice (some ⟨q0, 0, none⟩) m cw) m (rowsOf fTo L)) {p : Nat} (hp : p < L.length) (hm : L.length = m) {s r : Bool} {t : Nat} (hx : L[p] = (s, r, t)) :
    w.cell? ⟨q0, p * 3, none⟩ = some (.bool s) ∧ w.cell? ⟨q0, p * 3 + 1, none⟩ = some (.bool r) ∧ w.cell? ⟨q0, p * 3 + 2, none⟩ = some (.int .u16 (t : Int)) := by
  have hg : ∀ j, j < 3 → w.cell? ⟨q0, p * 3 + j, none⟩ = (fTo L[p])[j]? := fun j hj => by
    rw [h.cellAt _ (by omega), rowsOf_get fTo_len L p hp j hj]
  rw [hx] at hg
  exact ⟨hg 0 (by omega), hg 1 (by omega), hg 2 (by omega)⟩
end
end Ag
end Go.Proofs.Ytjomchehnlnfcaa
