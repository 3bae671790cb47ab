/- A copy whose two slices lie apart, in a variable of the law's own, and what the law's loops make of it. -/
import Derived.Test.YtdnnlifcgoegkaaDoorCopy8
import Derived.Test.YtdnnlifcgoegkaaDoorVar8
namespace Go.Proofs.YtdnnlifcgoegkaaDoor
open Go.RowKit
set_option linter.unusedVariables false
open Gm

/-! ### what is changed -/
def inc1 (p : Nat × Nat) : Nat × Nat := ((p.1 + 1) % 18446744073709551616, p.2)
def app1 (p : ByteArray × ByteArray) : ByteArray × ByteArray := (p.1, p.2 ++ ⟨#[120]⟩)
/-- the first i are changed -/
def upd {α : Type} (F : α → α) (i : Nat) (l : List α) : List α := (l.take i).map F ++ l.drop i
theorem upd_zero {α : Type} (F : α → α) (l : List α) : upd F 0 l = l := rfl
theorem upd_all {α : Type} (F : α → α) {i : Nat} {l : List α} (h : l.length ≤ i) : upd F i l = l.map F := by unfold upd; rw [List.take_of_length_le h, List.drop_of_length_le h, List.append_nil]
theorem upd_length {α : Type} (F : α → α) (i : Nat) (l : List α) : (upd F i l).length = l.length := by unfold upd; simp; omega
theorem upd_get {α : Type} (F : α → α) {i : Nat} {l : List α} (h : i < l.length) : (upd F i l)[i]'(by rw [upd_length]; exact h) = l[i] := by
  unfold upd
  rw [List.getElem_append_right (by simp; omega)]
  simp
  congr 1
  omega
theorem upd_succ {α : Type} (F : α → α) {i : Nat} {l : List α} (h : i < l.length) : upd F (i + 1) l = (upd F i l).set i (F l[i]) := by
  unfold upd
  rw [List.take_succ_eq_append_getElem h, List.map_append, List.append_assoc, List.set_append_right _ _ (by simp; omega)]
  congr 1
  have e : i - ((l.take i).map F).length = 0 := by simp; omega
  rw [e, List.drop_eq_getElem_cons h]
  rfl
theorem two_set {α : Type} (f : α → Value × Value) {l : List α} {i : Nat} (h : i < l.length) (y : α) : two f (l.set i y) = ((two f l).set (i * 2) (f y).1).set (i * 2 + 1) (f y).2 := by
  induction l generalizing i with
  | nil => simp at h
  | cons x l ih =>
    cases i with
    | zero => simp [two_cons]
    | succ i =>
      rw [List.set_cons_succ, two_cons, two_cons, ih (by simpa using h)]
      rw [show (i + 1) * 2 = i * 2 + 1 + 1 by omega]
      simp
theorem two_set0 {α : Type} (f : α → Value × Value) {l : List α} {i : Nat} (h : i < l.length) (y : α) (e : (f y).2 = (f l[i]).2) : two f (l.set i y) = (two f l).set (i * 2) (f y).1 := by
  rw [two_set f h, e]
  apply List.ext_getElem?
  intro j
  by_cases hj : j = i * 2 + 1
  · subst hj
    have hl := two_length f l
    rw [List.getElem?_set_self (by rw [List.length_set, hl]; omega), List.getElem?_set_ne (by omega), (two_get f l i h).2]
  · rw [List.getElem?_set_ne (by omega)]
theorem two_set1 {α : Type} (f : α → Value × Value) {l : List α} {i : Nat} (h : i < l.length) (y : α) (e : (f y).1 = (f l[i]).1) : two f (l.set i y) = (two f l).set (i * 2 + 1) (f y).2 := by
  rw [two_set f h, e]
  congr 1
  apply List.ext_getElem?
  intro j
  by_cases hj : j = i * 2
  · subst hj
    have hl := two_length f l
    rw [List.getElem?_set_self (by rw [hl]; omega), (two_get f l i h).1]
  · rw [List.getElem?_set_ne (by omega)]
theorem inc_ne {p : Nat × Nat} (h : p.1 < 18446744073709551616) : p ≠ inc1 p := by
  intro e
  have := congrArg Prod.fst e
  simp only [inc1] at this
  omega
theorem app_ne (p : ByteArray × ByteArray) : p ≠ app1 p := by
  intro e
  have := congrArg (fun q => q.2.size) e
  simp only [app1, ByteArray.size_append] at this
  have h1 : (⟨#[120]⟩ : ByteArray).size = 1 := rfl
  omega
theorem map_eq {α : Type} [DecidableEq α] {F : α → α} {l : List α} (h : ∀ x ∈ l, x ≠ F x) : decide (l = l.map F) = decide (l.length = 0) := by
  rw [Bool.eq_iff_iff, decide_eq_true_iff, decide_eq_true_iff]
  cases l with
  | nil => simp
  | cons x l =>
    simp
    intro e
    exact absurd e (h x (by simp))
/-- the message that the law makes of a copy -/
def chg (m : Ms) : Ms := { m with peers := m.peers.map inc1, pairs := m.pairs.map app1 }
theorem same_chg {m : Ms} (ok : Ok m) : same m (chg m) = (decide (m.peers.length = 0) && decide (m.pairs.length = 0)) := by
  have h1 : decide (m.peers = (chg m).peers) = decide (m.peers.length = 0) := map_eq (F := inc1) (fun p hp => inc_ne (ok.peers p hp).1)
  have h2 : decide (m.pairs = (chg m).pairs) = decide (m.pairs.length = 0) := map_eq (F := app1) (fun p hp => app_ne p)
  have h3 : same1 m (chg m) = true := by simp [same1, chg]
  unfold same
  rw [h1, h2, h3, Bool.true_and]

/-! ### memory -/
/-- variable g holds the message m but for its slices, which hold lp and lq, each in a row of its own -/
structure Cst (w1 wr : World) (base g : Nat) (m : Ms) (up uq : Value) (lp : List (Nat × Nat)) (lq : List (ByteArray × ByteArray)) : Prop where
  below : Below base w1 wr
  var : Whole wr g 30 #[.int .i64 m.kind, .int .u32 (m.rid : Int), .int .u8 (m.code : Int), .bool m.has, .int .u64 (m.id : Int), .string m.key, .string m.val, .int .u64 (m.pid : Int), .int .u16 (m.pad : Int), up, uq]
  own1 : wr.ownsRow base 26 2 up lp.length (two fPeer lp)
  own2 : wr.ownsRow base 40 2 uq lq.length (two fPair lq)
  ne1 : ∀ k, up.ownBlock = some k → k ≠ g
  ne2 : ∀ k, uq.ownBlock = some k → k ≠ g
  apart : ∀ k k', up.ownBlock = some k → uq.ownBlock = some k' → k ≠ k'
section
variable {w1 wr : World} {base g : Nat} {m : Ms} {up uq : Value} {lp : List (Nat × Nat)} {lq : List (ByteArray × ByteArray)}
/-- a row of the call's own while another block is written -/
theorem own2_other {w : World} {base n sz k : Nat} {t : TypeId} {v : Value} {xs : List Value} (h : w.ownsRow base t sz v n xs) (hk : ∀ k', v.ownBlock = some k' → k ≠ k') (i : Nat) (u : Value) : (w.setCell ⟨k, i, none⟩ u).ownsRow base t sz v n xs := by
  obtain ⟨h1, h2⟩ := h
  refine ⟨h1, ?_⟩
  rcases h2 with h2 | ⟨gg, cap, cur, rfl, hg, hh, r⟩
  · exact .inl h2
  · exact .inr ⟨gg, cap, cur, rfl, hg, by rw [Below.heap_setCell _ _ _ _ (by have := hk gg rfl; exact fun e => this e.symm)]; exact hh, r⟩
theorem Cst.peer (h : Cst w1 wr base g m up uq lp lq) {i : Nat} (hi : i < lp.length) : ∃ k c, up = .slice (some ⟨k, 0, none⟩) lp.length c ∧ lp.length ≤ c ∧ c ≤ maxLen ∧ wr.cell? ⟨k, i * 2, none⟩ = some (.int .u64 (lp[i].1 : Int)) ∧ wr.frozen? ⟨k, i * 2, none⟩ = false ∧
    ∀ y, y.2 = lp[i].2 → Cst w1 (wr.setCell ⟨k, i * 2, none⟩ (.int .u64 (y.1 : Int))) base g m up uq (lp.set i y) lq := by
  obtain ⟨k, c, cur, hup, hbk, hlc, hcm, hW, _⟩ := own_two h.own1 (by omega)
  have h1 := h.own1
  rw [hup] at h1
  have hk : up.ownBlock = some k := by rw [hup]; rfl
  refine ⟨k, c, hup, hlc, hcm, ?_, hW.free _, fun y hy => ⟨?_, ?_, ?_, ?_, h.ne1, h.ne2, h.apart⟩⟩
  · rw [h1.cellAt _ (by omega)]
    exact (two_get fPeer lp i hi).1
  · exact h.below.setCell (p := ⟨k, i * 2, none⟩) hbk _
  · exact h.var.other (p := ⟨k, i * 2, none⟩) (fun e => h.ne1 k hk e.symm) _
  · have := (h1.stored (i * 2) (.int .u64 (y.1 : Int))).1
    rw [List.length_set, two_set0 fPeer hi y (by simp [fPeer, hy]), hup]
    exact this
  · exact own2_other h.own2 (fun k' hk' => h.apart k k' hk hk') _ _
theorem Cst.pair (h : Cst w1 wr base g m up uq lp lq) {i : Nat} (hi : i < lq.length) : ∃ k c, uq = .slice (some ⟨k, 0, none⟩) lq.length c ∧ lq.length ≤ c ∧ c ≤ maxLen ∧ wr.cell? ⟨k, i * 2 + 1, none⟩ = some (.string lq[i].2) ∧ wr.frozen? ⟨k, i * 2 + 1, none⟩ = false ∧
    ∀ y, y.1 = lq[i].1 → Cst w1 (wr.setCell ⟨k, i * 2 + 1, none⟩ (.string y.2)) base g m up uq lp (lq.set i y) := by
  obtain ⟨k, c, cur, huq, hbk, hlc, hcm, hW, _⟩ := own_two h.own2 (by omega)
  have h1 := h.own2
  rw [huq] at h1
  have hk : uq.ownBlock = some k := by rw [huq]; rfl
  refine ⟨k, c, huq, hlc, hcm, ?_, hW.free _, fun y hy => ⟨?_, ?_, ?_, ?_, h.ne1, h.ne2, h.apart⟩⟩
  · rw [h1.cellAt _ (by omega)]
    exact (two_get fPair lq i hi).2
  · exact h.below.setCell (p := ⟨k, i * 2 + 1, none⟩) hbk _
  · exact h.var.other (p := ⟨k, i * 2 + 1, none⟩) (fun e => h.ne2 k hk e.symm) _
  · exact own2_other h.own1 (fun k' hk' => fun e => h.apart k' k hk' hk e.symm) _ _
  · have := (h1.stored (i * 2 + 1) (.string y.2)).1
    rw [List.length_set, two_set1 fPair hi y (by simp [fPair, hy]), huq]
    exact this
theorem Cst.drew (h : Cst w1 wr base g m up uq lp lq) : Cst w1 wr.drew base g m up uq lp lq := ⟨h.below.drew, h.var, own2_below h.own1 (Below.refl _ _).drew, own2_below h.own2 (Below.refl _ _).drew, h.ne1, h.ne2, h.apart⟩
theorem Cst.kept {wr' : World} (h : Cst w1 wr base g m up uq lp lq) (hB : base ≤ g) (hb : Below wr.heap.size wr wr') : Cst w1 wr' base g m up uq lp lq :=
  ⟨h.below.trans (hb.mono (by have := h.var.lt; omega)), h.var.below hb h.var.lt, own2_below h.own1 hb, own2_below h.own2 hb, h.ne1, h.ne2, h.apart⟩
/-- the variable as a message -/
theorem Cst.box (h : Cst w1 wr base g m up uq lp lq) (ok : Ok { m with peers := lp, pairs := lq }) : ∃ B, Bx wr g { m with peers := lp, pairs := lq } up uq ∧ Mv wr B { m with peers := lp, pairs := lq } (.agg #[.int .i64 m.kind, .int .u32 (m.rid : Int), .int .u8 (m.code : Int), .bool m.has, .int .u64 (m.id : Int), .string m.key, .string m.val, .int .u64 (m.pid : Int), .int .u16 (m.pad : Int), up, uq]) :=
  ⟨wr.heap.size, h.var, ⟨⟨up, uq, rfl, Sl.of_own h.own1, Sl.of_own h.own2⟩, ok⟩⟩
end
/-- a copy whose slices lie apart -/
structure Mo2 (w : World) (base : Nat) (m : Ms) (v : Value) : Prop where
  ex : ∃ up uq, v = .agg #[.int .i64 m.kind, .int .u32 (m.rid : Int), .int .u8 (m.code : Int), .bool m.has, .int .u64 (m.id : Int), .string m.key, .string m.val, .int .u64 (m.pid : Int), .int .u16 (m.pad : Int), up, uq] ∧ w.ownsRow base 26 2 up m.peers.length (two fPeer m.peers) ∧ w.ownsRow base 40 2 uq m.pairs.length (two fPair m.pairs) ∧ ∀ k k', up.ownBlock = some k → uq.ownBlock = some k' → k ≠ k'
  ok : Ok m
theorem Mo2.mv {w : World} {base : Nat} {m : Ms} {v : Value} (h : Mo2 w base m v) : Mv w w.heap.size m v := by
  obtain ⟨⟨vp, vq, e, hp, hq, _⟩, ok⟩ := h
  exact ⟨⟨vp, vq, e, Sl.of_own hp, Sl.of_own hq⟩, ok⟩
set_option maxRecDepth 100000 in
theorem copy2_any {w : World} {B : Nat} {m : Ms} {v : Value} (H : Mv w B m v) (hlp : m.peers.length ≤ 1000000000) (hlq : m.pairs.length ≤ 1000000000) :
    Calls Tryd.prog 13 #[v] w fun e w' => ∃ v', e = .returned v' ∧ Mo2 w' w.heap.size m v' ∧ Below w.heap.size w w' := by
  obtain ⟨b, vp, vq, w0, rfl, hb, hal, hsz, hx, hb0⟩ := boxed H
  obtain ⟨b2, w1, hb2, hal2, hsz2, hy, hb1⟩ := msg_box w0
  have e2 : b2 = b + 1 := by omega
  subst e2
  have hx1 := hx.below hb1 (by omega)
  have HX := Lib.hid hx1
  have HY := Lib.hid hy
  have HB := Lib.hid (hb0.trans (hb1.mono (by omega)))
  have c9 : w1.cell? ⟨b, 9, none⟩ = some vp := hx1.bx.at_ 9
  have f9 : w1.frozen? ⟨b, 9, none⟩ = false := hx1.bx.free 9
  clear hx hx1 hy hb0 hb1 hb2 H
  go_enter Tryd.func13, Tryd.ntmps13
  go_wp2_with fail
  refine (clonepeers_any HX.out.peers hlp).mono ?_
  rintro e w2 ⟨up', rfl, hop, hb2⟩
  obtain ⟨upA, upc, rfl⟩ := own_shape hop
  obtain ⟨up, hup⟩ : ∃ up, up = Value.slice upA m.peers.length upc := ⟨_, rfl⟩
  rw [← hup] at hop
  have HB2 := Lib.hid hb2
  have HOp := Lib.hid hop
  clear hop hb2
  have hx2 := HX.out.kept HB2.out
  have hy2 := HY.out.below HB2.out (by omega)
  have k9 : w2.cell? ⟨b, 9, none⟩ = some vp := hx2.bx.at_ 9
  have g9 : w2.frozen? ⟨b, 9, none⟩ = false := hx2.bx.free 9
  have hb3 : Below b w1 (w2.setCell ⟨b, 9, none⟩ up) := (HB2.out.mono (by omega)).setCell (p := ⟨b, 9, none⟩) (Nat.le_refl b) up
  have HY3 := Lib.hid (hy2.other (p := ⟨b, 9, none⟩) (by show b + 1 ≠ b; omega) up)
  have HX3 : Hid (Bx (w2.setCell ⟨b, 9, none⟩ up) b m up vq) := Lib.hid (hx2.bx.put 9 up)
  have HQ3 := Lib.hid (HX.out.pairs.below hb3)
  have HOp3 := Lib.hid (ownsRow_setCell_below HOp.out (a := ⟨b, 9, none⟩) (by show b < w1.heap.size; omega) up)
  have HB3 := Lib.hid (HB.out.trans hb3)
  have hs3 : (w2.setCell ⟨b, 9, none⟩ up).heap.size = w2.heap.size := by simp [World.setCell]
  have hs2 := HB2.out.size
  clear hx2 hy2 hb3
  obtain ⟨w3, hw3⟩ : ∃ w3, w2.setCell ⟨b, 9, none⟩ up = w3 := ⟨_, rfl⟩
  rw [hw3] at HY3 HX3 HQ3 HOp3 HB3 hs3
  have c10 : w3.cell? ⟨b, 10, none⟩ = some vq := HX3.out.at_ 10
  rw [hup] at hw3
  have HUP := Lib.hid hup
  clear hup
  go_wp2_with fail
  refine (clonepairs_any HQ3.out hlq).mono ?_
  rintro e w4 ⟨uq', rfl, hoq, hb4⟩
  obtain ⟨uqA, uqc, rfl⟩ := own_shape hoq
  obtain ⟨uq, huq⟩ : ∃ uq, uq = Value.slice uqA m.pairs.length uqc := ⟨_, rfl⟩
  rw [← huq] at hoq
  have hx4 := HX3.out.below hb4 (by omega)
  have hy4 := HY3.out.below hb4 (by omega)
  have HOp4 := Lib.hid (own2_below HOp3.out hb4)
  have HOq := Lib.hid hoq
  have k10 : w4.cell? ⟨b, 10, none⟩ = some vq := hx4.at_ 10
  have g10 : w4.frozen? ⟨b, 10, none⟩ = false := hx4.free 10
  have hb5 : Below b w3 (w4.setCell ⟨b, 10, none⟩ uq) := (hb4.mono (by omega)).setCell (p := ⟨b, 10, none⟩) (Nat.le_refl b) uq
  have HX5 : Hid (Bx (w4.setCell ⟨b, 10, none⟩ uq) b m up uq) := Lib.hid (hx4.put 10 uq)
  have HY5 := Lib.hid (hy4.other (p := ⟨b, 10, none⟩) (by show b + 1 ≠ b; omega) uq)
  have HOp5 := Lib.hid (ownsRow_setCell_below HOp4.out (a := ⟨b, 10, none⟩) (by show b < w1.heap.size; omega) uq)
  have HOq5 := Lib.hid (ownsRow_setCell_below HOq.out (a := ⟨b, 10, none⟩) (by show b < w3.heap.size; omega) uq)
  have HB5 := Lib.hid (HB3.out.trans hb5)
  clear hx4 hy4 hb4 hb5 hoq
  obtain ⟨w5, hw5⟩ : ∃ w5, w4.setCell ⟨b, 10, none⟩ uq = w5 := ⟨_, rfl⟩
  rw [hw5] at HX5 HY5 HOp5 HOq5 HB5
  rw [huq] at hw5
  have HUQ := Lib.hid huq
  clear huq
  go_wp2_with (first | (refine wpList_load_struct Tryd.underlying30 (msgI rfl) rfl rfl rfl HX5.out ?_) | (refine wpList_store_whole rfl rfl rfl rfl rfl HY5.out (msgI rfl) rfl (by simp [Value.oneCell', HUP.out, HUQ.out]) ?_))
  have HY6 := Lib.hid (HY5.out.row #[.int .i64 m.kind, .int .u32 (m.rid : Int), .int .u8 (m.code : Int), .bool m.has, .int .u64 (m.id : Int), .string m.key, .string m.val, .int .u64 (m.pid : Int), .int .u16 (m.pad : Int), up, uq])
  refine bodyPost_ret (v := .agg #[.int .i64 m.kind, .int .u32 (m.rid : Int), .int .u8 (m.code : Int), .bool m.has, .int .u64 (m.id : Int), .string m.key, .string m.val, .int .u64 (m.pid : Int), .int .u16 (m.pad : Int), up, uq]) ?_ rfl ⟨_, rfl, ⟨⟨up, uq, rfl, ?_, ?_, ?_⟩, HX.out.ok⟩, ?_⟩
  · exact results_cell_row rfl _ _ _ _ _ (0, 0) _ rfl HY6.out Tryd.underlying30 rfl (msgI rfl)
  · exact own2_lower (own2_from HOp5.out (fun i hi _ => setRow_other w5 (b + 1) i _ (by omega))) (by omega)
  · exact own2_lower (own2_from HOq5.out (fun i hi _ => setRow_other w5 (b + 1) i _ (by omega))) (by omega)
  · intro k k' hk hk'
    have h1 := (HOp.out.lt k hk).2
    have h2 := (HOq.out.lt k' hk').1
    omega
  · rw [hb]; exact below_row HB5.out (by omega) _
end Go.Proofs.YtdnnlifcgoegkaaDoor
