/- Contract of the reference's one of layer 10; words for a message that the reference's read fills. -/
import Derived.Test.YtjkjhnpemhlbpaaDoorPD
import Derived.Test.YtjkjhnpemhlbpaaDoorPJ
import Derived.Test.YtjkjhnpemhlbpaaDoorTget
import Derived.Test.YtjkjhnpemhlbpaaDoorTlp
namespace Go.Proofs.YtjkjhnpemhlbpaaDoor
open Go.RowKit
set_option linter.unusedVariables false
set_option maxRecDepth 100000
open Gm

theorem curuvarA {w : World} {B h : Nat} {l : List Nat} {e : Int} (H : Cu w B h l e) :
    Calls Tryd.prog 26 #[.pointer (some ⟨h, 0, none⟩), .int .u64 18446744073709551615] w fun en w' => en = .returned (.int .u64 ((Bm.uvar l e Tg.u64).1 : Int)) ∧ Cu w' B h (Bm.uvar l e Tg.u64).2.1 (Bm.uvar l e Tg.u64).2.2 ∧ Only h w w' :=
  curuvar_any 18446744073709551615 (by omega) H
theorem Cu.met {w : World} {B h : Nat} {l : List Nat} {e : Int} (H : Cu w B h l e) : w.cell? ⟨h, 2, none⟩ = some (.int .i64 e) := by obtain ⟨A, c, f, p, H, hl⟩ := H; exact H.c2

set_option maxHeartbeats 1000000 in
theorem rone10_any {w : World} {B h : Nat} {l : List Nat} {e : Int} (H : Cu w B h l e) :
    Calls Tryd.prog 58 #[.pointer (some ⟨h, 0, none⟩)] w fun en w' => en = .returned (.agg #[.int .u64 ((Tg.peer l e).1.1 : Int), .int .u16 ((Tg.peer l e).1.2 : Int)]) ∧ Cu w' B h (Tg.peer l e).2.1 (Tg.peer l e).2.2 ∧ Only h w w' := by
  obtain ⟨b, w0, hs, hal, hs0, hw0, hb0⟩ := boxed2 w 26 (.int .u64 0) (.int .u16 0)
  have hgb : h < b := by rw [← hs]; exact H.lt
  have h0 : Cu w0 B h l e := H.below (by rw [← hs] at hb0; exact hb0) H.lt
  have HO0 : Hid (Only h w w0) := Lib.hid (by rw [← hal]; exact Only.alloc0 _ _ _)
  have HW := Lib.hid hw0
  have C := Lib.hid (curuvarA h0)
  have hp1 : (Bm.uvar l e Tg.u64).1 < 18446744073709551616 := by have := Bm.uvar_le l e Tg.u64; unfold Tg.u64 at *; omega
  have HP : Hid (Tg.peer l e = (((Bm.uvar l e Tg.u64).1, (Bm.uvar (Bm.uvar l e Tg.u64).2.1 (Bm.uvar l e Tg.u64).2.2 65535).1), (Bm.uvar (Bm.uvar l e Tg.u64).2.1 (Bm.uvar l e Tg.u64).2.2 65535).2)) := rfl
  obtain ⟨p, hp⟩ : ∃ p, Hid (Bm.uvar l e Tg.u64 = p) := ⟨_, rfl⟩
  obtain ⟨p1, l1, e1⟩ := p
  rw [hp.out] at C hp1 HP
  simp only at C hp1 HP
  rw [HP.out]
  clear H h0 hw0 hb0
  go_enter Tryd.func58, Tryd.ntmps58
  go_wp2_with fail
  refine (C.out).mono ?_
  rintro e w1 ⟨rfl, hr1, ho1⟩
  have hw1 := HW.out.only ho1 (by omega : b ≠ h)
  have HO1 := Lib.hid (HO0.out.trans ho1)
  have C2 := Lib.hid (curuvar_any 65535 (by omega) hr1)
  have hq1 : (Bm.uvar l1 e1 65535).1 < 65536 := by have := Bm.uvar_le l1 e1 65535; omega
  have HW1 := Lib.hid hw1
  clear ho1 hr1 hw1
  obtain ⟨q, hq⟩ : ∃ q, Hid (Bm.uvar l1 e1 65535 = q) := ⟨_, rfl⟩
  obtain ⟨q1, l2, e2⟩ := q
  rw [hq.out] at C2 hq1
  simp only at C2 hq1
  go_wp2_with fail
  refine (C2.out).mono ?_
  rintro e w2 ⟨rfl, hr2, ho2⟩
  have hw2 := HW1.out.only ho2 (by omega : b ≠ h)
  have HO2 := Lib.hid (HO1.out.trans ho2)
  have HR2 := Lib.hid hr2
  have HW2 := Lib.hid hw2
  clear ho2 hr2
  have z0 : w2.cell? ⟨b, 0, none⟩ = some (.int .u64 0) := hw2.at_ 0
  have f0 : w2.frozen? ⟨b, 0, none⟩ = false := hw2.free 0
  have z1 : (w2.setCell ⟨b, 0, none⟩ (.int .u64 (p1 : Int))).cell? ⟨b, 1, none⟩ = some (.int .u16 0) := (hw2.put 0 _).at_ 1
  have f1 : (w2.setCell ⟨b, 0, none⟩ (.int .u64 (p1 : Int))).frozen? ⟨b, 1, none⟩ = false := (hw2.put 0 _).free 1
  clear hw2
  go_wp2_with fail
  have HF := Lib.hid ((HW2.out.put 0 (.int .u64 (p1 : Int))).put 1 (.int .u16 (q1 : Int)))
  refine bodyPost_ret (v := .agg #[.int .u64 (p1 : Int), .int .u16 (q1 : Int)]) ?_ rfl ⟨?_, ?_, ?_⟩
  · exact results_cell_row rfl _ _ _ _ _ (0, 0) _ rfl HF.out Tryd.underlying26 rfl (fpeerI rfl)
  · rw [hq.out]
  · rw [hq.out]
    exact (HR2.out.newCell hgb 0 _).newCell hgb 1 _
  · exact (HO2.out.newCell (by omega) 0 _).newCell (by omega) 1 _

/-- the reader in block r, the message in block g with the lists vp and vq -/
structure Sw (w0 : World) (r g : Nat) (m : Ms) (vp vq : Value) (l : List Nat) (e : Int) (w : World) : Prop where
  rd : Cu w r r l e
  bx : Bx w g m vp vq
  but : But2 r g w0 w
  lt : r < g
  top : g < w0.heap.size
section
variable {w w' w0 w1 w2 : World} {g r y : Nat} {m m' : Ms} {vp vq vp' vq' : Value} {l l1 : List Nat} {e e1 : Int} {o : Obj} {row : Option Nat}
theorem Sw.read (h : Sw w0 r g m vp vq l e w) (hr : Cu w1 r r l1 e1) (ho : Only r w w1) : Sw w0 r g m vp vq l1 e1 w1 :=
  ⟨hr, Whole.only h.bx ho (by have := h.lt; omega), h.but.trans (ho.left g), h.lt, h.top⟩
theorem Sw.below (h : Sw w0 r g m vp vq l e w) (hb : Below w.heap.size w w1) : Sw w0 r g m vp vq l e w1 :=
  ⟨h.rd.below hb h.rd.lt, h.bx.below hb (Whole.lt h.bx), h.but.trans (But2.of_below hb), h.lt, h.top⟩
theorem Sw.put (h : Sw w0 r g m vp vq l e w) {i : Nat} {u : Value} (hm : Bx (w.setCell ⟨g, i, none⟩ u) g m' vp' vq') : Sw w0 r g m' vp' vq' l e (w.setCell ⟨g, i, none⟩ u) :=
  ⟨h.rd.newCell h.lt i u, hm, h.but.trans (((Only.refl g w).setCell i u).right r), h.lt, h.top⟩
theorem Sw.grow (h : Sw w0 r g m vp vq l e w) (hg : (w.alloc o).grownBy w2 row) (hrow : ∀ k, row = some k → w0.heap.size ≤ k) : Sw w0 r g m vp vq l e w2 := by
  have hsz := h.but.size
  have hlt := Whole.lt h.bx
  have hb : Below w0.heap.size w w2 := ((Below.refl w0.heap.size w).alloc hsz o).trans ⟨hg.os, hg.tape, hg.output, hg.size, fun i hi => hg.block i (by simp; omega) (fun e => by have := hrow i e.symm; omega)⟩
  exact ⟨h.rd.below hb (by have := h.lt; have := h.top; omega), h.bx.below hb h.top, ⟨hb.os.trans h.but.os, hb.tape.trans h.but.tape, hb.output.trans h.but.output, Nat.le_trans hsz hb.size, fun i hi h1 h2 => (hb.block i hi).trans (h.but.block i hi h1 h2)⟩, h.lt, h.top⟩
theorem Sw.glt (h : Sw w0 r g m vp vq l e w) : g < w.heap.size := Whole.lt h.bx
/-- behind the store of the result -/
theorem Sw.fin (h : Sw w0 r g m vp vq l e w') (hb : Below g w w0) (hg : w.heap.size = g) (hy : g < y) (cs : Array Value) : Cu (w'.setRow y cs) r r l e ∧ Only r w (w'.setRow y cs) := by
  have hlt := h.lt
  have hB : Below (r + 1) w' (w'.setRow y cs) := below_row (Below.refl (r + 1) w') (by omega) cs
  refine ⟨h.rd.below hB (by omega), ?_⟩
  have hs := h.but.size
  have hs2 := hb.size
  refine ⟨hB.os.trans (h.but.os.trans hb.os), hB.tape.trans (h.but.tape.trans hb.tape), hB.output.trans (h.but.output.trans hb.output), by rw [size_setRow]; omega, fun i hi hr => ?_⟩
  rw [setRow_other w' y i cs (by omega), h.but.block i (by omega) hr (by omega), hb.block i (by omega)]
theorem box_read (w : World) (m : Ms) (vp vq : Value) : ∃ g y w1 w0, w.heap.size = g ∧ w.alloc (.cells #[.int .i64 m.kind, .int .u32 (m.rid : Int), .int .u8 (m.code : Int), .bool m.has, .int .u64 (m.id : Int), .string m.key, .string m.val, .int .u64 (m.pid : Int), .int .u16 (m.pad : Int), vp, vq] 30) = w1 ∧ w1.heap.size = y ∧
    w1.alloc (.cells #[.int .i64 0, .int .u32 0, .int .u8 0, .bool false, .int .u64 0, .string ⟨#[]⟩, .string ⟨#[]⟩, .int .u64 0, .int .u16 0, .slice none 0 0, .slice none 0 0] 30) = w0 ∧ Bx w0 g m vp vq ∧ Whole w0 y 30 #[.int .i64 0, .int .u32 0, .int .u8 0, .bool false, .int .u64 0, .string ⟨#[]⟩, .string ⟨#[]⟩, .int .u64 0, .int .u16 0, .slice none 0 0, .slice none 0 0] ∧ Below g w w0 ∧ g < y ∧ w0.heap.size = y + 1 := by
  refine ⟨_, _, _, _, rfl, rfl, rfl, rfl, Whole.alloc (Whole.made _ _ _) _, Whole.made _ _ _, ?_, by simp, by simp⟩
  exact (((Below.refl _ _).alloc (Nat.le_refl _) _)).alloc (by simp) _
end
/-- a list that was left as it was, or lies in a row of the call's own -/
def RowOf {α : Type} (f : α → Value × Value) (E : TypeId) (w w' : World) (v : Value) (xs : List α) (v' : Value) (ys : List α) : Prop :=
  (v' = v ∧ ys = xs) ∨ w'.ownsRow w.heap.size E 2 v' ys.length (two f ys)
/-- what read leaves -/
def RReadPost (r t : Nat) (m : Ms) (vp vq : Value) (l : List Nat) (e : Int) (w : World) (en : Ending) (w' : World) : Prop :=
  ∃ M l' e' vp' vq', Tg.read t m l e = (M, l', e') ∧ en = .returned (.agg #[.int .i64 M.kind, .int .u32 (M.rid : Int), .int .u8 (M.code : Int), .bool M.has, .int .u64 (M.id : Int), .string M.key, .string M.val, .int .u64 (M.pid : Int), .int .u16 (M.pad : Int), vp', vq']) ∧ Cu w' r r l' e' ∧ Only r w w' ∧
    RowOf fPeer 26 w w' vp m.peers vp' M.peers ∧ RowOf fPair 43 w w' vq m.pairs vq' M.pairs ∧ (t ≠ 8 → vp' = vp) ∧ (t ≠ 9 → vq' = vq)
end Go.Proofs.YtjkjhnpemhlbpaaDoor
