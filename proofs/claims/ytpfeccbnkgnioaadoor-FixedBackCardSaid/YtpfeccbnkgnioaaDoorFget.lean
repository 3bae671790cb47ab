/- Contracts of the functions of layer 9 that read: counts, peers, texts, lists. -/
import Derived.Test.YtpfeccbnkgnioaaDoorRdt
import Derived.Test.YtpfeccbnkgnioaaDoorFputs
namespace Go.Proofs.YtpfeccbnkgnioaaDoor
open Go.RowKit
set_option linter.unusedVariables false
set_option maxRecDepth 100000
open Gm

theorem Fm.rfix_nat {l : List Nat} (h : Fm.Bytes l) (e : Int) (k : Nat) (s : Int) (hs : s = (k : Int)) : (Bm.rfix l e s).1 < 256 ^ k := by subst hs; exact Fm.rfix_lt h e k
theorem getcount_any {w : World} {g : Nat} {l : List Nat} {e : Int} (k most : Nat) (s : Int) (hs : s = (k : Int)) (h1 : 1 ≤ k) (h2 : k ≤ 2) (hm : most ≤ 1000000) (h : Rd w g l e) :
    Calls Tryd.prog 76 #[.pointer (some ⟨g, 0, none⟩), .int .i64 s, .int .i64 (most : Int)] w fun en w' => en = .returned (.int .i64 ((Fm.count s most l e).1 : Int)) ∧ Rd w' g (Fm.count s most l e).2.1 (Fm.count s most l e).2.2 ∧ Only g w w' := by
  have C := Lib.hid (rfix_any s (by omega) (by omega) h)
  have hn : (Bm.rfix l e s).1 < 65536 := by
    have a := Fm.rfix_nat (show Fm.Bytes l from h.byte) e k s hs
    have : 256 ^ k ≤ 256 ^ 2 := Nat.pow_le_pow_right (by omega) h2
    omega
  have HC : Hid (Fm.count s most l e = if most < (Bm.rfix l e s).1 then (0, (Bm.rfix l e s).2.1, Bm.fail (Bm.rfix l e s).2.2 5) else Bm.rfix l e s) := rfl
  obtain ⟨q, hq⟩ : ∃ q, Hid (Bm.rfix l e s = q) := ⟨_, rfl⟩
  obtain ⟨n, l1, e1⟩ := q
  rw [hq.out] at C hn HC
  simp only at C hn HC
  obtain ⟨z, hz⟩ : ∃ z, Hid (Fm.count s most l e = z) := ⟨_, rfl⟩
  rw [hz.out] at HC ⊢
  clear h hs
  by_cases hlt : most < n
  · have E : z = (0, l1, Bm.fail e1 5) := by rw [HC.out, if_pos hlt]
    subst E
    clear HC
    go_enter Tryd.func76, Tryd.ntmps76
    go_wp2_with fail
    refine (C.out).mono ?_
    rintro e w1 ⟨rfl, hr1, ho1⟩
    have HO1 := Lib.hid ho1
    have F := Lib.hid (rfail_any 5 hr1)
    clear ho1 hr1
    go_wp2_with fail
    refine (F.out).mono ?_
    rintro e w2 ⟨rfl, hr2, ho2⟩
    have HR2 := Lib.hid hr2
    have HO2 := Lib.hid (HO1.out.trans ho2)
    clear hr2 ho2
    go_wp2_with fail
    go_ret
    exact ⟨rfl, HR2.out, HO2.out⟩
  · have E : z = (n, l1, e1) := by rw [HC.out, if_neg hlt]
    subst E
    clear HC
    go_enter Tryd.func76, Tryd.ntmps76
    go_wp2_with fail
    refine (C.out).mono ?_
    rintro e w1 ⟨rfl, hr1, ho1⟩
    have HO1 := Lib.hid ho1
    have HR1 := Lib.hid hr1
    clear ho1 hr1
    go_wp2_with fail
    go_ret
    exact ⟨rfl, HR1.out, HO1.out⟩

theorem Only.made {w w' : World} {g : Nat} (h : Only g w w') : w.heap.size ≤ w'.heap.size := h.size
theorem Only.alloc0 (g : Nat) (w : World) (o : Obj) : Only g w (w.alloc o) := (Only.refl g w).alloc o
/-- a store into a block that is new -/
theorem Only.newCell {a w : World} {g b : Nat} (h : Only g a w) (hb : a.heap.size ≤ b) (i : Nat) (u : Value) : Only g a (w.setCell ⟨b, i, none⟩ u) :=
  ⟨h.os, h.tape, h.output, by simpa [World.setCell] using h.size, fun j hj hg => (Below.heap_setCell _ _ _ _ (by show j ≠ b; omega)).trans (h.block j hj hg)⟩
theorem Rd.newCell {w : World} {g b : Nat} {l : List Nat} {e : Int} (h : Rd w g l e) (hb : g < b) (i : Nat) (u : Value) : Rd (w.setCell ⟨b, i, none⟩ u) g l e :=
  h.below ((Below.refl (g + 1) w).setCell (p := ⟨b, i, none⟩) (by show g + 1 ≤ b; omega) u) (by omega)

set_option maxHeartbeats 1000000 in
theorem getpeer_any {w : World} {g : Nat} {l : List Nat} {e : Int} (h : Rd w g l e) :
    Calls Tryd.prog 59 #[.pointer (some ⟨g, 0, none⟩)] w fun en w' => en = .returned (.agg #[.int .u64 ((Fm.peer l e).1.1 : Int), .int .u16 ((Fm.peer l e).1.2 : Int)]) ∧ Rd w' g (Fm.peer l e).2.1 (Fm.peer l e).2.2 ∧ Only g w w' := by
  obtain ⟨b, w0, hs, hal, hs0, hw0, hb0⟩ := boxed2 w 26 (.int .u64 0) (.int .u16 0)
  have hgb : g < b := by rw [← hs]; exact h.lt
  have h0 : Rd w0 g l e := h.below (by rw [← hs] at hb0; exact hb0) h.lt
  have HO0 : Hid (Only g w w0) := Lib.hid (by rw [← hal]; exact Only.alloc0 _ _ _)
  have HW := Lib.hid hw0
  have C := Lib.hid (rfix_any 8 (by omega) (by omega) h0)
  have hp1 : (Bm.rfix l e 8).1 < 18446744073709551616 := Fm.rfix_nat (show Fm.Bytes l from h.byte) e 8 8 rfl
  obtain ⟨p, hp⟩ : ∃ p, Hid (Bm.rfix l e 8 = p) := ⟨_, rfl⟩
  obtain ⟨p1, l1, e1⟩ := p
  rw [hp.out] at C hp1
  simp only at C hp1
  have HP : Hid (Fm.peer l e = ((p1, (Bm.rfix l1 e1 2).1 % 65536), (Bm.rfix l1 e1 2).2)) := Lib.hid (by unfold Fm.peer; rw [hp.out])
  rw [HP.out]
  clear h h0 hw0 hb0
  go_enter Tryd.func59, Tryd.ntmps59
  go_wp2_with fail
  refine (C.out).mono ?_
  rintro e w1 ⟨rfl, hr1, ho1⟩
  have hw1 := HW.out.only ho1 (by omega : b ≠ g)
  have HO1 := Lib.hid (HO0.out.trans ho1)
  have C2 := Lib.hid (rfix_any 2 (by omega) (by omega) hr1)
  have hq1 : (Bm.rfix l1 e1 2).1 < 65536 := Fm.rfix_nat (show Fm.Bytes l1 from hr1.byte) e1 2 2 rfl
  have HW1 := Lib.hid hw1
  clear ho1 hr1 hw1
  obtain ⟨q, hq⟩ : ∃ q, Hid (Bm.rfix l1 e1 2 = q) := ⟨_, rfl⟩
  obtain ⟨q1, l2, e2⟩ := q
  rw [hq.out] at C2 hq1
  simp only at C2 hq1
  go_wp2_with fail
  refine (C2.out).mono ?_
  rintro e w2 ⟨rfl, hr2, ho2⟩
  have hw2 := HW1.out.only ho2 (by omega : b ≠ g)
  have HO2 := Lib.hid (HO1.out.trans ho2)
  have HR2 := Lib.hid hr2
  have HW2 := Lib.hid hw2
  clear ho2 hr2
  have z0 : w2.cell? ⟨b, 0, none⟩ = some (.int .u64 0) := hw2.at_ 0
  have f0 : w2.frozen? ⟨b, 0, none⟩ = false := hw2.free 0
  have z1 : (w2.setCell ⟨b, 0, none⟩ (.int .u64 (p1 : Int))).cell? ⟨b, 1, none⟩ = some (.int .u16 0) := (hw2.put 0 _).at_ 1
  have f1 : (w2.setCell ⟨b, 0, none⟩ (.int .u64 (p1 : Int))).frozen? ⟨b, 1, none⟩ = false := (hw2.put 0 _).free 1
  clear hw2
  go_wp2_with fail
  have HF := Lib.hid ((HW2.out.put 0 (.int .u64 (p1 : Int))).put 1 (.int .u16 (q1 : Int)))
  refine bodyPost_ret (v := .agg #[.int .u64 (p1 : Int), .int .u16 (q1 : Int)]) ?_ rfl ⟨?_, ?_, ?_⟩
  · exact results_cell_row rfl _ _ _ _ _ (0, 0) _ rfl HF.out Tryd.underlying26 rfl (fpeerI rfl)
  · rw [hq.out, Nat.mod_eq_of_lt hq1]
  · rw [hq.out]
    exact (HR2.out.newCell hgb 0 _).newCell hgb 1 _
  · exact (HO2.out.newCell (by omega) 0 _).newCell (by omega) 1 _
end Go.Proofs.YtpfeccbnkgnioaaDoor
