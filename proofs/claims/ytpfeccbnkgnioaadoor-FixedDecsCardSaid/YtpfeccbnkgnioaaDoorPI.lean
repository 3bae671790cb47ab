/- Texts Fget, Fgets, Mb9, Fown9, Fdec, in one. -/
import Derived.Test.YtpfeccbnkgnioaaDoorPC
import Derived.Test.YtpfeccbnkgnioaaDoorPG
import Derived.Test.YtpfeccbnkgnioaaDoorPE
import Derived.Test.YtpfeccbnkgnioaaDoorPF
/- Contracts of the functions of layer 9 that read: counts, peers, texts, lists. -/
namespace Go.Proofs.YtpfeccbnkgnioaaDoor
open Go.RowKit
set_option linter.unusedVariables false
set_option maxRecDepth 100000
open Gm

theorem Fm.rfix_nat {l : List Nat} (h : Fm.Bytes l) (e : Int) (k : Nat) (s : Int) (hs : s = (k : Int)) : (Bm.rfix l e s).1 < 256 ^ k := by subst hs; exact Fm.rfix_lt h e k
theorem getcount_any {w : World} {g : Nat} {l : List Nat} {e : Int} (k most : Nat) (s : Int) (hs : s = (k : Int)) (h1 : 1 ≤ k) (h2 : k ≤ 2) (hm : most ≤ 1000000) (h : Rd w g l e) :
    Calls Tryd.prog 76 #[.pointer (some ⟨g, 0, none⟩), .int .i64 s, .int .i64 (most : Int)] w fun en w' => en = .returned (.int .i64 ((Fm.count s most l e).1 : Int)) ∧ Rd w' g (Fm.count s most l e).2.1 (Fm.count s most l e).2.2 ∧ Only g w w' := by
  have C := Lib.hid (rfix_any s (by omega) (by omega) h)
  have hn : (Bm.rfix l e s).1 < 65536 := by
    have a := Fm.rfix_nat (show Fm.Bytes l from h.byte) e k s hs
    have : 256 ^ k ≤ 256 ^ 2 := Nat.pow_le_pow_right (by omega) h2
    omega
  have HC : Hid (Fm.count s most l e = if most < (Bm.rfix l e s).1 then (0, (Bm.rfix l e s).2.1, Bm.fail (Bm.rfix l e s).2.2 5) else Bm.rfix l e s) := rfl
  obtain ⟨q, hq⟩ : ∃ q, Hid (Bm.rfix l e s = q) := ⟨_, rfl⟩
  obtain ⟨n, l1, e1⟩ := q
  rw [hq.out] at C hn HC
  simp only at C hn HC
  obtain ⟨z, hz⟩ : ∃ z, Hid (Fm.count s most l e = z) := ⟨_, rfl⟩
  rw [hz.out] at HC ⊢
  clear h hs
  by_cases hlt : most < n
  · have E : z = (0, l1, Bm.fail e1 5) := by rw [HC.out, if_pos hlt]
    subst E
    clear HC
    go_enter Tryd.func76, Tryd.ntmps76
    go_wp2_with fail
    refine (C.out).mono ?_
    rintro e w1 ⟨rfl, hr1, ho1⟩
    have HO1 := Lib.hid ho1
    have F := Lib.hid (rfail_any 5 hr1)
    clear ho1 hr1
    go_wp2_with fail
    refine (F.out).mono ?_
    rintro e w2 ⟨rfl, hr2, ho2⟩
    have HR2 := Lib.hid hr2
    have HO2 := Lib.hid (HO1.out.trans ho2)
    clear hr2 ho2
    go_wp2_with fail
    go_ret
    exact ⟨rfl, HR2.out, HO2.out⟩
  · have E : z = (n, l1, e1) := by rw [HC.out, if_neg hlt]
    subst E
    clear HC
    go_enter Tryd.func76, Tryd.ntmps76
    go_wp2_with fail
    refine (C.out).mono ?_
    rintro e w1 ⟨rfl, hr1, ho1⟩
    have HO1 := Lib.hid ho1
    have HR1 := Lib.hid hr1
    clear ho1 hr1
    go_wp2_with fail
    go_ret
    exact ⟨rfl, HR1.out, HO1.out⟩

theorem Only.made {w w' : World} {g : Nat} (h : Only g w w') : w.heap.size ≤ w'.heap.size := h.size
theorem Only.alloc0 (g : Nat) (w : World) (o : Obj) : Only g w (w.alloc o) := (Only.refl g w).alloc o
/-- a store into a block that is new -/
theorem Only.newCell {a w : World} {g b : Nat} (h : Only g a w) (hb : a.heap.size ≤ b) (i : Nat) (u : Value) : Only g a (w.setCell ⟨b, i, none⟩ u) :=
  ⟨h.os, h.tape, h.output, by simpa [World.setCell] using h.size, fun j hj hg => (Below.heap_setCell _ _ _ _ (by show j ≠ b; omega)).trans (h.block j hj hg)⟩
theorem Rd.newCell {w : World} {g b : Nat} {l : List Nat} {e : Int} (h : Rd w g l e) (hb : g < b) (i : Nat) (u : Value) : Rd (w.setCell ⟨b, i, none⟩ u) g l e :=
  h.below ((Below.refl (g + 1) w).setCell (p := ⟨b, i, none⟩) (by show g + 1 ≤ b; omega) u) (by omega)

set_option maxHeartbeats 1000000 in
theorem getpeer_any {w : World} {g : Nat} {l : List Nat} {e : Int} (h : Rd w g l e) :
    Calls Tryd.prog 59 #[.pointer (some ⟨g, 0, none⟩)] w fun en w' => en = .returned (.agg #[.int .u64 ((Fm.peer l e).1.1 : Int), .int .u16 ((Fm.peer l e).1.2 : Int)]) ∧ Rd w' g (Fm.peer l e).2.1 (Fm.peer l e).2.2 ∧ Only g w w' := by
  obtain ⟨b, w0, hs, hal, hs0, hw0, hb0⟩ := boxed2 w 26 (.int .u64 0) (.int .u16 0)
  have hgb : g < b := by rw [← hs]; exact h.lt
  have h0 : Rd w0 g l e := h.below (by rw [← hs] at hb0; exact hb0) h.lt
  have HO0 : Hid (Only g w w0) := Lib.hid (by rw [← hal]; exact Only.alloc0 _ _ _)
  have HW := Lib.hid hw0
  have C := Lib.hid (rfix_any 8 (by omega) (by omega) h0)
  have hp1 : (Bm.rfix l e 8).1 < 18446744073709551616 := Fm.rfix_nat (show Fm.Bytes l from h.byte) e 8 8 rfl
  obtain ⟨p, hp⟩ : ∃ p, Hid (Bm.rfix l e 8 = p) := ⟨_, rfl⟩
  obtain ⟨p1, l1, e1⟩ := p
  rw [hp.out] at C hp1
  simp only at C hp1
  have HP : Hid (Fm.peer l e = ((p1, (Bm.rfix l1 e1 2).1 % 65536), (Bm.rfix l1 e1 2).2)) := Lib.hid (by unfold Fm.peer; rw [hp.out])
  rw [HP.out]
  clear h h0 hw0 hb0
  go_enter Tryd.func59, Tryd.ntmps59
  go_wp2_with fail
  refine (C.out).mono ?_
  rintro e w1 ⟨rfl, hr1, ho1⟩
  have hw1 := HW.out.only ho1 (by omega : b ≠ g)
  have HO1 := Lib.hid (HO0.out.trans ho1)
  have C2 := Lib.hid (rfix_any 2 (by omega) (by omega) hr1)
  have hq1 : (Bm.rfix l1 e1 2).1 < 65536 := Fm.rfix_nat (show Fm.Bytes l1 from hr1.byte) e1 2 2 rfl
  have HW1 := Lib.hid hw1
  clear ho1 hr1 hw1
  obtain ⟨q, hq⟩ : ∃ q, Hid (Bm.rfix l1 e1 2 = q) := ⟨_, rfl⟩
  obtain ⟨q1, l2, e2⟩ := q
  rw [hq.out] at C2 hq1
  simp only at C2 hq1
  go_wp2_with fail
  refine (C2.out).mono ?_
  rintro e w2 ⟨rfl, hr2, ho2⟩
  have hw2 := HW1.out.only ho2 (by omega : b ≠ g)
  have HO2 := Lib.hid (HO1.out.trans ho2)
  have HR2 := Lib.hid hr2
  have HW2 := Lib.hid hw2
  clear ho2 hr2
  have z0 : w2.cell? ⟨b, 0, none⟩ = some (.int .u64 0) := hw2.at_ 0
  have f0 : w2.frozen? ⟨b, 0, none⟩ = false := hw2.free 0
  have z1 : (w2.setCell ⟨b, 0, none⟩ (.int .u64 (p1 : Int))).cell? ⟨b, 1, none⟩ = some (.int .u16 0) := (hw2.put 0 _).at_ 1
  have f1 : (w2.setCell ⟨b, 0, none⟩ (.int .u64 (p1 : Int))).frozen? ⟨b, 1, none⟩ = false := (hw2.put 0 _).free 1
  clear hw2
  go_wp2_with fail
  have HF := Lib.hid ((HW2.out.put 0 (.int .u64 (p1 : Int))).put 1 (.int .u16 (q1 : Int)))
  refine bodyPost_ret (v := .agg #[.int .u64 (p1 : Int), .int .u16 (q1 : Int)]) ?_ rfl ⟨?_, ?_, ?_⟩
  · exact results_cell_row rfl _ _ _ _ _ (0, 0) _ rfl HF.out Tryd.underlying26 rfl (fpeerI rfl)
  · rw [hq.out, Nat.mod_eq_of_lt hq1]
  · rw [hq.out]
    exact (HR2.out.newCell hgb 0 _).newCell hgb 1 _
  · exact (HO2.out.newCell (by omega) 0 _).newCell (by omega) 1 _
end Go.Proofs.YtpfeccbnkgnioaaDoor
/- Contracts of the functions of layer 9 that read texts and lists. -/
namespace Go.Proofs.YtpfeccbnkgnioaaDoor
open Go.RowKit
set_option linter.unusedVariables false
set_option maxRecDepth 100000
open Gm

section
variable {P : Program} {T E : TypeId} {z : Value} {bytes : Nat} {α : Type} {f : α → Value × Value}
theorem two_new (w : World) (t : TypeId) (p : α) : Two f (w.alloc (.cells #[(f p).1, (f p).2] t)) (w.heap.size + 1) (some ⟨w.heap.size, 0, none⟩) [p] := by
  intro _
  refine ⟨_, 0, rfl, by omega, fun i hi => ?_⟩
  have hi : i = 0 := by simpa using hi
  subst hi
  have h := Whole.made w t #[(f p).1, (f p).2]
  exact ⟨h.at_ 0, h.at_ 1⟩
/-- 'append(s, x)' of one element of two cells -/
theorem run_append_elem2 (hT : ElemT2 P T E z bytes) (hf : ∀ x, (f x).1.oneCell' = true ∧ (f x).2.oneCell' = true) {wr : World} (ty base : Nat) (v : Value) (n : Nat) (xs : List Value) (p : α) (hown : wr.ownsRow base E 2 v n xs) (hn : n ≤ 1000000001000) (hbase : base ≤ wr.heap.size) :
    ∃ v' w', (Builtin.append_ #[T, T] ty #[v, .slice (some ⟨wr.heap.size, 0, none⟩) 1 1]).run P (wr.alloc (.cells #[(f p).1, (f p).2] E)) = .ok v' w' ∧ w'.ownsRow base E 2 v' (n + 1) (xs ++ two f [p]) ∧ (wr.alloc (.cells #[(f p).1, (f p).2] E)).grownBy w' v.ownBlock :=
  run_append_two hT hf ty base v n xs (hown.alloc _) 1 1 rfl (fun h => by cases h) (two_new wr E p) (by omega) (by simp; omega)
theorem wpList_append_elem2 (hT : ElemT2 P T E z bytes) (hf : ∀ x, (f x).1.oneCell' = true ∧ (f x).2.oneCell' = true) {ops : Array Oper} {rest : List Oper} {o : Oper} {a : Act} {wr : World} {Q : Exit → Act → World → Prop} {u0 u1 : Value} (s x : Operand) (hgd : o.guard = none)
    (ho : o.op = .call { callee := .builtin .append, args := #[s, x], argTypes := #[T, T] }) (base : Nat) (v : Value) (n : Nat) (xs : List Value) (p : α) (hp : f p = (u0, u1)) (hs : a.eval s = v) (hx : a.eval x = .slice (some ⟨wr.heap.size, 0, none⟩) 1 1)
    (hown : wr.ownsRow base E 2 v n xs) (hn : n ≤ 1000000001000) (hbase : base ≤ wr.heap.size)
    (h : ∀ v' w', w'.ownsRow base E 2 v' (n + 1) (xs ++ two f [p]) → (wr.alloc (.cells #[u0, u1] E)).grownBy w' v.ownBlock → wpList P ops Q rest (a.put o.dst v') w') : wpList P ops Q (o :: rest) a (wr.alloc (.cells #[u0, u1] E)) := by
  obtain ⟨rfl, rfl⟩ : u0 = (f p).1 ∧ u1 = (f p).2 := by rw [hp]; exact ⟨rfl, rfl⟩
  refine wpList_plain hgd fun K hK => ?_
  obtain ⟨v', w', hr, h2, h3⟩ := run_append_elem2 hT hf (wr := wr) o.type base v n xs p hown hn hbase
  unfold Oper.wp execOp
  simp only [ho, resolve, invoke, builtin, Sem.run_bind, Sem.run_pure, Result.andThen_ok, List.map_toArray, List.map_cons, List.map_nil, hs, hx, hr]
  exact hK _ _ (h v' w' h2 h3)
end
section
variable {a w w' : World} {g : Nat} {l : List Nat} {e : Int} {row : Option Nat} {o : Obj}
theorem Only.grown (h : Only g a w) (hg : (w.alloc o).grownBy w' row) (hr : ∀ k, row = some k → a.heap.size ≤ k) : Only g a w' :=
  ⟨hg.os.trans h.os, hg.tape.trans h.tape, hg.output.trans h.output, Nat.le_trans (h.alloc o).size hg.size, fun i hi hig => (hg.block i (by have := h.size; simp; omega) (fun e => by have := hr i e.symm; omega)).trans ((h.alloc o).block i hi hig)⟩
theorem Below.new (o : Obj) (hg : (w.alloc o).grownBy w' row) (hr : ∀ k, row = some k → g < k) (hlt : g < w.heap.size) : Below (g + 1) w w' :=
  ((Below.refl (g + 1) w).alloc (by omega) o).trans ⟨hg.os, hg.tape, hg.output, hg.size, fun i hi => hg.block i (by simp; omega) (fun e => by have := hr i e.symm; omega)⟩
theorem Rd.grown (h : Rd w g l e) (hg : (w.alloc o).grownBy w' row) (hr : ∀ k, row = some k → g < k) : Rd w' g l e :=
  h.below (Below.new o hg hr h.lt) (by omega)
end
theorem Fm.many_length {α : Type} (p : List Nat → Int → α × List Nat × Int) : ∀ (n : Nat) (l : List Nat) (e : Int), (Fm.many p n l e).1.length = n
  | 0, _, _ => rfl
  | n + 1, l, e => by show ((Fm.many p n l e).1 ++ [_]).length = _; rw [List.length_append, Fm.many_length p n]; rfl

set_option maxHeartbeats 1000000 in
theorem getkey_any {w : World} {g : Nat} {l : List Nat} {e : Int} (hl : l.length ≤ 1000000000000) (h : Rd w g l e) :
    Calls Tryd.prog 60 #[.pointer (some ⟨g, 0, none⟩)] w fun en w' => en = .returned (.string (strOf (Fm.str 1 96 l e).1)) ∧ Rd w' g (Fm.str 1 96 l e).2.1 (Fm.str 1 96 l e).2.2 ∧ Only g w w' := by
  have hs := ((Fm.good_count 1 1 96 rfl (by omega) (by omega)).suf l e).length_le
  have C := Lib.hid (getcount_any 1 96 1 rfl (by omega) (by omega) (by omega) h)
  have hc := Fm.count_lt (k := 1) l e 96 1
  obtain ⟨p, hp⟩ : ∃ p, Hid (Fm.count 1 96 l e = p) := ⟨_, rfl⟩
  obtain ⟨n, l1, e1⟩ := p
  rw [hp.out] at C hs hc
  simp only at C hs hc
  have HS : Hid (Fm.str 1 96 l e = Bm.take l1 e1 (n : Int)) := Lib.hid (by unfold Fm.str; rw [hp.out])
  rw [HS.out]
  clear h
  go_enter Tryd.func60, Tryd.ntmps60
  go_wp2_with fail
  refine (C.out).mono ?_
  rintro e w1 ⟨rfl, hr1, ho1⟩
  have HO1 := Lib.hid ho1
  have T := Lib.hid (rtake_any (n : Int) (by omega) (by omega) (by omega) hr1)
  clear ho1 hr1
  obtain ⟨q, hq⟩ : ∃ q, Hid (Bm.take l1 e1 (n : Int) = q) := ⟨_, rfl⟩
  rw [hq.out] at T
  go_wp2_with fail
  refine (T.out).mono ?_
  rintro e w2 ⟨v2, rfl, ho2, hr2, hk2⟩
  have hcv : (convert 33 9 v2).run Tryd.prog w2 = .ok (.string (strOf q.1)) w2 := conv_own Tryd.underlying33 Tryd.underlying5 Tryd.underlying9 ho2
  have HR2 := Lib.hid hr2
  have HO2 := Lib.hid (HO1.out.trans hk2)
  clear ho2 hr2 hk2
  go_wp2_with fail
  go_ret
  exact ⟨by rw [hq.out]; rfl, by rw [hq.out]; exact HR2.out, HO2.out⟩
set_option maxHeartbeats 1000000 in
theorem getval_any {w : World} {g : Nat} {l : List Nat} {e : Int} (hl : l.length ≤ 1000000000000) (h : Rd w g l e) :
    Calls Tryd.prog 61 #[.pointer (some ⟨g, 0, none⟩)] w fun en w' => en = .returned (.string (strOf (Fm.str 2 512 l e).1)) ∧ Rd w' g (Fm.str 2 512 l e).2.1 (Fm.str 2 512 l e).2.2 ∧ Only g w w' := by
  have hs := ((Fm.good_count 2 2 512 rfl (by omega) (by omega)).suf l e).length_le
  have C := Lib.hid (getcount_any 2 512 2 rfl (by omega) (by omega) (by omega) h)
  have hc := Fm.count_lt (k := 2) l e 512 2
  obtain ⟨p, hp⟩ : ∃ p, Hid (Fm.count 2 512 l e = p) := ⟨_, rfl⟩
  obtain ⟨n, l1, e1⟩ := p
  rw [hp.out] at C hs hc
  simp only at C hs hc
  have HS : Hid (Fm.str 2 512 l e = Bm.take l1 e1 (n : Int)) := Lib.hid (by unfold Fm.str; rw [hp.out])
  rw [HS.out]
  clear h
  go_enter Tryd.func61, Tryd.ntmps61
  go_wp2_with fail
  refine (C.out).mono ?_
  rintro e w1 ⟨rfl, hr1, ho1⟩
  have HO1 := Lib.hid ho1
  have T := Lib.hid (rtake_any (n : Int) (by omega) (by omega) (by omega) hr1)
  clear ho1 hr1
  obtain ⟨q, hq⟩ : ∃ q, Hid (Bm.take l1 e1 (n : Int) = q) := ⟨_, rfl⟩
  rw [hq.out] at T
  go_wp2_with fail
  refine (T.out).mono ?_
  rintro e w2 ⟨v2, rfl, ho2, hr2, hk2⟩
  have hcv : (convert 33 9 v2).run Tryd.prog w2 = .ok (.string (strOf q.1)) w2 := conv_own Tryd.underlying33 Tryd.underlying5 Tryd.underlying9 ho2
  have HR2 := Lib.hid hr2
  have HO2 := Lib.hid (HO1.out.trans hk2)
  clear ho2 hr2 hk2
  go_wp2_with fail
  go_ret
  exact ⟨by rw [hq.out]; rfl, by rw [hq.out]; exact HR2.out, HO2.out⟩

/-- what a loop has read: the elements in a row of the call's own, the reader behind them -/
structure Got {α : Type} (f : α → Value × Value) (E : TypeId) (g : Nat) (w : World) (r : List α × List Nat × Int) (v : Value) (wr : World) : Prop where
  own : wr.ownsRow w.heap.size E 2 v r.1.length (two f r.1)
  rd : Rd wr g r.2.1 r.2.2
  only : Only g w wr
  lt : g < w.heap.size
theorem Got.next {α : Type} {f : α → Value × Value} {E : TypeId} {g : Nat} {w w0 w1 w2 : World} {p : List Nat → Int → α × List Nat × Int} {j : Nat} {l : List Nat} {e : Int} {v v' : Value} {o : Obj} (H : Got f E g w (Fm.many p j l e) v w0)
    (hr : Rd w1 g (p (Fm.many p j l e).2.1 (Fm.many p j l e).2.2).2.1 (p (Fm.many p j l e).2.1 (Fm.many p j l e).2.2).2.2) (hk : Only g w w1)
    (ho : w2.ownsRow w.heap.size E 2 v' ((Fm.many p j l e).1.length + 1) (two f (Fm.many p j l e).1 ++ two f [(p (Fm.many p j l e).2.1 (Fm.many p j l e).2.2).1])) (hg : (w1.alloc o).grownBy w2 v.ownBlock) : Got f E g w (Fm.many p (j + 1) l e) v' w2 := by
  have hrow : ∀ k, v.ownBlock = some k → w.heap.size ≤ k := own_lt H.own
  refine ⟨?_, hr.grown hg (fun k hk' => by have := hrow k hk'; have := H.lt; omega), hk.grown hg hrow, H.lt⟩
  show w2.ownsRow w.heap.size E 2 v' ((Fm.many p j l e).1 ++ [(p (Fm.many p j l e).2.1 (Fm.many p j l e).2.2).1]).length (two f ((Fm.many p j l e).1 ++ [(p (Fm.many p j l e).2.1 (Fm.many p j l e).2.2).1]))
  rw [two_append, List.length_append]
  exact ho
theorem own2_only {w w' : World} {g base n sz : Nat} {t : TypeId} {v : Value} {xs : List Value} (ho : w.ownsRow base t sz v n xs) (k : Only g w w') (hg : g < base) : w'.ownsRow base t sz v n xs := by
  obtain ⟨h1, h2⟩ := ho
  refine ⟨h1, ?_⟩
  rcases h2 with h2 | ⟨b, cap, cur, hv, hb, hh, r⟩
  · exact .inl h2
  · have hlt : b < w.heap.size := (Array.getElem?_eq_some_iff.1 hh).1
    exact .inr ⟨b, cap, cur, hv, hb, by rw [k.block b hlt (by omega)]; exact hh, r⟩

set_option maxHeartbeats 1000000 in
theorem getpeers_any {w : World} {g : Nat} {l : List Nat} {e : Int} (h : Rd w g l e) :
    Calls Tryd.prog 58 #[.pointer (some ⟨g, 0, none⟩)] w fun en w' => ∃ v, en = .returned v ∧ Got fPeer 26 g w (Fm.peers l e) v w' := by
  have C := Lib.hid (getcount_any 1 16 1 rfl (by omega) (by omega) (by omega) h)
  have hc := Fm.count_lt (k := 1) l e 16 1
  have hgl := h.lt
  obtain ⟨p, hp⟩ : ∃ p, Hid (Fm.count 1 16 l e = p) := ⟨_, rfl⟩
  obtain ⟨n, l1, e1⟩ := p
  rw [hp.out] at C hc
  simp only at C hc
  have HS : Hid (Fm.peers l e = Fm.many Fm.peer n l1 e1) := Lib.hid (by unfold Fm.peers; rw [hp.out])
  rw [HS.out]
  clear h
  go_enter Tryd.func58, Tryd.ntmps58
  go_wp2_with fail
  refine (C.out).mono ?_
  rintro e w1 ⟨rfl, hr1, ho1⟩
  have HG : Hid (Got fPeer 26 g w (Fm.many Fm.peer 0 l1 e1) (.slice none 0 0) w1) := Lib.hid ⟨World.ownsRow_nil _ _ _ _, hr1, ho1, hgl⟩
  clear hr1 ho1
  go_wp2_with fail
  go_loopw [3, 6] (fun vb vi wr => ∃ (j : Nat), j ≤ n ∧ vi = .int .i64 j ∧ Hid (Got fPeer 26 g w (Fm.many Fm.peer j l1 e1) vb wr)) (fun _ vi _ => n - (intOf vi).toNat)
  case atStart => exact ⟨0, by omega, rfl, HG⟩
  case round =>
    obtain ⟨j, hj, rfl, HR⟩ := hrel
    by_cases hlt : j < n
    · have P := Lib.hid (getpeer_any HR.out.rd)
      have HL := Fm.many_length Fm.peer j l1 e1
      have hown := HR.out.own
      rw [HL] at hown
      have HO := Lib.hid hown
      have hsz := HR.out.only.size
      clear hown
      go_wp2_with fail
      refine (P.out).mono ?_
      rintro e w2 ⟨rfl, hr2, ho2⟩
      have HR2 := Lib.hid hr2
      have HK2 := Lib.hid (HR.out.only.trans ho2)
      have HO2 := Lib.hid (own2_only HO.out ho2 hgl)
      have hz2 := HK2.out.size
      clear hr2 ho2
      obtain ⟨q, hq⟩ : ∃ q : Nat × Nat, Hid ((Fm.peer (Fm.many Fm.peer j l1 e1).2.1 (Fm.many Fm.peer j l1 e1).2.2).1 = q) := ⟨_, rfl⟩
      rw [hq.out]
      go_wp2_with (at_builtin; refine wpList_append_elem2 peerT2 fPeer_one _ _ rfl rfl w.heap.size _ j _ q rfl rfl rfl HO2.out (by omega) hz2 ?_; intro v3 w3 ho3 hg3)
      have HN : Hid (Got fPeer 26 g w (Fm.many Fm.peer (j + 1) l1 e1) v3 w3) := Lib.hid (HR.out.next HR2.out HK2.out (by rw [HL, hq.out]; exact ho3) hg3)
      clear ho3 hg3
      go_roundw
      case rel => exact ⟨j + 1, by omega, by go_num, HN⟩
      case measure => simp [intOf]; omega
    · have hjn : j = n := by omega
      subst hjn
      go_wp2_with fail
      go_ret
      exact ⟨_, rfl, HR.out⟩
set_option maxHeartbeats 1000000 in
theorem getpairs_any {w : World} {g : Nat} {l : List Nat} {e : Int} (hl : l.length ≤ 1000000000000) (h : Rd w g l e) :
    Calls Tryd.prog 62 #[.pointer (some ⟨g, 0, none⟩)] w fun en w' => ∃ v, en = .returned v ∧ Got fPair 43 g w (Fm.pairs l e) v w' := by
  have C := Lib.hid (getcount_any 1 8 1 rfl (by omega) (by omega) (by omega) h)
  have hc := Fm.count_lt (k := 1) l e 8 1
  have hs := ((Fm.good_count 1 1 8 rfl (by omega) (by omega)).suf l e).length_le
  have hgl := h.lt
  obtain ⟨p, hp⟩ : ∃ p, Hid (Fm.count 1 8 l e = p) := ⟨_, rfl⟩
  obtain ⟨n, l1, e1⟩ := p
  rw [hp.out] at C hc hs
  simp only at C hc hs
  have HS : Hid (Fm.pairs l e = Fm.many Fm.pair n l1 e1) := Lib.hid (by unfold Fm.pairs; rw [hp.out])
  have HSuf := Lib.hid (fun j => ((Fm.good_many Fm.good_pair j).suf l1 e1).length_le)
  rw [HS.out]
  clear h
  go_enter Tryd.func62, Tryd.ntmps62
  go_wp2_with fail
  refine (C.out).mono ?_
  rintro e w1 ⟨rfl, hr1, ho1⟩
  have HG : Hid (Got fPair 43 g w (Fm.many Fm.pair 0 l1 e1) (.slice none 0 0) w1) := Lib.hid ⟨World.ownsRow_nil _ _ _ _, hr1, ho1, hgl⟩
  clear hr1 ho1
  go_wp2_with fail
  go_loopw [3, 7] (fun vb vi wr => ∃ (j : Nat), j ≤ n ∧ vi = .int .i64 j ∧ Hid (Got fPair 43 g w (Fm.many Fm.pair j l1 e1) vb wr)) (fun _ vi _ => n - (intOf vi).toNat)
  case atStart => exact ⟨0, by omega, rfl, HG⟩
  case round =>
    obtain ⟨j, hj, rfl, HR⟩ := hrel
    by_cases hlt : j < n
    · have hsj := HSuf.out j
      have P := Lib.hid (getkey_any (by omega) HR.out.rd)
      have HL := Fm.many_length Fm.pair j l1 e1
      have hown := HR.out.own
      rw [HL] at hown
      have HO := Lib.hid hown
      have hsz := HR.out.only.size
      have hs1 := ((Fm.good_str 1 1 96 rfl (by omega) (by omega) (by omega)).suf (Fm.many Fm.pair j l1 e1).2.1 (Fm.many Fm.pair j l1 e1).2.2).length_le
      simp only at hs1
      clear hown
      go_wp2_with fail
      refine (P.out).mono ?_
      rintro e w2 ⟨rfl, hr2, ho2⟩
      have P2 := Lib.hid (getval_any (by omega) hr2)
      have HK2 := Lib.hid (HR.out.only.trans ho2)
      have HO2 := Lib.hid (own2_only HO.out ho2 hgl)
      clear hr2 ho2
      go_wp2_with fail
      refine (P2.out).mono ?_
      rintro e w3 ⟨rfl, hr3, ho3⟩
      have HR3 := Lib.hid hr3
      have HK3 := Lib.hid (HK2.out.trans ho3)
      have HO3 := Lib.hid (own2_only HO2.out ho3 hgl)
      have hz3 := HK3.out.size
      clear hr3 ho3
      obtain ⟨q, hq⟩ : ∃ q : ByteArray × ByteArray, Hid ((Fm.pair (Fm.many Fm.pair j l1 e1).2.1 (Fm.many Fm.pair j l1 e1).2.2).1 = q) := ⟨_, rfl⟩
      have hq1 : strOf (Fm.str 1 96 (Fm.many Fm.pair j l1 e1).2.1 (Fm.many Fm.pair j l1 e1).2.2).1 = q.1 := by rw [← hq.out]; rfl
      have hq2 : strOf (Fm.str 2 512 (Fm.str 1 96 (Fm.many Fm.pair j l1 e1).2.1 (Fm.many Fm.pair j l1 e1).2.2).2.1 (Fm.str 1 96 (Fm.many Fm.pair j l1 e1).2.1 (Fm.many Fm.pair j l1 e1).2.2).2.2).1 = q.2 := by rw [← hq.out]; rfl
      rw [hq1, hq2]
      go_wp2_with (at_builtin; refine wpList_append_elem2 pairT2 fPair_one _ _ rfl rfl w.heap.size _ j _ q rfl rfl rfl HO3.out (by omega) hz3 ?_; intro v4 w4 ho4 hg4)
      have HN : Hid (Got fPair 43 g w (Fm.many Fm.pair (j + 1) l1 e1) v4 w4) := Lib.hid (HR.out.next HR3.out HK3.out (by rw [HL, hq.out]; exact ho4) hg4)
      clear ho4 hg4
      go_roundw
      case rel => exact ⟨j + 1, by omega, by go_num, HN⟩
      case measure => simp [intOf]; omega
    · have hjn : j = n := by omega
      subst hjn
      go_wp2_with fail
      go_ret
      exact ⟨_, rfl, HR.out⟩
end Go.Proofs.YtpfeccbnkgnioaaDoor
/- A message that is being read, field by field, beside a reader. -/
namespace Go.Proofs.YtpfeccbnkgnioaaDoor
open Go.RowKit
set_option linter.unusedVariables false
set_option maxRecDepth 100000
open Gm

/-- block g holds the message; its lists are rows of the call's own, in blocks above g -/
structure Mb (w : World) (g : Nat) (m : Ms) : Prop where
  ex : ∃ Ap cp Aq cq, Bx w g m (.slice Ap m.peers.length cp) (.slice Aq m.pairs.length cq) ∧ w.ownsRow (g + 1) 26 2 (.slice Ap m.peers.length cp) m.peers.length (two fPeer m.peers) ∧ w.ownsRow (g + 1) 43 2 (.slice Aq m.pairs.length cq) m.pairs.length (two fPair m.pairs)
section
variable {w w' w0 w1 : World} {g r n c : Nat} {m : Ms} {A : Option Addr}
theorem Mb.lt (h : Mb w g m) : g < w.heap.size := by obtain ⟨_, _, _, _, h, _⟩ := h.ex; exact Whole.lt h
theorem Mb.only (h : Mb w g m) (k : Only r w w') (hr : r < g) : Mb w' g m := by
  obtain ⟨a, b, c, d, h1, h2, h3⟩ := h.ex
  exact ⟨a, b, c, d, Whole.only h1 k (by omega), own2_only h2 k (by omega), own2_only h3 k (by omega)⟩
theorem Mb.below (h : Mb w g m) (k : Below w.heap.size w w') : Mb w' g m := by
  obtain ⟨a, b, c, d, h1, h2, h3⟩ := h.ex
  exact ⟨a, b, c, d, h1.below k (Whole.lt h1), own2_below h2 k, own2_below h3 k⟩
theorem Mb.mv (h : Mb w g m) (ok : Ok m) : ∃ vp vq, Bx w g m vp vq ∧ Mv w w.heap.size m (.agg #[.int .i64 m.kind, .int .u32 (m.rid : Int), .int .u8 (m.code : Int), .bool m.has, .int .u64 (m.id : Int), .string m.key, .string m.val, .int .u64 (m.pid : Int), .int .u16 (m.pad : Int), vp, vq]) ∧ vp.oneCell' = true ∧ vq.oneCell' = true := by
  obtain ⟨a, b, c, d, h1, h2, h3⟩ := h.ex
  exact ⟨_, _, h1, ⟨⟨_, _, rfl, Sl.of_own h2, Sl.of_own h3⟩, ok⟩, rfl, rfl⟩
theorem Mb.cells (h : Mb w g m) : w.cell? ⟨g, 0, none⟩ = some (.int .i64 m.kind) ∧ w.cell? ⟨g, 1, none⟩ = some (.int .u32 (m.rid : Int)) ∧ w.cell? ⟨g, 2, none⟩ = some (.int .u8 (m.code : Int)) ∧ w.cell? ⟨g, 3, none⟩ = some (.bool m.has) ∧
    w.cell? ⟨g, 4, none⟩ = some (.int .u64 (m.id : Int)) ∧ w.cell? ⟨g, 5, none⟩ = some (.string m.key) ∧ w.cell? ⟨g, 6, none⟩ = some (.string m.val) ∧ w.cell? ⟨g, 7, none⟩ = some (.int .u64 (m.pid : Int)) ∧ w.cell? ⟨g, 8, none⟩ = some (.int .u16 (m.pad : Int)) := by
  obtain ⟨a, b, c, d, h1, h2, h3⟩ := h.ex
  exact ⟨h1.at_ 0, h1.at_ 1, h1.at_ 2, h1.at_ 3, h1.at_ 4, h1.at_ 5, h1.at_ 6, h1.at_ 7, h1.at_ 8⟩
theorem Mb.free (h : Mb w g m) (i : Nat) : w.frozen? ⟨g, i, none⟩ = false := by obtain ⟨a, b, c, d, h1, _⟩ := h.ex; exact h1.free i
theorem Mb.peersC (h : Mb w g m) : ∃ A c, w.cell? ⟨g, 9, none⟩ = some (.slice A m.peers.length c) ∧ w.ownsRow (g + 1) 26 2 (.slice A m.peers.length c) m.peers.length (two fPeer m.peers) := by
  obtain ⟨a, b, c, d, h1, h2, h3⟩ := h.ex
  exact ⟨a, b, h1.at_ 9, h2⟩
theorem Mb.pairsC (h : Mb w g m) : ∃ A c, w.cell? ⟨g, 10, none⟩ = some (.slice A m.pairs.length c) ∧ w.ownsRow (g + 1) 43 2 (.slice A m.pairs.length c) m.pairs.length (two fPair m.pairs) := by
  obtain ⟨a, b, c, d, h1, h2, h3⟩ := h.ex
  exact ⟨c, d, h1.at_ 10, h3⟩
theorem own_far {base sz k : Nat} {t : TypeId} {v : Value} {xs : List Value} (h : w.ownsRow base t sz v k xs) {i : Nat} (hg : g < base) (u : Value) : (w.setCell ⟨g, i, none⟩ u).ownsRow base t sz v k xs := ownsRow_setCell_below h (a := ⟨g, i, none⟩) (by show g < base; omega) u
theorem Mb.setRid (h : Mb w g m) (x : Nat) : Mb (w.setCell ⟨g, 1, none⟩ (.int .u32 (x : Int))) g { m with rid := x } := by
  obtain ⟨a, b, c, d, h1, h2, h3⟩ := h.ex
  exact ⟨a, b, c, d, h1.put 1 _, own_far h2 (by omega) _, own_far h3 (by omega) _⟩
theorem Mb.setCode (h : Mb w g m) (x : Nat) : Mb (w.setCell ⟨g, 2, none⟩ (.int .u8 (x : Int))) g { m with code := x } := by
  obtain ⟨a, b, c, d, h1, h2, h3⟩ := h.ex
  exact ⟨a, b, c, d, h1.put 2 _, own_far h2 (by omega) _, own_far h3 (by omega) _⟩
theorem Mb.setHas (h : Mb w g m) (x : Bool) : Mb (w.setCell ⟨g, 3, none⟩ (.bool x)) g { m with has := x } := by
  obtain ⟨a, b, c, d, h1, h2, h3⟩ := h.ex
  exact ⟨a, b, c, d, h1.put 3 _, own_far h2 (by omega) _, own_far h3 (by omega) _⟩
theorem Mb.setId (h : Mb w g m) (x : Nat) : Mb (w.setCell ⟨g, 4, none⟩ (.int .u64 (x : Int))) g { m with id := x } := by
  obtain ⟨a, b, c, d, h1, h2, h3⟩ := h.ex
  exact ⟨a, b, c, d, h1.put 4 _, own_far h2 (by omega) _, own_far h3 (by omega) _⟩
theorem Mb.setKey (h : Mb w g m) (x : ByteArray) : Mb (w.setCell ⟨g, 5, none⟩ (.string x)) g { m with key := x } := by
  obtain ⟨a, b, c, d, h1, h2, h3⟩ := h.ex
  exact ⟨a, b, c, d, h1.put 5 _, own_far h2 (by omega) _, own_far h3 (by omega) _⟩
theorem Mb.setVal (h : Mb w g m) (x : ByteArray) : Mb (w.setCell ⟨g, 6, none⟩ (.string x)) g { m with val := x } := by
  obtain ⟨a, b, c, d, h1, h2, h3⟩ := h.ex
  exact ⟨a, b, c, d, h1.put 6 _, own_far h2 (by omega) _, own_far h3 (by omega) _⟩
theorem Mb.setPid (h : Mb w g m) (x : Nat) : Mb (w.setCell ⟨g, 7, none⟩ (.int .u64 (x : Int))) g { m with pid := x } := by
  obtain ⟨a, b, c, d, h1, h2, h3⟩ := h.ex
  exact ⟨a, b, c, d, h1.put 7 _, own_far h2 (by omega) _, own_far h3 (by omega) _⟩
theorem Mb.setPad (h : Mb w g m) (x : Nat) : Mb (w.setCell ⟨g, 8, none⟩ (.int .u16 (x : Int))) g { m with pad := x } := by
  obtain ⟨a, b, c, d, h1, h2, h3⟩ := h.ex
  exact ⟨a, b, c, d, h1.put 8 _, own_far h2 (by omega) _, own_far h3 (by omega) _⟩
theorem Mb.setPeers (h : Mb w g m) (ps : List (Nat × Nat)) (ho : w.ownsRow (g + 1) 26 2 (.slice A n c) ps.length (two fPeer ps)) : Mb (w.setCell ⟨g, 9, none⟩ (.slice A n c)) g { m with peers := ps } := by
  obtain ⟨a, b, c', d, h1, h2, h3⟩ := h.ex
  have hn : n = ps.length := by
    obtain ⟨A2, c2, e⟩ := own_shape ho
    injection e
  subst hn
  exact ⟨A, c, c', d, h1.put 9 _, own_far ho (by omega) _, own_far h3 (by omega) _⟩
theorem Mb.setPairs (h : Mb w g m) (ps : List (ByteArray × ByteArray)) (ho : w.ownsRow (g + 1) 43 2 (.slice A n c) ps.length (two fPair ps)) : Mb (w.setCell ⟨g, 10, none⟩ (.slice A n c)) g { m with pairs := ps } := by
  obtain ⟨a, b, c', d, h1, h2, h3⟩ := h.ex
  have hn : n = ps.length := by
    obtain ⟨A2, c2, e⟩ := own_shape ho
    injection e
  subst hn
  exact ⟨a, b, A, c, h1.put 10 _, own_far h2 (by omega) _, own_far ho (by omega) _⟩

/-- a reader in block r, whose state R tells, beside a message in block g -/
structure Sg (R : World → List Nat → Int → Prop) (w0 : World) (r g : Nat) (m : Ms) (l : List Nat) (e : Int) (w : World) : Prop where
  rd : R w l e
  mb : Mb w g m
  but : But2 r g w0 w
  lt : r < g
  new : ∀ w w' l e, R w l e → Only g w w' → R w' l e
variable {R : World → List Nat → Int → Prop} {l l1 : List Nat} {e e1 : Int}
theorem Sg.read (h : Sg R w0 r g m l e w) (hr : R w1 l1 e1) (ho : Only r w w1) : Sg R w0 r g m l1 e1 w1 :=
  ⟨hr, h.mb.only ho h.lt, h.but.trans (ho.left g), h.lt, h.new⟩
theorem Sg.put (h : Sg R w0 r g m l e w) {m' : Ms} {i : Nat} {u : Value} (hm : Mb (w.setCell ⟨g, i, none⟩ u) g m') : Sg R w0 r g m' l e (w.setCell ⟨g, i, none⟩ u) :=
  ⟨h.new _ _ _ _ h.rd ((Only.refl g w).setCell i u), hm, h.but.trans (((Only.refl g w).setCell i u).right r), h.lt, h.new⟩
end
theorem results_cell_row2 {P : Program} {fn : Func} {p u : Tmp} {ty : TypeId} {x : Value} {tmps : Array Value} {w : World} {g : Nat} {t : TypeId} {cs : Array Value} {d : TypeDesc} (h : fn.results = #[.cell p ty, .tmp u])
    (hp : tmps.getD p undef = .pointer (some ⟨g, 0, none⟩)) (hx : tmps.getD u undef = x) (hg : w.heap[g]? = some (.cells cs t (0, 0)))
    (hu : P.underlying ty = some d) (hd : (match d with | .struct _ | .array _ _ => true | _ => false) = true) (hi : (P.info? ty).map (·.size) = some cs.size) :
    (results fn tmps).run P w = .ok (.tuple #[.agg cs, x]) w := by
  subst hx
  have hp' : tmps[p]?.getD undef = .pointer (some ⟨g, 0, none⟩) := by simpa using hp
  simp [results, h, hp', asAddr, run_loadVar_row w g t ty cs (0, 0) d hg hu hd hi]
theorem Tab.only {w w' : World} {g : Nat} (h : Tab w) (k : Only g w w') (hg : 0 < g) : Tab w' :=
  h.below (Only.below k (B := 0 + 1) (by omega) (by have := h.lt; omega)) (by omega)
/-- the message of a kind alone -/
theorem right_nine {m : Ms} : right m = 9 ↔ known m.kind = false := by
  constructor
  · intro h
    cases hk : known m.kind
    · rfl
    · unfold right at h
      rw [hk] at h
      revert h
      generalize same m (bare m) = a
      generalize badKey m = b
      generalize isLong m = c
      generalize isShort m = d
      revert a b c d
      decide
  · intro h; unfold right; rw [h]; rfl
end Go.Proofs.YtpfeccbnkgnioaaDoor
/- Contracts of fixed.getKind, fixed.getOwn, fixed.Dec. -/
namespace Go.Proofs.YtpfeccbnkgnioaaDoor
open Go.RowKit
set_option linter.unusedVariables false
set_option maxRecDepth 100000
open Gm

theorem mv_bald (w : World) (B k : Nat) (hk : k < 256) : Mv w B (Fm.bald k 0) (.agg #[.int .i64 (k : Int), .int .u32 0, .int .u8 0, .bool false, .int .u64 0, .string ⟨#[]⟩, .string ⟨#[]⟩, .int .u64 0, .int .u16 0, .slice none 0 0, .slice none 0 0]) :=
  ⟨⟨_, _, rfl, Sl.empty _ _, Sl.empty _ _⟩, ⟨by simp [Fm.bald]; omega, by simp [Fm.bald], by simp [Fm.bald], by simp [Fm.bald], by simp [Fm.bald, ByteArray.size], by simp [Fm.bald, ByteArray.size], by simp [Fm.bald], by simp [Fm.bald], fun p hp => (by cases hp), fun p hp => (by cases hp)⟩⟩

set_option maxHeartbeats 1000000 in
theorem getkind_any {w : World} {g : Nat} {l : List Nat} (h : Rd w g l 0) (T : Tab w) (hg : 0 < g) :
    Calls Tryd.prog 19 #[.pointer (some ⟨g, 0, none⟩)] w fun en w' => en = .returned (.int .i64 ((Bm.rfix l 0 1).1 : Int)) ∧ Rd w' g (Bm.rfix l 0 1).2.1 (Fm.kindE l) ∧ Only g w w' := by
  have C := Lib.hid (rfix_any 1 (by omega) (by omega) h)
  have hn : (Bm.rfix l 0 1).1 < 256 := Fm.rfix_nat (show Fm.Bytes l from h.byte) 0 1 1 rfl
  have HE : Hid (Fm.kindE l = if known ((Bm.rfix l 0 1).1 : Int) = true then (Bm.rfix l 0 1).2.2 else Bm.fail (Bm.rfix l 0 1).2.2 9) := rfl
  obtain ⟨p, hp⟩ : ∃ p, Hid (Bm.rfix l 0 1 = p) := ⟨_, rfl⟩
  obtain ⟨n, l1, e1⟩ := p
  rw [hp.out] at C hn HE ⊢
  simp only at C hn HE ⊢
  obtain ⟨ke, hke⟩ : ∃ ke, Hid (Fm.kindE l = ke) := ⟨_, rfl⟩
  rw [hke.out] at HE ⊢
  have HT := Lib.hid T
  have H9 : Hid (right (Fm.bald n 0) = 9 ↔ known (n : Int) = false) := Lib.hid (right_nine (m := Fm.bald n 0))
  obtain ⟨rr, hrr⟩ : ∃ rr, Hid (right (Fm.bald n 0) = rr) := ⟨_, rfl⟩
  rw [hrr.out] at H9
  clear h T
  cases hkn : known (n : Int)
  case false =>
    have E : ke = Bm.fail e1 9 := by rw [HE.out, if_neg (by rw [hkn]; simp)]
    have R : rr = 9 := H9.out.2 hkn
    subst E R
    clear HE H9 hkn
    go_enter Tryd.func19, Tryd.ntmps19
    go_wp2_with fail
    refine (C.out).mono ?_
    rintro e w1 ⟨rfl, hr1, ho1⟩
    have HR := Lib.hid (right_any (mv_bald w1 w1.heap.size n hn) (HT.out.only ho1 hg))
    rw [hrr.out] at HR
    have HR1 := Lib.hid hr1
    have HO1 := Lib.hid ho1
    clear hr1 ho1
    go_wp2_with fail
    refine (HR.out).mono ?_
    rintro e w2 ⟨rfl, hb2⟩
    have HO2 := Lib.hid (HO1.out.trans (Only.of_below hb2))
    have F := Lib.hid (rfail_any 9 (HR1.out.below hb2 HR1.out.lt))
    clear hb2
    go_wp2_with fail
    refine (F.out).mono ?_
    rintro e w3 ⟨rfl, hr3, ho3⟩
    have HR3 := Lib.hid hr3
    have HO3 := Lib.hid (HO2.out.trans ho3)
    clear hr3 ho3
    go_wp2_with fail
    go_ret
    exact ⟨rfl, HR3.out, HO3.out⟩
  case true =>
    have E : ke = e1 := by rw [HE.out, if_pos hkn]
    have R : ¬ (rr : Int) = 9 := fun h => by have := H9.out.1 (by omega); rw [hkn] at this; cases this
    subst E
    clear HE H9 hkn
    go_enter Tryd.func19, Tryd.ntmps19
    go_wp2_with fail
    refine (C.out).mono ?_
    rintro e w1 ⟨rfl, hr1, ho1⟩
    have HR := Lib.hid (right_any (mv_bald w1 w1.heap.size n hn) (HT.out.only ho1 hg))
    rw [hrr.out] at HR
    have HR1 := Lib.hid hr1
    have HO1 := Lib.hid ho1
    clear hr1 ho1
    go_wp2_with fail
    refine (HR.out).mono ?_
    rintro e w2 ⟨rfl, hb2⟩
    have HO2 := Lib.hid (HO1.out.trans (Only.of_below hb2))
    have HR2 := Lib.hid (HR1.out.below hb2 HR1.out.lt)
    clear hb2
    go_wp2_with fail
    go_ret
    exact ⟨rfl, HR2.out, HO2.out⟩

/-- what getOwn leaves -/
def OwnPost (R : World → List Nat → Int → Prop) (w0 : World) (r g k rid : Nat) (l : List Nat) (e : Int) (en : Ending) (w' : World) : Prop :=
  en = .returned (.tuple #[]) ∧ Sg R w0 r g (Fm.own k rid l e).1 (Fm.own k rid l e).2.1 (Fm.own k rid l e).2.2 w'

set_option maxHeartbeats 1000000 in
theorem getown_1 {w w0 : World} {r g rid : Nat} {l : List Nat} {e : Int} (hl : l.length ≤ 1000000000000) (H : Sg (fun w l e => Rd w r l e) w0 r g (Fm.bald 1 rid) l e w) :
    Calls Tryd.prog 21 #[.pointer (some ⟨r, 0, none⟩), .pointer (some ⟨g, 0, none⟩)] w (OwnPost (fun w l e => Rd w r l e) w0 r g 1 rid l e) := by
  have HS := Lib.hid H
  have c0 : w.cell? ⟨g, 0, none⟩ = some (.int .i64 1) := H.mb.cells.1
  have HOWN : Hid (Fm.own 1 rid l e = ({ Fm.bald 1 rid with id := (Bm.rfix l e 8).1 }, (Bm.rfix l e 8).2)) := Lib.hid (by unfold Fm.own; rw [if_pos rfl])
  unfold OwnPost
  have hlk := ((Fm.good_str 1 1 96 rfl (by omega) (by omega) (by omega)).suf l e).length_le
  have hlf := (Fm.flag_suf l e).length_le
  simp only at hlk
  clear H
  go_enter Tryd.func21, Tryd.ntmps21
  have C1 := Lib.hid (rfix_any 8 (by omega) (by omega) HS.out.rd)
  have B1 : (Bm.rfix l e 8).1 < 18446744073709551616 := Fm.rfix_nat (show Fm.Bytes l from HS.out.rd.byte) e 8 8 rfl
  go_wp2_with fail
  refine (C1.out).mono ?_
  rintro en w1a ⟨rfl, hr1, ho1⟩
  have S1 := HS.out.read hr1 ho1
  obtain ⟨x1, hx1⟩ : ∃ x, Hid ((Bm.rfix l e 8).1 = x) := ⟨_, rfl⟩
  rw [hx1.out] at B1 ⊢
  have z1_0 := S1.mb.cells.2.2.2.2.1
  have f1_0 := S1.mb.free 4
  have T1_0 := S1.put (S1.mb.setId x1)
  obtain ⟨w1b, hw1_0⟩ : ∃ W, w1a.setCell ⟨g, 4, none⟩ (.int .u64 (x1 : Int)) = W := ⟨_, rfl⟩
  rw [hw1_0] at T1_0
  have HT1 := Lib.hid T1_0
  clear hr1 ho1 S1 T1_0
  go_wp2_with fail
  go_end0
  refine ⟨rfl, ?_⟩
  have hh := HT1.out
  rw [HOWN.out]
  rw [← hx1.out] at hh
  exact hh

set_option maxHeartbeats 1000000 in
theorem getown_2 {w w0 : World} {r g rid : Nat} {l : List Nat} {e : Int} (hl : l.length ≤ 1000000000000) (H : Sg (fun w l e => Rd w r l e) w0 r g (Fm.bald 2 rid) l e w) :
    Calls Tryd.prog 21 #[.pointer (some ⟨r, 0, none⟩), .pointer (some ⟨g, 0, none⟩)] w (OwnPost (fun w l e => Rd w r l e) w0 r g 2 rid l e) := by
  have HS := Lib.hid H
  have c0 : w.cell? ⟨g, 0, none⟩ = some (.int .i64 2) := H.mb.cells.1
  have HOWN : Hid (Fm.own 2 rid l e = ({ Fm.bald 2 rid with has := (Bm.flag l e).1, peers := (Fm.peers (Bm.flag l e).2.1 (Bm.flag l e).2.2).1 }, (Fm.peers (Bm.flag l e).2.1 (Bm.flag l e).2.2).2)) := Lib.hid (by unfold Fm.own; rw [if_neg (by omega), if_pos rfl])
  unfold OwnPost
  have hlk := ((Fm.good_str 1 1 96 rfl (by omega) (by omega) (by omega)).suf l e).length_le
  have hlf := (Fm.flag_suf l e).length_le
  simp only at hlk
  clear H
  go_enter Tryd.func21, Tryd.ntmps21
  have C1 := Lib.hid (rflag_any HS.out.rd)
  go_wp2_with fail
  refine (C1.out).mono ?_
  rintro en w1a ⟨rfl, hr1, ho1⟩
  have S1 := HS.out.read hr1 ho1
  obtain ⟨x1, hx1⟩ : ∃ x, Hid ((Bm.flag l e).1 = x) := ⟨_, rfl⟩
  rw [hx1.out]
  have z1_0 := S1.mb.cells.2.2.2.1
  have f1_0 := S1.mb.free 3
  have T1_0 := S1.put (S1.mb.setHas x1)
  obtain ⟨w1b, hw1_0⟩ : ∃ W, w1a.setCell ⟨g, 3, none⟩ (.bool x1) = W := ⟨_, rfl⟩
  rw [hw1_0] at T1_0
  have HT1 := Lib.hid T1_0
  clear hr1 ho1 S1 T1_0
  have C2 := Lib.hid (getpeers_any HT1.out.rd)
  go_wp2_with fail
  refine (C2.out).mono ?_
  rintro en w2a ⟨v2, rfl, hg2⟩
  obtain ⟨A2, c2, rfl⟩ := own_shape hg2.own
  have hm2 := own2_lower hg2.own (show g + 1 ≤ w1b.heap.size from HT1.out.mb.lt)
  have S2 := HT1.out.read hg2.rd hg2.only
  have z2 := S2.mb.peersC
  obtain ⟨_, _, z2, _⟩ := z2
  have f2 := S2.mb.free 9
  obtain ⟨q2, hq2⟩ : ∃ q, Hid ((Fm.peers (Bm.flag l e).2.1 (Bm.flag l e).2.2).1 = q) := ⟨_, rfl⟩
  rw [hq2.out] at hm2
  have hl2 : (Fm.peers (Bm.flag l e).2.1 (Bm.flag l e).2.2).1.length = q2.length := by rw [hq2.out]
  rw [hl2]
  have T2 := S2.put (S2.mb.setPeers (n := q2.length) q2 hm2)
  obtain ⟨w2b, hw2⟩ : ∃ W, w2a.setCell ⟨g, 9, none⟩ (.slice A2 q2.length c2) = W := ⟨_, rfl⟩
  rw [hw2] at T2
  have HT2 := Lib.hid T2
  clear hg2 hm2 S2 T2 hl2
  go_wp2_with fail
  go_end0
  refine ⟨rfl, ?_⟩
  have hh := HT2.out
  rw [HOWN.out]
  rw [← hx1.out] at hh
  rw [← hq2.out] at hh
  exact hh

set_option maxHeartbeats 1000000 in
theorem getown_4 {w w0 : World} {r g rid : Nat} {l : List Nat} {e : Int} (hl : l.length ≤ 1000000000000) (H : Sg (fun w l e => Rd w r l e) w0 r g (Fm.bald 4 rid) l e w) :
    Calls Tryd.prog 21 #[.pointer (some ⟨r, 0, none⟩), .pointer (some ⟨g, 0, none⟩)] w (OwnPost (fun w l e => Rd w r l e) w0 r g 4 rid l e) := by
  have HS := Lib.hid H
  have c0 : w.cell? ⟨g, 0, none⟩ = some (.int .i64 4) := H.mb.cells.1
  unfold OwnPost
  have hlf := (Fm.flag_suf l e).length_le
  have HF : Hid ((Bm.flag l e).1 = true → Fm.own 4 rid l e = ({ Fm.bald 4 rid with has := true, pid := (Fm.peer (Bm.flag l e).2.1 (Bm.flag l e).2.2).1.1, pad := (Fm.peer (Bm.flag l e).2.1 (Bm.flag l e).2.2).1.2, peers := (Fm.peers (Fm.peer (Bm.flag l e).2.1 (Bm.flag l e).2.2).2.1 (Fm.peer (Bm.flag l e).2.1 (Bm.flag l e).2.2).2.2).1 }, (Fm.peers (Fm.peer (Bm.flag l e).2.1 (Bm.flag l e).2.2).2.1 (Fm.peer (Bm.flag l e).2.1 (Bm.flag l e).2.2).2.2).2)) := Lib.hid (fun h => by unfold Fm.own; rw [if_neg (by omega), if_neg (by omega), if_pos rfl]; rw [if_pos h])
  have HG : Hid ((Bm.flag l e).1 = false → Fm.own 4 rid l e = ({ Fm.bald 4 rid with peers := (Fm.peers (Bm.flag l e).2.1 (Bm.flag l e).2.2).1 }, (Fm.peers (Bm.flag l e).2.1 (Bm.flag l e).2.2).2)) := Lib.hid (fun h => by unfold Fm.own; rw [if_neg (by omega), if_neg (by omega), if_pos rfl]; rw [if_neg (by rw [h]; simp)])
  clear H
  go_enter Tryd.func21, Tryd.ntmps21
  have C1 := Lib.hid (rflag_any HS.out.rd)
  go_wp2_with fail
  refine (C1.out).mono ?_
  rintro en w1a ⟨rfl, hr1, ho1⟩
  have S1 := HS.out.read hr1 ho1
  obtain ⟨x1, hx1⟩ : ∃ x, Hid ((Bm.flag l e).1 = x) := ⟨_, rfl⟩
  rw [hx1.out]
  have z1_0 := S1.mb.cells.2.2.2.1
  have f1_0 := S1.mb.free 3
  have T1_0 := S1.put (S1.mb.setHas x1)
  obtain ⟨w1b, hw1_0⟩ : ∃ W, w1a.setCell ⟨g, 3, none⟩ (.bool x1) = W := ⟨_, rfl⟩
  rw [hw1_0] at T1_0
  have HT1 := Lib.hid T1_0
  clear hr1 ho1 S1 T1_0


  cases x1
  · have HOWN := Lib.hid (HG.out hx1.out)
    have c3 : w1b.cell? ⟨g, 3, none⟩ = some (.bool false) := HT1.out.mb.cells.2.2.2.1
    have C2 := Lib.hid (getpeers_any HT1.out.rd)
    go_wp2_with fail
    refine (C2.out).mono ?_
    rintro en w2a ⟨v2, rfl, hg2⟩
    obtain ⟨A2, c2, rfl⟩ := own_shape hg2.own
    have hm2 := own2_lower hg2.own (show g + 1 ≤ w1b.heap.size from HT1.out.mb.lt)
    have S2 := HT1.out.read hg2.rd hg2.only
    have z2 := S2.mb.peersC
    obtain ⟨_, _, z2, _⟩ := z2
    have f2 := S2.mb.free 9
    obtain ⟨q2, hq2⟩ : ∃ q, Hid ((Fm.peers (Bm.flag l e).2.1 (Bm.flag l e).2.2).1 = q) := ⟨_, rfl⟩
    rw [hq2.out] at hm2
    have hl2 : (Fm.peers (Bm.flag l e).2.1 (Bm.flag l e).2.2).1.length = q2.length := by rw [hq2.out]
    rw [hl2]
    have T2 := S2.put (S2.mb.setPeers (n := q2.length) q2 hm2)
    obtain ⟨w2b, hw2⟩ : ∃ W, w2a.setCell ⟨g, 9, none⟩ (.slice A2 q2.length c2) = W := ⟨_, rfl⟩
    rw [hw2] at T2
    have HT2 := Lib.hid T2
    clear hg2 hm2 S2 T2 hl2
    go_wp2_with fail
    go_end0
    refine ⟨rfl, ?_⟩
    have hh := HT2.out
    rw [HOWN.out]
    rw [← hq2.out] at hh
    exact hh
  · have HOWN := Lib.hid (HF.out hx1.out)
    have c3 : w1b.cell? ⟨g, 3, none⟩ = some (.bool true) := HT1.out.mb.cells.2.2.2.1
    have C2 := Lib.hid (getpeer_any HT1.out.rd)
    go_wp2_with fail
    refine (C2.out).mono ?_
    rintro en w2a ⟨rfl, hr2, ho2⟩
    have S2 := HT1.out.read hr2 ho2
    obtain ⟨x2, hx2⟩ : ∃ x, Hid ((Fm.peer (Bm.flag l e).2.1 (Bm.flag l e).2.2).1.1 = x) := ⟨_, rfl⟩
    obtain ⟨y2, hy2⟩ : ∃ x, Hid ((Fm.peer (Bm.flag l e).2.1 (Bm.flag l e).2.2).1.2 = x) := ⟨_, rfl⟩
    rw [hx2.out, hy2.out]
    have z2_0 := S2.mb.cells.2.2.2.2.2.2.2.1
    have f2_0 := S2.mb.free 7
    have T2_0 := S2.put (S2.mb.setPid x2)
    obtain ⟨w2m, hw2_0⟩ : ∃ W, w2a.setCell ⟨g, 7, none⟩ (.int .u64 (x2 : Int)) = W := ⟨_, rfl⟩
    rw [hw2_0] at T2_0
    have z2_1 := T2_0.mb.cells.2.2.2.2.2.2.2.2
    have f2_1 := T2_0.mb.free 8
    have T2_1 := T2_0.put (T2_0.mb.setPad y2)
    obtain ⟨w2b, hw2_1⟩ : ∃ W, w2m.setCell ⟨g, 8, none⟩ (.int .u16 (y2 : Int)) = W := ⟨_, rfl⟩
    rw [hw2_1] at T2_1
    have HT2 := Lib.hid T2_1
    clear hr2 ho2 S2 T2_0 T2_1
    have C3 := Lib.hid (getpeers_any HT2.out.rd)
    go_wp2_with fail
    refine (C3.out).mono ?_
    rintro en w3a ⟨v3, rfl, hg3⟩
    obtain ⟨A3, c3, rfl⟩ := own_shape hg3.own
    have hm3 := own2_lower hg3.own (show g + 1 ≤ w2b.heap.size from HT2.out.mb.lt)
    have S3 := HT2.out.read hg3.rd hg3.only
    have z3 := S3.mb.peersC
    obtain ⟨_, _, z3, _⟩ := z3
    have f3 := S3.mb.free 9
    obtain ⟨q3, hq3⟩ : ∃ q, Hid ((Fm.peers (Fm.peer (Bm.flag l e).2.1 (Bm.flag l e).2.2).2.1 (Fm.peer (Bm.flag l e).2.1 (Bm.flag l e).2.2).2.2).1 = q) := ⟨_, rfl⟩
    rw [hq3.out] at hm3
    have hl3 : (Fm.peers (Fm.peer (Bm.flag l e).2.1 (Bm.flag l e).2.2).2.1 (Fm.peer (Bm.flag l e).2.1 (Bm.flag l e).2.2).2.2).1.length = q3.length := by rw [hq3.out]
    rw [hl3]
    have T3 := S3.put (S3.mb.setPeers (n := q3.length) q3 hm3)
    obtain ⟨w3b, hw3⟩ : ∃ W, w3a.setCell ⟨g, 9, none⟩ (.slice A3 q3.length c3) = W := ⟨_, rfl⟩
    rw [hw3] at T3
    have HT3 := Lib.hid T3
    clear hg3 hm3 S3 T3 hl3
    go_wp2_with fail
    go_end0
    refine ⟨rfl, ?_⟩
    have hh := HT3.out
    rw [HOWN.out]
    rw [← hx2.out, ← hy2.out] at hh
    rw [← hq3.out] at hh
    exact hh

set_option maxHeartbeats 1000000 in
theorem getown_5 {w w0 : World} {r g rid : Nat} {l : List Nat} {e : Int} (hl : l.length ≤ 1000000000000) (H : Sg (fun w l e => Rd w r l e) w0 r g (Fm.bald 5 rid) l e w) :
    Calls Tryd.prog 21 #[.pointer (some ⟨r, 0, none⟩), .pointer (some ⟨g, 0, none⟩)] w (OwnPost (fun w l e => Rd w r l e) w0 r g 5 rid l e) := by
  have HS := Lib.hid H
  have c0 : w.cell? ⟨g, 0, none⟩ = some (.int .i64 5) := H.mb.cells.1
  have HOWN : Hid (Fm.own 5 rid l e = ({ Fm.bald 5 rid with pid := (Fm.peer l e).1.1, pad := (Fm.peer l e).1.2 }, (Fm.peer l e).2)) := Lib.hid (by unfold Fm.own; rw [if_neg (by omega), if_neg (by omega), if_neg (by omega), if_pos rfl])
  unfold OwnPost
  have hlk := ((Fm.good_str 1 1 96 rfl (by omega) (by omega) (by omega)).suf l e).length_le
  have hlf := (Fm.flag_suf l e).length_le
  simp only at hlk
  clear H
  go_enter Tryd.func21, Tryd.ntmps21
  have C1 := Lib.hid (getpeer_any HS.out.rd)
  go_wp2_with fail
  refine (C1.out).mono ?_
  rintro en w1a ⟨rfl, hr1, ho1⟩
  have S1 := HS.out.read hr1 ho1
  obtain ⟨x1, hx1⟩ : ∃ x, Hid ((Fm.peer l e).1.1 = x) := ⟨_, rfl⟩
  obtain ⟨y1, hy1⟩ : ∃ x, Hid ((Fm.peer l e).1.2 = x) := ⟨_, rfl⟩
  rw [hx1.out, hy1.out]
  have z1_0 := S1.mb.cells.2.2.2.2.2.2.2.1
  have f1_0 := S1.mb.free 7
  have T1_0 := S1.put (S1.mb.setPid x1)
  obtain ⟨w1m, hw1_0⟩ : ∃ W, w1a.setCell ⟨g, 7, none⟩ (.int .u64 (x1 : Int)) = W := ⟨_, rfl⟩
  rw [hw1_0] at T1_0
  have z1_1 := T1_0.mb.cells.2.2.2.2.2.2.2.2
  have f1_1 := T1_0.mb.free 8
  have T1_1 := T1_0.put (T1_0.mb.setPad y1)
  obtain ⟨w1b, hw1_1⟩ : ∃ W, w1m.setCell ⟨g, 8, none⟩ (.int .u16 (y1 : Int)) = W := ⟨_, rfl⟩
  rw [hw1_1] at T1_1
  have HT1 := Lib.hid T1_1
  clear hr1 ho1 S1 T1_0 T1_1
  go_wp2_with fail
  go_end0
  refine ⟨rfl, ?_⟩
  have hh := HT1.out
  rw [HOWN.out]
  rw [← hx1.out, ← hy1.out] at hh
  exact hh

set_option maxHeartbeats 1000000 in
theorem getown_7 {w w0 : World} {r g rid : Nat} {l : List Nat} {e : Int} (hl : l.length ≤ 1000000000000) (H : Sg (fun w l e => Rd w r l e) w0 r g (Fm.bald 7 rid) l e w) :
    Calls Tryd.prog 21 #[.pointer (some ⟨r, 0, none⟩), .pointer (some ⟨g, 0, none⟩)] w (OwnPost (fun w l e => Rd w r l e) w0 r g 7 rid l e) := by
  have HS := Lib.hid H
  have c0 : w.cell? ⟨g, 0, none⟩ = some (.int .i64 7) := H.mb.cells.1
  have HOWN : Hid (Fm.own 7 rid l e = ({ Fm.bald 7 rid with key := strOf (Fm.str 1 96 l e).1, val := strOf (Fm.str 2 512 (Fm.str 1 96 l e).2.1 (Fm.str 1 96 l e).2.2).1 }, (Fm.str 2 512 (Fm.str 1 96 l e).2.1 (Fm.str 1 96 l e).2.2).2)) := Lib.hid (by unfold Fm.own; rw [if_neg (by omega), if_neg (by omega), if_neg (by omega), if_neg (by omega), if_pos rfl])
  unfold OwnPost
  have hlk := ((Fm.good_str 1 1 96 rfl (by omega) (by omega) (by omega)).suf l e).length_le
  have hlf := (Fm.flag_suf l e).length_le
  simp only at hlk
  clear H
  go_enter Tryd.func21, Tryd.ntmps21
  have C1 := Lib.hid (getkey_any (by omega) HS.out.rd)
  go_wp2_with fail
  refine (C1.out).mono ?_
  rintro en w1a ⟨rfl, hr1, ho1⟩
  have S1 := HS.out.read hr1 ho1
  obtain ⟨x1, hx1⟩ : ∃ x, Hid ((strOf (Fm.str 1 96 l e).1) = x) := ⟨_, rfl⟩
  rw [hx1.out]
  have z1_0 := S1.mb.cells.2.2.2.2.2.1
  have f1_0 := S1.mb.free 5
  have T1_0 := S1.put (S1.mb.setKey x1)
  obtain ⟨w1b, hw1_0⟩ : ∃ W, w1a.setCell ⟨g, 5, none⟩ (.string x1) = W := ⟨_, rfl⟩
  rw [hw1_0] at T1_0
  have HT1 := Lib.hid T1_0
  clear hr1 ho1 S1 T1_0
  have C2 := Lib.hid (getval_any (by omega) HT1.out.rd)
  go_wp2_with fail
  refine (C2.out).mono ?_
  rintro en w2a ⟨rfl, hr2, ho2⟩
  have S2 := HT1.out.read hr2 ho2
  obtain ⟨x2, hx2⟩ : ∃ x, Hid ((strOf (Fm.str 2 512 (Fm.str 1 96 l e).2.1 (Fm.str 1 96 l e).2.2).1) = x) := ⟨_, rfl⟩
  rw [hx2.out]
  have z2_0 := S2.mb.cells.2.2.2.2.2.2.1
  have f2_0 := S2.mb.free 6
  have T2_0 := S2.put (S2.mb.setVal x2)
  obtain ⟨w2b, hw2_0⟩ : ∃ W, w2a.setCell ⟨g, 6, none⟩ (.string x2) = W := ⟨_, rfl⟩
  rw [hw2_0] at T2_0
  have HT2 := Lib.hid T2_0
  clear hr2 ho2 S2 T2_0
  go_wp2_with fail
  go_end0
  refine ⟨rfl, ?_⟩
  have hh := HT2.out
  rw [HOWN.out]
  rw [← hx1.out] at hh
  rw [← hx2.out] at hh
  exact hh

set_option maxHeartbeats 1000000 in
theorem getown_8 {w w0 : World} {r g rid : Nat} {l : List Nat} {e : Int} (hl : l.length ≤ 1000000000000) (H : Sg (fun w l e => Rd w r l e) w0 r g (Fm.bald 8 rid) l e w) :
    Calls Tryd.prog 21 #[.pointer (some ⟨r, 0, none⟩), .pointer (some ⟨g, 0, none⟩)] w (OwnPost (fun w l e => Rd w r l e) w0 r g 8 rid l e) := by
  have HS := Lib.hid H
  have c0 : w.cell? ⟨g, 0, none⟩ = some (.int .i64 8) := H.mb.cells.1
  have HOWN : Hid (Fm.own 8 rid l e = ({ Fm.bald 8 rid with key := strOf (Fm.str 1 96 l e).1 }, (Fm.str 1 96 l e).2)) := Lib.hid (by unfold Fm.own; rw [if_neg (by omega), if_neg (by omega), if_neg (by omega), if_neg (by omega), if_neg (by omega), if_pos rfl])
  unfold OwnPost
  have hlk := ((Fm.good_str 1 1 96 rfl (by omega) (by omega) (by omega)).suf l e).length_le
  have hlf := (Fm.flag_suf l e).length_le
  simp only at hlk
  clear H
  go_enter Tryd.func21, Tryd.ntmps21
  have C1 := Lib.hid (getkey_any (by omega) HS.out.rd)
  go_wp2_with fail
  refine (C1.out).mono ?_
  rintro en w1a ⟨rfl, hr1, ho1⟩
  have S1 := HS.out.read hr1 ho1
  obtain ⟨x1, hx1⟩ : ∃ x, Hid ((strOf (Fm.str 1 96 l e).1) = x) := ⟨_, rfl⟩
  rw [hx1.out]
  have z1_0 := S1.mb.cells.2.2.2.2.2.1
  have f1_0 := S1.mb.free 5
  have T1_0 := S1.put (S1.mb.setKey x1)
  obtain ⟨w1b, hw1_0⟩ : ∃ W, w1a.setCell ⟨g, 5, none⟩ (.string x1) = W := ⟨_, rfl⟩
  rw [hw1_0] at T1_0
  have HT1 := Lib.hid T1_0
  clear hr1 ho1 S1 T1_0
  go_wp2_with fail
  go_end0
  refine ⟨rfl, ?_⟩
  have hh := HT1.out
  rw [HOWN.out]
  rw [← hx1.out] at hh
  exact hh

set_option maxHeartbeats 1000000 in
theorem getown_9 {w w0 : World} {r g rid : Nat} {l : List Nat} {e : Int} (hl : l.length ≤ 1000000000000) (H : Sg (fun w l e => Rd w r l e) w0 r g (Fm.bald 9 rid) l e w) :
    Calls Tryd.prog 21 #[.pointer (some ⟨r, 0, none⟩), .pointer (some ⟨g, 0, none⟩)] w (OwnPost (fun w l e => Rd w r l e) w0 r g 9 rid l e) := by
  have HS := Lib.hid H
  have c0 : w.cell? ⟨g, 0, none⟩ = some (.int .i64 9) := H.mb.cells.1
  unfold OwnPost
  have hlf := (Fm.flag_suf l e).length_le
  have HF : Hid ((Bm.flag l e).1 = true → Fm.own 9 rid l e = ({ Fm.bald 9 rid with has := true, val := strOf (Fm.str 2 512 (Bm.flag l e).2.1 (Bm.flag l e).2.2).1 }, (Fm.str 2 512 (Bm.flag l e).2.1 (Bm.flag l e).2.2).2)) := Lib.hid (fun h => by unfold Fm.own; rw [if_neg (by omega), if_neg (by omega), if_neg (by omega), if_neg (by omega), if_neg (by omega), if_neg (by omega), if_pos rfl]; rw [if_pos h])
  have HG : Hid ((Bm.flag l e).1 = false → Fm.own 9 rid l e = (Fm.bald 9 rid, (Bm.flag l e).2)) := Lib.hid (fun h => by unfold Fm.own; rw [if_neg (by omega), if_neg (by omega), if_neg (by omega), if_neg (by omega), if_neg (by omega), if_neg (by omega), if_pos rfl]; rw [if_neg (by rw [h]; simp)])
  clear H
  go_enter Tryd.func21, Tryd.ntmps21
  have C1 := Lib.hid (rflag_any HS.out.rd)
  go_wp2_with fail
  refine (C1.out).mono ?_
  rintro en w1a ⟨rfl, hr1, ho1⟩
  have S1 := HS.out.read hr1 ho1
  obtain ⟨x1, hx1⟩ : ∃ x, Hid ((Bm.flag l e).1 = x) := ⟨_, rfl⟩
  rw [hx1.out]
  have z1_0 := S1.mb.cells.2.2.2.1
  have f1_0 := S1.mb.free 3
  have T1_0 := S1.put (S1.mb.setHas x1)
  obtain ⟨w1b, hw1_0⟩ : ∃ W, w1a.setCell ⟨g, 3, none⟩ (.bool x1) = W := ⟨_, rfl⟩
  rw [hw1_0] at T1_0
  have HT1 := Lib.hid T1_0
  clear hr1 ho1 S1 T1_0


  cases x1
  · have HOWN := Lib.hid (HG.out hx1.out)
    have c3 : w1b.cell? ⟨g, 3, none⟩ = some (.bool false) := HT1.out.mb.cells.2.2.2.1
    go_wp2_with fail
    go_end0
    refine ⟨rfl, ?_⟩
    have hh := HT1.out
    rw [HOWN.out]
    exact hh
  · have HOWN := Lib.hid (HF.out hx1.out)
    have c3 : w1b.cell? ⟨g, 3, none⟩ = some (.bool true) := HT1.out.mb.cells.2.2.2.1
    have C2 := Lib.hid (getval_any (by omega) HT1.out.rd)
    go_wp2_with fail
    refine (C2.out).mono ?_
    rintro en w2a ⟨rfl, hr2, ho2⟩
    have S2 := HT1.out.read hr2 ho2
    obtain ⟨x2, hx2⟩ : ∃ x, Hid ((strOf (Fm.str 2 512 (Bm.flag l e).2.1 (Bm.flag l e).2.2).1) = x) := ⟨_, rfl⟩
    rw [hx2.out]
    have z2_0 := S2.mb.cells.2.2.2.2.2.2.1
    have f2_0 := S2.mb.free 6
    have T2_0 := S2.put (S2.mb.setVal x2)
    obtain ⟨w2b, hw2_0⟩ : ∃ W, w2a.setCell ⟨g, 6, none⟩ (.string x2) = W := ⟨_, rfl⟩
    rw [hw2_0] at T2_0
    have HT2 := Lib.hid T2_0
    clear hr2 ho2 S2 T2_0
    go_wp2_with fail
    go_end0
    refine ⟨rfl, ?_⟩
    have hh := HT2.out
    rw [HOWN.out]
    rw [← hx2.out] at hh
    exact hh

set_option maxHeartbeats 1000000 in
theorem getown_10 {w w0 : World} {r g rid : Nat} {l : List Nat} {e : Int} (hl : l.length ≤ 1000000000000) (H : Sg (fun w l e => Rd w r l e) w0 r g (Fm.bald 10 rid) l e w) :
    Calls Tryd.prog 21 #[.pointer (some ⟨r, 0, none⟩), .pointer (some ⟨g, 0, none⟩)] w (OwnPost (fun w l e => Rd w r l e) w0 r g 10 rid l e) := by
  have HS := Lib.hid H
  have c0 : w.cell? ⟨g, 0, none⟩ = some (.int .i64 10) := H.mb.cells.1
  have HOWN : Hid (Fm.own 10 rid l e = ({ Fm.bald 10 rid with has := (Bm.flag l e).1, pairs := (Fm.pairs (Bm.flag l e).2.1 (Bm.flag l e).2.2).1 }, (Fm.pairs (Bm.flag l e).2.1 (Bm.flag l e).2.2).2)) := Lib.hid (by unfold Fm.own; rw [if_neg (by omega), if_neg (by omega), if_neg (by omega), if_neg (by omega), if_neg (by omega), if_neg (by omega), if_neg (by omega), if_pos rfl])
  unfold OwnPost
  have hlk := ((Fm.good_str 1 1 96 rfl (by omega) (by omega) (by omega)).suf l e).length_le
  have hlf := (Fm.flag_suf l e).length_le
  simp only at hlk
  clear H
  go_enter Tryd.func21, Tryd.ntmps21
  have C1 := Lib.hid (rflag_any HS.out.rd)
  go_wp2_with fail
  refine (C1.out).mono ?_
  rintro en w1a ⟨rfl, hr1, ho1⟩
  have S1 := HS.out.read hr1 ho1
  obtain ⟨x1, hx1⟩ : ∃ x, Hid ((Bm.flag l e).1 = x) := ⟨_, rfl⟩
  rw [hx1.out]
  have z1_0 := S1.mb.cells.2.2.2.1
  have f1_0 := S1.mb.free 3
  have T1_0 := S1.put (S1.mb.setHas x1)
  obtain ⟨w1b, hw1_0⟩ : ∃ W, w1a.setCell ⟨g, 3, none⟩ (.bool x1) = W := ⟨_, rfl⟩
  rw [hw1_0] at T1_0
  have HT1 := Lib.hid T1_0
  clear hr1 ho1 S1 T1_0
  have C2 := Lib.hid (getpairs_any (by omega) HT1.out.rd)
  go_wp2_with fail
  refine (C2.out).mono ?_
  rintro en w2a ⟨v2, rfl, hg2⟩
  obtain ⟨A2, c2, rfl⟩ := own_shape hg2.own
  have hm2 := own2_lower hg2.own (show g + 1 ≤ w1b.heap.size from HT1.out.mb.lt)
  have S2 := HT1.out.read hg2.rd hg2.only
  have z2 := S2.mb.pairsC
  obtain ⟨_, _, z2, _⟩ := z2
  have f2 := S2.mb.free 10
  obtain ⟨q2, hq2⟩ : ∃ q, Hid ((Fm.pairs (Bm.flag l e).2.1 (Bm.flag l e).2.2).1 = q) := ⟨_, rfl⟩
  rw [hq2.out] at hm2
  have hl2 : (Fm.pairs (Bm.flag l e).2.1 (Bm.flag l e).2.2).1.length = q2.length := by rw [hq2.out]
  rw [hl2]
  have T2 := S2.put (S2.mb.setPairs (n := q2.length) q2 hm2)
  obtain ⟨w2b, hw2⟩ : ∃ W, w2a.setCell ⟨g, 10, none⟩ (.slice A2 q2.length c2) = W := ⟨_, rfl⟩
  rw [hw2] at T2
  have HT2 := Lib.hid T2
  clear hg2 hm2 S2 T2 hl2
  go_wp2_with fail
  go_end0
  refine ⟨rfl, ?_⟩
  have hh := HT2.out
  rw [HOWN.out]
  rw [← hx1.out] at hh
  rw [← hq2.out] at hh
  exact hh

set_option maxHeartbeats 1000000 in
theorem getown_12 {w w0 : World} {r g rid : Nat} {l : List Nat} {e : Int} (hl : l.length ≤ 1000000000000) (H : Sg (fun w l e => Rd w r l e) w0 r g (Fm.bald 12 rid) l e w) :
    Calls Tryd.prog 21 #[.pointer (some ⟨r, 0, none⟩), .pointer (some ⟨g, 0, none⟩)] w (OwnPost (fun w l e => Rd w r l e) w0 r g 12 rid l e) := by
  have HS := Lib.hid H
  have c0 : w.cell? ⟨g, 0, none⟩ = some (.int .i64 12) := H.mb.cells.1
  have HOWN : Hid (Fm.own 12 rid l e = ({ Fm.bald 12 rid with code := (Bm.rfix l e 1).1 % 256 }, (Bm.rfix l e 1).2)) := Lib.hid (by unfold Fm.own; rw [if_neg (by omega), if_neg (by omega), if_neg (by omega), if_neg (by omega), if_neg (by omega), if_neg (by omega), if_neg (by omega), if_neg (by omega), if_pos rfl])
  unfold OwnPost
  have hmod : (Bm.rfix l e 1).1 % 256 = (Bm.rfix l e 1).1 := Nat.mod_eq_of_lt (Fm.rfix_nat (show Fm.Bytes l from H.rd.byte) e 1 1 rfl)
  rw [hmod] at HOWN
  clear hmod
  have hlk := ((Fm.good_str 1 1 96 rfl (by omega) (by omega) (by omega)).suf l e).length_le
  have hlf := (Fm.flag_suf l e).length_le
  simp only at hlk
  clear H
  go_enter Tryd.func21, Tryd.ntmps21
  have C1 := Lib.hid (rfix_any 1 (by omega) (by omega) HS.out.rd)
  have B1 : (Bm.rfix l e 1).1 < 256 := Fm.rfix_nat (show Fm.Bytes l from HS.out.rd.byte) e 1 1 rfl
  go_wp2_with fail
  refine (C1.out).mono ?_
  rintro en w1a ⟨rfl, hr1, ho1⟩
  have S1 := HS.out.read hr1 ho1
  obtain ⟨x1, hx1⟩ : ∃ x, Hid ((Bm.rfix l e 1).1 = x) := ⟨_, rfl⟩
  rw [hx1.out] at B1 ⊢
  have z1_0 := S1.mb.cells.2.2.1
  have f1_0 := S1.mb.free 2
  have T1_0 := S1.put (S1.mb.setCode x1)
  obtain ⟨w1b, hw1_0⟩ : ∃ W, w1a.setCell ⟨g, 2, none⟩ (.int .u8 (x1 : Int)) = W := ⟨_, rfl⟩
  rw [hw1_0] at T1_0
  have HT1 := Lib.hid T1_0
  clear hr1 ho1 S1 T1_0
  go_wp2_with fail
  go_end0
  refine ⟨rfl, ?_⟩
  have hh := HT1.out
  rw [HOWN.out]
  rw [← hx1.out] at hh
  exact hh

set_option maxHeartbeats 1000000 in
theorem getown_0 {w w0 : World} {r g k rid : Nat} {l : List Nat} {e : Int} (n1 : k ≠ 1) (n2 : k ≠ 2) (n4 : k ≠ 4) (n5 : k ≠ 5) (n7 : k ≠ 7) (n8 : k ≠ 8) (n9 : k ≠ 9) (n10 : k ≠ 10) (n12 : k ≠ 12) (H : Sg (fun w l e => Rd w r l e) w0 r g (Fm.bald k rid) l e w) :
    Calls Tryd.prog 21 #[.pointer (some ⟨r, 0, none⟩), .pointer (some ⟨g, 0, none⟩)] w (OwnPost (fun w l e => Rd w r l e) w0 r g k rid l e) := by
  have HS := Lib.hid H
  have c0 : w.cell? ⟨g, 0, none⟩ = some (.int .i64 (k : Int)) := H.mb.cells.1
  have HOWN : Hid (Fm.own k rid l e = (Fm.bald k rid, l, e)) := Lib.hid (by unfold Fm.own; rw [if_neg n1, if_neg n2, if_neg n4, if_neg n5, if_neg n7, if_neg n8, if_neg n9, if_neg n10, if_neg n12])
  unfold OwnPost
  have b1 : ((k : Int) == 1) = false := by rw [beq_eq_false_iff_ne]; omega
  have b2 : ((k : Int) == 2) = false := by rw [beq_eq_false_iff_ne]; omega
  have b4 : ((k : Int) == 4) = false := by rw [beq_eq_false_iff_ne]; omega
  have b5 : ((k : Int) == 5) = false := by rw [beq_eq_false_iff_ne]; omega
  have b7 : ((k : Int) == 7) = false := by rw [beq_eq_false_iff_ne]; omega
  have b8 : ((k : Int) == 8) = false := by rw [beq_eq_false_iff_ne]; omega
  have b9 : ((k : Int) == 9) = false := by rw [beq_eq_false_iff_ne]; omega
  have b10 : ((k : Int) == 10) = false := by rw [beq_eq_false_iff_ne]; omega
  have b12 : ((k : Int) == 12) = false := by rw [beq_eq_false_iff_ne]; omega
  clear H n1 n2 n4 n5 n7 n8 n9 n10 n12
  go_enter Tryd.func21, Tryd.ntmps21
  go_wp2_with fail
  go_end0
  refine ⟨rfl, ?_⟩
  rw [HOWN.out]
  exact HS.out
theorem getown_any {w w0 : World} {r g rid : Nat} (k : Nat) {l : List Nat} {e : Int} (hl : l.length ≤ 1000000000000) (H : Sg (fun w l e => Rd w r l e) w0 r g (Fm.bald k rid) l e w) :
    Calls Tryd.prog 21 #[.pointer (some ⟨r, 0, none⟩), .pointer (some ⟨g, 0, none⟩)] w (OwnPost (fun w l e => Rd w r l e) w0 r g k rid l e) := by
  rcases Fm.read_kinds k with rfl | rfl | rfl | rfl | rfl | rfl | rfl | rfl | rfl | ⟨n1, n2, n4, n5, n7, n8, n9, n10, n12⟩
  · exact getown_1 hl H
  · exact getown_2 hl H
  · exact getown_4 hl H
  · exact getown_5 hl H
  · exact getown_7 hl H
  · exact getown_8 hl H
  · exact getown_9 hl H
  · exact getown_10 hl H
  · exact getown_12 hl H
  · exact getown_0 n1 n2 n4 n5 n7 n8 n9 n10 n12 H
end Go.Proofs.YtpfeccbnkgnioaaDoor
/- Contract of fixed.Dec. -/
namespace Go.Proofs.YtpfeccbnkgnioaaDoor
open Go.RowKit
set_option linter.unusedVariables false
set_option maxRecDepth 100000
open Gm

theorem Piece.kept {w w' : World} {B : Nat} {v : Value} {p : List Nat} (h : Piece w B v p) (hb : Below w.heap.size w w') : Piece w' w'.heap.size v p := by
  obtain ⟨A, c, h1, h2, h3⟩ := h
  exact ⟨A, c, h1, ((h2.lower).below (hb.mono (Nat.min_le_right _ _))).more (Nat.le_trans (Nat.min_le_right _ _) hb.size), h3⟩
theorem Whole.but2 {w w' : World} {g h b : Nat} {t : TypeId} {cs : Array Value} (hw : Whole w b t cs) (k : But2 g h w w') (h1 : b ≠ g) (h2 : b ≠ h) : Whole w' b t cs := (k.block b hw.lt h1 h2).trans hw
/-- a message that is stored in a new variable, when its kind is known -/
theorem var_bald (w : World) (k : Nat) : ∃ g w0 w1, w.heap.size = g ∧ w.alloc (.cells #[.int .i64 0, .int .u32 0, .int .u8 0, .bool false, .int .u64 0, .string ⟨#[]⟩, .string ⟨#[]⟩, .int .u64 0, .int .u16 0, .slice none 0 0, .slice none 0 0] 30) = w0 ∧ Whole w0 g 30 #[.int .i64 0, .int .u32 0, .int .u8 0, .bool false, .int .u64 0, .string ⟨#[]⟩, .string ⟨#[]⟩, .int .u64 0, .int .u16 0, .slice none 0 0, .slice none 0 0] ∧
    w0.setRow g #[.int .i64 (k : Int), .int .u32 0, .int .u8 0, .bool false, .int .u64 0, .string ⟨#[]⟩, .string ⟨#[]⟩, .int .u64 0, .int .u16 0, .slice none 0 0, .slice none 0 0] = w1 ∧ Mb w1 g (Fm.bald k 0) ∧ w1.heap.size = g + 1 ∧ Below g w w1 := by
  have h0 := Whole.made w 30 #[.int .i64 0, .int .u32 0, .int .u8 0, .bool false, .int .u64 0, .string ⟨#[]⟩, .string ⟨#[]⟩, .int .u64 0, .int .u16 0, .slice none 0 0, .slice none 0 0]
  refine ⟨_, _, _, rfl, rfl, h0, rfl, ⟨none, 0, none, 0, h0.row _, World.ownsRow_nil _ _ _ _, World.ownsRow_nil _ _ _ _⟩, by rw [size_setRow]; simp, ?_⟩
  exact below_row ((Below.refl _ _).alloc (Nat.le_refl _) _) (Nat.le_refl _) _
/-- what Dec answers -/
def DecPost (r : Ms × Int) (w : World) (en : Ending) (w' : World) : Prop :=
  ∃ v, en = .returned (.tuple #[v, .int .i64 r.2]) ∧ Mv w' w'.heap.size r.1 v ∧ Below w.heap.size w w'
theorem mv_zero (w : World) (B : Nat) : Mv w B Fm.zero (.agg #[.int .i64 0, .int .u32 0, .int .u8 0, .bool false, .int .u64 0, .string ⟨#[]⟩, .string ⟨#[]⟩, .int .u64 0, .int .u16 0, .slice none 0 0, .slice none 0 0]) :=
  ⟨⟨_, _, rfl, Sl.empty _ _, Sl.empty _ _⟩, Fm.ok_zero⟩
theorem Bx.load {w : World} {g : Nat} {m : Ms} {vp vq : Value} (h : Bx w g m vp vq) : Whole w g 30 #[.int .i64 m.kind, .int .u32 (m.rid : Int), .int .u8 (m.code : Int), .bool m.has, .int .u64 (m.id : Int), .string m.key, .string m.val, .int .u64 (m.pid : Int), .int .u16 (m.pad : Int), vp, vq] := h

set_option maxHeartbeats 1000000 in
theorem fdec_any {w : World} {B : Nat} {v : Value} {p : List Nat} (h : Piece w B v p) (hp : p.length ≤ 1000000000) (hb : ∀ x ∈ p, x < 256) (T : Tab w) :
    Calls Tryd.prog 10 #[v] w (DecPost (Fm.dec p) w) := by
  obtain ⟨y, hy⟩ : ∃ y, w.heap.size = y := ⟨_, rfl⟩
  obtain ⟨w0, hal⟩ : ∃ w0, w.alloc (.cells #[.int .i64 0, .int .u32 0, .int .u8 0, .bool false, .int .u64 0, .string ⟨#[]⟩, .string ⟨#[]⟩, .int .u64 0, .int .u16 0, .slice none 0 0, .slice none 0 0] 30) = w0 := ⟨_, rfl⟩
  have hY : Whole w0 y 30 #[.int .i64 0, .int .u32 0, .int .u8 0, .bool false, .int .u64 0, .string ⟨#[]⟩, .string ⟨#[]⟩, .int .u64 0, .int .u16 0, .slice none 0 0, .slice none 0 0] := by rw [← hal, ← hy]; exact Whole.made _ _ _
  have hB0 : Below y w w0 := by rw [← hal]; exact (Below.refl y w).alloc (by omega) _
  have hs0 : w0.heap.size = y + 1 := by rw [← hal, ← hy]; simp
  have hty : 0 < y := by rw [← hy]; exact T.lt
  have HO := Lib.hid (open_any (h.kept (by rw [hy]; exact hB0)) (by omega) hb)
  have HY0 := Lib.hid hY
  have HB0 := Lib.hid hB0
  have HT := Lib.hid T
  have hbb : Fm.Bytes p := hb
  have HBY := Lib.hid hbb
  have HRD : Hid (Fm.read p = Fm.own (Bm.rfix p 0 1).1 ((Fm.ridR p).1 % 4294967296) (Fm.ridR p).2.1 (Fm.ridR p).2.2) := rfl
  have HFN : Hid (Fm.fin p = Bm.fin (Fm.read p).2.1 (Fm.read p).2.2) := rfl
  have HRR : Hid (Fm.ridR p = Bm.rfix (Bm.rfix p 0 1).2.1 (Fm.kindE p) 4) := rfl
  have HD1 := Lib.hid (fun h => Fm.dec_fin (l := p) h)
  have HD2 := Lib.hid (fun h h2 => Fm.dec_good (l := p) h h2)
  have HD3 := Lib.hid (fun h h2 => Fm.dec_bad (l := p) h h2)
  have HSO := Lib.hid (fun h => (Fm.read_sound hbb h).2)
  have hk1 := (Fm.rfix_suf p 0 1).length_le
  have hk2 := (Fm.rfix_suf (Bm.rfix p 0 1).2.1 (Fm.kindE p) 4).length_le
  have hn : (Bm.rfix p 0 1).1 < 256 := Fm.rfix_nat hbb 0 1 1 rfl
  obtain ⟨dd, hdd⟩ : ∃ dd, Hid (Fm.dec p = dd) := ⟨_, rfl⟩
  rw [hdd.out] at HD1 HD2 HD3 ⊢
  clear h hb T hY hB0 hbb
  go_enter Tryd.func10, Tryd.ntmps10
  go_wp2_with fail
  refine (HO.out).mono ?_
  rintro en w1 ⟨r, rfl, hr, hrd, hb1⟩
  have hyr : y < r := by omega
  have HK := Lib.hid (getkind_any hrd (HT.out.below (HB0.out.trans (hb1.mono (by omega))) hty) (by omega))
  have HY1 := Lib.hid (HY0.out.below hb1 (by omega))
  have HB1 := Lib.hid (HB0.out.trans (hb1.mono (by omega)))
  have hrl := hrd.lt
  clear hr hrd hb1
  obtain ⟨k, hk⟩ : ∃ k, Hid ((Bm.rfix p 0 1).1 = k) := ⟨_, rfl⟩
  rw [hk.out] at HK HRD hn
  go_wp2_with fail
  refine (HK.out).mono ?_
  rintro en w2 ⟨rfl, hr2, ho2⟩
  obtain ⟨g, w2a, w3, hg, hal2, hz, hst, hm3, hs3, hb3⟩ := var_bald w2 k
  have hrg : r < g := by have := ho2.size; omega
  have HZ := Lib.hid hz
  have HR3 := Lib.hid (hr2.below (hb3.mono (show r + 1 ≤ g by omega)) (by omega))
  have HY3 := Lib.hid ((HY1.out.only ho2 (by omega)).below hb3 (by omega))
  have HB3 := Lib.hid (HB1.out.trans ((ho2.below (B := y) (by omega) (by omega)).trans (hb3.mono (by omega))))
  have HS3 : Hid (Sg (fun w l e => Rd w r l e) w3 r g (Fm.bald k 0) (Bm.rfix p 0 1).2.1 (Fm.kindE p) w3) := Lib.hid ⟨HR3.out, hm3, But2.refl _ _ _, hrg, fun W W' l e h1 h2 => h1.only h2 hrg⟩
  have C3 := Lib.hid (rfix_any 4 (by omega) (by omega) HR3.out)
  have B3 : (Bm.rfix (Bm.rfix p 0 1).2.1 (Fm.kindE p) 4).1 < 4294967296 := Fm.rfix_nat (show Fm.Bytes _ from HR3.out.byte) _ 4 4 rfl
  clear hr2 ho2 hz hm3 hb3
  rw [← HRR.out] at C3 B3 hk2
  obtain ⟨q, hq⟩ : ∃ q, Hid (Fm.ridR p = q) := ⟨_, rfl⟩
  obtain ⟨rid, l4, e4⟩ := q
  rw [hq.out] at C3 B3 HRD hk2
  simp only at C3 B3 HRD hk2
  rw [Nat.mod_eq_of_lt B3] at HRD
  go_wp2_with (refine wpList_store_whole rfl rfl rfl rfl rfl HZ.out (msgI rfl) rfl (by simp [Value.oneCell']) ?_; rw [hst])
  refine (C3.out).mono ?_
  rintro en w4 ⟨rfl, hr4, ho4⟩
  have S4 := HS3.out.read hr4 ho4
  have z4 := S4.mb.cells.2.1
  have f4 := S4.mb.free 1
  have T4 := S4.put (S4.mb.setRid rid)
  obtain ⟨w5, hw5⟩ : ∃ W, w4.setCell ⟨g, 1, none⟩ (.int .u32 (rid : Int)) = W := ⟨_, rfl⟩
  rw [hw5] at T4
  have HOwn := Lib.hid (getown_any k (by omega) (show Sg _ w3 r g (Fm.bald k rid) l4 e4 w5 from T4))
  clear hr4 ho4 S4 T4
  unfold OwnPost at HOwn
  rw [← HRD.out] at HOwn
  go_wp2_with fail
  refine (HOwn.out).mono ?_
  rintro en w6 ⟨rfl, hs6⟩
  have HS6 := Lib.hid hs6
  have HE := Lib.hid (rend_any hs6.rd)
  rw [← HFN.out] at HE
  have hw36 := hs6.but.size
  have HY6 := Lib.hid (HY3.out.but2 hs6.but (by omega) (by omega))
  have HB6 := Lib.hid (HB3.out.trans (hs6.but.below (B := y) (by omega) (by omega) (by omega)))
  clear hs6
  obtain ⟨x, hx⟩ : ∃ x, Hid (Fm.fin p = x) := ⟨_, rfl⟩
  rw [hx.out] at HE HD1 HD2 HD3 HSO
  by_cases hx0 : x = 0
  case neg =>
    have E := HD1.out hx0
    subst E
    have hne : (x != 0) = true := by simpa using hx0
    go_wp2_with fail
    refine (HE.out).mono ?_
    rintro en w7 ⟨rfl, hw7⟩
    subst hw7
    go_wp2_with (refine wpList_store_whole rfl rfl rfl rfl rfl HY6.out (msgI rfl) rfl (by simp [Value.oneCell']) ?_)
    refine bodyPost_ret (v := .tuple #[.agg #[.int .i64 0, .int .u32 0, .int .u8 0, .bool false, .int .u64 0, .string ⟨#[]⟩, .string ⟨#[]⟩, .int .u64 0, .int .u16 0, .slice none 0 0, .slice none 0 0], .int .i64 x]) ?_ rfl ⟨_, rfl, mv_zero _ _, ?_⟩
    · exact results_cell_row2 rfl rfl rfl (HY6.out.row _) Tryd.underlying30 rfl (msgI rfl)
    · rw [hy]; exact below_row HB6.out (Nat.le_refl _) _
  subst hx0
  have okM := HSO.out rfl
  obtain ⟨M, hM⟩ : ∃ M, Hid ((Fm.read p).1 = M) := ⟨_, rfl⟩
  rw [hM.out] at HS6 HD2 HD3 okM
  obtain ⟨Ap, cp, Aq, cq, hbx, hop, hoq⟩ := HS6.out.mb.ex
  have hmv : Mv w6 w6.heap.size M (.agg #[.int .i64 M.kind, .int .u32 (M.rid : Int), .int .u8 (M.code : Int), .bool M.has, .int .u64 (M.id : Int), .string M.key, .string M.val, .int .u64 (M.pid : Int), .int .u16 (M.pad : Int), .slice Ap M.peers.length cp, .slice Aq M.pairs.length cq]) := ⟨⟨_, _, rfl, Sl.of_own hop, Sl.of_own hoq⟩, okM⟩
  have HBx := Lib.hid hbx
  have HOp := Lib.hid hop
  have HOq := Lib.hid hoq
  have HR := Lib.hid (right_any hmv (HT.out.below HB6.out hty))
  obtain ⟨rr, hrr⟩ : ∃ rr, Hid (right M = rr) := ⟨_, rfl⟩
  rw [hrr.out] at HR HD2 HD3
  clear hbx hop hoq hmv
  by_cases hr0 : rr = 0
  case neg =>
    have E := HD3.out rfl hr0
    subst E
    have hlt : ¬ (rr : Int) = 0 := by omega
    go_wp2_with fail
    refine (HE.out).mono ?_
    rintro en w7 ⟨rfl, hw7⟩
    subst hw7
    go_wp2_with (refine wpList_load_struct Tryd.underlying30 (msgI rfl) rfl rfl rfl HBx.out.load ?_)
    refine (HR.out).mono ?_
    rintro en w8 ⟨rfl, hb8⟩
    have HY8 := Lib.hid (HY6.out.below hb8 HY6.out.lt)
    have HB8 := Lib.hid (HB6.out.trans (hb8.mono (by have := HY6.out.lt; omega)))
    clear hb8
    go_wp2_with (refine wpList_store_whole rfl rfl rfl rfl rfl HY8.out (msgI rfl) rfl (by simp [Value.oneCell']) ?_)
    refine bodyPost_ret (v := .tuple #[.agg #[.int .i64 0, .int .u32 0, .int .u8 0, .bool false, .int .u64 0, .string ⟨#[]⟩, .string ⟨#[]⟩, .int .u64 0, .int .u16 0, .slice none 0 0, .slice none 0 0], .int .i64 (rr : Int)]) ?_ rfl ⟨_, rfl, mv_zero _ _, ?_⟩
    · exact results_cell_row2 rfl rfl rfl (HY8.out.row _) Tryd.underlying30 rfl (msgI rfl)
    · rw [hy]; exact below_row HB8.out (Nat.le_refl _) _
  subst hr0
  have E := HD2.out rfl rfl
  subst E
  go_wp2_with fail
  refine (HE.out).mono ?_
  rintro en w7 ⟨rfl, hw7⟩
  subst hw7
  go_wp2_with (refine wpList_load_struct Tryd.underlying30 (msgI rfl) rfl rfl rfl HBx.out.load ?_)
  refine (HR.out).mono ?_
  rintro en w8 ⟨rfl, hb8⟩
  have HY8 := Lib.hid (HY6.out.below hb8 HY6.out.lt)
  have HB8 := Lib.hid (HB6.out.trans (hb8.mono (by have := HY6.out.lt; omega)))
  have HOp8 := Lib.hid (own2_below HOp.out hb8)
  have HOq8 := Lib.hid (own2_below HOq.out hb8)
  have HBx8 : Hid (Bx w8 g M (.slice Ap M.peers.length cp) (.slice Aq M.pairs.length cq)) := Lib.hid (HBx.out.below hb8 (Whole.lt HBx.out))
  clear hb8
  go_wp2_with (first | (refine wpList_load_struct Tryd.underlying30 (msgI rfl) rfl rfl rfl HBx8.out.load ?_) | (refine wpList_store_whole rfl rfl rfl rfl rfl HY8.out (msgI rfl) rfl (by simp [Value.oneCell']) ?_))
  refine bodyPost_ret (v := .tuple #[.agg #[.int .i64 M.kind, .int .u32 (M.rid : Int), .int .u8 (M.code : Int), .bool M.has, .int .u64 (M.id : Int), .string M.key, .string M.val, .int .u64 (M.pid : Int), .int .u16 (M.pad : Int), .slice Ap M.peers.length cp, .slice Aq M.pairs.length cq], .int .i64 0]) ?_ rfl ⟨_, rfl, ⟨⟨_, _, rfl, ?_, ?_⟩, okM⟩, ?_⟩
  · exact results_cell_row2 rfl rfl rfl (HY8.out.row _) Tryd.underlying30 rfl (msgI rfl)
  · exact Sl.of_own (own2_from HOp8.out (fun i hi _ => setRow_other w8 y i _ (by omega)))
  · exact Sl.of_own (own2_from HOq8.out (fun i hi _ => setRow_other w8 y i _ (by omega)))
  · rw [hy]; exact below_row HB8.out (Nat.le_refl _) _
end Go.Proofs.YtpfeccbnkgnioaaDoor
