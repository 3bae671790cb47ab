/- Contracts of the functions of layer 9 that read texts and lists. -/
import Derived.Test.YtpfeccbnkgnioaaDoorFget
namespace Go.Proofs.YtpfeccbnkgnioaaDoor
open Go.RowKit
set_option linter.unusedVariables false
set_option maxRecDepth 100000
open Gm

section
variable {P : Program} {T E : TypeId} {z : Value} {bytes : Nat} {α : Type} {f : α → Value × Value}
theorem two_new (w : World) (t : TypeId) (p : α) : Two f (w.alloc (.cells #[(f p).1, (f p).2] t)) (w.heap.size + 1) (some ⟨w.heap.size, 0, none⟩) [p] := by
  intro _
  refine ⟨_, 0, rfl, by omega, fun i hi => ?_⟩
  have hi : i = 0 := by simpa using hi
  subst hi
  have h := Whole.made w t #[(f p).1, (f p).2]
  exact ⟨h.at_ 0, h.at_ 1⟩
/-- 'append(s, x)' of one element of two cells -/
theorem run_append_elem2 (hT : ElemT2 P T E z bytes) (hf : ∀ x, (f x).1.oneCell' = true ∧ (f x).2.oneCell' = true) {wr : World} (ty base : Nat) (v : Value) (n : Nat) (xs : List Value) (p : α) (hown : wr.ownsRow base E 2 v n xs) (hn : n ≤ 1000000001000) (hbase : base ≤ wr.heap.size) :
    ∃ v' w', (Builtin.append_ #[T, T] ty #[v, .slice (some ⟨wr.heap.size, 0, none⟩) 1 1]).run P (wr.alloc (.cells #[(f p).1, (f p).2] E)) = .ok v' w' ∧ w'.ownsRow base E 2 v' (n + 1) (xs ++ two f [p]) ∧ (wr.alloc (.cells #[(f p).1, (f p).2] E)).grownBy w' v.ownBlock :=
  run_append_two hT hf ty base v n xs (hown.alloc _) 1 1 rfl (fun h => by cases h) (two_new wr E p) (by omega) (by simp; omega)
theorem wpList_append_elem2 (hT : ElemT2 P T E z bytes) (hf : ∀ x, (f x).1.oneCell' = true ∧ (f x).2.oneCell' = true) {ops : Array Oper} {rest : List Oper} {o : Oper} {a : Act} {wr : World} {Q : Exit → Act → World → Prop} {u0 u1 : Value} (s x : Operand) (hgd : o.guard = none)
    (ho : o.op = .call { callee := .builtin .append, args := #[s, x], argTypes := #[T, T] }) (base : Nat) (v : Value) (n : Nat) (xs : List Value) (p : α) (hp : f p = (u0, u1)) (hs : a.eval s = v) (hx : a.eval x = .slice (some ⟨wr.heap.size, 0, none⟩) 1 1)
    (hown : wr.ownsRow base E 2 v n xs) (hn : n ≤ 1000000001000) (hbase : base ≤ wr.heap.size)
    (h : ∀ v' w', w'.ownsRow base E 2 v' (n + 1) (xs ++ two f [p]) → (wr.alloc (.cells #[u0, u1] E)).grownBy w' v.ownBlock → wpList P ops Q rest (a.put o.dst v') w') : wpList P ops Q (o :: rest) a (wr.alloc (.cells #[u0, u1] E)) := by
  obtain ⟨rfl, rfl⟩ : u0 = (f p).1 ∧ u1 = (f p).2 := by rw [hp]; exact ⟨rfl, rfl⟩
  refine wpList_plain hgd fun K hK => ?_
  obtain ⟨v', w', hr, h2, h3⟩ := run_append_elem2 hT hf (wr := wr) o.type base v n xs p hown hn hbase
  unfold Oper.wp execOp
  simp only [ho, resolve, invoke, builtin, Sem.run_bind, Sem.run_pure, Result.andThen_ok, List.map_toArray, List.map_cons, List.map_nil, hs, hx, hr]
  exact hK _ _ (h v' w' h2 h3)
end
section
variable {a w w' : World} {g : Nat} {l : List Nat} {e : Int} {row : Option Nat} {o : Obj}
theorem Only.grown (h : Only g a w) (hg : (w.alloc o).grownBy w' row) (hr : ∀ k, row = some k → a.heap.size ≤ k) : Only g a w' :=
  ⟨hg.os.trans h.os, hg.tape.trans h.tape, hg.output.trans h.output, Nat.le_trans (h.alloc o).size hg.size, fun i hi hig => (hg.block i (by have := h.size; simp; omega) (fun e => by have := hr i e.symm; omega)).trans ((h.alloc o).block i hi hig)⟩
theorem Below.new (o : Obj) (hg : (w.alloc o).grownBy w' row) (hr : ∀ k, row = some k → g < k) (hlt : g < w.heap.size) : Below (g + 1) w w' :=
  ((Below.refl (g + 1) w).alloc (by omega) o).trans ⟨hg.os, hg.tape, hg.output, hg.size, fun i hi => hg.block i (by simp; omega) (fun e => by have := hr i e.symm; omega)⟩
theorem Rd.grown (h : Rd w g l e) (hg : (w.alloc o).grownBy w' row) (hr : ∀ k, row = some k → g < k) : Rd w' g l e :=
  h.below (Below.new o hg hr h.lt) (by omega)
end
theorem Fm.many_length {α : Type} (p : List Nat → Int → α × List Nat × Int) : ∀ (n : Nat) (l : List Nat) (e : Int), (Fm.many p n l e).1.length = n
  | 0, _, _ => rfl
  | n + 1, l, e => by show ((Fm.many p n l e).1 ++ [_]).length = _; rw [List.length_append, Fm.many_length p n]; rfl

set_option maxHeartbeats 1000000 in
theorem getkey_any {w : World} {g : Nat} {l : List Nat} {e : Int} (hl : l.length ≤ 1000000000000) (h : Rd w g l e) :
    Calls Tryd.prog 60 #[.pointer (some ⟨g, 0, none⟩)] w fun en w' => en = .returned (.string (strOf (Fm.str 1 96 l e).1)) ∧ Rd w' g (Fm.str 1 96 l e).2.1 (Fm.str 1 96 l e).2.2 ∧ Only g w w' := by
  have hs := ((Fm.good_count 1 1 96 rfl (by omega) (by omega)).suf l e).length_le
  have C := Lib.hid (getcount_any 1 96 1 rfl (by omega) (by omega) (by omega) h)
  have hc := Fm.count_lt (k := 1) l e 96 1
  obtain ⟨p, hp⟩ : ∃ p, Hid (Fm.count 1 96 l e = p) := ⟨_, rfl⟩
  obtain ⟨n, l1, e1⟩ := p
  rw [hp.out] at C hs hc
  simp only at C hs hc
  have HS : Hid (Fm.str 1 96 l e = Bm.take l1 e1 (n : Int)) := Lib.hid (by unfold Fm.str; rw [hp.out])
  rw [HS.out]
  clear h
  go_enter Tryd.func60, Tryd.ntmps60
  go_wp2_with fail
  refine (C.out).mono ?_
  rintro e w1 ⟨rfl, hr1, ho1⟩
  have HO1 := Lib.hid ho1
  have T := Lib.hid (rtake_any (n : Int) (by omega) (by omega) (by omega) hr1)
  clear ho1 hr1
  obtain ⟨q, hq⟩ : ∃ q, Hid (Bm.take l1 e1 (n : Int) = q) := ⟨_, rfl⟩
  rw [hq.out] at T
  go_wp2_with fail
  refine (T.out).mono ?_
  rintro e w2 ⟨v2, rfl, ho2, hr2, hk2⟩
  have hcv : (convert 33 9 v2).run Tryd.prog w2 = .ok (.string (strOf q.1)) w2 := conv_own Tryd.underlying33 Tryd.underlying5 Tryd.underlying9 ho2
  have HR2 := Lib.hid hr2
  have HO2 := Lib.hid (HO1.out.trans hk2)
  clear ho2 hr2 hk2
  go_wp2_with fail
  go_ret
  exact ⟨by rw [hq.out]; rfl, by rw [hq.out]; exact HR2.out, HO2.out⟩
set_option maxHeartbeats 1000000 in
theorem getval_any {w : World} {g : Nat} {l : List Nat} {e : Int} (hl : l.length ≤ 1000000000000) (h : Rd w g l e) :
    Calls Tryd.prog 61 #[.pointer (some ⟨g, 0, none⟩)] w fun en w' => en = .returned (.string (strOf (Fm.str 2 512 l e).1)) ∧ Rd w' g (Fm.str 2 512 l e).2.1 (Fm.str 2 512 l e).2.2 ∧ Only g w w' := by
  have hs := ((Fm.good_count 2 2 512 rfl (by omega) (by omega)).suf l e).length_le
  have C := Lib.hid (getcount_any 2 512 2 rfl (by omega) (by omega) (by omega) h)
  have hc := Fm.count_lt (k := 2) l e 512 2
  obtain ⟨p, hp⟩ : ∃ p, Hid (Fm.count 2 512 l e = p) := ⟨_, rfl⟩
  obtain ⟨n, l1, e1⟩ := p
  rw [hp.out] at C hs hc
  simp only at C hs hc
  have HS : Hid (Fm.str 2 512 l e = Bm.take l1 e1 (n : Int)) := Lib.hid (by unfold Fm.str; rw [hp.out])
  rw [HS.out]
  clear h
  go_enter Tryd.func61, Tryd.ntmps61
  go_wp2_with fail
  refine (C.out).mono ?_
  rintro e w1 ⟨rfl, hr1, ho1⟩
  have HO1 := Lib.hid ho1
  have T := Lib.hid (rtake_any (n : Int) (by omega) (by omega) (by omega) hr1)
  clear ho1 hr1
  obtain ⟨q, hq⟩ : ∃ q, Hid (Bm.take l1 e1 (n : Int) = q) := ⟨_, rfl⟩
  rw [hq.out] at T
  go_wp2_with fail
  refine (T.out).mono ?_
  rintro e w2 ⟨v2, rfl, ho2, hr2, hk2⟩
  have hcv : (convert 33 9 v2).run Tryd.prog w2 = .ok (.string (strOf q.1)) w2 := conv_own Tryd.underlying33 Tryd.underlying5 Tryd.underlying9 ho2
  have HR2 := Lib.hid hr2
  have HO2 := Lib.hid (HO1.out.trans hk2)
  clear ho2 hr2 hk2
  go_wp2_with fail
  go_ret
  exact ⟨by rw [hq.out]; rfl, by rw [hq.out]; exact HR2.out, HO2.out⟩

/-- what a loop has read: the elements in a row of the call's own, the reader behind them -/
structure Got {α : Type} (f : α → Value × Value) (E : TypeId) (g : Nat) (w : World) (r : List α × List Nat × Int) (v : Value) (wr : World) : Prop where
  own : wr.ownsRow w.heap.size E 2 v r.1.length (two f r.1)
  rd : Rd wr g r.2.1 r.2.2
  only : Only g w wr
  lt : g < w.heap.size
theorem Got.next {α : Type} {f : α → Value × Value} {E : TypeId} {g : Nat} {w w0 w1 w2 : World} {p : List Nat → Int → α × List Nat × Int} {j : Nat} {l : List Nat} {e : Int} {v v' : Value} {o : Obj} (H : Got f E g w (Fm.many p j l e) v w0)
    (hr : Rd w1 g (p (Fm.many p j l e).2.1 (Fm.many p j l e).2.2).2.1 (p (Fm.many p j l e).2.1 (Fm.many p j l e).2.2).2.2) (hk : Only g w w1)
    (ho : w2.ownsRow w.heap.size E 2 v' ((Fm.many p j l e).1.length + 1) (two f (Fm.many p j l e).1 ++ two f [(p (Fm.many p j l e).2.1 (Fm.many p j l e).2.2).1])) (hg : (w1.alloc o).grownBy w2 v.ownBlock) : Got f E g w (Fm.many p (j + 1) l e) v' w2 := by
  have hrow : ∀ k, v.ownBlock = some k → w.heap.size ≤ k := own_lt H.own
  refine ⟨?_, hr.grown hg (fun k hk' => by have := hrow k hk'; have := H.lt; omega), hk.grown hg hrow, H.lt⟩
  show w2.ownsRow w.heap.size E 2 v' ((Fm.many p j l e).1 ++ [(p (Fm.many p j l e).2.1 (Fm.many p j l e).2.2).1]).length (two f ((Fm.many p j l e).1 ++ [(p (Fm.many p j l e).2.1 (Fm.many p j l e).2.2).1]))
  rw [two_append, List.length_append]
  exact ho
theorem own2_only {w w' : World} {g base n sz : Nat} {t : TypeId} {v : Value} {xs : List Value} (ho : w.ownsRow base t sz v n xs) (k : Only g w w') (hg : g < base) : w'.ownsRow base t sz v n xs := by
  obtain ⟨h1, h2⟩ := ho
  refine ⟨h1, ?_⟩
  rcases h2 with h2 | ⟨b, cap, cur, hv, hb, hh, r⟩
  · exact .inl h2
  · have hlt : b < w.heap.size := (Array.getElem?_eq_some_iff.1 hh).1
    exact .inr ⟨b, cap, cur, hv, hb, by rw [k.block b hlt (by omega)]; exact hh, r⟩

set_option maxHeartbeats 1000000 in
theorem getpeers_any {w : World} {g : Nat} {l : List Nat} {e : Int} (h : Rd w g l e) :
    Calls Tryd.prog 58 #[.pointer (some ⟨g, 0, none⟩)] w fun en w' => ∃ v, en = .returned v ∧ Got fPeer 26 g w (Fm.peers l e) v w' := by
  have C := Lib.hid (getcount_any 1 16 1 rfl (by omega) (by omega) (by omega) h)
  have hc := Fm.count_lt (k := 1) l e 16 1
  have hgl := h.lt
  obtain ⟨p, hp⟩ : ∃ p, Hid (Fm.count 1 16 l e = p) := ⟨_, rfl⟩
  obtain ⟨n, l1, e1⟩ := p
  rw [hp.out] at C hc
  simp only at C hc
  have HS : Hid (Fm.peers l e = Fm.many Fm.peer n l1 e1) := Lib.hid (by unfold Fm.peers; rw [hp.out])
  rw [HS.out]
  clear h
  go_enter Tryd.func58, Tryd.ntmps58
  go_wp2_with fail
  refine (C.out).mono ?_
  rintro e w1 ⟨rfl, hr1, ho1⟩
  have HG : Hid (Got fPeer 26 g w (Fm.many Fm.peer 0 l1 e1) (.slice none 0 0) w1) := Lib.hid ⟨World.ownsRow_nil _ _ _ _, hr1, ho1, hgl⟩
  clear hr1 ho1
  go_wp2_with fail
  go_loopw [3, 6] (fun vb vi wr => ∃ (j : Nat), j ≤ n ∧ vi = .int .i64 j ∧ Hid (Got fPeer 26 g w (Fm.many Fm.peer j l1 e1) vb wr)) (fun _ vi _ => n - (intOf vi).toNat)
  case atStart => exact ⟨0, by omega, rfl, HG⟩
  case round =>
    obtain ⟨j, hj, rfl, HR⟩ := hrel
    by_cases hlt : j < n
    · have P := Lib.hid (getpeer_any HR.out.rd)
      have HL := Fm.many_length Fm.peer j l1 e1
      have hown := HR.out.own
      rw [HL] at hown
      have HO := Lib.hid hown
      have hsz := HR.out.only.size
      clear hown
      go_wp2_with fail
      refine (P.out).mono ?_
      rintro e w2 ⟨rfl, hr2, ho2⟩
      have HR2 := Lib.hid hr2
      have HK2 := Lib.hid (HR.out.only.trans ho2)
      have HO2 := Lib.hid (own2_only HO.out ho2 hgl)
      have hz2 := HK2.out.size
      clear hr2 ho2
      obtain ⟨q, hq⟩ : ∃ q : Nat × Nat, Hid ((Fm.peer (Fm.many Fm.peer j l1 e1).2.1 (Fm.many Fm.peer j l1 e1).2.2).1 = q) := ⟨_, rfl⟩
      rw [hq.out]
      go_wp2_with (at_builtin; refine wpList_append_elem2 peerT2 fPeer_one _ _ rfl rfl w.heap.size _ j _ q rfl rfl rfl HO2.out (by omega) hz2 ?_; intro v3 w3 ho3 hg3)
      have HN : Hid (Got fPeer 26 g w (Fm.many Fm.peer (j + 1) l1 e1) v3 w3) := Lib.hid (HR.out.next HR2.out HK2.out (by rw [HL, hq.out]; exact ho3) hg3)
      clear ho3 hg3
      go_roundw
      case rel => exact ⟨j + 1, by omega, by go_num, HN⟩
      case measure => simp [intOf]; omega
    · have hjn : j = n := by omega
      subst hjn
      go_wp2_with fail
      go_ret
      exact ⟨_, rfl, HR.out⟩
set_option maxHeartbeats 1000000 in
theorem getpairs_any {w : World} {g : Nat} {l : List Nat} {e : Int} (hl : l.length ≤ 1000000000000) (h : Rd w g l e) :
    Calls Tryd.prog 62 #[.pointer (some ⟨g, 0, none⟩)] w fun en w' => ∃ v, en = .returned v ∧ Got fPair 43 g w (Fm.pairs l e) v w' := by
  have C := Lib.hid (getcount_any 1 8 1 rfl (by omega) (by omega) (by omega) h)
  have hc := Fm.count_lt (k := 1) l e 8 1
  have hs := ((Fm.good_count 1 1 8 rfl (by omega) (by omega)).suf l e).length_le
  have hgl := h.lt
  obtain ⟨p, hp⟩ : ∃ p, Hid (Fm.count 1 8 l e = p) := ⟨_, rfl⟩
  obtain ⟨n, l1, e1⟩ := p
  rw [hp.out] at C hc hs
  simp only at C hc hs
  have HS : Hid (Fm.pairs l e = Fm.many Fm.pair n l1 e1) := Lib.hid (by unfold Fm.pairs; rw [hp.out])
  have HSuf := Lib.hid (fun j => ((Fm.good_many Fm.good_pair j).suf l1 e1).length_le)
  rw [HS.out]
  clear h
  go_enter Tryd.func62, Tryd.ntmps62
  go_wp2_with fail
  refine (C.out).mono ?_
  rintro e w1 ⟨rfl, hr1, ho1⟩
  have HG : Hid (Got fPair 43 g w (Fm.many Fm.pair 0 l1 e1) (.slice none 0 0) w1) := Lib.hid ⟨World.ownsRow_nil _ _ _ _, hr1, ho1, hgl⟩
  clear hr1 ho1
  go_wp2_with fail
  go_loopw [3, 7] (fun vb vi wr => ∃ (j : Nat), j ≤ n ∧ vi = .int .i64 j ∧ Hid (Got fPair 43 g w (Fm.many Fm.pair j l1 e1) vb wr)) (fun _ vi _ => n - (intOf vi).toNat)
  case atStart => exact ⟨0, by omega, rfl, HG⟩
  case round =>
    obtain ⟨j, hj, rfl, HR⟩ := hrel
    by_cases hlt : j < n
    · have hsj := HSuf.out j
      have P := Lib.hid (getkey_any (by omega) HR.out.rd)
      have HL := Fm.many_length Fm.pair j l1 e1
      have hown := HR.out.own
      rw [HL] at hown
      have HO := Lib.hid hown
      have hsz := HR.out.only.size
      have hs1 := ((Fm.good_str 1 1 96 rfl (by omega) (by omega) (by omega)).suf (Fm.many Fm.pair j l1 e1).2.1 (Fm.many Fm.pair j l1 e1).2.2).length_le
      simp only at hs1
      clear hown
      go_wp2_with fail
      refine (P.out).mono ?_
      rintro e w2 ⟨rfl, hr2, ho2⟩
      have P2 := Lib.hid (getval_any (by omega) hr2)
      have HK2 := Lib.hid (HR.out.only.trans ho2)
      have HO2 := Lib.hid (own2_only HO.out ho2 hgl)
      clear hr2 ho2
      go_wp2_with fail
      refine (P2.out).mono ?_
      rintro e w3 ⟨rfl, hr3, ho3⟩
      have HR3 := Lib.hid hr3
      have HK3 := Lib.hid (HK2.out.trans ho3)
      have HO3 := Lib.hid (own2_only HO2.out ho3 hgl)
      have hz3 := HK3.out.size
      clear hr3 ho3
      obtain ⟨q, hq⟩ : ∃ q : ByteArray × ByteArray, Hid ((Fm.pair (Fm.many Fm.pair j l1 e1).2.1 (Fm.many Fm.pair j l1 e1).2.2).1 = q) := ⟨_, rfl⟩
      have hq1 : strOf (Fm.str 1 96 (Fm.many Fm.pair j l1 e1).2.1 (Fm.many Fm.pair j l1 e1).2.2).1 = q.1 := by rw [← hq.out]; rfl
      have hq2 : strOf (Fm.str 2 512 (Fm.str 1 96 (Fm.many Fm.pair j l1 e1).2.1 (Fm.many Fm.pair j l1 e1).2.2).2.1 (Fm.str 1 96 (Fm.many Fm.pair j l1 e1).2.1 (Fm.many Fm.pair j l1 e1).2.2).2.2).1 = q.2 := by rw [← hq.out]; rfl
      rw [hq1, hq2]
      go_wp2_with (at_builtin; refine wpList_append_elem2 pairT2 fPair_one _ _ rfl rfl w.heap.size _ j _ q rfl rfl rfl HO3.out (by omega) hz3 ?_; intro v4 w4 ho4 hg4)
      have HN : Hid (Got fPair 43 g w (Fm.many Fm.pair (j + 1) l1 e1) v4 w4) := Lib.hid (HR.out.next HR3.out HK3.out (by rw [HL, hq.out]; exact ho4) hg4)
      clear ho4 hg4
      go_roundw
      case rel => exact ⟨j + 1, by omega, by go_num, HN⟩
      case measure => simp [intOf]; omega
    · have hjn : j = n := by omega
      subst hjn
      go_wp2_with fail
      go_ret
      exact ⟨_, rfl, HR.out⟩
end Go.Proofs.YtpfeccbnkgnioaaDoor
