/- Texts Fget, Fgets, Mb9, Fown9, Fdec, in one. -/
import Derived.Test.YtjkjhnpemhlbpaaDoorPC
import Derived.Test.YtjkjhnpemhlbpaaDoorPG
import Derived.Test.YtjkjhnpemhlbpaaDoorPE
import Derived.Test.YtjkjhnpemhlbpaaDoorPF
/- Contracts of the functions of layer 9 that read: counts, peers, texts, lists. -/
namespace Go.Proofs.YtjkjhnpemhlbpaaDoor
open Go.RowKit
set_option linter.unusedVariables false
set_option maxRecDepth 100000
open Gm

theorem Fm.rfix_nat {l : List Nat} (h : Fm.Bytes l) (e : Int) (k : Nat) (s : Int) (hs : s = (k : Int)) : (Bm.rfix l e s).1 < 256 ^ k := by subst hs; exact Fm.rfix_lt h e k
theorem Only.made {w w' : World} {g : Nat} (h : Only g w w') : w.heap.size ≤ w'.heap.size := h.size
theorem Only.alloc0 (g : Nat) (w : World) (o : Obj) : Only g w (w.alloc o) := (Only.refl g w).alloc o
/-- a store into a block that is new -/
theorem Only.newCell {a w : World} {g b : Nat} (h : Only g a w) (hb : a.heap.size ≤ b) (i : Nat) (u : Value) : Only g a (w.setCell ⟨b, i, none⟩ u) :=
  ⟨h.os, h.tape, h.output, by simpa [World.setCell] using h.size, fun j hj hg => (Below.heap_setCell _ _ _ _ (by show j ≠ b; omega)).trans (h.block j hj hg)⟩
theorem Rd.newCell {w : World} {g b : Nat} {l : List Nat} {e : Int} (h : Rd w g l e) (hb : g < b) (i : Nat) (u : Value) : Rd (w.setCell ⟨b, i, none⟩ u) g l e :=
  h.below ((Below.refl (g + 1) w).setCell (p := ⟨b, i, none⟩) (by show g + 1 ≤ b; omega) u) (by omega)

end Go.Proofs.YtjkjhnpemhlbpaaDoor
/- Contracts of the functions of layer 9 that read texts and lists. -/
namespace Go.Proofs.YtjkjhnpemhlbpaaDoor
open Go.RowKit
set_option linter.unusedVariables false
set_option maxRecDepth 100000
open Gm

section
variable {P : Program} {T E : TypeId} {z : Value} {bytes : Nat} {α : Type} {f : α → Value × Value}
theorem two_new (w : World) (t : TypeId) (p : α) : Two f (w.alloc (.cells #[(f p).1, (f p).2] t)) (w.heap.size + 1) (some ⟨w.heap.size, 0, none⟩) [p] := by
  intro _
  refine ⟨_, 0, rfl, by omega, fun i hi => ?_⟩
  have hi : i = 0 := by simpa using hi
  subst hi
  have h := Whole.made w t #[(f p).1, (f p).2]
  exact ⟨h.at_ 0, h.at_ 1⟩
/-- 'append(s, x)' of one element of two cells -/
theorem run_append_elem2 (hT : ElemT2 P T E z bytes) (hf : ∀ x, (f x).1.oneCell' = true ∧ (f x).2.oneCell' = true) {wr : World} (ty base : Nat) (v : Value) (n : Nat) (xs : List Value) (p : α) (hown : wr.ownsRow base E 2 v n xs) (hn : n ≤ 1000000001000) (hbase : base ≤ wr.heap.size) :
    ∃ v' w', (Builtin.append_ #[T, T] ty #[v, .slice (some ⟨wr.heap.size, 0, none⟩) 1 1]).run P (wr.alloc (.cells #[(f p).1, (f p).2] E)) = .ok v' w' ∧ w'.ownsRow base E 2 v' (n + 1) (xs ++ two f [p]) ∧ (wr.alloc (.cells #[(f p).1, (f p).2] E)).grownBy w' v.ownBlock :=
  run_append_two hT hf ty base v n xs (hown.alloc _) 1 1 rfl (fun h => by cases h) (two_new wr E p) (by omega) (by simp; omega)
theorem wpList_append_elem2 (hT : ElemT2 P T E z bytes) (hf : ∀ x, (f x).1.oneCell' = true ∧ (f x).2.oneCell' = true) {ops : Array Oper} {rest : List Oper} {o : Oper} {a : Act} {wr : World} {Q : Exit → Act → World → Prop} {u0 u1 : Value} (s x : Operand) (hgd : o.guard = none)
    (ho : o.op = .call { callee := .builtin .append, args := #[s, x], argTypes := #[T, T] }) (base : Nat) (v : Value) (n : Nat) (xs : List Value) (p : α) (hp : f p = (u0, u1)) (hs : a.eval s = v) (hx : a.eval x = .slice (some ⟨wr.heap.size, 0, none⟩) 1 1)
    (hown : wr.ownsRow base E 2 v n xs) (hn : n ≤ 1000000001000) (hbase : base ≤ wr.heap.size)
    (h : ∀ v' w', w'.ownsRow base E 2 v' (n + 1) (xs ++ two f [p]) → (wr.alloc (.cells #[u0, u1] E)).grownBy w' v.ownBlock → wpList P ops Q rest (a.put o.dst v') w') : wpList P ops Q (o :: rest) a (wr.alloc (.cells #[u0, u1] E)) := by
  obtain ⟨rfl, rfl⟩ : u0 = (f p).1 ∧ u1 = (f p).2 := by rw [hp]; exact ⟨rfl, rfl⟩
  refine wpList_plain hgd fun K hK => ?_
  obtain ⟨v', w', hr, h2, h3⟩ := run_append_elem2 hT hf (wr := wr) o.type base v n xs p hown hn hbase
  unfold Oper.wp execOp
  simp only [ho, resolve, invoke, builtin, Sem.run_bind, Sem.run_pure, Result.andThen_ok, List.map_toArray, List.map_cons, List.map_nil, hs, hx, hr]
  exact hK _ _ (h v' w' h2 h3)
end
section
variable {a w w' : World} {g : Nat} {l : List Nat} {e : Int} {row : Option Nat} {o : Obj}
theorem Only.grown (h : Only g a w) (hg : (w.alloc o).grownBy w' row) (hr : ∀ k, row = some k → a.heap.size ≤ k) : Only g a w' :=
  ⟨hg.os.trans h.os, hg.tape.trans h.tape, hg.output.trans h.output, Nat.le_trans (h.alloc o).size hg.size, fun i hi hig => (hg.block i (by have := h.size; simp; omega) (fun e => by have := hr i e.symm; omega)).trans ((h.alloc o).block i hi hig)⟩
theorem Below.new (o : Obj) (hg : (w.alloc o).grownBy w' row) (hr : ∀ k, row = some k → g < k) (hlt : g < w.heap.size) : Below (g + 1) w w' :=
  ((Below.refl (g + 1) w).alloc (by omega) o).trans ⟨hg.os, hg.tape, hg.output, hg.size, fun i hi => hg.block i (by simp; omega) (fun e => by have := hr i e.symm; omega)⟩
theorem Rd.grown (h : Rd w g l e) (hg : (w.alloc o).grownBy w' row) (hr : ∀ k, row = some k → g < k) : Rd w' g l e :=
  h.below (Below.new o hg hr h.lt) (by omega)
end
theorem Fm.many_length {α : Type} (p : List Nat → Int → α × List Nat × Int) : ∀ (n : Nat) (l : List Nat) (e : Int), (Fm.many p n l e).1.length = n
  | 0, _, _ => rfl
  | n + 1, l, e => by show ((Fm.many p n l e).1 ++ [_]).length = _; rw [List.length_append, Fm.many_length p n]; rfl

/-- what a loop has read: the elements in a row of the call's own, the reader behind them -/
structure Got {α : Type} (f : α → Value × Value) (E : TypeId) (g : Nat) (w : World) (r : List α × List Nat × Int) (v : Value) (wr : World) : Prop where
  own : wr.ownsRow w.heap.size E 2 v r.1.length (two f r.1)
  rd : Rd wr g r.2.1 r.2.2
  only : Only g w wr
  lt : g < w.heap.size
theorem Got.next {α : Type} {f : α → Value × Value} {E : TypeId} {g : Nat} {w w0 w1 w2 : World} {p : List Nat → Int → α × List Nat × Int} {j : Nat} {l : List Nat} {e : Int} {v v' : Value} {o : Obj} (H : Got f E g w (Fm.many p j l e) v w0)
    (hr : Rd w1 g (p (Fm.many p j l e).2.1 (Fm.many p j l e).2.2).2.1 (p (Fm.many p j l e).2.1 (Fm.many p j l e).2.2).2.2) (hk : Only g w w1)
    (ho : w2.ownsRow w.heap.size E 2 v' ((Fm.many p j l e).1.length + 1) (two f (Fm.many p j l e).1 ++ two f [(p (Fm.many p j l e).2.1 (Fm.many p j l e).2.2).1])) (hg : (w1.alloc o).grownBy w2 v.ownBlock) : Got f E g w (Fm.many p (j + 1) l e) v' w2 := by
  have hrow : ∀ k, v.ownBlock = some k → w.heap.size ≤ k := own_lt H.own
  refine ⟨?_, hr.grown hg (fun k hk' => by have := hrow k hk'; have := H.lt; omega), hk.grown hg hrow, H.lt⟩
  show w2.ownsRow w.heap.size E 2 v' ((Fm.many p j l e).1 ++ [(p (Fm.many p j l e).2.1 (Fm.many p j l e).2.2).1]).length (two f ((Fm.many p j l e).1 ++ [(p (Fm.many p j l e).2.1 (Fm.many p j l e).2.2).1]))
  rw [two_append, List.length_append]
  exact ho
theorem own2_only {w w' : World} {g base n sz : Nat} {t : TypeId} {v : Value} {xs : List Value} (ho : w.ownsRow base t sz v n xs) (k : Only g w w') (hg : g < base) : w'.ownsRow base t sz v n xs := by
  obtain ⟨h1, h2⟩ := ho
  refine ⟨h1, ?_⟩
  rcases h2 with h2 | ⟨b, cap, cur, hv, hb, hh, r⟩
  · exact .inl h2
  · have hlt : b < w.heap.size := (Array.getElem?_eq_some_iff.1 hh).1
    exact .inr ⟨b, cap, cur, hv, hb, by rw [k.block b hlt (by omega)]; exact hh, r⟩

end Go.Proofs.YtjkjhnpemhlbpaaDoor
/- A message that is being read, field by field, beside a reader. -/
namespace Go.Proofs.YtjkjhnpemhlbpaaDoor
open Go.RowKit
set_option linter.unusedVariables false
set_option maxRecDepth 100000
open Gm

/-- block g holds the message; its lists are rows of the call's own, in blocks above g -/
structure Mb (w : World) (g : Nat) (m : Ms) : Prop where
  ex : ∃ Ap cp Aq cq, Bx w g m (.slice Ap m.peers.length cp) (.slice Aq m.pairs.length cq) ∧ w.ownsRow (g + 1) 26 2 (.slice Ap m.peers.length cp) m.peers.length (two fPeer m.peers) ∧ w.ownsRow (g + 1) 43 2 (.slice Aq m.pairs.length cq) m.pairs.length (two fPair m.pairs)
section
variable {w w' w0 w1 : World} {g r n c : Nat} {m : Ms} {A : Option Addr}
theorem Mb.lt (h : Mb w g m) : g < w.heap.size := by obtain ⟨_, _, _, _, h, _⟩ := h.ex; exact Whole.lt h
theorem Mb.only (h : Mb w g m) (k : Only r w w') (hr : r < g) : Mb w' g m := by
  obtain ⟨a, b, c, d, h1, h2, h3⟩ := h.ex
  exact ⟨a, b, c, d, Whole.only h1 k (by omega), own2_only h2 k (by omega), own2_only h3 k (by omega)⟩
theorem Mb.below (h : Mb w g m) (k : Below w.heap.size w w') : Mb w' g m := by
  obtain ⟨a, b, c, d, h1, h2, h3⟩ := h.ex
  exact ⟨a, b, c, d, h1.below k (Whole.lt h1), own2_below h2 k, own2_below h3 k⟩
theorem Mb.mv (h : Mb w g m) (ok : Ok m) : ∃ vp vq, Bx w g m vp vq ∧ Mv w w.heap.size m (.agg #[.int .i64 m.kind, .int .u32 (m.rid : Int), .int .u8 (m.code : Int), .bool m.has, .int .u64 (m.id : Int), .string m.key, .string m.val, .int .u64 (m.pid : Int), .int .u16 (m.pad : Int), vp, vq]) ∧ vp.oneCell' = true ∧ vq.oneCell' = true := by
  obtain ⟨a, b, c, d, h1, h2, h3⟩ := h.ex
  exact ⟨_, _, h1, ⟨⟨_, _, rfl, Sl.of_own h2, Sl.of_own h3⟩, ok⟩, rfl, rfl⟩
theorem Mb.cells (h : Mb w g m) : w.cell? ⟨g, 0, none⟩ = some (.int .i64 m.kind) ∧ w.cell? ⟨g, 1, none⟩ = some (.int .u32 (m.rid : Int)) ∧ w.cell? ⟨g, 2, none⟩ = some (.int .u8 (m.code : Int)) ∧ w.cell? ⟨g, 3, none⟩ = some (.bool m.has) ∧
    w.cell? ⟨g, 4, none⟩ = some (.int .u64 (m.id : Int)) ∧ w.cell? ⟨g, 5, none⟩ = some (.string m.key) ∧ w.cell? ⟨g, 6, none⟩ = some (.string m.val) ∧ w.cell? ⟨g, 7, none⟩ = some (.int .u64 (m.pid : Int)) ∧ w.cell? ⟨g, 8, none⟩ = some (.int .u16 (m.pad : Int)) := by
  obtain ⟨a, b, c, d, h1, h2, h3⟩ := h.ex
  exact ⟨h1.at_ 0, h1.at_ 1, h1.at_ 2, h1.at_ 3, h1.at_ 4, h1.at_ 5, h1.at_ 6, h1.at_ 7, h1.at_ 8⟩
theorem Mb.free (h : Mb w g m) (i : Nat) : w.frozen? ⟨g, i, none⟩ = false := by obtain ⟨a, b, c, d, h1, _⟩ := h.ex; exact h1.free i
theorem Mb.peersC (h : Mb w g m) : ∃ A c, w.cell? ⟨g, 9, none⟩ = some (.slice A m.peers.length c) ∧ w.ownsRow (g + 1) 26 2 (.slice A m.peers.length c) m.peers.length (two fPeer m.peers) := by
  obtain ⟨a, b, c, d, h1, h2, h3⟩ := h.ex
  exact ⟨a, b, h1.at_ 9, h2⟩
theorem Mb.pairsC (h : Mb w g m) : ∃ A c, w.cell? ⟨g, 10, none⟩ = some (.slice A m.pairs.length c) ∧ w.ownsRow (g + 1) 43 2 (.slice A m.pairs.length c) m.pairs.length (two fPair m.pairs) := by
  obtain ⟨a, b, c, d, h1, h2, h3⟩ := h.ex
  exact ⟨c, d, h1.at_ 10, h3⟩
theorem own_far {base sz k : Nat} {t : TypeId} {v : Value} {xs : List Value} (h : w.ownsRow base t sz v k xs) {i : Nat} (hg : g < base) (u : Value) : (w.setCell ⟨g, i, none⟩ u).ownsRow base t sz v k xs := ownsRow_setCell_below h (a := ⟨g, i, none⟩) (by show g < base; omega) u
theorem Mb.setRid (h : Mb w g m) (x : Nat) : Mb (w.setCell ⟨g, 1, none⟩ (.int .u32 (x : Int))) g { m with rid := x } := by
  obtain ⟨a, b, c, d, h1, h2, h3⟩ := h.ex
  exact ⟨a, b, c, d, h1.put 1 _, own_far h2 (by omega) _, own_far h3 (by omega) _⟩
theorem Mb.setCode (h : Mb w g m) (x : Nat) : Mb (w.setCell ⟨g, 2, none⟩ (.int .u8 (x : Int))) g { m with code := x } := by
  obtain ⟨a, b, c, d, h1, h2, h3⟩ := h.ex
  exact ⟨a, b, c, d, h1.put 2 _, own_far h2 (by omega) _, own_far h3 (by omega) _⟩
theorem Mb.setHas (h : Mb w g m) (x : Bool) : Mb (w.setCell ⟨g, 3, none⟩ (.bool x)) g { m with has := x } := by
  obtain ⟨a, b, c, d, h1, h2, h3⟩ := h.ex
  exact ⟨a, b, c, d, h1.put 3 _, own_far h2 (by omega) _, own_far h3 (by omega) _⟩
theorem Mb.setId (h : Mb w g m) (x : Nat) : Mb (w.setCell ⟨g, 4, none⟩ (.int .u64 (x : Int))) g { m with id := x } := by
  obtain ⟨a, b, c, d, h1, h2, h3⟩ := h.ex
  exact ⟨a, b, c, d, h1.put 4 _, own_far h2 (by omega) _, own_far h3 (by omega) _⟩
theorem Mb.setKey (h : Mb w g m) (x : ByteArray) : Mb (w.setCell ⟨g, 5, none⟩ (.string x)) g { m with key := x } := by
  obtain ⟨a, b, c, d, h1, h2, h3⟩ := h.ex
  exact ⟨a, b, c, d, h1.put 5 _, own_far h2 (by omega) _, own_far h3 (by omega) _⟩
theorem Mb.setVal (h : Mb w g m) (x : ByteArray) : Mb (w.setCell ⟨g, 6, none⟩ (.string x)) g { m with val := x } := by
  obtain ⟨a, b, c, d, h1, h2, h3⟩ := h.ex
  exact ⟨a, b, c, d, h1.put 6 _, own_far h2 (by omega) _, own_far h3 (by omega) _⟩
theorem Mb.setPid (h : Mb w g m) (x : Nat) : Mb (w.setCell ⟨g, 7, none⟩ (.int .u64 (x : Int))) g { m with pid := x } := by
  obtain ⟨a, b, c, d, h1, h2, h3⟩ := h.ex
  exact ⟨a, b, c, d, h1.put 7 _, own_far h2 (by omega) _, own_far h3 (by omega) _⟩
theorem Mb.setPad (h : Mb w g m) (x : Nat) : Mb (w.setCell ⟨g, 8, none⟩ (.int .u16 (x : Int))) g { m with pad := x } := by
  obtain ⟨a, b, c, d, h1, h2, h3⟩ := h.ex
  exact ⟨a, b, c, d, h1.put 8 _, own_far h2 (by omega) _, own_far h3 (by omega) _⟩
theorem Mb.setPeers (h : Mb w g m) (ps : List (Nat × Nat)) (ho : w.ownsRow (g + 1) 26 2 (.slice A n c) ps.length (two fPeer ps)) : Mb (w.setCell ⟨g, 9, none⟩ (.slice A n c)) g { m with peers := ps } := by
  obtain ⟨a, b, c', d, h1, h2, h3⟩ := h.ex
  have hn : n = ps.length := by
    obtain ⟨A2, c2, e⟩ := own_shape ho
    injection e
  subst hn
  exact ⟨A, c, c', d, h1.put 9 _, own_far ho (by omega) _, own_far h3 (by omega) _⟩
theorem Mb.setPairs (h : Mb w g m) (ps : List (ByteArray × ByteArray)) (ho : w.ownsRow (g + 1) 43 2 (.slice A n c) ps.length (two fPair ps)) : Mb (w.setCell ⟨g, 10, none⟩ (.slice A n c)) g { m with pairs := ps } := by
  obtain ⟨a, b, c', d, h1, h2, h3⟩ := h.ex
  have hn : n = ps.length := by
    obtain ⟨A2, c2, e⟩ := own_shape ho
    injection e
  subst hn
  exact ⟨a, b, A, c, h1.put 10 _, own_far h2 (by omega) _, own_far ho (by omega) _⟩

/-- a reader in block r, whose state R tells, beside a message in block g -/
structure Sg (R : World → List Nat → Int → Prop) (w0 : World) (r g : Nat) (m : Ms) (l : List Nat) (e : Int) (w : World) : Prop where
  rd : R w l e
  mb : Mb w g m
  but : But2 r g w0 w
  lt : r < g
  new : ∀ w w' l e, R w l e → Only g w w' → R w' l e
variable {R : World → List Nat → Int → Prop} {l l1 : List Nat} {e e1 : Int}
theorem Sg.read (h : Sg R w0 r g m l e w) (hr : R w1 l1 e1) (ho : Only r w w1) : Sg R w0 r g m l1 e1 w1 :=
  ⟨hr, h.mb.only ho h.lt, h.but.trans (ho.left g), h.lt, h.new⟩
theorem Sg.put (h : Sg R w0 r g m l e w) {m' : Ms} {i : Nat} {u : Value} (hm : Mb (w.setCell ⟨g, i, none⟩ u) g m') : Sg R w0 r g m' l e (w.setCell ⟨g, i, none⟩ u) :=
  ⟨h.new _ _ _ _ h.rd ((Only.refl g w).setCell i u), hm, h.but.trans (((Only.refl g w).setCell i u).right r), h.lt, h.new⟩
end
theorem results_cell_row2 {P : Program} {fn : Func} {p u : Tmp} {ty : TypeId} {x : Value} {tmps : Array Value} {w : World} {g : Nat} {t : TypeId} {cs : Array Value} {d : TypeDesc} (h : fn.results = #[.cell p ty, .tmp u])
    (hp : tmps.getD p undef = .pointer (some ⟨g, 0, none⟩)) (hx : tmps.getD u undef = x) (hg : w.heap[g]? = some (.cells cs t (0, 0)))
    (hu : P.underlying ty = some d) (hd : (match d with | .struct _ | .array _ _ => true | _ => false) = true) (hi : (P.info? ty).map (·.size) = some cs.size) :
    (results fn tmps).run P w = .ok (.tuple #[.agg cs, x]) w := by
  subst hx
  have hp' : tmps[p]?.getD undef = .pointer (some ⟨g, 0, none⟩) := by simpa using hp
  simp [results, h, hp', asAddr, run_loadVar_row w g t ty cs (0, 0) d hg hu hd hi]
theorem Tab.only {w w' : World} {g : Nat} (h : Tab w) (k : Only g w w') (hg : 0 < g) : Tab w' :=
  h.below (Only.below k (B := 0 + 1) (by omega) (by have := h.lt; omega)) (by omega)
/-- the message of a kind alone -/
theorem right_nine {m : Ms} : right m = 9 ↔ known m.kind = false := by
  constructor
  · intro h
    cases hk : known m.kind
    · rfl
    · unfold right at h
      rw [hk] at h
      revert h
      generalize same m (bare m) = a
      generalize badKey m = b
      generalize isLong m = c
      generalize isShort m = d
      revert a b c d
      decide
  · intro h; unfold right; rw [h]; rfl
end Go.Proofs.YtjkjhnpemhlbpaaDoor
/- Contracts of fixed.getKind, fixed.getOwn, fixed.Dec. -/
namespace Go.Proofs.YtjkjhnpemhlbpaaDoor
open Go.RowKit
set_option linter.unusedVariables false
set_option maxRecDepth 100000
open Gm

theorem mv_bald (w : World) (B k : Nat) (hk : k < 256) : Mv w B (Fm.bald k 0) (.agg #[.int .i64 (k : Int), .int .u32 0, .int .u8 0, .bool false, .int .u64 0, .string ⟨#[]⟩, .string ⟨#[]⟩, .int .u64 0, .int .u16 0, .slice none 0 0, .slice none 0 0]) :=
  ⟨⟨_, _, rfl, Sl.empty _ _, Sl.empty _ _⟩, ⟨by simp [Fm.bald]; omega, by simp [Fm.bald], by simp [Fm.bald], by simp [Fm.bald], by simp [Fm.bald, ByteArray.size], by simp [Fm.bald, ByteArray.size], by simp [Fm.bald], by simp [Fm.bald], fun p hp => (by cases hp), fun p hp => (by cases hp)⟩⟩

/-- what getOwn leaves -/
def OwnPost (R : World → List Nat → Int → Prop) (w0 : World) (r g k rid : Nat) (l : List Nat) (e : Int) (en : Ending) (w' : World) : Prop :=
  en = .returned (.tuple #[]) ∧ Sg R w0 r g (Fm.own k rid l e).1 (Fm.own k rid l e).2.1 (Fm.own k rid l e).2.2 w'

end Go.Proofs.YtjkjhnpemhlbpaaDoor
/- Contract of fixed.Dec. -/
namespace Go.Proofs.YtjkjhnpemhlbpaaDoor
open Go.RowKit
set_option linter.unusedVariables false
set_option maxRecDepth 100000
open Gm

theorem Piece.kept {w w' : World} {B : Nat} {v : Value} {p : List Nat} (h : Piece w B v p) (hb : Below w.heap.size w w') : Piece w' w'.heap.size v p := by
  obtain ⟨A, c, h1, h2, h3⟩ := h
  exact ⟨A, c, h1, ((h2.lower).below (hb.mono (Nat.min_le_right _ _))).more (Nat.le_trans (Nat.min_le_right _ _) hb.size), h3⟩
theorem Whole.but2 {w w' : World} {g h b : Nat} {t : TypeId} {cs : Array Value} (hw : Whole w b t cs) (k : But2 g h w w') (h1 : b ≠ g) (h2 : b ≠ h) : Whole w' b t cs := (k.block b hw.lt h1 h2).trans hw
/-- a message that is stored in a new variable, when its kind is known -/
theorem var_bald (w : World) (k : Nat) : ∃ g w0 w1, w.heap.size = g ∧ w.alloc (.cells #[.int .i64 0, .int .u32 0, .int .u8 0, .bool false, .int .u64 0, .string ⟨#[]⟩, .string ⟨#[]⟩, .int .u64 0, .int .u16 0, .slice none 0 0, .slice none 0 0] 30) = w0 ∧ Whole w0 g 30 #[.int .i64 0, .int .u32 0, .int .u8 0, .bool false, .int .u64 0, .string ⟨#[]⟩, .string ⟨#[]⟩, .int .u64 0, .int .u16 0, .slice none 0 0, .slice none 0 0] ∧
    w0.setRow g #[.int .i64 (k : Int), .int .u32 0, .int .u8 0, .bool false, .int .u64 0, .string ⟨#[]⟩, .string ⟨#[]⟩, .int .u64 0, .int .u16 0, .slice none 0 0, .slice none 0 0] = w1 ∧ Mb w1 g (Fm.bald k 0) ∧ w1.heap.size = g + 1 ∧ Below g w w1 := by
  have h0 := Whole.made w 30 #[.int .i64 0, .int .u32 0, .int .u8 0, .bool false, .int .u64 0, .string ⟨#[]⟩, .string ⟨#[]⟩, .int .u64 0, .int .u16 0, .slice none 0 0, .slice none 0 0]
  refine ⟨_, _, _, rfl, rfl, h0, rfl, ⟨none, 0, none, 0, h0.row _, World.ownsRow_nil _ _ _ _, World.ownsRow_nil _ _ _ _⟩, by rw [size_setRow]; simp, ?_⟩
  exact below_row ((Below.refl _ _).alloc (Nat.le_refl _) _) (Nat.le_refl _) _
/-- what Dec answers -/
def DecPost (r : Ms × Int) (w : World) (en : Ending) (w' : World) : Prop :=
  ∃ v, en = .returned (.tuple #[v, .int .i64 r.2]) ∧ Mv w' w'.heap.size r.1 v ∧ Below w.heap.size w w'
theorem mv_zero (w : World) (B : Nat) : Mv w B Fm.zero (.agg #[.int .i64 0, .int .u32 0, .int .u8 0, .bool false, .int .u64 0, .string ⟨#[]⟩, .string ⟨#[]⟩, .int .u64 0, .int .u16 0, .slice none 0 0, .slice none 0 0]) :=
  ⟨⟨_, _, rfl, Sl.empty _ _, Sl.empty _ _⟩, Fm.ok_zero⟩
theorem Bx.load {w : World} {g : Nat} {m : Ms} {vp vq : Value} (h : Bx w g m vp vq) : Whole w g 30 #[.int .i64 m.kind, .int .u32 (m.rid : Int), .int .u8 (m.code : Int), .bool m.has, .int .u64 (m.id : Int), .string m.key, .string m.val, .int .u64 (m.pid : Int), .int .u16 (m.pad : Int), vp, vq] := h

end Go.Proofs.YtjkjhnpemhlbpaaDoor
