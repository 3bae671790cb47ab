/- Words for a message in a box beside a row of the call's own, and appends in a region that draws its order that tell what else has turned. -/
import Derived.Test.YtjkjhnpemhlbpaaDoorPG
namespace Go.Proofs.YtjkjhnpemhlbpaaDoor
open Go.RowKit
set_option linter.unusedVariables false
set_option maxRecDepth 100000
open Gm

section
variable {w w' w0 : World} {base b : Nat} {m : Ms} {vp vq v v' v0 : Value} {xs ys : List Nat} {e : Ending}
theorem On.push (h : On base b m vp vq w0 v0 xs v w) {x : Nat} (ho : w'.ownsRow base 5 1 v' (xs.length + 1) (ints .u8 xs ++ [.int .u8 (x : Int)])) (hk : Kept w w' v v') : On base b m vp vq w0 v0 (xs ++ [x]) v' w' := by
  have hm : MadeK base (xs ++ [x]) v w (.returned v') w' := ⟨v', rfl, by rw [List.length_append, ints_append]; exact ho, hk⟩
  obtain ⟨v2, e2, h2⟩ := h.next hm
  injection e2 with e2
  subst e2
  exact h2
theorem On.app (h : On base b m vp vq w0 v0 xs v w) (l : List Nat) (n k : Nat) (hn : xs.length = n) (hk' : l.length = k) (ho : w'.ownsRow base 5 1 v' (n + k) (ints .u8 xs ++ ints .u8 l)) (hk : Kept w w' v v') : On base b m vp vq w0 v0 (xs ++ l) v' w' := by
  subst hn hk'
  have hm : MadeK base (xs ++ l) v w (.returned v') w' := ⟨v', rfl, by rw [List.length_append, ints_append]; exact ho, hk⟩
  obtain ⟨v2, e2, h2⟩ := h.next hm
  injection e2 with e2
  subst e2
  exact h2
theorem On.drew (h : On base b m vp vq w0 v0 xs v w) : On base b m vp vq w0 v0 xs v w.drew := by
  have hm : MadeK base xs v w (.returned v) w.drew := ⟨v, rfl, h.own.drew, (Kept.refl w v).drew⟩
  obtain ⟨v2, e2, h2⟩ := h.next hm
  injection e2 with e2
  subst e2
  exact h2
theorem On.behind (h : On base b m vp vq w0 v0 xs v w) (hb : Below w.heap.size w w') : On base b m vp vq w0 v0 xs v w' :=
  ⟨own_below h.own hb, ⟨Whole.below h.box.bx hb (Whole.lt h.box.bx), h.box.peers.below (hb.mono h.size), h.box.pairs.below (hb.mono h.size)⟩, h.kept.behind hb, h.ne, Nat.le_trans h.size hb.size⟩
theorem On.as (h : On base b m vp vq w0 v0 xs v w) (e : xs = ys) : On base b m vp vq w0 v0 ys v w := by subst e; exact h
theorem Boxk.drew (h : Boxk w base b m vp vq) : Boxk w.drew base b m vp vq := ⟨Whole.drew h.bx, h.peers.below ((Below.refl base w).drew), h.pairs.below ((Below.refl base w).drew)⟩
theorem Boxk.alloc (h : Boxk w base b m vp vq) (hb : base ≤ w.heap.size) (o : Obj) : Boxk (w.alloc o) base b m vp vq := ⟨Whole.alloc h.bx o, h.peers.below ((Below.refl base w).alloc hb o), h.pairs.below ((Below.refl base w).alloc hb o)⟩
theorem Boxk.cellP {b1 o1 n c : Nat} (h : Boxk w base b m (.slice (some ⟨b1, o1, none⟩) n c) vq) {i : Nat} (hi : i < m.peers.length) : w.cell? ⟨b1, o1 + i * 2, none⟩ = some (.int .u64 ((m.peers[i].1 : Nat) : Int)) ∧ w.cell? ⟨b1, o1 + i * 2 + 1, none⟩ = some (.int .u16 ((m.peers[i].2 : Nat) : Int)) := by
  obtain ⟨A, c', hv, ht, _⟩ := h.peers.ex
  injection hv with hA _ _
  subst hA
  obtain ⟨b2, o2, e2, _, d0, d1⟩ := ht.at_ hi
  injection e2 with e2
  injection e2 with e3 e4 _
  subst e3 e4
  exact ⟨d0, d1⟩
theorem Boxk.cellQ {b1 o1 n c : Nat} (h : Boxk w base b m vp (.slice (some ⟨b1, o1, none⟩) n c)) {i : Nat} (hi : i < m.pairs.length) : w.cell? ⟨b1, o1 + i * 2, none⟩ = some (.string m.pairs[i].1) ∧ w.cell? ⟨b1, o1 + i * 2 + 1, none⟩ = some (.string m.pairs[i].2) := by
  obtain ⟨A, c', hv, ht, _⟩ := h.pairs.ex
  injection hv with hA _ _
  subst hA
  obtain ⟨b2, o2, e2, _, d0, d1⟩ := ht.at_ hi
  injection e2 with e2
  injection e2 with e3 e4 _
  subst e3 e4
  exact ⟨d0, d1⟩
theorem Boxk.someP {A : Option Addr} {n c : Nat} (h : Boxk w base b m (.slice A n c) vq) (hl : 0 < m.peers.length) : ∃ b1 o1, A = some ⟨b1, o1, none⟩ := by
  obtain ⟨A', c', hv, ht, _⟩ := h.peers.ex
  injection hv with hA _ _
  subst hA
  obtain ⟨b2, o2, e2, _⟩ := ht hl
  exact ⟨b2, o2, e2⟩
theorem Boxk.someQ {A : Option Addr} {n c : Nat} (h : Boxk w base b m vp (.slice A n c)) (hl : 0 < m.pairs.length) : ∃ b1 o1, A = some ⟨b1, o1, none⟩ := by
  obtain ⟨A', c', hv, ht, _⟩ := h.pairs.ex
  injection hv with hA _ _
  subst hA
  obtain ⟨b2, o2, e2, _⟩ := ht hl
  exact ⟨b2, o2, e2⟩
end
section
variable {P : Program} {T E : TypeId} {z : Value} {bytes : Nat}
/-- 'append(s, x...)' of bytes where the order is drawn, with what else has turned -/
theorem step_append_rowk (hT : ElemT P T E z bytes) {ops : Array Oper} {o : Oper} {a : Act} {w : World} {K : Act → World → Prop} {Q : Exit → Act → World → Prop} {F : Prop} (s x : Operand) (hgd : o.guard = none)
    (ho : o.op = .call { callee := .builtin .append, args := #[s, x], argTypes := #[T, T] }) (base : Nat) (v : Value) (n : Nat) (xs : List Value) (hs : a.eval s = v) (hown : w.ownsRow base E 1 v n xs) {k : IntKind} {B : Nat} {A : Option Addr} {l : List Nat} (m c : Nat)
    (hx : a.eval x = .slice A m c) (hm : l.length = m) (hc : A = none → c = 0) (hsee : Sees k w B A l) (hn : n + m ≤ 1000000001001) (hbase : base ≤ w.heap.size)
    (h : ∀ v' w', w'.ownsRow base E 1 v' (n + m) (xs ++ ints k l) → Kept w w' v v' → K (a.put o.dst v') w') : if Region.wanted o (yielded ops a.tmps) = true then Oper.wp P o a w K Q else F := by
  have hw : Region.wanted o (yielded ops a.tmps) = true := by simp [Region.wanted, hgd]
  rw [if_pos hw]
  obtain ⟨v', w', hr, h2, h3⟩ := run_append_rowk hT (w := w) o.type base v n xs hown m c hm hc hsee hn hbase
  unfold Oper.wp execOp
  simp only [ho, resolve, invoke, builtin, Sem.run_bind, Sem.run_pure, Result.andThen_ok, List.map_toArray, List.map_cons, List.map_nil, hs, hx, hr]
  exact h v' w' h2 h3
end
/-- a literal of one byte -/
theorem own_lit1 (w : World) (base : Nat) (x : Int) (hb : base ≤ w.heap.size) : (w.alloc (.cells #[.int .u8 x] 5)).ownsRow base 5 1 (.slice (some ⟨w.heap.size, 0, none⟩) 1 1) 1 [.int .u8 x] :=
  ⟨rfl, .inr ⟨w.heap.size, 1, _, rfl, hb, heap_alloc_new _ _, Nat.le_refl _, by unfold maxLen; omega, rfl, rfl⟩⟩
end Go.Proofs.YtjkjhnpemhlbpaaDoor
