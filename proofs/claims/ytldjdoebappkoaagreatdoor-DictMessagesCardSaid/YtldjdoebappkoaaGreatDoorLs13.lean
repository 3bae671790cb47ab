/- A list of trees while it is being built; trees that are new. -/
import Derived.Test.YtldjdoebappkoaaGreatDoorSet11
import Derived.Test.YtldjdoebappkoaaGreatDoorMk11
import Derived.Test.YtldjdoebappkoaaGreatDoorTp12
namespace Go.Proofs.YtldjdoebappkoaaGreatDoor
open Go.RowKit
set_option linter.unusedVariables false
set_option maxRecDepth 100000
set_option linter.unusedSimpArgs false

theorem Tl.tp {w : World} {lo : Nat} {t : Tn} {vk vq : Value} (h : Tl w lo t vk vq) : Tp w (fun b => lo ≤ b) t vk vq := by
  induction h with
  | mk K Q rk rn rs hk h1 h2 h3 h4 hl hm hn hc ht ih => exact .mk K Q rk rn rs hk h1 h2 h3 h4 hl hm hn hc ih
theorem Tp.tl {w : World} {lo : Nat} {t : Tn} {vk vq : Value} (h : Tp w (fun b => lo ≤ b) t vk vq) : Tl w lo t vk vq := by
  induction h with
  | mk K Q rk rn rs hk h1 h2 h3 h4 hl hm hn hc ht ih => exact .mk K Q rk rn rs hk h1 h2 h3 h4 hl hm hn hc ih
theorem Tl.leaf (w : World) (lo : Nat) {k n : Int} {s : ByteArray} (b1 : -9223372036854775808 ≤ k ∧ k ≤ 9223372036854775807) (b2 : -9223372036854775808 ≤ n ∧ n ≤ 9223372036854775807) (b3 : s.size ≤ maxLen) : Tl w lo (.mk k n s [] []) (.slice none 0 0) (.slice none 0 0) := (Tp.leaf w _ b1 b2 b3).tl
/-- v is the call's own slice of the trees L, from block B0 on; their own blocks are others -/
structure Ls (B0 : Nat) (w : World) (L : List Tq) (v : Value) (wr : World) : Prop where
  row : wr.ownsRow B0 25 5 v L.length (five L)
  all : ∀ x ∈ L, Tp wr (fun b => v.ownBlock ≠ some b) x.1 x.2.1 x.2.2
  bel : Below B0 w wr
  low : B0 ≤ wr.heap.size
section
variable {B0 : Nat} {w : World} {L : List Tq} {v : Value} {wr w1 : World}
theorem Ls.start (hb : Below B0 w wr) (hl : B0 ≤ wr.heap.size) : Ls B0 w [] (.slice none 0 0) wr := ⟨World.ownsRow_nil _ _ 25 5, fun x hx => (by cases hx), hb, hl⟩
theorem Ls.behind (H : Ls B0 w L v wr) (hb : Below wr.heap.size wr w1) : Ls B0 w L v w1 :=
  ⟨own_below H.row hb, fun x hx => (H.all x hx).keep (fun b p q => ⟨p, hb.block b q⟩), H.bel.trans (hb.mono H.low), Nat.le_trans H.low hb.size⟩
/-- a kid is appended: it lies in blocks that are none of the row's -/
theorem Ls.kid (H : Ls B0 w L v wr) {x : Tn} {xk xq v' : Value} (hx : Tp wr (fun b => v.ownBlock ≠ some b) x xk xq) (ho : w1.ownsRow B0 25 5 v' (L.length + 1) (five L ++ five [(x, xk, xq)])) (hg : wr.grownBy w1 v.ownBlock) (hv : v'.ownBlock = v.ownBlock ∨ v'.ownBlock = some wr.heap.size) : Ls B0 w (L ++ [(x, xk, xq)]) v' w1 := by
  have one : ∀ y : Tq, Tp wr (fun b => v.ownBlock ≠ some b) y.1 y.2.1 y.2.2 → Tp w1 (fun b => v'.ownBlock ≠ some b) y.1 y.2.1 y.2.2 := fun y hy => hy.keep (fun b p q => ⟨fun e => by
    rcases hv with e' | e'
    · rw [e'] at e; exact p e
    · rw [e'] at e; injection e with e; omega, hg.block b q (fun e => p e.symm)⟩)
  refine ⟨by rw [five_append, List.length_append]; exact ho, fun y hy => ?_, ?_, ?_⟩
  · rcases List.mem_append.1 hy with hy | hy
    · exact one y (H.all y hy)
    · simp at hy; subst hy; exact one _ hx
  · exact H.bel.grown hg H.low (fun b e => by have := H.row.lt b e; omega)
  · exact Nat.le_trans H.low hg.size
theorem Ls.kv (H : Ls B0 w L v wr) : Kv wr wr.heap.size v (L.map (·.1)) := Kv.of_own H.row rfl (Nat.le_refl _) (fun x hx => (H.all x hx).tv)
/-- a new kid may be appended -/
theorem Ls.new (H : Ls B0 w L v wr) {w2 : World} {x : Tn} {xk xq : Value} (hx : Tl w2 wr.heap.size x xk xq) : Tp w2 (fun b => v.ownBlock ≠ some b) x xk xq := hx.tp.any (fun b hb e => by have := (H.row.lt b e).2; omega)
end
end Go.Proofs.YtldjdoebappkoaaGreatDoor
