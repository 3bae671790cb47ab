/- Contract of annuletlaw03.awake. -/
import Derived.Test.YtjkpkailcemjhaaOwner
namespace Go.Proofs.Ytjkpkailcemjhaa
open Go.RowKit
set_option linter.unusedVariables false

theorem sees_new64 {w : World} {fr : Nat × Nat} (b : Nat) (l : List Nat) (cs : Array Value) (t : TypeId) (hb : b = w.heap.size) (h : cs.toList = ints .u64 l) : Sees .u64 (w.alloc (.cells cs t fr)) (b + 1) (some ⟨b, 0, none⟩) l := fun hl =>
  ⟨b, 0, rfl, by omega, fun i hi => by
    subst hb
    have hg := ints_get .u64 l i hi
    rw [← h] at hg
    simp only [World.cell?, World.alloc, Array.getElem?_push_size]
    simpa using hg⟩
theorem below_drewN {B : Nat} {a w : World} (h : Below B a w) (k : Nat) : Below B a (w.drewN k) := ⟨h.os, h.tape, h.output, h.size, h.block⟩

set_option maxRecDepth 100000 in
set_option maxHeartbeats 400000 in
theorem awake3_any (w : World) : Calls Try.prog 15 #[] w fun e w' => e = .returned (.bool true) ∧ Below w.heap.size w w' := by
  go_enter Try.func15, Try.ntmps15
  go_wp2_with fail
  refine (dist_any 5 3 _ (by omega) (by omega)).mono ?_
  rintro e w1 ⟨rfl, rfl⟩
  rw [show Rm.dist 5 3 = 18446744073709551614 by decide]
  go_wp2_with fail
  refine (upto_any 9 2 2 _ (by omega) (by omega) (by omega)).mono ?_
  rintro e w1 ⟨rfl, rfl⟩
  rw [show Rm.upto 9 2 2 = true by decide]
  go_wp2_with fail
  refine (between_any 9 2 2 _ (by omega) (by omega) (by omega)).mono ?_
  rintro e w1 ⟨rfl, rfl⟩
  rw [show Rm.between 9 2 2 = false by decide]
  go_wp2_with fail
  refine (owner_any (w.heap.size + 1) _ [5, 20] 2 2 6 _ rfl (by omega) (sees_new64 _ [5, 20] _ _ rfl rfl) (by decide) (by omega)).mono ?_
  rintro e w1 ⟨rfl, k1, hw1⟩
  have hb : Below w.heap.size w w1 := by rw [hw1]; exact below_drewN ((Below.refl _ w).alloc (Nat.le_refl _) _) k1
  have Hb := Lib.hid hb
  clear hb hw1
  rw [show Rm.owner 6 [5, 20] = 1 by decide]
  go_wp2_with fail
  refine (owner_any (w1.heap.size + 1) _ [5, 20] 2 2 21 _ rfl (by omega) (sees_new64 _ [5, 20] _ _ rfl rfl) (by decide) (by omega)).mono ?_
  rintro e w2 ⟨rfl, k2, hw2⟩
  have hb : Below w.heap.size w w2 := by rw [hw2]; exact below_drewN (Hb.out.alloc Hb.out.size _) k2
  have Hb2 := Lib.hid hb
  clear hb hw2
  rw [show Rm.owner 21 [5, 20] = 0 by decide]
  go_wp2_with fail
  refine (start_any 1 4 _ (by omega) (by omega) (by omega)).mono ?_
  rintro e w3 ⟨rfl, rfl⟩
  rw [show Rm.start 1 4 = 17 by decide]
  go_wp2_with fail
  refine (owner_any 0 _ [] 0 0 1 _ rfl (by omega) (nil_sees _ _ _) (by simp) (by omega)).mono ?_
  rintro e w3 ⟨rfl, k3, hw3⟩
  have hb : Below w.heap.size w w3 := by rw [hw3]; exact below_drewN Hb2.out k3
  have Hb3 := Lib.hid hb
  clear hb hw3
  rw [show Rm.owner 1 [] = -1 by decide]
  go_wp2_with fail
  go_ret
  exact ⟨rfl, Hb3.out⟩
end Go.Proofs.Ytjkpkailcemjhaa
