/- Contract of annuletlaw02.awake. -/
import Derived.Test.YtiopnbjmnalaeaaFlip
import Derived.Lib.SlBytesConst
namespace Go.Proofs.Ytiopnbjmnalaeaa
open Go.RowKit
set_option linter.unusedVariables false

theorem nil_sees (k : IntKind) (w : World) (A : Option Addr) : Sees k w 0 A [] := fun h => absurd h (by simp)

set_option maxRecDepth 100000 in
set_option maxHeartbeats 400000 in
theorem awake2_any (w : World) : Calls Try.prog 8 #[] w fun e w' => e = .returned (.bool true) ∧ Below w.heap.size w w' := by
  have kc := fun (w : World) (C : Array Value) (n c : Nat) => Lib.run_convert_bytes_const (P := Try.prog) w 22 5 C n c Try.underlying22 Try.underlying5
  go_enter Try.func8, Try.ntmps8
  go_wp2_with fail
  refine (sum_any (w.heap.size + 1) _ [49, 50, 51, 52, 53, 54, 55, 56, 57] 9 9 _ rfl (by omega) (sees_new _ [49, 50, 51, 52, 53, 54, 55, 56, 57] _ _ rfl rfl) (by decide)).mono ?_
  rintro e w1 ⟨rfl, rfl⟩
  rw [show Cm.sum [49, 50, 51, 52, 53, 54, 55, 56, 57] = 3808858755 by decide +kernel]
  go_wp2_with fail
  refine (sum_any 0 _ [] 0 0 _ rfl (by omega) (nil_sees _ _ _) (by decide)).mono ?_
  rintro e w1 ⟨rfl, rfl⟩
  rw [show Cm.sum [] = 0 by decide +kernel]
  go_wp2_with fail
  refine (flip_any (w.heap.size + 2) _ [0, 0] 2 2 7 3 _ rfl (by omega) (sees_new _ [0, 0] _ _ (by simp) rfl) (by decide) (by simp) (by omega) (by omega) (by omega)).mono ?_
  rintro e w1 ⟨g, rfl, hg, hI, hbel⟩
  rw [show Cm.flip [0, 0] 7 3 = [128, 1] by decide +kernel] at hI ⊢
  have hb : Below w.heap.size w w1 := (((Below.refl _ w).alloc (Nat.le_refl _) _).alloc (by simp) _).trans (hbel.mono (by simp; omega))
  have Hb := Lib.hid hb
  clear hb hbel
  have hcv := conv_sees (dst := 9) Try.underlying22 Try.underlying5 Try.underlying9 2 2 rfl hI.sees
  clear hI
  rw [show strOf [128, 1] = ⟨#[128, 1]⟩ by decide] at hcv
  simp only [List.length_cons, List.length_nil, Nat.zero_add, Nat.reduceAdd]
  go_wp2_with fail
  refine (join_any 5 6 0 _ (by omega) (by omega) (by omega) (by omega)).mono ?_
  rintro e w2 ⟨rfl, hb2⟩
  have Hb2 := Lib.hid (Hb.out.trans (hb2.mono Hb.out.size))
  clear hb2
  rw [show Cm.join 5 6 (Int.toNat 0) = 3 by decide +kernel]
  go_wp2_with fail
  go_ret
  exact ⟨rfl, Hb2.out⟩
end Go.Proofs.Ytiopnbjmnalaeaa
