/- Contract of annuletlaw01.awake. -/
import Derived.Test.YtphepdaaoglofaaUvar
namespace Go.Proofs.Ytphepdaaoglofaa
open Go.RowKit
set_option linter.unusedVariables false

theorem sees_new {w : World} (b : Nat) (l : List Nat) (cs : Array Value) (t : TypeId) (hb : b = w.heap.size) (h : cs.toList = ints .u8 l) : Sees .u8 (w.alloc (.cells cs t)) (b + 1) (some ⟨b, 0, none⟩) l := fun hl =>
  ⟨b, 0, rfl, by omega, fun i hi => by
    subst hb
    have hg := ints_get .u8 l i hi
    rw [← h] at hg
    simp only [World.cell?, World.alloc, Array.getElem?_push_size]
    simpa using hg⟩

set_option maxRecDepth 100000 in
set_option maxHeartbeats 400000 in
theorem awake_any (w : World) : Calls Try.prog 8 #[] w fun e w' => e = .returned (.bool true) ∧ Below w.heap.size w w' := by
  go_enter Try.func8, Try.ntmps8
  go_wp2_with fail
  refine (get_any (w.heap.size + 1) _ [128, 0] 2 2 _ rfl (by omega) (sees_new _ [128, 0] _ _ rfl rfl) (by decide)).mono ?_
  rintro e w1 ⟨rfl, rfl⟩
  rw [show Um.get [128, 0] = (0, 0, 3) by decide]
  go_wp2_with fail
  refine (get_any (w.heap.size + 2) _ [128] 1 1 _ rfl (by omega) (sees_new _ [128] _ _ (by simp) rfl) (by decide)).mono ?_
  rintro e w1 ⟨rfl, rfl⟩
  rw [show Um.get [128] = (0, 0, 2) by decide]
  go_wp2_with fail
  refine (put_any (w.heap.size + 2) _ [] 300 _ (by omega) (by omega) (World.ownsRow_nil _ _ 5 1) (by simp) (by simp)).mono ?_
  rintro e w1 ⟨v, rfl, hown, hbel⟩
  have hb : Below w.heap.size w w1 := ((((Below.refl _ w).alloc (Nat.le_refl _) _).alloc (by simp) _)).trans (hbel.mono (by simp))
  have Hb := Lib.hid hb
  clear hb hbel
  have hcv := conv_own (dst := 9) Try.underlying22 Try.underlying5 Try.underlying9 hown
  clear hown
  rw [show strOf ([] ++ Um.put (Int.toNat 300)) = ⟨#[172, 2]⟩ by decide] at hcv
  go_wp2_with fail
  refine (zig_any _ _ (by omega) (by omega)).mono ?_
  rintro e w2 ⟨rfl, rfl⟩
  rw [show zigI (-1) = 1 by decide]
  go_wp2_with fail
  refine (zag_any _ _ (by omega) (by omega)).mono ?_
  rintro e w2 ⟨rfl, rfl⟩
  rw [show zagI 1 = -1 by decide]
  go_wp2_with fail
  refine (size_any _ _ (by omega) (by omega)).mono ?_
  rintro e w2 ⟨rfl, rfl⟩
  rw [show ((Um.put (Int.toNat 128)).length : Int) = 2 by decide]
  go_wp2_with fail
  go_ret
  exact ⟨rfl, Hb.out⟩
end Go.Proofs.Ytphepdaaoglofaa
