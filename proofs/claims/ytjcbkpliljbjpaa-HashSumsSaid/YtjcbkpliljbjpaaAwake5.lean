/- Contract of annuletlaw05.awake. -/
import Derived.Test.YtjcbkpliljbjpaaHash
namespace Go.Proofs.Ytjcbkpliljbjpaa
open Go.RowKit
set_option linter.unusedVariables false

theorem mix_ne : ∃ m, Hid (Hm.mix 1 = m) ∧ ((m : Int) != 1) = true := ⟨_, rfl, by decide +kernel⟩
theorem awake5_any (w : World) : Calls Try.prog 6 #[] w fun e w' => e = .returned (.bool true) ∧ Below w.heap.size w w' := by
  have s0 := Lib.hid (show Hm.sum (List.map UInt8.toNat []) = 14695981039346656037 by decide +kernel)
  have s1 := Lib.hid (show Hm.sum (List.map UInt8.toNat [97]) = 12638187200555641996 by decide +kernel)
  have p1 := Lib.hid (show Hm.place (List.map UInt8.toNat [97]) = Hm.mix 12638187200555641996 by decide +kernel)
  have m0 := Lib.hid (show Hm.mix 0 = 0 by decide +kernel)
  have hb7 := Hm.mix_lt (u := 7) (by omega)
  have u7 := Lib.hid (Hm.unmix_mix (u := 7) (by omega))
  obtain ⟨m1, M1, n1⟩ := mix_ne
  obtain ⟨m7, M7⟩ : ∃ m, Hid (Hm.mix 7 = m) := ⟨_, rfl⟩
  obtain ⟨ma, MA⟩ : ∃ m, Hid (Hm.mix 12638187200555641996 = m) := ⟨_, rfl⟩
  rw [M7.out] at u7 hb7
  rw [MA.out] at p1
  go_enter Try.func6, Try.ntmps6
  go_wp2_with fail
  refine (hsum_any (Txt.lit []) (by simp) _).mono ?_
  rintro e w1 ⟨rfl, rfl⟩
  rw [s0.out]
  go_wp2_with fail
  refine (hsum_any (Txt.lit [97]) (by simp) _).mono ?_
  rintro e w1 ⟨rfl, rfl⟩
  rw [s1.out]
  go_wp2_with fail
  refine (mix_any 0 _ (by omega)).mono ?_
  rintro e w1 ⟨rfl, rfl⟩
  rw [m0.out]
  go_wp2_with fail
  refine (mix_any 7 _ (by omega)).mono ?_
  rintro e w1 ⟨rfl, rfl⟩
  rw [M7.out]
  go_wp2_with fail
  refine (unmix_any m7 _ hb7).mono ?_
  rintro e w1 ⟨rfl, rfl⟩
  rw [u7.out]
  go_wp2_with fail
  refine (place_any (Txt.lit [97]) (by simp) _).mono ?_
  rintro e w1 ⟨rfl, rfl⟩
  rw [p1.out]
  go_wp2_with fail
  refine (hsum_any (Txt.lit [97]) (by simp) _).mono ?_
  rintro e w1 ⟨rfl, rfl⟩
  rw [s1.out]
  go_wp2_with fail
  refine (mix_any 12638187200555641996 _ (by omega)).mono ?_
  rintro e w1 ⟨rfl, rfl⟩
  rw [MA.out]
  go_wp2_with fail
  refine (mix_any 1 _ (by omega)).mono ?_
  rintro e w1 ⟨rfl, rfl⟩
  rw [M1.out]
  go_wp2_with fail
  go_ret
  exact ⟨rfl, Below.refl _ _⟩
end Go.Proofs.Ytjcbkpliljbjpaa
