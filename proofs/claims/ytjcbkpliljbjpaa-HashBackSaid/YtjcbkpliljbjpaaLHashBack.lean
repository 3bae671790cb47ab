/- The walk of the law HashBack: it answers true, and nothing that was there has turned. -/
import Derived.Test.YtjcbkpliljbjpaaAwake5
import Derived.Test.YtjcbkpliljbjpaaFrame
namespace Go.Proofs.Ytjcbkpliljbjpaa
open Go.RowKit
set_option linter.unusedVariables false

theorem hashBack_walk (u v : Int) (w : World) (wu : (Lit.int .u64 u).wf = true) (wv : (Lit.int .u64 v).wf = true) :
    Calls Try.prog 5 #[.int .u64 u, .int .u64 v] w fun e w' => e = .returned (.bool true) ∧ Below w.heap.size w w' := by
  obtain ⟨h1, h2⟩ := bounds_u64 wu
  obtain ⟨h3, h4⟩ := bounds_u64 wv
  clear wu wv
  obtain ⟨u, rfl⟩ := Int.eq_ofNat_of_zero_le h1
  obtain ⟨v, rfl⟩ := Int.eq_ofNat_of_zero_le h3
  have hu : u < 18446744073709551616 := by omega
  have hv : v < 18446744073709551616 := by omega
  clear h1 h2 h3 h4
  have ha := Hm.mix_lt hu
  have hc := Hm.unmix_lt hu
  have U1 := Lib.hid (Hm.unmix_mix hu)
  have U2 := Lib.hid (Hm.mix_unmix hu)
  have heq : ((u : Int) == (v : Int)) = ((Hm.mix u : Int) == (Hm.mix v : Int)) := by
    rw [Bool.eq_iff_iff, beq_iff_eq, beq_iff_eq, Int.natCast_inj, Int.natCast_inj]
    exact ⟨fun h => by rw [h], Hm.mix_inj hu hv⟩
  obtain ⟨a, Ha⟩ : ∃ a, Hid (Hm.mix u = a) := ⟨_, rfl⟩
  obtain ⟨b, Hb⟩ : ∃ b, Hid (Hm.mix v = b) := ⟨_, rfl⟩
  obtain ⟨c, Hc⟩ : ∃ c, Hid (Hm.unmix u = c) := ⟨_, rfl⟩
  rw [Ha.out] at ha U1 heq
  rw [Hc.out] at hc U2
  rw [Hb.out] at heq
  obtain ⟨q, Hq⟩ : ∃ q, Hid (((a : Int) == (b : Int)) = q) := ⟨_, rfl⟩
  have hq : ((a : Int) == (b : Int)) = q := Hq.out
  rw [Hq.out] at heq
  go_enter Try.func5, Try.ntmps5
  go_wp2_with fail
  refine (mix_any u _ hu).mono ?_
  rintro e w1 ⟨rfl, rfl⟩
  rw [Ha.out]
  go_wp2_with fail
  refine (unmix_any a _ ha).mono ?_
  rintro e w1 ⟨rfl, rfl⟩
  rw [U1.out]
  go_wp2_with fail
  refine (unmix_any u _ hu).mono ?_
  rintro e w1 ⟨rfl, rfl⟩
  rw [Hc.out]
  go_wp2_with fail
  refine (mix_any c _ hc).mono ?_
  rintro e w1 ⟨rfl, rfl⟩
  rw [U2.out]
  go_wp2_with fail
  refine (mix_any u _ hu).mono ?_
  rintro e w1 ⟨rfl, rfl⟩
  rw [Ha.out]
  go_wp2_with fail
  refine (mix_any v _ hv).mono ?_
  rintro e w1 ⟨rfl, rfl⟩
  rw [Hb.out]
  go_wp2_with fail
  refine (awake5_any _).mono ?_
  rintro e w1 ⟨rfl, hb⟩
  have HB := Lib.hid hb
  clear hb
  go_wp2_with fail
  go_ret
  exact ⟨rfl, HB.out⟩
end Go.Proofs.Ytjcbkpliljbjpaa
