/- The walk of the law HashMixes: it answers true, and nothing that was there has turned. -/
import Derived.Test.YtjcbkpliljbjpaaAwake5
import Derived.Test.YtjcbkpliljbjpaaRef5
import Derived.Test.YtjcbkpliljbjpaaFrame
namespace Go.Proofs.Ytjcbkpliljbjpaa
open Go.RowKit
set_option linter.unusedVariables false

theorem hashMixes_walk (u : Int) (w : World) (wu : (Lit.int .u64 u).wf = true) :
    Calls Try.prog 4 #[.int .u64 u] w fun e w' => e = .returned (.bool true) ∧ Below w.heap.size w w' := by
  obtain ⟨h1, h2⟩ := bounds_u64 wu
  clear wu
  obtain ⟨u, rfl⟩ := Int.eq_ofNat_of_zero_le h1
  have hu : u < 18446744073709551616 := by omega
  clear h1 h2
  obtain ⟨a, Ha⟩ : ∃ a, Hid (Hm.mix u = a) := ⟨_, rfl⟩
  go_enter Try.func4, Try.ntmps4
  go_wp2_with fail
  refine (mix_any u _ hu).mono ?_
  rintro e w1 ⟨rfl, rfl⟩
  rw [Ha.out]
  go_wp2_with fail
  refine (mixr_any u _ hu).mono ?_
  rintro e w1 ⟨rfl, rfl⟩
  rw [Ha.out]
  go_wp2_with fail
  refine (awake5_any _).mono ?_
  rintro e w1 ⟨rfl, hb⟩
  have HB := Lib.hid hb
  clear hb
  go_wp2_with fail
  go_ret
  exact ⟨rfl, HB.out⟩
end Go.Proofs.Ytjcbkpliljbjpaa
