/- The walk of the law RingWays: it answers true, and nothing that was there has turned. -/
import Derived.Test.YtjkpkailcemjhaaAwake3
import Derived.Test.YtjkpkailcemjhaaFrame
namespace Go.Proofs.Ytjkpkailcemjhaa
open Go.RowKit
set_option linter.unusedVariables false

set_option maxRecDepth 100000 in
set_option maxHeartbeats 400000 in
theorem ringWays_walk (a x b bit : Int) (w : World) (wa : (Lit.int .u64 a).wf = true) (wx : (Lit.int .u64 x).wf = true) (wb : (Lit.int .u64 b).wf = true) (wt : (Lit.int .i64 bit).wf = true) :
    Calls Try.prog 3 #[.int .u64 a, .int .u64 x, .int .u64 b, .int .i64 bit] w fun e w' => e = .returned (.bool true) ∧ Below w.heap.size w w' := by
  obtain ⟨h1, h2⟩ := bounds_u64 wa
  obtain ⟨h3, h4⟩ := bounds_u64 wx
  obtain ⟨h5, h6⟩ := bounds_u64 wb
  obtain ⟨h7, h8⟩ := bounds_i64 wt
  clear wa wx wb wt
  obtain ⟨a, rfl⟩ := Int.eq_ofNat_of_zero_le h1
  obtain ⟨x, rfl⟩ := Int.eq_ofNat_of_zero_le h3
  obtain ⟨b, rfl⟩ := Int.eq_ofNat_of_zero_le h5
  have ha : a < 18446744073709551616 := by omega
  have hx : x < 18446744073709551616 := by omega
  have hb : b < 18446744073709551616 := by omega
  clear h1 h2 h3 h4 h5 h6
  obtain ⟨d, Hd⟩ : ∃ d, Hid (Rm.dist a b = d) := ⟨_, rfl⟩
  obtain ⟨u, Hu⟩ : ∃ u, Hid (Rm.upto a x b = u) := ⟨_, rfl⟩
  obtain ⟨v, Hv⟩ : ∃ v, Hid (Rm.between a x b = v) := ⟨_, rfl⟩
  obtain ⟨s, Hs⟩ : ∃ s, Hid (Rm.start a bit = s) := ⟨_, rfl⟩
  go_enter Try.func3, Try.ntmps3
  go_wp2_with fail
  refine (dist_any a b _ ha hb).mono ?_
  rintro e w1 ⟨rfl, rfl⟩
  rw [Hd.out]
  go_wp2_with fail
  refine (distr_any a b _ ha hb).mono ?_
  rintro e w1 ⟨rfl, rfl⟩
  rw [Hd.out]
  go_wp2_with fail
  refine (upto_any a x b _ ha hx hb).mono ?_
  rintro e w1 ⟨rfl, rfl⟩
  rw [Hu.out]
  go_wp2_with fail
  refine (uptor_any a x b _).mono ?_
  rintro e w1 ⟨rfl, rfl⟩
  rw [Hu.out]
  go_wp2_with fail
  refine (between_any a x b _ ha hx hb).mono ?_
  rintro e w1 ⟨rfl, rfl⟩
  rw [Hv.out]
  go_wp2_with fail
  refine (betweenr_any a x b _).mono ?_
  rintro e w1 ⟨rfl, rfl⟩
  rw [Hv.out]
  go_wp2_with fail
  refine (start_any a bit _ ha h7 h8).mono ?_
  rintro e w1 ⟨rfl, rfl⟩
  rw [Hs.out]
  go_wp2_with fail
  refine (startr_any a bit _ ha h7 h8).mono ?_
  rintro e w1 ⟨rfl, rfl⟩
  rw [Hs.out]
  go_wp2_with fail
  refine (awake3_any _).mono ?_
  rintro e w1 ⟨rfl, hb⟩
  have HB := Lib.hid hb
  clear hb
  go_wp2_with fail
  go_ret
  exact ⟨rfl, HB.out⟩
end Go.Proofs.Ytjkpkailcemjhaa
