/- The walk of the law RingRound: it answers true, and nothing that was there has turned. -/
import Derived.Test.YtjkpkailcemjhaaAwake3
import Derived.Test.YtjkpkailcemjhaaFrame
namespace Go.Proofs.Ytjkpkailcemjhaa
open Go.RowKit
set_option linter.unusedVariables false

set_option maxRecDepth 100000 in
set_option maxHeartbeats 400000 in
theorem ringRound_walk (a x b : Int) (w : World) (wa : (Lit.int .u64 a).wf = true) (wx : (Lit.int .u64 x).wf = true) (wb : (Lit.int .u64 b).wf = true) :
    Calls Try.prog 5 #[.int .u64 a, .int .u64 x, .int .u64 b] w fun e w' => e = .returned (.bool true) ∧ Below w.heap.size w w' := by
  obtain ⟨h1, h2⟩ := bounds_u64 wa
  obtain ⟨h3, h4⟩ := bounds_u64 wx
  obtain ⟨h5, h6⟩ := bounds_u64 wb
  clear wa wx wb
  obtain ⟨a, rfl⟩ := Int.eq_ofNat_of_zero_le h1
  obtain ⟨x, rfl⟩ := Int.eq_ofNat_of_zero_le h3
  obtain ⟨b, rfl⟩ := Int.eq_ofNat_of_zero_le h5
  have ha : a < 18446744073709551616 := by omega
  have hx : x < 18446744073709551616 := by omega
  have hb : b < 18446744073709551616 := by omega
  clear h1 h2 h3 h4 h5 h6
  have hsum : IntKind.u64.wrap ((Rm.dist a x : Int) + (Rm.dist x b : Int)) = (Rm.dist a b : Int) := by
    have := Rm.round a x b ha hx hb
    rw [IntKind.wrap_u64]; omega
  have HO := Lib.hid (fun h => Rm.other a x b h)
  have HE := Lib.hid (Rm.with_end a x b)
  obtain ⟨d1, Hd1⟩ : ∃ d, Hid (Rm.dist a x = d) := ⟨_, rfl⟩
  obtain ⟨d2, Hd2⟩ : ∃ d, Hid (Rm.dist x b = d) := ⟨_, rfl⟩
  obtain ⟨d3, Hd3⟩ : ∃ d, Hid (Rm.dist a b = d) := ⟨_, rfl⟩
  obtain ⟨u, Hu⟩ : ∃ u, Hid (Rm.upto a x b = u) := ⟨_, rfl⟩
  obtain ⟨v, Hv⟩ : ∃ v, Hid (Rm.between a x b = v) := ⟨_, rfl⟩
  rw [Hd1.out, Hd2.out, Hd3.out] at hsum
  rw [Hu.out] at HO HE
  rw [Hv.out] at HE
  have three : (v = true ∧ u = true ∧ Hid True) ∨ (v = false ∧ u = true ∧ ((x : Int) == (b : Int)) = true) ∨ (v = false ∧ u = false ∧ ((x : Int) == (b : Int)) = false) := by
    have he := HE.out
    by_cases hxb : x = b
    · have h : ((x : Int) == (b : Int)) = true := by simp; omega
      cases v <;> simp_all [Hid]
    · have h : ((x : Int) == (b : Int)) = false := by simp; omega
      cases v <;> simp_all [Hid]
  have HO' : Hid (a ≠ b → Rm.upto b x a = !u) := Lib.hid fun h => by rw [HO.out h, Bool.not_not]
  clear HO HE
  rcases three with ⟨hv, hu, hxe⟩ | ⟨hv, hu, hxe⟩ | ⟨hv, hu, hxe⟩
  all_goals
    subst hv hu
    by_cases hab : a = b
    · have hne : ((a : Int) != (b : Int)) = false := by simp; omega
      clear HO' hab
      go_enter Try.func5, Try.ntmps5
      go_wp2_with fail
      refine (dist_any a x _ ha hx).mono ?_
      rintro e w1 ⟨rfl, rfl⟩
      rw [Hd1.out]
      go_wp2_with fail
      refine (dist_any x b _ hx hb).mono ?_
      rintro e w1 ⟨rfl, rfl⟩
      rw [Hd2.out]
      go_wp2_with fail
      refine (dist_any a b _ ha hb).mono ?_
      rintro e w1 ⟨rfl, rfl⟩
      rw [Hd3.out]
      go_wp2_with fail
      refine (upto_any a x b _ ha hx hb).mono ?_
      rintro e w1 ⟨rfl, rfl⟩
      rw [Hu.out]
      go_wp2_with fail
      refine (between_any a x b _ ha hx hb).mono ?_
      rintro e w1 ⟨rfl, rfl⟩
      rw [Hv.out]
      go_wp2_with fail
      refine (awake3_any _).mono ?_
      rintro e w1 ⟨rfl, hb⟩
      have HB := Lib.hid hb
      clear hb
      go_wp2_with fail
      go_ret
      exact ⟨rfl, HB.out⟩
    · have hne : ((a : Int) != (b : Int)) = true := by simp; omega
      have HN := HO'.out hab
      replace HN := Lib.hid HN
      clear HO' hab
      go_enter Try.func5, Try.ntmps5
      go_wp2_with fail
      refine (dist_any a x _ ha hx).mono ?_
      rintro e w1 ⟨rfl, rfl⟩
      rw [Hd1.out]
      go_wp2_with fail
      refine (dist_any x b _ hx hb).mono ?_
      rintro e w1 ⟨rfl, rfl⟩
      rw [Hd2.out]
      go_wp2_with fail
      refine (dist_any a b _ ha hb).mono ?_
      rintro e w1 ⟨rfl, rfl⟩
      rw [Hd3.out]
      go_wp2_with fail
      refine (upto_any a x b _ ha hx hb).mono ?_
      rintro e w1 ⟨rfl, rfl⟩
      rw [Hu.out]
      go_wp2_with fail
      refine (upto_any b x a _ hb hx ha).mono ?_
      rintro e w1 ⟨rfl, rfl⟩
      rw [HN.out]
      go_wp2_with fail
      refine (upto_any a x b _ ha hx hb).mono ?_
      rintro e w1 ⟨rfl, rfl⟩
      rw [Hu.out]
      go_wp2_with fail
      refine (between_any a x b _ ha hx hb).mono ?_
      rintro e w1 ⟨rfl, rfl⟩
      rw [Hv.out]
      go_wp2_with fail
      refine (awake3_any _).mono ?_
      rintro e w1 ⟨rfl, hb⟩
      have HB := Lib.hid hb
      clear hb
      go_wp2_with fail
      go_ret
      exact ⟨rfl, HB.out⟩
end Go.Proofs.Ytjkpkailcemjhaa
