/- The walk of the law VersBest. -/
import Derived.Test.YtocgoibohfjgjaaDoorAwake24
namespace Go.Proofs.YtocgoibohfjgjaaDoor
open Go.RowKit
set_option linter.unusedVariables false
set_option maxRecDepth 100000
set_option linter.unusedSimpArgs false

set_option maxHeartbeats 2000000 in
theorem versBest_walk (a0 a1 v : Int) (w : World) (w0 : (Lit.int .u16 a0).wf = true) (w1 : (Lit.int .u16 a1).wf = true) (w2 : (Lit.int .i64 v).wf = true) :
    Calls Tryd.prog 4 #[.int .u16 a0, .int .u16 a1, .int .i64 v] w fun e w' => e = .returned (.bool true) ∧ Below w.heap.size w w' := by
  obtain ⟨p0, q0⟩ := bounds_u16 w0
  obtain ⟨p1, q1⟩ := bounds_u16 w1
  obtain ⟨p2, q2⟩ := bounds_i64 w2
  obtain ⟨a, rfl⟩ := Int.eq_ofNat_of_zero_le p0
  obtain ⟨b, rfl⟩ := Int.eq_ofNat_of_zero_le p1
  have ha : a < 65536 := by omega
  have hb : b < 65536 := by omega
  have p2' : -9223372036854775808 ≤ v := by omega
  have q2' : v ≤ 9223372036854775807 := by omega
  have C1 := Lib.hid (fun W => cbest24_any (w := W) ha hb)
  have R1 := Lib.hid (fun W => rbest24_any (w := W) ha hb)
  have C2 := Lib.hid (fun W => cbest24_any (w := W) hb ha)
  rw [Vs.best_comm b a] at C2
  have hbl := Vs.bestN_le a b 16
  have HH := Vs.best_has a b
  have CM := Lib.hid (fun W => cmode24_any (w := W) p2' q2')
  have RM := Lib.hid (fun W => rmode24_any (w := W) p2' q2')
  have HA := Lib.hid (fun W => chas24_any (w := W) (s := a) (v := ((Vs.best a b : Nat) : Int)) ha (by omega) (by have : Vs.best a b ≤ 16 := hbl; omega))
  have HB := Lib.hid (fun W => chas24_any (w := W) (s := b) (v := ((Vs.best a b : Nat) : Int)) hb (by omega) (by have : Vs.best a b ≤ 16 := hbl; omega))
  obtain ⟨n, hn⟩ : ∃ n, Hid (Vs.best a b = n) := ⟨_, Lib.hid rfl⟩
  rw [hn.out] at C1 R1 C2 HA HB HH
  obtain ⟨m, hm⟩ : ∃ m, Hid (Vs.mode v = m) := ⟨_, Lib.hid rfl⟩
  rw [hm.out] at CM RM
  have e1 : ((n : Int) == (n : Int)) = true := by simp
  have e2 : ((m : Int) == (m : Int)) = true := by simp
  clear hbl w0 w1 w2 p0 q0 p1 q1 p2 q2
  rcases HH with h0 | ⟨h1, h2⟩
  · subst h0
    go_enter Tryd.func4, Tryd.ntmps4
    go_wp2_with fail
    refine (C1.out _).mono ?_
    rintro e w1 ⟨rfl, hb⟩
    have H1 := Lib.hid hb
    clear hb
    go_wp2_with fail
    refine (R1.out _).mono ?_
    rintro e w2 ⟨rfl, rfl⟩
    go_wp2_with fail
    refine (C2.out _).mono ?_
    rintro e w3 ⟨rfl, hb⟩
    have H3 := Lib.hid (H1.out.trans (hb.mono H1.out.size))
    clear hb
    go_wp2_with fail
    refine (CM.out _).mono ?_
    rintro e w4 ⟨rfl, hb⟩
    have H4 := Lib.hid (H3.out.trans (hb.mono H3.out.size))
    clear hb
    go_wp2_with fail
    refine (RM.out _).mono ?_
    rintro e w5 ⟨rfl, rfl⟩
    go_wp2_with fail
    refine (awake24 _).mono ?_
    rintro e w6 ⟨rfl, hb⟩
    have H6 := Lib.hid (H4.out.trans (hb.mono H4.out.size))
    clear hb
    go_wp2_with fail
    go_ret
    exact ⟨rfl, H6.out⟩
  · rw [h1] at HA
    rw [h2] at HB
    by_cases h0 : n = 0
    · have hz : ((n : Int) == 0) = true := by simp; omega
      clear h0 h1 h2
      go_enter Tryd.func4, Tryd.ntmps4
      go_wp2_with fail
      refine (C1.out _).mono ?_
      rintro e w1 ⟨rfl, hb⟩
      have H1 := Lib.hid hb
      clear hb
      go_wp2_with fail
      refine (R1.out _).mono ?_
      rintro e w2 ⟨rfl, rfl⟩
      go_wp2_with fail
      refine (C2.out _).mono ?_
      rintro e w3 ⟨rfl, hb⟩
      have H3 := Lib.hid (H1.out.trans (hb.mono H1.out.size))
      clear hb
      go_wp2_with fail
      refine (CM.out _).mono ?_
      rintro e w4 ⟨rfl, hb⟩
      have H4 := Lib.hid (H3.out.trans (hb.mono H3.out.size))
      clear hb
      go_wp2_with fail
      refine (RM.out _).mono ?_
      rintro e w5 ⟨rfl, rfl⟩
      go_wp2_with fail
      refine (awake24 _).mono ?_
      rintro e w6 ⟨rfl, hb⟩
      have H6 := Lib.hid (H4.out.trans (hb.mono H4.out.size))
      clear hb
      go_wp2_with fail
      go_ret
      exact ⟨rfl, H6.out⟩
    · have hz : ((n : Int) == 0) = false := by simp; omega
      clear h0 h1 h2
      go_enter Tryd.func4, Tryd.ntmps4
      go_wp2_with fail
      refine (C1.out _).mono ?_
      rintro e w1 ⟨rfl, hb⟩
      have H1 := Lib.hid hb
      clear hb
      go_wp2_with fail
      refine (R1.out _).mono ?_
      rintro e w2 ⟨rfl, rfl⟩
      go_wp2_with fail
      refine (C2.out _).mono ?_
      rintro e w3 ⟨rfl, hb⟩
      have H3 := Lib.hid (H1.out.trans (hb.mono H1.out.size))
      clear hb
      go_wp2_with fail
      refine (HA.out _).mono ?_
      rintro e wa ⟨rfl, hb⟩
      have Ha := Lib.hid (H3.out.trans (hb.mono H3.out.size))
      clear hb
      go_wp2_with fail
      refine (HB.out _).mono ?_
      rintro e wb ⟨rfl, hb⟩
      have Hb := Lib.hid (Ha.out.trans (hb.mono Ha.out.size))
      clear hb
      go_wp2_with fail
      refine (CM.out _).mono ?_
      rintro e w4 ⟨rfl, hb⟩
      have H4 := Lib.hid (Hb.out.trans (hb.mono Hb.out.size))
      clear hb
      go_wp2_with fail
      refine (RM.out _).mono ?_
      rintro e w5 ⟨rfl, rfl⟩
      go_wp2_with fail
      refine (awake24 _).mono ?_
      rintro e w6 ⟨rfl, hb⟩
      have H6 := Lib.hid (H4.out.trans (hb.mono H4.out.size))
      clear hb
      go_wp2_with fail
      go_ret
      exact ⟨rfl, H6.out⟩
end Go.Proofs.YtocgoibohfjgjaaDoor
