/- Contracts of layer 18's code: Right, Same. -/
import Derived.Test.YtkakeojigndnnaaRev18
import Derived.Test.YtkakeojigndnnaaRgs18
namespace Go.Proofs.Ytkakeojigndnnaa
open Go.RowKit
set_option linter.unusedVariables false
set_option maxRecDepth 100000
set_option linter.unusedSimpArgs false

set_option maxHeartbeats 1000000 in
theorem gright18_any {w : World} {B : Nat} {g : Gd} {v : Value} (H : Gv w B g v) :
    Calls Try.prog 10 #[v] w fun e w' => e = .returned (.int .i64 (Gr.right g : Int)) ∧ Below w.heap.size w w' := by
  obtain ⟨b, A, c, w1, rfl, hb, hal, hsz, hx, hb1⟩ := boxedG H
  have HB : Hid (Below w.heap.size w w1) := Lib.hid (by rw [hb]; exact hb1)
  have HBb := Lib.hid hb1
  have ok := H.ok
  obtain ⟨k0, k1, k2, k3, k4, k5, k6⟩ := hx.cells
  have q1 := ok.kind
  have q5 := ok.index
  have q6 := ok.count
  have e9 := Lib.hid (fun h => Gr.right_kind (g := g) h)
  have e1 := Lib.hid (fun h k => Gr.right_arg (g := g) h k)
  have e5 := Lib.hid (fun h k l => Gr.right_long (g := g) h k l)
  have e0 := Lib.hid (fun h k l => Gr.right_good (g := g) h k l)
  obtain ⟨n, hn⟩ : ∃ n, Hid (g.body.length = n) := ⟨_, Lib.hid rfl⟩
  rw [hn.out] at hal k6 e5 e0 ⊢
  clear hx hb1 H hsz ok
  by_cases h1 : g.kind < 1 ∨ 2 < g.kind
  · rw [e9.out h1]
    have n1 : ((g.kind : Int) != 1) = true := by simp; omega
    have n2 : ((g.kind : Int) != 2) = true := by simp; omega
    clear h1
    go_enter Try.func10, Try.ntmps10
    go_wp2_with fail
    go_ret
    first | exact ⟨rfl, HB.out⟩ | exact ⟨rfl, HBb.out⟩
  obtain ⟨p1, hp1⟩ : ∃ p, Hid (((g.kind : Int) != 1) = p) := ⟨_, Lib.hid rfl⟩
  have hkk : (((g.kind : Int) != 1) = false) ∨ (((g.kind : Int) != 1) = true ∧ ((g.kind : Int) != 2) = false) := by
    by_cases h : g.kind = 1
    · left; simp; omega
    · right; refine ⟨?_, ?_⟩
      · simp; omega
      · simp; omega
  by_cases h4 : g.count ≤ g.index
  · rw [e1.out h1 (.inr h4)]
    rcases hkk with n1 | ⟨n1, n2⟩
    all_goals
      clear h1
      go_enter Try.func10, Try.ntmps10
      go_wp2_with fail
      go_ret
      first | exact ⟨rfl, HB.out⟩ | exact ⟨rfl, HBb.out⟩
  have hc : ¬ (g.count = 0 ∨ g.count ≤ g.index) := by omega
  by_cases h5 : 65487 < n
  · rw [e5.out h1 hc h5]
    rcases hkk with n1 | ⟨n1, n2⟩
    all_goals
      clear h1 hc
      go_enter Try.func10, Try.ntmps10
      go_wp2_with fail
      go_ret
      first | exact ⟨rfl, HB.out⟩ | exact ⟨rfl, HBb.out⟩
  · rw [e0.out h1 hc h5]
    rcases hkk with n1 | ⟨n1, n2⟩
    all_goals
      clear h1 hc
      go_enter Try.func10, Try.ntmps10
      go_wp2_with fail
      go_ret
      first | exact ⟨rfl, HB.out⟩ | exact ⟨rfl, HBb.out⟩
theorem eqf18 {a b : Nat} (h : ¬ a = b) : ((a : Int) == (b : Int)) = false := by simp; omega
theorem eqt18 {a b : Nat} (h : a = b) : ((a : Int) == (b : Int)) = true := by subst h; simp
set_option maxHeartbeats 2000000 in
theorem gsame18_any {w : World} {B B' : Nat} {g h : Gd} {v u : Value} (H : Gv w B g v) (K : Gv w B' h u) :
    Calls Try.prog 12 #[v, u] w fun e w' => e = .returned (.bool (decide (g = h))) ∧ Below w.heap.size w w' := by
  obtain ⟨b, A, c, w1, rfl, hb, hal, hsz, hx, hb1⟩ := boxedG H
  have HB1 : Hid (Below w.heap.size w w1) := Lib.hid (by rw [hb]; exact hb1)
  obtain ⟨b2, A2, c2, w2, rfl, hbb, hal2, hsz2, hy, hb2⟩ := boxedG (K.kept HB1.out)
  have hb2' : Below w1.heap.size w1 w2 := by rw [hbb]; exact hb2
  have HB2 : Hid (Below w.heap.size w w2) := Lib.hid (HB1.out.trans (hb2'.mono HB1.out.size))
  have hx2 := hx.kept hb2'
  obtain ⟨k0, k1, k2, k3, k4, k5, k6⟩ := hx2.cells
  obtain ⟨m0, m1, m2, m3, m4, m5, m6⟩ := hy.cells
  have HV1 := Lib.hid (fun W (hW : Below w2.heap.size w2 W) => ((hx2.kept hW).piece))
  have HV2 := Lib.hid (fun W (hW : Below w2.heap.size w2 W) => ((hy.kept hW).piece))
  have HBa := Lib.hid hx.ok.body
  have HBb := Lib.hid hy.ok.body
  have HI := Lib.hid (Gd.same_iff g h)
  obtain ⟨n, hn⟩ : ∃ n, Hid (g.body.length = n) := ⟨_, Lib.hid rfl⟩
  obtain ⟨m, hm⟩ : ∃ m, Hid (h.body.length = m) := ⟨_, Lib.hid rfl⟩
  rw [hn.out] at hal k6 HV1 ⊢
  rw [hm.out] at hal2 m6 HV2 ⊢
  obtain ⟨R, hR⟩ : ∃ R, Hid (decide (g = h) = R) := ⟨_, Lib.hid rfl⟩
  rw [hR.out]
  clear hx hx2 hy hb1 hb2 hb2' H K hsz hsz2
  by_cases p0 : g.kind = h.kind
  case neg =>
    have HRF : Hid (R = false) := Lib.hid (by rw [← hR.out, decide_eq_false_iff_not, HI.out]; exact fun e => p0 e.1)
    have r0 := eqf18 p0
    clear p0
    go_enter Try.func12, Try.ntmps12
    go_wp2_with fail
    go_ret
    exact ⟨ret_bool HRF.out.symm, HB2.out⟩
  have r0 := eqt18 p0
  have P0 := Lib.hid p0
  clear p0
  by_cases p1 : g.version = h.version
  case neg =>
    have HRF : Hid (R = false) := Lib.hid (by rw [← hR.out, decide_eq_false_iff_not, HI.out]; exact fun e => p1 e.2.1)
    have r1 := eqf18 p1
    clear p1
    go_enter Try.func12, Try.ntmps12
    go_wp2_with fail
    go_ret
    exact ⟨ret_bool HRF.out.symm, HB2.out⟩
  have r1 := eqt18 p1
  have P1 := Lib.hid p1
  clear p1
  by_cases p2 : g.epoch = h.epoch
  case neg =>
    have HRF : Hid (R = false) := Lib.hid (by rw [← hR.out, decide_eq_false_iff_not, HI.out]; exact fun e => p2 e.2.2.1)
    have r2 := eqf18 p2
    clear p2
    go_enter Try.func12, Try.ntmps12
    go_wp2_with fail
    go_ret
    exact ⟨ret_bool HRF.out.symm, HB2.out⟩
  have r2 := eqt18 p2
  have P2 := Lib.hid p2
  clear p2
  by_cases p3 : g.id = h.id
  case neg =>
    have HRF : Hid (R = false) := Lib.hid (by rw [← hR.out, decide_eq_false_iff_not, HI.out]; exact fun e => p3 e.2.2.2.1)
    have r3 := eqf18 p3
    clear p3
    go_enter Try.func12, Try.ntmps12
    go_wp2_with fail
    go_ret
    exact ⟨ret_bool HRF.out.symm, HB2.out⟩
  have r3 := eqt18 p3
  have P3 := Lib.hid p3
  clear p3
  by_cases p4 : g.index = h.index
  case neg =>
    have HRF : Hid (R = false) := Lib.hid (by rw [← hR.out, decide_eq_false_iff_not, HI.out]; exact fun e => p4 e.2.2.2.2.1)
    have r4 := eqf18 p4
    clear p4
    go_enter Try.func12, Try.ntmps12
    go_wp2_with fail
    go_ret
    exact ⟨ret_bool HRF.out.symm, HB2.out⟩
  have r4 := eqt18 p4
  have P4 := Lib.hid p4
  clear p4
  by_cases p5 : g.count = h.count
  case neg =>
    have HRF : Hid (R = false) := Lib.hid (by rw [← hR.out, decide_eq_false_iff_not, HI.out]; exact fun e => p5 e.2.2.2.2.2.1)
    have r5 := eqf18 p5
    clear p5
    go_enter Try.func12, Try.ntmps12
    go_wp2_with fail
    go_ret
    exact ⟨ret_bool HRF.out.symm, HB2.out⟩
  have r5 := eqt18 p5
  have P5 := Lib.hid p5
  clear p5
  have HRD : Hid (R = decide (g.body = h.body)) := Lib.hid (by
    rw [← hR.out]
    rw [decide_eq_decide, HI.out]
    exact ⟨fun e => e.2.2.2.2.2.2, fun e => ⟨P0.out, P1.out, P2.out, P3.out, P4.out, P5.out, e⟩⟩)
  have CE := Lib.hid (fun W (hW : Below w2.heap.size w2 W) => bequal_any (HV1.out W hW) (HV2.out W hW) HBa.out HBb.out)
  rw [← HRD.out] at CE
  go_enter Try.func12, Try.ntmps12
  go_wp2_with fail
  refine (CE.out _ (Below.refl _ _)).mono ?_
  rintro e w3 ⟨rfl, rfl⟩
  go_wp2_with fail
  go_ret
  exact ⟨rfl, HB2.out⟩
end Go.Proofs.Ytkakeojigndnnaa
