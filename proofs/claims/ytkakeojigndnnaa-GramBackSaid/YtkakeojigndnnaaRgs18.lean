/- Contract of layer 18's reference: Same. -/
import Derived.Test.YtkakeojigndnnaaPG
import Derived.Test.YtkakeojigndnnaaPA
namespace Go.Proofs.Ytkakeojigndnnaa
open Go.RowKit
set_option linter.unusedVariables false
set_option maxRecDepth 100000
set_option linter.unusedSimpArgs false

theorem nef {a b : Nat} (h : a = b) : ((a : Int) != (b : Int)) = false := by subst h; simp
theorem net {a b : Nat} (h : ¬ a = b) : ((a : Int) != (b : Int)) = true := by simp; omega
theorem Gd.same_iff (g h : Gd) : (g = h) ↔ (g.kind = h.kind ∧ g.version = h.version ∧ g.epoch = h.epoch ∧ g.id = h.id ∧ g.index = h.index ∧ g.count = h.count ∧ g.body = h.body) := by
  obtain ⟨a, b, c, d, e, f, l⟩ := g
  obtain ⟨a', b', c', d', e', f', l'⟩ := h
  simp
set_option maxHeartbeats 2000000 in
theorem rgsame18_any {w : World} {B B' : Nat} {g h : Gd} {v u : Value} (H : Gv w B g v) (K : Gv w B' h u) :
    Calls Try.prog 13 #[v, u] w fun e w' => e = .returned (.bool (decide (g = h))) ∧ Below w.heap.size w w' := by
  obtain ⟨b, A, c, w1, rfl, hb, hal, hsz, hx, hb1⟩ := boxedG H
  have HB1 : Hid (Below w.heap.size w w1) := Lib.hid (by rw [hb]; exact hb1)
  obtain ⟨b2, A2, c2, w2, rfl, hbb, hal2, hsz2, hy, hb2⟩ := boxedG (K.kept HB1.out)
  have hb2' : Below w1.heap.size w1 w2 := by rw [hbb]; exact hb2
  have HB2 : Hid (Below w.heap.size w w2) := Lib.hid (HB1.out.trans (hb2'.mono HB1.out.size))
  have hx2 := hx.kept hb2'
  obtain ⟨k0, k1, k2, k3, k4, k5, k6⟩ := hx2.cells
  obtain ⟨m0, m1, m2, m3, m4, m5, m6⟩ := hy.cells
  have HV1 := Lib.hid (fun W (hW : Below w2.heap.size w2 W) => ((hx2.kept hW).piece).conv)
  have HV2 := Lib.hid (fun W (hW : Below w2.heap.size w2 W) => ((hy.kept hW).piece).conv)
  have HS := Lib.hid (strOf_ne hx.ok.body hy.ok.body)
  have HI := Lib.hid (Gd.same_iff g h)
  obtain ⟨n, hn⟩ : ∃ n, Hid (g.body.length = n) := ⟨_, Lib.hid rfl⟩
  obtain ⟨m, hm⟩ : ∃ m, Hid (h.body.length = m) := ⟨_, Lib.hid rfl⟩
  rw [hn.out] at hal k6 HV1 ⊢
  rw [hm.out] at hal2 m6 HV2 ⊢
  obtain ⟨R, hR⟩ : ∃ R, Hid (decide (g = h) = R) := ⟨_, Lib.hid rfl⟩
  rw [hR.out]
  clear hx hx2 hy hb1 hb2 hb2' H K hsz hsz2
  by_cases p0 : g.kind = h.kind
  case neg =>
    have HRF : Hid (R = false) := Lib.hid (by rw [← hR.out, decide_eq_false_iff_not, HI.out]; exact fun e => p0 e.1)
    have r0 := net p0
    clear p0
    go_enter Try.func13, Try.ntmps13
    go_wp2_with fail
    go_ret
    exact ⟨ret_bool HRF.out.symm, HB2.out⟩
  have r0 := nef p0
  have P0 := Lib.hid p0
  clear p0
  by_cases p1 : g.version = h.version
  case neg =>
    have HRF : Hid (R = false) := Lib.hid (by rw [← hR.out, decide_eq_false_iff_not, HI.out]; exact fun e => p1 e.2.1)
    have r1 := net p1
    clear p1
    go_enter Try.func13, Try.ntmps13
    go_wp2_with fail
    go_ret
    exact ⟨ret_bool HRF.out.symm, HB2.out⟩
  have r1 := nef p1
  have P1 := Lib.hid p1
  clear p1
  by_cases p2 : g.epoch = h.epoch
  case neg =>
    have HRF : Hid (R = false) := Lib.hid (by rw [← hR.out, decide_eq_false_iff_not, HI.out]; exact fun e => p2 e.2.2.1)
    have r2 := net p2
    clear p2
    go_enter Try.func13, Try.ntmps13
    go_wp2_with fail
    go_ret
    exact ⟨ret_bool HRF.out.symm, HB2.out⟩
  have r2 := nef p2
  have P2 := Lib.hid p2
  clear p2
  by_cases p3 : g.id = h.id
  case neg =>
    have HRF : Hid (R = false) := Lib.hid (by rw [← hR.out, decide_eq_false_iff_not, HI.out]; exact fun e => p3 e.2.2.2.1)
    have r3 := net p3
    clear p3
    go_enter Try.func13, Try.ntmps13
    go_wp2_with fail
    go_ret
    exact ⟨ret_bool HRF.out.symm, HB2.out⟩
  have r3 := nef p3
  have P3 := Lib.hid p3
  clear p3
  by_cases p4 : g.index = h.index
  case neg =>
    have HRF : Hid (R = false) := Lib.hid (by rw [← hR.out, decide_eq_false_iff_not, HI.out]; exact fun e => p4 e.2.2.2.2.1)
    have r4 := net p4
    clear p4
    go_enter Try.func13, Try.ntmps13
    go_wp2_with fail
    go_ret
    exact ⟨ret_bool HRF.out.symm, HB2.out⟩
  have r4 := nef p4
  have P4 := Lib.hid p4
  clear p4
  by_cases p5 : g.count = h.count
  case neg =>
    have HRF : Hid (R = false) := Lib.hid (by rw [← hR.out, decide_eq_false_iff_not, HI.out]; exact fun e => p5 e.2.2.2.2.2.1)
    have r5 := net p5
    clear p5
    go_enter Try.func13, Try.ntmps13
    go_wp2_with fail
    go_ret
    exact ⟨ret_bool HRF.out.symm, HB2.out⟩
  have r5 := nef p5
  have P5 := Lib.hid p5
  clear p5
  have HRD : Hid (R = decide (g.body = h.body)) := Lib.hid (by
    rw [← hR.out]
    rw [decide_eq_decide, HI.out]
    exact ⟨fun e => e.2.2.2.2.2.2, fun e => ⟨P0.out, P1.out, P2.out, P3.out, P4.out, P5.out, e⟩⟩)
  have he := HS.out
  rw [← HRD.out] at he
  obtain ⟨s1, hs1⟩ : ∃ s, Hid (strOf g.body = s) := ⟨_, Lib.hid rfl⟩
  obtain ⟨s2, hs2⟩ : ∃ s, Hid (strOf h.body = s) := ⟨_, Lib.hid rfl⟩
  rw [hs1.out] at HV1 he
  rw [hs2.out] at HV2 he
  have HE := Lib.hid he
  have v1 := HV1.out w2 (Below.refl _ _)
  have v2 := HV2.out w2 (Below.refl _ _)
  go_enter Try.func13, Try.ntmps13
  go_wp2_with fail
  go_ret
  exact ⟨rfl, HB2.out⟩
end Go.Proofs.Ytkakeojigndnnaa
