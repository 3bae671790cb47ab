/- The walk of the law GramGets. -/
import Derived.Test.YtkakeojigndnnaaAwake18
namespace Go.Proofs.Ytkakeojigndnnaa
open Go.RowKit
set_option linter.unusedVariables false
set_option maxRecDepth 100000
set_option linter.unusedSimpArgs false

set_option maxHeartbeats 4000000 in
theorem gramGets_walk (a0 : Option Addr) (len0 cap0 : Nat) (l0 : List Nat) (w : World) (R0 : Row .u8 w a0 len0 cap0 l0) :
    Calls Try.prog 4 #[.slice a0 len0 cap0] w fun e w' => e = .returned (.bool true) ∧ Below w.heap.size w w' := by
  obtain ⟨hP0, hlen0, hby0⟩ := row_piece R0
  have hm0 := R0.max
  have hc0 := R0.le
  unfold maxLen at hm0
  clear R0
  by_cases hbig : (1500 < len0 ∧ len0 ≤ 65507) ∨ 70000 < len0
  · have hd : (∃ _ : 1500 < len0, len0 ≤ 65507) ∨ (∃ _ : 1500 < len0, ∃ _ : ¬ len0 ≤ 65507, 70000 < len0) := by
      rcases hbig with ⟨h, h'⟩ | h
      · exact .inl ⟨h, h'⟩
      · exact .inr ⟨by omega, by omega, h⟩
    clear hbig hP0
    rcases hd with ⟨h1, h2⟩ | ⟨h1, h2, h3⟩
    all_goals
      go_enter Try.func4, Try.ntmps4
      go_wp2_with fail
      refine (awake18 _).mono ?_
      rintro e w1 ⟨rfl, hb⟩
      have HB := Lib.hid hb
      clear hb
      go_wp2_with fail
      go_ret
      exact ⟨rfl, HB.out⟩
  · have hd : (∃ _ : ¬ 1500 < len0, ¬ 70000 < len0) ∨ (∃ _ : 1500 < len0, ∃ _ : ¬ len0 ≤ 65507, ¬ 70000 < len0) := by
      by_cases h : 1500 < len0
      · exact .inr ⟨h, by omega, by omega⟩
      · exact .inl ⟨h, by omega⟩
    clear hbig
    have HP0 := Lib.hid (fun W (h : Below w.heap.size w W) => (hP0.kept h : Piece W W.heap.size (.slice a0 len0 cap0) l0))
    have CG := Lib.hid (fun W (h : Below w.heap.size w W) => gget18_any (HP0.out W h) (Nat.le_refl _) hby0 (by omega))
    have CR := Lib.hid (fun W (h : Below w.heap.size w W) => rgget18_any (HP0.out W h) (Nat.le_refl _) hby0 (by omega))
    obtain ⟨G, hG⟩ : ∃ G, Gr.get l0 = G := ⟨_, rfl⟩
    rw [hG] at CG CR
    obtain ⟨gd, er⟩ := G
    unfold GgetPost at CG CR
    have herr : ((er : Int) == (er : Int)) = true := by simp
    clear hP0 hlen0 hby0 hG
    rcases hd with ⟨h1, h2⟩ | ⟨h1, h2, h3⟩
    all_goals
      go_enter Try.func4, Try.ntmps4
      go_wp2_with fail
      refine (CG.out w (Below.refl _ _)).mono ?_
      rintro e w1 ⟨v1, rfl, hg1, hb1⟩
      obtain ⟨g1, A1, c1, p1, q1, rfl, hgz1, hal1, hW1, hst1, hx1, hc1, hlt1⟩ := var_gv hg1.gv
      have HW1 := Lib.hid hW1
      have HX1 := Lib.hid (fun W (h : Below q1.heap.size q1 W) => hx1.kept h)
      have HB1 := Lib.hid (hb1.trans (hc1.mono hb1.size))
      clear hg1 hb1 hW1 hx1 hc1
      go_wp2_with (refine wpList_store_whole rfl rfl rfl rfl rfl HW1.out (gramI rfl) rfl (by simp [Value.oneCell']) ?_; rw [hst1])
      refine (CR.out q1 HB1.out).mono ?_
      rintro e w2 ⟨v2, rfl, hg2, hb2⟩
      obtain ⟨g2, A2, c2, p2, q2, rfl, hgz2, hal2, hW2, hst2, hx2, hc2, hlt2⟩ := var_gv hg2.gv
      have HW2 := Lib.hid hW2
      have hk2 := hb2.trans (hc2.mono hb2.size)
      have HB2 := Lib.hid (HB1.out.trans (hk2.mono HB1.out.size))
      have hy1 := HX1.out q2 hk2
      obtain ⟨k0, k1, k2, k3, k4, k5, k6⟩ := hy1.cells
      obtain ⟨m0, m1, m2, m3, m4, m5, m6⟩ := hx2.cells
      have SM := Lib.hid (rgsame18_any hy1.gv hx2.gv)
      rw [show decide (gd = gd) = true from by simp] at SM
      clear hg2 hb2 hW2 hx2 hc2 hk2 hy1
      go_wp2_with (refine wpList_store_whole rfl rfl rfl rfl rfl HW2.out (gramI rfl) rfl (by simp [Value.oneCell']) ?_; rw [hst2])
      refine (SM.out).mono ?_
      rintro e w3 ⟨rfl, hb3⟩
      have HB3 := Lib.hid (HB2.out.trans (hb3.mono HB2.out.size))
      clear hb3
      go_wp2_with fail
      refine (awake18 _).mono ?_
      rintro e w4 ⟨rfl, hb4⟩
      have HB := Lib.hid (HB3.out.trans (hb4.mono HB3.out.size))
      go_wp2_with fail
      go_ret
      exact ⟨rfl, HB.out⟩
end Go.Proofs.Ytkakeojigndnnaa
