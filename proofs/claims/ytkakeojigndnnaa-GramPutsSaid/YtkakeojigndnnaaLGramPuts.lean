/- The walk of the law GramPuts. -/
import Derived.Test.YtkakeojigndnnaaAwake18
namespace Go.Proofs.Ytkakeojigndnnaa
open Go.RowKit
set_option linter.unusedVariables false
set_option maxRecDepth 100000
set_option linter.unusedSimpArgs false

set_option maxHeartbeats 4000000 in
theorem gramPuts_walk (g : Gd) (v : Value) (h : Gd) (u : Value) (w : World) (H : Gv w w.heap.size g v) (K : Gv w w.heap.size h u) :
    Calls Try.prog 3 #[v, u] w fun e w' => e = .returned (.bool true) ∧ Below w.heap.size w w' := by
  obtain ⟨b, A, c, w1, rfl, hb, hal, hsz, hx, hb1⟩ := boxedG H
  have HB1 : Hid (Below w.heap.size w w1) := Lib.hid (by rw [hb]; exact hb1)
  obtain ⟨b2, A2, c2, w2, rfl, hbb, hal2, hsz2, hy, hb2⟩ := boxedG (K.kept HB1.out)
  have hb2' : Below w1.heap.size w1 w2 := by rw [hbb]; exact hb2
  have HB2 : Hid (Below w.heap.size w w2) := Lib.hid (HB1.out.trans (hb2'.mono HB1.out.size))
  have hx2 := hx.kept hb2'
  have HX := Lib.hid (fun W (h : Below w2.heap.size w2 W) => (hx2.kept h))
  have HY := Lib.hid (fun W (h : Below w2.heap.size w2 W) => (hy.kept h))
  obtain ⟨k0, k1, k2, k3, k4, k5, k6⟩ := hx2.cells
  obtain ⟨m0, m1, m2, m3, m4, m5, m6⟩ := hy.cells
  obtain ⟨n, hn⟩ : ∃ n, Hid (g.body.length = n) := ⟨_, Lib.hid rfl⟩
  obtain ⟨m, hm⟩ : ∃ m, Hid (h.body.length = m) := ⟨_, Lib.hid rfl⟩
  have HGX := Lib.hid (fun W (q : Below w2.heap.size w2 W) => (HX.out W q).gv)
  have HGY := Lib.hid (fun W (q : Below w2.heap.size w2 W) => (HY.out W q).gv)
  have HCX := Lib.hid (fun W (q : Below w2.heap.size w2 W) => (HX.out W q).cells)
  have HCY := Lib.hid (fun W (q : Below w2.heap.size w2 W) => (HY.out W q).cells)
  rw [hn.out] at hal k6 HGX HCX ⊢
  rw [hm.out] at hal2 m6 HGY HCY ⊢
  clear hx hx2 hy hb1 hb2 hb2' H K hsz hsz2
  by_cases hbig : 1500 < n ∨ 1500 < m
  · have hd : (∃ _ : 1500 < n, True) ∨ (∃ _ : ¬ 1500 < n, 1500 < m) := by
      by_cases h : 1500 < n
      · exact .inl ⟨h, trivial⟩
      · exact .inr ⟨h, by omega⟩
    clear hbig
    rcases hd with ⟨h1, _⟩ | ⟨h1, h2⟩
    all_goals
      go_enter Try.func3, Try.ntmps3
      go_wp2_with fail
      refine (awake18 _).mono ?_
      rintro e w3 ⟨rfl, hb3⟩
      have HB := Lib.hid (HB2.out.trans (hb3.mono HB2.out.size))
      go_wp2_with fail
      go_ret
      exact ⟨rfl, HB.out⟩
  have h1 : ¬ 1500 < n := by omega
  have h2 : ¬ 1500 < m := by omega
  clear hbig
  have CP := Lib.hid (fun W (q : Below w2.heap.size w2 W) => gput18_any (HGX.out W q))
  have CR := Lib.hid (fun W (q : Below w2.heap.size w2 W) => rgput18_any (HGX.out W q))
  have DP := Lib.hid (fun W (q : Below w2.heap.size w2 W) => gright18_any (HGX.out W q))
  have DR := Lib.hid (fun W (q : Below w2.heap.size w2 W) => rright18_any (HGX.out W q))
  have SP := Lib.hid (fun W (q : Below w2.heap.size w2 W) => gsame18_any (HGX.out W q) (HGY.out W q))
  have SR := Lib.hid (fun W (q : Below w2.heap.size w2 W) => rgsame18_any (HGX.out W q) (HGY.out W q))
  obtain ⟨S, hS⟩ : ∃ S, Hid (decide (g = h) = S) := ⟨_, Lib.hid rfl⟩
  rw [hS.out] at SP SR
  obtain ⟨D, hD⟩ : ∃ D, Hid (Gr.right g = D) := ⟨_, Lib.hid rfl⟩
  rw [hD.out] at DP DR
  obtain ⟨pr, hpr⟩ : ∃ pr, Hid (Gr.put g = pr) := ⟨_, Lib.hid rfl⟩
  rw [hpr.out] at CP CR
  obtain ⟨bs, er⟩ := pr
  unfold GputPost at CP CR
  obtain ⟨nb, hnb⟩ : ∃ k, Hid (bs.length = k) := ⟨_, Lib.hid rfl⟩
  have hself : ((strOf bs).toList == (strOf bs).toList) = true := by simp
  have herr : ((er : Int) == (er : Int)) = true := by simp
  have hrig : ((D : Int) == (D : Int)) = true := by simp
  have hsam : (S == S) = true := by simp
  obtain ⟨s1, hs1⟩ : ∃ s, Hid (strOf bs = s) := ⟨_, Lib.hid rfl⟩
  rw [hs1.out] at hself
  go_enter Try.func3, Try.ntmps3
  go_wp2_with fail
  refine (CP.out w2 (Below.refl _ _)).mono ?_
  rintro e w3 ⟨v3, rfl, ho3, hb3⟩
  have HB3 : Hid (Below w2.heap.size w2 w3) := Lib.hid hb3
  have O3 := Lib.hid (fun W (h : Below w3.heap.size w3 W) => ((own_piece ho3).kept h).conv)
  obtain ⟨A3, c3, rfl, _⟩ := own_look ho3
  rw [hs1.out, hnb.out] at O3
  rw [hnb.out]
  obtain ⟨k0, k1, k2, k3, k4, k5, k6⟩ := HCX.out w3 HB3.out
  clear hb3 ho3
  go_wp2_with fail
  refine (CR.out w3 HB3.out).mono ?_
  rintro e w4 ⟨v4, rfl, ho4, hb4⟩
  have HK4 := Lib.hid hb4
  have HB4 : Hid (Below w2.heap.size w2 w4) := Lib.hid (HB3.out.trans (hb4.mono HB3.out.size))
  have O4 := Lib.hid (fun W (h : Below w4.heap.size w4 W) => ((own_piece ho4).kept h).conv)
  have O3' := Lib.hid (fun W (h : Below w4.heap.size w4 W) => O3.out W (HK4.out.trans (h.mono HK4.out.size)))
  obtain ⟨A4, c4, rfl, _⟩ := own_look ho4
  rw [hs1.out, hnb.out] at O4
  rw [hnb.out]
  clear hb4 ho4 k0 k1 k2 k3 k4 k5 k6 m0 m1 m2 m3 m4 m5 m6
  go_wp2_with fail
  refine wp_region_plans (fun W => Below w4.heap.size w4 W) [(0, true), (1, true), (2, true), (3, true), (4, true), (5, true), (6, true), (7, true), (8, true), (9, true), (10, true), (11, true), (13, true), (12, false), (14, false), (15, true), (16, true), (17, true), (18, true), (19, true), (21, true), (22, true), (20, false), (23, false), (24, true), (25, true), (26, true), (27, false), (28, true), (29, true)] (by kernel_rfl) (by kernel_rfl) rfl (by kernel_rfl) (fun _ _ _ _ _ h => h) (Below.refl _ _).drew ?_
  iterate 13
    refine alongs_take (v := ?_) rfl (by rfl) ?_ ?_
    rotate_left
    · intro W hW; obtain ⟨k0, k1, k2, k3, k4, k5, k6⟩ := HCX.out W (HB4.out.trans (hW.mono HB4.out.size)); have x3 := O3'.out W hW; have x4 := O4.out W hW; clear hW; go_simp; try with_reducible rfl
    simp only [Act.put, List.setIfInBounds_toArray, List.set_cons_zero, List.set_cons_succ]
  have hw4 : Below w4.heap.size w4 w4.drew := (Below.refl _ _).drew
  have hw4' : Below w2.heap.size w2 w4.drew := HB4.out.trans (hw4.mono HB4.out.size)
  refine alongs_step rfl (fun K hK => ?_)
  go_simp
  refine (DP.out _ hw4').mono ?_
  rintro e w5 ⟨rfl, hb⟩
  have HB5 : Hid (Below w4.heap.size w4 w5) := Lib.hid (hw4.trans (hb.mono hw4.size))
  refine hK.out (fun W => Below w5.heap.size w5 W) _ _ (fun W hW => HB5.out.trans (hW.mono HB5.out.size)) (Below.refl _ _) ?_
  clear hK K hb
  try simp only [Act.put, List.setIfInBounds_toArray, List.set_cons_zero, List.set_cons_succ]
  have HC5 : Hid (Below w2.heap.size w2 w5) := Lib.hid (HB4.out.trans (HB5.out.mono HB4.out.size))
  refine alongs_step rfl (fun K hK => ?_)
  go_simp
  refine (DR.out _ HC5.out).mono ?_
  rintro e w6 ⟨rfl, hb⟩
  have HB6 : Hid (Below w4.heap.size w4 w6) := Lib.hid (HB5.out.trans (hb.mono HB5.out.size))
  refine hK.out (fun W => Below w6.heap.size w6 W) _ _ (fun W hW => hb.trans (hW.mono hb.size)) (Below.refl _ _) ?_
  clear hK K hb
  try simp only [Act.put, List.setIfInBounds_toArray, List.set_cons_zero, List.set_cons_succ]
  have HC6 : Hid (Below w2.heap.size w2 w6) := Lib.hid (HB4.out.trans (HB6.out.mono HB4.out.size))
  iterate 7
    refine alongs_take (v := ?_) rfl (by rfl) ?_ ?_
    rotate_left
    · intro W hW; obtain ⟨k0, k1, k2, k3, k4, k5, k6⟩ := HCX.out W (HC6.out.trans (hW.mono HC6.out.size)); obtain ⟨m0, m1, m2, m3, m4, m5, m6⟩ := HCY.out W (HC6.out.trans (hW.mono HC6.out.size)); clear hW; go_simp; try with_reducible rfl
    simp only [Act.put, List.setIfInBounds_toArray, List.set_cons_zero, List.set_cons_succ]
  refine alongs_step rfl (fun K hK => ?_)
  go_simp
  refine (SP.out _ HC6.out).mono ?_
  rintro e w7 ⟨rfl, hb⟩
  have HB7 : Hid (Below w4.heap.size w4 w7) := Lib.hid (HB6.out.trans (hb.mono HB6.out.size))
  refine hK.out (fun W => Below w7.heap.size w7 W) _ _ (fun W hW => hb.trans (hW.mono hb.size)) (Below.refl _ _) ?_
  clear hK K hb
  try simp only [Act.put, List.setIfInBounds_toArray, List.set_cons_zero, List.set_cons_succ]
  have HC7 : Hid (Below w2.heap.size w2 w7) := Lib.hid (HB4.out.trans (HB7.out.mono HB4.out.size))
  refine alongs_step rfl (fun K hK => ?_)
  go_simp
  refine (SR.out _ HC7.out).mono ?_
  rintro e w8 ⟨rfl, hb⟩
  have HB8 : Hid (Below w4.heap.size w4 w8) := Lib.hid (HB7.out.trans (hb.mono HB7.out.size))
  refine hK.out (fun W => Below w8.heap.size w8 W) _ _ (fun W hW => hb.trans (hW.mono hb.size)) (Below.refl _ _) ?_
  clear hK K hb
  try simp only [Act.put, List.setIfInBounds_toArray, List.set_cons_zero, List.set_cons_succ]
  have HC8 : Hid (Below w2.heap.size w2 w8) := Lib.hid (HB4.out.trans (HB8.out.mono HB4.out.size))
  iterate 3
    refine alongs_take (v := ?_) rfl (by rfl) ?_ ?_
    rotate_left
    · intro W hW; clear hW; go_simp; try with_reducible rfl
    simp only [Act.put, List.setIfInBounds_toArray, List.set_cons_zero, List.set_cons_succ]
  refine alongs_step rfl (fun K hK => ?_)
  go_simp
  refine (awake18 _).mono ?_
  rintro e w9 ⟨rfl, hb⟩
  have HB9 : Hid (Below w4.heap.size w4 w9) := Lib.hid (HB8.out.trans (hb.mono HB8.out.size))
  refine hK.out (fun W => Below w9.heap.size w9 W) _ _ (fun W hW => hb.trans (hW.mono hb.size)) (Below.refl _ _) ?_
  clear hK K hb
  try simp only [Act.put, List.setIfInBounds_toArray, List.set_cons_zero, List.set_cons_succ]
  have HC9 : Hid (Below w2.heap.size w2 w9) := Lib.hid (HB4.out.trans (HB9.out.mono HB4.out.size))
  iterate 2
    refine alongs_take (v := ?_) rfl (by rfl) ?_ ?_
    rotate_left
    · intro W hW; clear hW; go_simp; try with_reducible rfl
    simp only [Act.put, List.setIfInBounds_toArray, List.set_cons_zero, List.set_cons_succ]
  refine alongs_done ?_
  go_wp2_with fail
  go_ret
  exact ⟨rfl, HB2.out.trans (HC9.out.mono HB2.out.size)⟩
end Go.Proofs.Ytkakeojigndnnaa
