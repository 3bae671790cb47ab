/- The walk of the law TreeRight. -/
import Derived.Test.YtbimalafcgmnaaaAwake11
import Derived.Test.YtbimalafcgmnaaaRright11
import Derived.Test.YtbimalafcgmnaaaRoom11
import Derived.Test.YtbimalafcgmnaaaPA
namespace Go.Proofs.Ytbimalafcgmnaaa
open Go.RowKit
set_option linter.unusedVariables false
set_option maxRecDepth 100000
set_option linter.unusedSimpArgs false

set_option maxHeartbeats 2000000 in
theorem treeRight_walk (t : Tn) (vk vq : Value) (w : World) (H : Tv w w.heap.size t vk vq) :
    Calls Try.prog 3 #[tval t vk vq] w fun e w' => e = .returned (.bool true) ∧ Below w.heap.size w w' := by
  obtain ⟨b, w1, hs, hal, hT, hb1⟩ := boxedT H
  have HT := Lib.hid hT
  have HB1 := Lib.hid hb1
  have hbw := hT.lt
  obtain ⟨c0, c1, c2, c3, c4⟩ := hT.cells
  have HCt := Lib.hid (fun W (h : Below w1.heap.size w1 W) => (HT.out.keep h).cells)
  have HL := Lib.hid (large11_any (level := 1) (by omega) hT.tv)
  have R1 := Lib.hid (fun W (h : Below w1.heap.size w1 W) => right11_any (HT.out.keep h).tv)
  have R2 := Lib.hid (fun W (h : Below w1.heap.size w1 W) => rRight11_any (HT.out.keep h).tv)
  have D1 := Lib.hid (fun W (h : Below w1.heap.size w1 W) (hd : t.depth ≤ 1000000) => depth11_any (SizeOf.sizeOf t + 1) t (Nat.lt_succ_self _) hd (HT.out.keep h).tv)
  have D2 := Lib.hid (fun W (h : Below w1.heap.size w1 W) (hd : t.depth ≤ 1000000) => rdepth_any (SizeOf.sizeOf t + 1) t (Nat.lt_succ_self _) hd (HT.out.keep h).tv)
  have HSm := Lib.hid (fun h => (Tn.small_of (t := t) h).deep)
  obtain ⟨Ak, ck, ek, _⟩ := hT.tv.keys
  obtain ⟨A, c, eq, _⟩ := hT.tv.kids
  subst ek eq
  obtain ⟨rm, hrm⟩ : ∃ rm, Hid (t.room 1 400 = rm) := ⟨_, rfl⟩
  rw [hrm.out] at HL HSm
  obtain ⟨ri, hri⟩ : ∃ ri, Hid (t.right 0 = ri) := ⟨_, rfl⟩
  rw [hri.out] at R1 R2
  obtain ⟨dp, hdp⟩ : ∃ dp, Hid (t.depth = dp) := ⟨_, rfl⟩
  rw [hdp.out] at D1 D2 HSm
  unfold tcells at hal
  unfold tval at HL R1 R2 D1 D2
  unfold tval
  clear hT H hb1
  by_cases hr : rm < 0
  case pos =>
    rw [decide_eq_true hr] at HL
    go_enter Try.func3, Try.ntmps3
    go_wp2_with fail
    refine (HL.out).mono ?_
    rintro e w2 ⟨rfl, hb2⟩
    have HB2 := Lib.hid (HB1.out.trans (hb2.mono (by omega)))
    clear hb2
    go_wp2_with fail
    refine (awake11 _).mono ?_
    rintro e w3 ⟨rfl, hb3⟩
    have HB3 := Lib.hid (HB2.out.trans (hb3.mono (by have := HB2.out.size; omega)))
    clear hb3
    go_wp2_with fail
    go_ret
    exact ⟨rfl, by first | (rw [hs]; exact HB3.out) | exact HB3.out⟩
  rw [decide_eq_false hr] at HL
  have hdp2 : dp ≤ 20 := HSm.out hr
  go_enter Try.func3, Try.ntmps3
  go_wp2_with fail
  refine (HL.out).mono ?_
  rintro e w2 ⟨rfl, hb2⟩
  have HB2 := Lib.hid (HB1.out.trans (hb2.mono (by omega)))
  have HC2 := Lib.hid hb2
  clear hb2
  go_wp2_with fail
  refine wp_region_plan (S := fun W => Below w1.heap.size w1 W) [(0, true), (2, true), (1, false), (3, false), (4, true), (5, true), (6, true), (8, true), (7, false), (9, false), (10, true), (11, true), (12, true), (13, false), (14, true), (15, true)] (by kernel_rfl) (by kernel_rfl) rfl (by kernel_rfl) (fun _ _ _ _ _ h => h) HC2.out.drew ?_
  iterate 2
    refine along_take (v := ?_) rfl (by rfl) ?_ ?_
    rotate_left
    · intro W hW; obtain ⟨k0, k1, k2, k3, k4⟩ := HCt.out W hW; go_simp; try with_reducible rfl
    simp only [Act.put, List.setIfInBounds_toArray, List.set_cons_zero, List.set_cons_succ]
  have HC3 := Lib.hid HC2.out.drew
  refine along_step rfl (fun K hK => ?_)
  go_simp
  refine (R1.out _ HC3.out).mono ?_
  rintro e w4 ⟨rfl, hb4⟩
  have HC4 := Lib.hid (HC3.out.trans (hb4.mono HC3.out.size))
  clear hb4
  refine hK.out _ _ HC4.out ?_
  clear hK K
  try simp only [Act.put, List.setIfInBounds_toArray, List.set_cons_zero, List.set_cons_succ]
  refine along_step rfl (fun K hK => ?_)
  go_simp
  refine (R2.out _ HC4.out).mono ?_
  rintro e w5 ⟨rfl, hb5⟩
  have HC5 := Lib.hid (HC4.out.trans (hb5.mono HC4.out.size))
  clear hb5
  refine hK.out _ _ HC5.out ?_
  clear hK K
  try simp only [Act.put, List.setIfInBounds_toArray, List.set_cons_zero, List.set_cons_succ]
  iterate 4
    refine along_take (v := ?_) rfl (by rfl) ?_ ?_
    rotate_left
    · intro W hW; obtain ⟨k0, k1, k2, k3, k4⟩ := HCt.out W hW; go_simp; try with_reducible rfl
    simp only [Act.put, List.setIfInBounds_toArray, List.set_cons_zero, List.set_cons_succ]
  refine along_step rfl (fun K hK => ?_)
  go_simp
  refine (D1.out _ HC5.out (by omega)).mono ?_
  rintro e w6 ⟨rfl, hb6⟩
  have HC6 := Lib.hid (HC5.out.trans (hb6.mono HC5.out.size))
  clear hb6
  refine hK.out _ _ HC6.out ?_
  clear hK K
  try simp only [Act.put, List.setIfInBounds_toArray, List.set_cons_zero, List.set_cons_succ]
  refine along_step rfl (fun K hK => ?_)
  go_simp
  refine (D2.out _ HC6.out (by omega)).mono ?_
  rintro e w7 ⟨rfl, hb7⟩
  have HC7 := Lib.hid (HC6.out.trans (hb7.mono HC6.out.size))
  clear hb7
  refine hK.out _ _ HC7.out ?_
  clear hK K
  try simp only [Act.put, List.setIfInBounds_toArray, List.set_cons_zero, List.set_cons_succ]
  iterate 3
    refine along_take (v := ?_) rfl (by rfl) ?_ ?_
    rotate_left
    · intro W hW; go_simp; try with_reducible rfl
    simp only [Act.put, List.setIfInBounds_toArray, List.set_cons_zero, List.set_cons_succ]
  refine along_step rfl (fun K hK => ?_)
  go_simp
  refine (awake11 _).mono ?_
  rintro e w8 ⟨rfl, hb8⟩
  have HC8 := Lib.hid (HC7.out.trans (hb8.mono HC7.out.size))
  clear hb8
  refine hK.out _ _ HC8.out ?_
  clear hK K
  try simp only [Act.put, List.setIfInBounds_toArray, List.set_cons_zero, List.set_cons_succ]
  iterate 2
    refine along_take (v := ?_) rfl (by rfl) ?_ ?_
    rotate_left
    · intro W hW; go_simp; try with_reducible rfl
    simp only [Act.put, List.setIfInBounds_toArray, List.set_cons_zero, List.set_cons_succ]
  refine along_done ?_
  go_wp2_with fail
  go_ret
  exact ⟨rfl, by first | (rw [hs]; exact HB1.out.trans (HC8.out.mono (by omega))) | exact HB1.out.trans (HC8.out.mono (by omega))⟩
end Go.Proofs.Ytbimalafcgmnaaa
