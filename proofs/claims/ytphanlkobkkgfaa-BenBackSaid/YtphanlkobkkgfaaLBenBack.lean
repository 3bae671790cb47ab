/- The walk of the law BenBack. -/
import Derived.Test.YtphanlkobkkgfaaAwake12
import Derived.Test.YtphanlkobkkgfaaRoom11
import Derived.Test.YtphanlkobkkgfaaRsame11
import Derived.Test.YtphanlkobkkgfaaMk11
import Derived.Test.YtphanlkobkkgfaaPA
import Derived.Test.YtphanlkobkkgfaaLBenParses
namespace Go.Proofs.Ytphanlkobkkgfaa
open Go.RowKit
set_option linter.unusedVariables false
set_option maxRecDepth 100000
set_option linter.unusedSimpArgs false

namespace Bn
theorem parse_zero {l : List Nat} (h : ¬ (parse l).2 = 0) : (parse l).1 = .mk 0 0 ⟨#[]⟩ [] [] := by
  cases hv : value 8 l with
  | bad e => rw [parse_bad hv]
  | ok t r =>
    by_cases hr : r = []
    · subst hr
      rw [parse_done hv] at h
      exact absurd rfl h
    · rw [parse_more hv hr]
theorem parse_len {l : List Nat} (hb : Bytes l) (hl : l.length ≤ 2000) : (ben (parse l).1).length ≤ 1000000000 := by
  by_cases h : (parse l).2 = 0
  · rw [(parse_sound hb h).2.1]; omega
  · rw [parse_zero h, ben_eq]
    rw [if_neg (by decide), if_neg (by decide)]
    exact (show (2 : Nat) ≤ 1000000000 by omega)
theorem print_parse {l : List Nat} (hb : Bytes l) (h : (parse l).2 = 0) : print (parse l).1 = (l, 0) := by
  obtain ⟨h1, h2, _⟩ := parse_sound hb h
  unfold print
  rw [if_pos h1, h2]
end Bn

set_option maxHeartbeats 4000000 in
theorem benBack_walk (t : Tn) (vk vq : Value) (a1 : Option Addr) (len1 cap1 : Nat) (l : List Nat) (w : World) (H : Tv w w.heap.size t vk vq) (HR : Row .u8 w a1 len1 cap1 l) :
    Calls Try.prog 5 #[tval t vk vq, .slice a1 len1 cap1] w fun e w' => e = .returned (.bool true) ∧ Below w.heap.size w w' := by
  have HPc := Lib.hid (pc_row12 HR)
  have HBy : Hid (Bn.Bytes l) := Lib.hid HR.byte
  have HLe := Lib.hid HR.len_eq
  have hlm : len1 ≤ 9223372036854775807 := by have h1 := HR.le; have h2 := HR.max; unfold maxLen at h2; omega
  have HSeB := Lib.hid HR.sees
  obtain ⟨b, w1, hs, hal, hT, hb1⟩ := boxedT H
  have hb1s : Below w.heap.size w w1 := by rw [hs]; exact hb1
  have HT := Lib.hid hT
  have hbw := hT.lt
  have HB1 := Lib.hid hb1s
  obtain ⟨c0, c1, c2, c3, c4⟩ := hT.cells
  have HCt := Lib.hid (fun W (h : Below w1.heap.size w1 W) => (HT.out.keep h).cells)
  have HL := Lib.hid (large11_any (level := 1) (by omega) hT.tv)
  have HIn := Lib.hid (Bn.Ints.of_tv hT.tv)
  have HBen := Lib.hid (fun (h : ¬ t.room 1 400 < 0) => (show (Bn.ben t).length ≤ 1000000000 from by have := Bn.ben_len t (Tn.small_of h).lim HIn.out; have := Tn.small_nodes h; omega))
  have R1 := Lib.hid (fun (h : ¬ t.room 1 400 < 0) W (hW : Below w1.heap.size w1 W) => cprint12_any (HT.out.keep hW).tv (HBen.out h))
  have S1 := Lib.hid (fun W (h : Below w1.heap.size w1 W) (B : Nat) (uk uq : Value) (hu : Tv W B t uk uq) => rsame11_any (SizeOf.sizeOf t + 1) t (Nat.lt_succ_self _) t hu (HT.out.keep h).tv)
  rw [same_self12] at S1
  have HByT : Hid (Bn.Bytes (Bn.ben t)) := Lib.hid (Bn.ben_byte (SizeOf.sizeOf t + 1) t (Nat.lt_succ_self _))
  obtain ⟨Ak, ck, ek, _⟩ := hT.tv.keys
  obtain ⟨A, c, eq, _⟩ := hT.tv.kids
  subst ek eq
  have HPl : Hid (¬ 2000 < len1 → (Bn.ben (Bn.parse l).1).length ≤ 1000000000) := Lib.hid (fun h => Bn.parse_len HBy.out (by have := HLe.out; omega))
  have C3 := Lib.hid (fun (h : ¬ 2000 < len1) W (hW : Below w.heap.size w W) => parse12_any (HPc.out.below hW) hW.size HBy.out (by have := HLe.out; omega))
  obtain ⟨rm, hrm⟩ : ∃ rm, Hid (t.room 1 400 = rm) := ⟨_, rfl⟩
  rw [hrm.out] at HL R1 HBen
  unfold tcells at hal
  unfold tval at HL R1 S1
  unfold tval
  clear hT H hb1 hb1s HR
  by_cases hr : rm < 0
  case pos =>
    rw [decide_eq_true hr] at HL
    go_enter Try.func5, Try.ntmps5
    go_wp2_with fail
    refine (HL.out).mono ?_
    rintro e w2 ⟨rfl, hb2⟩
    have HB2 := Lib.hid (HB1.out.trans (hb2.mono HB1.out.size))
    clear hb2
    go_wp2_with fail
    refine (awake12 _).mono ?_
    rintro e w3 ⟨rfl, hb3⟩
    have HB3 := Lib.hid (HB2.out.trans (hb3.mono HB2.out.size))
    clear hb3
    go_wp2_with fail
    go_ret
    exact ⟨rfl, HB3.out⟩
  rw [decide_eq_false hr] at HL
  by_cases hl : 2000 < len1
  case pos =>
    go_enter Try.func5, Try.ntmps5
    go_wp2_with fail
    refine (HL.out).mono ?_
    rintro e w2 ⟨rfl, hb2⟩
    have HB2 := Lib.hid (HB1.out.trans (hb2.mono HB1.out.size))
    clear hb2
    go_wp2_with fail
    refine (awake12 _).mono ?_
    rintro e w3 ⟨rfl, hb3⟩
    have HB3 := Lib.hid (HB2.out.trans (hb3.mono HB2.out.size))
    clear hb3
    go_wp2_with fail
    go_ret
    exact ⟨rfl, HB3.out⟩
  have Q1 := Lib.hid (R1.out hr)
  have Q3 := Lib.hid (C3.out hl)
  have hyl := HPl.out hl
  have HLa := Lib.hid (HBen.out hr)
  clear R1 C3 HPl HBen
  have HPr : Hid (t.right 0 = 0 → Bn.print t = (Bn.ben t, 0) ∧ Bn.parse (Bn.ben t) = (t, 0)) := Lib.hid (fun h => And.intro (by unfold Bn.print; rw [if_pos h]) (Bn.parse_ben HIn.out h))
  have HPn : Hid (¬ t.right 0 = 0 → Bn.print t = ([], t.right 0)) := Lib.hid (fun h => by unfold Bn.print; rw [if_neg h])
  have HPy := Lib.hid (fun h => Bn.print_parse HBy.out h)
  obtain ⟨y, g, hp⟩ : ∃ y g, Bn.parse l = (y, g) := ⟨_, _, rfl⟩
  rw [hp] at HPy hyl
  have HP := Lib.hid hp
  clear hp
  have C4 := Lib.hid (fun W (uk uq : Value) (h : Tv W W.heap.size y uk uq) => cprint12_any h hyl)
  clear hyl
  obtain ⟨Py, hPy⟩ : ∃ P, Hid (Bn.print y = P) := ⟨_, rfl⟩
  rw [hPy.out] at C4
  have HPy2 : Hid (g = 0 → Py = (l, 0)) := Lib.hid (fun h => by rw [← hPy.out]; exact HPy.out h)
  clear HPy hPy
  obtain ⟨ly, pg⟩ := Py
  unfold tval at C4
  obtain ⟨r0, hr0⟩ : ∃ r, Hid (t.right 0 = r) := ⟨_, rfl⟩
  rw [hr0.out] at HPr HPn
  by_cases e0 : r0 = 0
  · obtain ⟨hpt, hpa⟩ := HPr.out e0
    rw [hpt] at Q1
    have HPa := Lib.hid hpa
    obtain ⟨la, hla⟩ : ∃ x, Hid (Bn.ben t = x) := ⟨_, rfl⟩
    rw [hla.out] at Q1 HPa HByT HLa
    clear hpt hpa HPr HPn hr0 e0 hla
    by_cases e1 : g = 0
    · have hly := HPy2.out e1
      injection hly with hly hpg
      have hly := hly.symm
      subst hly hpg e1
      clear HPy2
      go_enter Try.func5, Try.ntmps5
      go_wp2_with fail
      refine (HL.out).mono ?_
      rintro e w2 ⟨rfl, hb2⟩
      have HC2 := Lib.hid hb2
      obtain ⟨d0, d1, d2, d3, d4⟩ := HCt.out w2 HC2.out
      clear hb2 c0 c1 c2 c3 c4
      go_wp2_with fail
      refine (Q1.out _ HC2.out).mono ?_
      rintro e w3 ⟨v3, rfl, hp3, hb3⟩
      have HC3 := Lib.hid (HC2.out.trans (hb3.mono HC2.out.size))
      clear hb3 d0 d1 d2 d3 d4
      have C2 := Lib.hid (parse12_any hp3 (Nat.le_refl _) HByT.out HLa.out)
      clear hp3
      go_wp2_with fail
      refine (C2.out).mono ?_
      rintro e w4 hpost
      obtain ⟨xk, xq, rfl, hx4, hb4⟩ := hpost.simple HPa.out
      clear hpost
      obtain ⟨Bk, bk, Bq, bq, g1, u1, u2, rfl, rfl, hg1, hal1, hW1, hst1, hU1, hc1, hz1⟩ := var11 hx4
      have HC4 := Lib.hid ((HC3.out.trans (hb4.mono HC3.out.size)).trans (hc1.mono (by have := hb4.size; have := HC3.out.size; omega)))
      have HW1 := Lib.hid hW1
      have CS := Lib.hid (S1.out _ HC4.out _ _ _ hU1.tv)
      obtain ⟨l0, l1, l2, l3, l4⟩ := hU1.cells
      obtain ⟨d0, d1, d2, d3, d4⟩ := HCt.out u2 HC4.out
      clear hb4 hx4 hc1 hW1 hU1
      go_wp2_with (refine wpList_store_whole rfl rfl rfl rfl rfl HW1.out (treeI rfl) rfl (by simp [Value.oneCell']) ?_; try rw [hst1])
      refine (CS.out).mono ?_
      rintro e w5 ⟨rfl, hb5⟩
      have HCc := Lib.hid (HC4.out.trans (hb5.mono HC4.out.size))
      clear hb5 d0 d1 d2 d3 d4 l0 l1 l2 l3 l4
      go_wp2_with fail
      refine (Q3.out _ (HB1.out.trans (HCc.out.mono HB1.out.size))).mono ?_
      rintro e w6 hpost
      obtain ⟨yk, yq, rfl, hx6, hb6⟩ := hpost.simple HP.out
      clear hpost
      obtain ⟨Dk, dk, Dq, dq, g3, u3, u4, rfl, rfl, hg3, hal3, hW3, hst3, hU3, hc3, hz3⟩ := var11 hx6
      have HC6 := Lib.hid ((HCc.out.trans (hb6.mono HCc.out.size)).trans (hc3.mono (by have := hb6.size; have := HCc.out.size; omega)))
      have HW3 := Lib.hid hW3
      have CP := Lib.hid (C4.out _ _ _ hU3.tv.all)
      obtain ⟨m0, m1, m2, m3, m4⟩ := hU3.cells
      clear hb6 hx6 hc3 hW3 hU3 hz3
      go_wp2_with (refine wpList_store_whole rfl rfl rfl rfl rfl HW3.out (treeI rfl) rfl (by simp [Value.oneCell']) ?_; try rw [hst3])
      refine (CP.out).mono ?_
      rintro e w7 ⟨v7, rfl, hp7, hb7⟩
      have HC7 := Lib.hid (HC6.out.trans (hb7.mono HC6.out.size))
      have HB7 := Lib.hid (HB1.out.trans (HC7.out.mono HB1.out.size))
      obtain ⟨A7, k7, rfl, hs7, _⟩ := hp7
      have hcv1 := conv_sees (P := Try.prog) Try.underlying28 Try.underlying5 Try.underlying9 len1 k7 HLe.out hs7
      have hcv2 := conv_sees (P := Try.prog) Try.underlying28 Try.underlying5 Try.underlying9 len1 cap1 HLe.out (HSeB.out.below HB7.out)
      obtain ⟨sx, hsx⟩ : ∃ s, Hid (strOf l = s) := ⟨_, rfl⟩
      rw [hsx.out] at hcv1 hcv2
      rw [HLe.out]
      clear hb7 hs7
      go_wp2_with fail
      refine (awake12 _).mono ?_
      rintro e w8 ⟨rfl, hb8⟩
      have HB8 := Lib.hid (HB7.out.trans (hb8.mono HB7.out.size))
      clear hb8
      go_wp2_with fail
      go_ret
      exact ⟨rfl, HB8.out⟩
    · have q1 : ((g : Int) != 0) = true := by simp; omega
      have q2 : ((g : Int) == 0) = false := by simp; omega
      clear HPy2
      go_enter Try.func5, Try.ntmps5
      go_wp2_with fail
      refine (HL.out).mono ?_
      rintro e w2 ⟨rfl, hb2⟩
      have HC2 := Lib.hid hb2
      obtain ⟨d0, d1, d2, d3, d4⟩ := HCt.out w2 HC2.out
      clear hb2 c0 c1 c2 c3 c4
      go_wp2_with fail
      refine (Q1.out _ HC2.out).mono ?_
      rintro e w3 ⟨v3, rfl, hp3, hb3⟩
      have HC3 := Lib.hid (HC2.out.trans (hb3.mono HC2.out.size))
      clear hb3 d0 d1 d2 d3 d4
      have C2 := Lib.hid (parse12_any hp3 (Nat.le_refl _) HByT.out HLa.out)
      clear hp3
      go_wp2_with fail
      refine (C2.out).mono ?_
      rintro e w4 hpost
      obtain ⟨xk, xq, rfl, hx4, hb4⟩ := hpost.simple HPa.out
      clear hpost
      obtain ⟨Bk, bk, Bq, bq, g1, u1, u2, rfl, rfl, hg1, hal1, hW1, hst1, hU1, hc1, hz1⟩ := var11 hx4
      have HC4 := Lib.hid ((HC3.out.trans (hb4.mono HC3.out.size)).trans (hc1.mono (by have := hb4.size; have := HC3.out.size; omega)))
      have HW1 := Lib.hid hW1
      have CS := Lib.hid (S1.out _ HC4.out _ _ _ hU1.tv)
      obtain ⟨l0, l1, l2, l3, l4⟩ := hU1.cells
      obtain ⟨d0, d1, d2, d3, d4⟩ := HCt.out u2 HC4.out
      clear hb4 hx4 hc1 hW1 hU1
      go_wp2_with (refine wpList_store_whole rfl rfl rfl rfl rfl HW1.out (treeI rfl) rfl (by simp [Value.oneCell']) ?_; try rw [hst1])
      refine (CS.out).mono ?_
      rintro e w5 ⟨rfl, hb5⟩
      have HCc := Lib.hid (HC4.out.trans (hb5.mono HC4.out.size))
      clear hb5 d0 d1 d2 d3 d4 l0 l1 l2 l3 l4
      go_wp2_with fail
      refine (Q3.out _ (HB1.out.trans (HCc.out.mono HB1.out.size))).mono ?_
      rintro e w6 hpost
      obtain ⟨yk, yq, rfl, hx6, hb6⟩ := hpost.simple HP.out
      clear hpost
      obtain ⟨Dk, dk, Dq, dq, g3, u3, u4, rfl, rfl, hg3, hal3, hW3, hst3, hU3, hc3, hz3⟩ := var11 hx6
      have HC6 := Lib.hid ((HCc.out.trans (hb6.mono HCc.out.size)).trans (hc3.mono (by have := hb6.size; have := HCc.out.size; omega)))
      have HW3 := Lib.hid hW3
      have CP := Lib.hid (C4.out _ _ _ hU3.tv.all)
      obtain ⟨m0, m1, m2, m3, m4⟩ := hU3.cells
      clear hb6 hx6 hc3 hW3 hU3 hz3
      go_wp2_with (refine wpList_store_whole rfl rfl rfl rfl rfl HW3.out (treeI rfl) rfl (by simp [Value.oneCell']) ?_; try rw [hst3])
      refine (CP.out).mono ?_
      rintro e w7 ⟨v7, rfl, hp7, hb7⟩
      have HC7 := Lib.hid (HC6.out.trans (hb7.mono HC6.out.size))
      have HB7 := Lib.hid (HB1.out.trans (HC7.out.mono HB1.out.size))
      clear hb7 hp7 m0 m1 m2 m3 m4
      go_wp2_with fail
      refine (awake12 _).mono ?_
      rintro e w8 ⟨rfl, hb8⟩
      have HB8 := Lib.hid (HB7.out.trans (hb8.mono HB7.out.size))
      clear hb8
      go_wp2_with fail
      go_ret
      exact ⟨rfl, HB8.out⟩
  · have hpt := HPn.out e0
    rw [hpt] at Q1
    have k1 : ((r0 : Int) == 0) = false := by simp; omega
    have k2 : ((r0 : Int) != 0) = true := by simp; omega
    obtain ⟨tx, fx, hpa⟩ : ∃ x f, Bn.parse [] = (x, f) := ⟨_, _, rfl⟩
    have HPa := Lib.hid hpa
    clear hpt hpa HPr HPn hr0
    by_cases e1 : g = 0
    · have hly := HPy2.out e1
      injection hly with hly hpg
      have hly := hly.symm
      subst hly hpg e1
      clear HPy2
      go_enter Try.func5, Try.ntmps5
      go_wp2_with fail
      refine (HL.out).mono ?_
      rintro e w2 ⟨rfl, hb2⟩
      have HC2 := Lib.hid hb2
      obtain ⟨d0, d1, d2, d3, d4⟩ := HCt.out w2 HC2.out
      clear hb2 c0 c1 c2 c3 c4
      go_wp2_with fail
      refine (Q1.out _ HC2.out).mono ?_
      rintro e w3 ⟨v3, rfl, hp3, hb3⟩
      have HC3 := Lib.hid (HC2.out.trans (hb3.mono HC2.out.size))
      clear hb3 d0 d1 d2 d3 d4
      have C2 := Lib.hid (parse12_any hp3 (Nat.le_refl _) (by simp) (by simp))
      clear hp3
      go_wp2_with fail
      refine (C2.out).mono ?_
      rintro e w4 hpost
      obtain ⟨xk, xq, rfl, hx4, hb4⟩ := hpost.simple HPa.out
      clear hpost
      obtain ⟨Bk, bk, Bq, bq, g1, u1, u2, rfl, rfl, hg1, hal1, hW1, hst1, hU1, hc1, hz1⟩ := var11 hx4
      have HC4 := Lib.hid ((HC3.out.trans (hb4.mono HC3.out.size)).trans (hc1.mono (by have := hb4.size; have := HC3.out.size; omega)))
      have HW1 := Lib.hid hW1
      have HCc := HC4
      clear hb4 hx4 hc1 hW1 hU1
      go_wp2_with (refine wpList_store_whole rfl rfl rfl rfl rfl HW1.out (treeI rfl) rfl (by simp [Value.oneCell']) ?_; try rw [hst1])
      refine (Q3.out _ (HB1.out.trans (HCc.out.mono HB1.out.size))).mono ?_
      rintro e w6 hpost
      obtain ⟨yk, yq, rfl, hx6, hb6⟩ := hpost.simple HP.out
      clear hpost
      obtain ⟨Dk, dk, Dq, dq, g3, u3, u4, rfl, rfl, hg3, hal3, hW3, hst3, hU3, hc3, hz3⟩ := var11 hx6
      have HC6 := Lib.hid ((HCc.out.trans (hb6.mono HCc.out.size)).trans (hc3.mono (by have := hb6.size; have := HCc.out.size; omega)))
      have HW3 := Lib.hid hW3
      have CP := Lib.hid (C4.out _ _ _ hU3.tv.all)
      obtain ⟨m0, m1, m2, m3, m4⟩ := hU3.cells
      clear hb6 hx6 hc3 hW3 hU3 hz3
      go_wp2_with (refine wpList_store_whole rfl rfl rfl rfl rfl HW3.out (treeI rfl) rfl (by simp [Value.oneCell']) ?_; try rw [hst3])
      refine (CP.out).mono ?_
      rintro e w7 ⟨v7, rfl, hp7, hb7⟩
      have HC7 := Lib.hid (HC6.out.trans (hb7.mono HC6.out.size))
      have HB7 := Lib.hid (HB1.out.trans (HC7.out.mono HB1.out.size))
      obtain ⟨A7, k7, rfl, hs7, _⟩ := hp7
      have hcv1 := conv_sees (P := Try.prog) Try.underlying28 Try.underlying5 Try.underlying9 len1 k7 HLe.out hs7
      have hcv2 := conv_sees (P := Try.prog) Try.underlying28 Try.underlying5 Try.underlying9 len1 cap1 HLe.out (HSeB.out.below HB7.out)
      obtain ⟨sx, hsx⟩ : ∃ s, Hid (strOf l = s) := ⟨_, rfl⟩
      rw [hsx.out] at hcv1 hcv2
      rw [HLe.out]
      clear hb7 hs7
      go_wp2_with fail
      refine (awake12 _).mono ?_
      rintro e w8 ⟨rfl, hb8⟩
      have HB8 := Lib.hid (HB7.out.trans (hb8.mono HB7.out.size))
      clear hb8
      go_wp2_with fail
      go_ret
      exact ⟨rfl, HB8.out⟩
    · have q1 : ((g : Int) != 0) = true := by simp; omega
      have q2 : ((g : Int) == 0) = false := by simp; omega
      clear HPy2
      go_enter Try.func5, Try.ntmps5
      go_wp2_with fail
      refine (HL.out).mono ?_
      rintro e w2 ⟨rfl, hb2⟩
      have HC2 := Lib.hid hb2
      obtain ⟨d0, d1, d2, d3, d4⟩ := HCt.out w2 HC2.out
      clear hb2 c0 c1 c2 c3 c4
      go_wp2_with fail
      refine (Q1.out _ HC2.out).mono ?_
      rintro e w3 ⟨v3, rfl, hp3, hb3⟩
      have HC3 := Lib.hid (HC2.out.trans (hb3.mono HC2.out.size))
      clear hb3 d0 d1 d2 d3 d4
      have C2 := Lib.hid (parse12_any hp3 (Nat.le_refl _) (by simp) (by simp))
      clear hp3
      go_wp2_with fail
      refine (C2.out).mono ?_
      rintro e w4 hpost
      obtain ⟨xk, xq, rfl, hx4, hb4⟩ := hpost.simple HPa.out
      clear hpost
      obtain ⟨Bk, bk, Bq, bq, g1, u1, u2, rfl, rfl, hg1, hal1, hW1, hst1, hU1, hc1, hz1⟩ := var11 hx4
      have HC4 := Lib.hid ((HC3.out.trans (hb4.mono HC3.out.size)).trans (hc1.mono (by have := hb4.size; have := HC3.out.size; omega)))
      have HW1 := Lib.hid hW1
      have HCc := HC4
      clear hb4 hx4 hc1 hW1 hU1
      go_wp2_with (refine wpList_store_whole rfl rfl rfl rfl rfl HW1.out (treeI rfl) rfl (by simp [Value.oneCell']) ?_; try rw [hst1])
      refine (Q3.out _ (HB1.out.trans (HCc.out.mono HB1.out.size))).mono ?_
      rintro e w6 hpost
      obtain ⟨yk, yq, rfl, hx6, hb6⟩ := hpost.simple HP.out
      clear hpost
      obtain ⟨Dk, dk, Dq, dq, g3, u3, u4, rfl, rfl, hg3, hal3, hW3, hst3, hU3, hc3, hz3⟩ := var11 hx6
      have HC6 := Lib.hid ((HCc.out.trans (hb6.mono HCc.out.size)).trans (hc3.mono (by have := hb6.size; have := HCc.out.size; omega)))
      have HW3 := Lib.hid hW3
      have CP := Lib.hid (C4.out _ _ _ hU3.tv.all)
      obtain ⟨m0, m1, m2, m3, m4⟩ := hU3.cells
      clear hb6 hx6 hc3 hW3 hU3 hz3
      go_wp2_with (refine wpList_store_whole rfl rfl rfl rfl rfl HW3.out (treeI rfl) rfl (by simp [Value.oneCell']) ?_; try rw [hst3])
      refine (CP.out).mono ?_
      rintro e w7 ⟨v7, rfl, hp7, hb7⟩
      have HC7 := Lib.hid (HC6.out.trans (hb7.mono HC6.out.size))
      have HB7 := Lib.hid (HB1.out.trans (HC7.out.mono HB1.out.size))
      clear hb7 hp7 m0 m1 m2 m3 m4
      go_wp2_with fail
      refine (awake12 _).mono ?_
      rintro e w8 ⟨rfl, hb8⟩
      have HB8 := Lib.hid (HB7.out.trans (hb8.mono HB7.out.size))
      clear hb8
      go_wp2_with fail
      go_ret
      exact ⟨rfl, HB8.out⟩
end Go.Proofs.Ytphanlkobkkgfaa
