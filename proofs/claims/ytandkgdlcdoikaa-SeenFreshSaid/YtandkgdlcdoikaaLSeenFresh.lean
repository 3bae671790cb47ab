/- The walk of the law SeenFresh. -/
import Derived.Test.YtandkgdlcdoikaaAwake20
import Derived.Test.YtandkgdlcdoikaaNl20
import Derived.Test.YtandkgdlcdoikaaFork
import Derived.Deep.CutRange
namespace Go.Proofs.Ytandkgdlcdoikaa
open Go.RowKit
set_option linter.unusedVariables false
set_option maxRecDepth 100000
set_option linter.unusedSimpArgs false

theorem bool_self (a : Bool) : (a == a) = true := by cases a <;> rfl
set_option maxHeartbeats 8000000 in
theorem seenFresh_main (s : Sn) (ok : s.Ok) (E : Nat) (hE : E < 4294967296) (i : Nat) (hi : i < 4294967296) (w : World) :
    Calls Try.prog 3 #[.agg #[.bool s.any, .int .u32 (s.epoch : Int), .int .u32 (s.top : Int), .int .u64 (s.bits : Int)], .int .u32 (E : Int), .int .u32 (i : Int)] w fun e w' => e = .returned (.bool true) ∧ Below w.heap.size w w' := by
  obtain ⟨v, e, t, b⟩ := s
  obtain ⟨he, ht, hb⟩ := ok
  simp only at he ht hb ⊢
  obtain ⟨g, w1, hg, hal, hsz, hx, hb1⟩ := boxedS w v e t b
  have HB1 : Hid (Below w.heap.size w w1) := Lib.hid hb1
  have HX := Lib.hid (fun W (hW : Below w1.heap.size w1 W) => (hx.below hW hx.lt : Whole W g 25 #[.bool v, .int .u32 (e : Int), .int .u32 (t : Int), .int .u64 (b : Int)]))
  have CF := Lib.hid (fun W => cfresh20_any (w := W) (v := v) he ht hb hE hi)
  have RF := Lib.hid (fun W => rfresh20_any (w := W) (v := v) he ht hb hE hi)
  have CH := Lib.hid (fun W => chas20_any (w := W) (v := v) he ht hb hE hi)
  have CM := Lib.hid (fun W => cmark20_any (w := W) (v := v) he ht hb hE hi)
  have RM := Lib.hid (fun W => rmark20_any (w := W) (v := v) he ht hb hE hi)
  obtain ⟨f, hf⟩ : ∃ f, Hid (Sn.fresh ⟨v, e, t, b⟩ E i = f) := ⟨_, Lib.hid rfl⟩
  rw [hf.out] at CF RF CH
  have HLk := Lib.hid (Sn.mark_like ⟨v, e, t, b⟩ E i)
  have HEq : Hid (¬ Sn.mark ⟨v, e, t, b⟩ E i = Sn.rmark ⟨v, e, t, b⟩ E i → v = true ∧ t < 64) := Lib.hid (fun h => by
    constructor
    · cases v with
      | true => rfl
      | false => exact absurd (by rw [Sn.mark_new (.inl rfl)]; unfold Sn.rmark; rw [if_pos (Sn.fresh_none rfl), if_pos (.inl rfl)]) h
    · rcases Nat.lt_or_ge t 64 with k | k
      · exact k
      · exact absurd (Sn.mark_rmark E i (.inl k)) h)
  obtain ⟨M1, hM1⟩ : ∃ M, Hid (Sn.mark ⟨v, e, t, b⟩ E i = M) := ⟨_, Lib.hid rfl⟩
  obtain ⟨M2, hM2⟩ : ∃ M, Hid (Sn.rmark ⟨v, e, t, b⟩ E i = M) := ⟨_, Lib.hid rfl⟩
  rw [hM1.out] at CM HLk HEq
  rw [hM2.out] at RM HLk HEq
  obtain ⟨a1, e1, t1, b1⟩ := M1
  obtain ⟨a2, e2, t2, b2⟩ := M2
  obtain ⟨k1, k2, k3⟩ := HLk.out
  simp only at k1 k2 k3
  subst k1 k2 k3
  clear HLk hM1 hM2 hf hx hb1 hsz
  have nef : ((f : Int) != (f : Int)) = false := by simp
  obtain ⟨q12, hq12⟩ : ∃ q, decide (f = 12) = q := ⟨_, rfl⟩
  rw [hq12] at CH
  have hq12' : ((f : Int) == 12) = q12 := by
    rw [← hq12]
    by_cases h : f = 12
    · rw [decide_eq_true h, beq_iff_eq]; omega
    · rw [decide_eq_false h, beq_eq_false_iff_ne]; omega
  clear hq12
  go_enter Try.func3, Try.ntmps3
  go_upto_region 1 with fail
  go_cut [29] from 9 (fun s29 wx => s29 = .bool false ∧ Hid (Below w1.heap.size w1 wx))
  case first =>
    refine wp_region_plan (S := fun W => Below w1.heap.size w1 W) [(0, true), (1, true), (2, true), (4, true), (5, true), (6, true), (3, false), (7, false), (8, true), (9, true), (10, true), (11, true), (12, true), (14, true), (15, true), (16, true), (13, false), (17, false), (18, true), (19, true), (20, true)] (by kernel_rfl) (by kernel_rfl) rfl (by kernel_rfl) (fun _ _ _ _ _ h => h) (Below.refl _ _).drew ?_
    have HS0 : Hid (Below w1.heap.size w1 w1.drew) := Lib.hid (Below.refl _ _).drew
    iterate 6
      refine along_take (v := ?_) rfl (by rfl) ?_ ?_
      rotate_left
      · intro W hW; obtain ⟨c0, c1, c2, c3⟩ := cellsS (HX.out W hW); clear hW; go_simp; try with_reducible rfl
      simp only [Act.put, List.setIfInBounds_toArray, List.set_cons_zero, List.set_cons_succ]
    refine along_step rfl (fun K hK => ?_)
    go_simp
    refine (CF.out _).mono ?_
    rintro e1 x1 ⟨rfl, hb⟩
    have HS1 : Hid (Below w1.heap.size w1 x1) := Lib.hid (HS0.out.trans (hb.mono HS0.out.size))
    refine hK.out _ _ HS1.out ?_
    clear hK K hb
    try simp only [Act.put, List.setIfInBounds_toArray, List.set_cons_zero, List.set_cons_succ]
    refine along_step rfl (fun K hK => ?_)
    go_simp
    refine (RF.out _).mono ?_
    rintro e1 x2 ⟨rfl, hb⟩
    have HS2 : Hid (Below w1.heap.size w1 x2) := Lib.hid (HS1.out.trans (hb.mono HS1.out.size))
    refine hK.out _ _ HS2.out ?_
    clear hK K hb
    try simp only [Act.put, List.setIfInBounds_toArray, List.set_cons_zero, List.set_cons_succ]
    iterate 8
      refine along_take (v := ?_) rfl (by rfl) ?_ ?_
      rotate_left
      · intro W hW; obtain ⟨c0, c1, c2, c3⟩ := cellsS (HX.out W hW); clear hW; go_simp; try with_reducible rfl
      simp only [Act.put, List.setIfInBounds_toArray, List.set_cons_zero, List.set_cons_succ]
    refine along_step rfl (fun K hK => ?_)
    go_simp
    refine (CH.out _).mono ?_
    rintro e1 x3 ⟨rfl, hb⟩
    have HS3 : Hid (Below w1.heap.size w1 x3) := Lib.hid (HS2.out.trans (hb.mono HS2.out.size))
    refine hK.out _ _ HS3.out ?_
    clear hK K hb
    try simp only [Act.put, List.setIfInBounds_toArray, List.set_cons_zero, List.set_cons_succ]
    refine along_step rfl (fun K hK => ?_)
    go_simp
    refine (RF.out _).mono ?_
    rintro e1 x4 ⟨rfl, hb⟩
    have HS4 : Hid (Below w1.heap.size w1 x4) := Lib.hid (HS3.out.trans (hb.mono HS3.out.size))
    refine hK.out _ _ HS4.out ?_
    clear hK K hb
    try simp only [Act.put, List.setIfInBounds_toArray, List.set_cons_zero, List.set_cons_succ]
    iterate 3
      refine along_take (v := ?_) rfl (by rfl) ?_ ?_
      rotate_left
      · intro W hW; obtain ⟨c0, c1, c2, c3⟩ := cellsS (HX.out W hW); clear hW; go_simp; try with_reducible rfl
      simp only [Act.put, List.setIfInBounds_toArray, List.set_cons_zero, List.set_cons_succ]
    refine along_done ?_
    have HB2 : Hid (Below w1.heap.size w1 x4) := Lib.hid HS4.out
    obtain ⟨w2, hw2⟩ : ∃ W, x4 = W := ⟨_, rfl⟩
    rw [hw2] at HB2 ⊢
    clear hw2
    go_wp2_with fail
    go_meet
    exact ⟨rfl, HB2⟩
  case rest =>
  obtain ⟨rfl, HB2⟩ := hcut
  obtain ⟨w2, rfl⟩ : ∃ W, W = wc := ⟨_, rfl⟩
  go_upto_region 3 with fail
  have HX2 := Lib.hid (fun W (hW : Below w2.heap.size w2 W) => (HX.out W (HB2.out.trans (hW.mono HB2.out.size)) : Whole W g 25 #[.bool v, .int .u32 (e : Int), .int .u32 (t : Int), .int .u64 (b : Int)]))
  go_cut [7, 8] from 30 (fun s7 s8 wx => ∃ ya yb, s7 = .pointer (some ⟨ya, 0, none⟩) ∧ s8 = .pointer (some ⟨yb, 0, none⟩) ∧ Hid (Whole wx ya 25 #[.bool a1, .int .u32 (e1 : Int), .int .u32 (t1 : Int), .int .u64 (b1 : Int)]) ∧ Hid (Whole wx yb 25 #[.bool a1, .int .u32 (e1 : Int), .int .u32 (t1 : Int), .int .u64 (b2 : Int)]) ∧ Hid (Below w2.heap.size w2 wx))
  case first =>
    refine wp_region_fork (S := fun W => Below w2.heap.size w2 W) 11 (.take 0 (.take 1 (.take 2 (.take 4 (.take 5 (.take 6 (.trio 3 8 9 (.trio 7 8 9 (.fork 8 9 (.step 9 (.step 10 (.step 11 .done))) (.step 8 (.step 10 (.step 11 .done)))) (.fork 7 9 (.step 9 (.step 10 (.step 11 .done))) (.step 7 (.step 10 (.step 11 .done)))) (.fork 7 8 (.step 8 (.step 10 (.step 11 .done))) (.step 7 (.step 10 (.step 11 .done))))) (.fork 3 9 (.fork 7 9 (.step 9 (.step 10 (.step 11 .done))) (.step 7 (.step 10 (.step 11 .done)))) (.step 3 (.step 7 (.step 10 (.step 11 .done))))) (.fork 3 8 (.fork 7 8 (.step 8 (.step 10 (.step 11 .done))) (.step 7 (.step 10 (.step 11 .done)))) (.step 3 (.step 7 (.step 10 (.step 11 .done)))))))))))) (by kernel_rfl) (by kernel_rfl) rfl (by kernel_rfl) (by rfl) (fun _ _ _ _ _ h => h) (Below.refl _ _).drew ?_
    have HB3 : Hid (Below w2.heap.size w2 w2.drew) := Lib.hid (Below.refl _ _).drew
    obtain ⟨w3, hw3⟩ : ∃ W, w2.drew = W := ⟨_, rfl⟩
    rw [hw3] at HB3 ⊢
    clear hw3
    iterate 6
      refine alongF_take (v := ?_) rfl (by rfl) ?_ ?_
      rotate_left
      · intro W hW; obtain ⟨c0, c1, c2, c3⟩ := cellsS (HX2.out W hW); clear hW; go_simp; try with_reducible rfl
      simp only [Act.put, List.setIfInBounds_toArray, List.set_cons_zero, List.set_cons_succ]
    refine alongF_trio rfl rfl rfl (fun K hK => ?_) (fun K hK => ?_) (fun K hK => ?_)
    · skip
      go_simp
      refine (CM.out _).mono ?_
      rintro e1 z1 ⟨rfl, hb⟩
      have HB1 : Hid (Below w2.heap.size w2 z1) := Lib.hid (HB3.out.trans (hb.mono HB3.out.size))
      refine hK.out _ _ HB1.out ?_
      clear hK K hb
      try simp only [Act.put, List.setIfInBounds_toArray, List.set_cons_zero, List.set_cons_succ]
      refine alongF_trio rfl rfl rfl (fun K hK => ?_) (fun K hK => ?_) (fun K hK => ?_)
      · skip
        go_simp
        refine (RM.out _).mono ?_
        rintro e1 z2 ⟨rfl, hb⟩
        have HB2 : Hid (Below w2.heap.size w2 z2) := Lib.hid (HB1.out.trans (hb.mono HB1.out.size))
        refine hK.out _ _ HB2.out ?_
        clear hK K hb
        try simp only [Act.put, List.setIfInBounds_toArray, List.set_cons_zero, List.set_cons_succ]
        refine alongF_fork rfl rfl (fun K hK => ?_) (fun K hK => ?_)
        · skip
          go_simp
          obtain ⟨ya, z3, hg, hal, hsz, hG, hb⟩ := varS z2
          try rw [hal]
          try rw [hg]
          have HB3 : Hid (Below w2.heap.size w2 z3) := Lib.hid (HB2.out.trans (hb.mono HB2.out.size))
          have Ha_3 := Lib.hid hG
          have hla : w2.heap.size ≤ ya := by have := HB2.out.size; omega
          refine hK.out _ _ HB3.out ?_
          clear hK K hb hG hsz hal hg
          try simp only [Act.put, List.setIfInBounds_toArray, List.set_cons_zero, List.set_cons_succ]
          refine alongF_step rfl (fun K hK => ?_)
          go_simp
          obtain ⟨yb, z4, hg, hal, hsz, hG, hb⟩ := varS z3
          try rw [hal]
          try rw [hg]
          have HB4 : Hid (Below w2.heap.size w2 z4) := Lib.hid (HB3.out.trans (hb.mono HB3.out.size))
          have Hb_4 := Lib.hid hG
          have hlb : w2.heap.size ≤ yb := by have := HB3.out.size; omega
          have hne : yb ≠ ya := by have := Ha_3.out.lt; omega
          have Ha_4 := Lib.hid (Ha_3.out.below hb Ha_3.out.lt)
          refine hK.out _ _ HB4.out ?_
          clear hK K hb hG hsz hal hg
          try simp only [Act.put, List.setIfInBounds_toArray, List.set_cons_zero, List.set_cons_succ]
          refine alongF_step rfl (fun K hK => ?_)
          refine step_store_row rfl rfl rfl rfl rfl Ha_4.out (seenI rfl) rfl (by simp [Value.oneCell']) ?_
          obtain ⟨z5, hx⟩ : ∃ W, z4.setRow ya #[.bool a1, .int .u32 (e1 : Int), .int .u32 (t1 : Int), .int .u64 (b1 : Int)] = W := ⟨_, rfl⟩
          try rw [hx]
          have HB5 : Hid (Below w2.heap.size w2 z5) := Lib.hid (by rw [← hx]; exact below_row HB4.out hla _)
          have Ha_5 : Hid (Whole z5 ya 25 #[.bool a1, .int .u32 (e1 : Int), .int .u32 (t1 : Int), .int .u64 (b1 : Int)]) := Lib.hid (by rw [← hx]; exact Ha_4.out.row _)
          have Hb_5 := Lib.hid (show Whole z5 yb _ _ from by rw [← hx]; exact Hb_4.out.rowOther hne _)
          clear hx
          refine hK.out _ _ HB5.out ?_
          clear hK K
          try simp only [Act.put, List.setIfInBounds_toArray, List.set_cons_zero, List.set_cons_succ]
          refine alongF_last rfl (fun K hK => ?_)
          refine step_store_row rfl rfl rfl rfl rfl Hb_5.out (seenI rfl) rfl (by simp [Value.oneCell']) ?_
          obtain ⟨z6, hx⟩ : ∃ W, z5.setRow yb #[.bool a1, .int .u32 (e1 : Int), .int .u32 (t1 : Int), .int .u64 (b2 : Int)] = W := ⟨_, rfl⟩
          try rw [hx]
          have HB6 : Hid (Below w2.heap.size w2 z6) := Lib.hid (by rw [← hx]; exact below_row HB5.out hlb _)
          have Hb_6 : Hid (Whole z6 yb 25 #[.bool a1, .int .u32 (e1 : Int), .int .u32 (t1 : Int), .int .u64 (b2 : Int)]) := Lib.hid (by rw [← hx]; exact Hb_5.out.row _)
          have Ha_6 := Lib.hid (show Whole z6 ya _ _ from by rw [← hx]; exact Ha_5.out.rowOther hne.symm _)
          clear hx
          refine hK.out _ _ ?_
          clear hK K
          go_wp2_with fail
          go_meet
          exact ⟨ya, yb, rfl, rfl, Ha_6, Hb_6, HB6⟩
        · skip
          go_simp
          obtain ⟨yb, z7, hg, hal, hsz, hG, hb⟩ := varS z2
          try rw [hal]
          try rw [hg]
          have HB7 : Hid (Below w2.heap.size w2 z7) := Lib.hid (HB2.out.trans (hb.mono HB2.out.size))
          have Hb_7 := Lib.hid hG
          have hlb : w2.heap.size ≤ yb := by have := HB2.out.size; omega
          refine hK.out _ _ HB7.out ?_
          clear hK K hb hG hsz hal hg
          try simp only [Act.put, List.setIfInBounds_toArray, List.set_cons_zero, List.set_cons_succ]
          refine alongF_step rfl (fun K hK => ?_)
          go_simp
          obtain ⟨ya, z8, hg, hal, hsz, hG, hb⟩ := varS z7
          try rw [hal]
          try rw [hg]
          have HB8 : Hid (Below w2.heap.size w2 z8) := Lib.hid (HB7.out.trans (hb.mono HB7.out.size))
          have Ha_8 := Lib.hid hG
          have hla : w2.heap.size ≤ ya := by have := HB7.out.size; omega
          have hne : yb ≠ ya := by have := Hb_7.out.lt; omega
          have Hb_8 := Lib.hid (Hb_7.out.below hb Hb_7.out.lt)
          refine hK.out _ _ HB8.out ?_
          clear hK K hb hG hsz hal hg
          try simp only [Act.put, List.setIfInBounds_toArray, List.set_cons_zero, List.set_cons_succ]
          refine alongF_step rfl (fun K hK => ?_)
          refine step_store_row rfl rfl rfl rfl rfl Ha_8.out (seenI rfl) rfl (by simp [Value.oneCell']) ?_
          obtain ⟨z9, hx⟩ : ∃ W, z8.setRow ya #[.bool a1, .int .u32 (e1 : Int), .int .u32 (t1 : Int), .int .u64 (b1 : Int)] = W := ⟨_, rfl⟩
          try rw [hx]
          have HB9 : Hid (Below w2.heap.size w2 z9) := Lib.hid (by rw [← hx]; exact below_row HB8.out hla _)
          have Ha_9 : Hid (Whole z9 ya 25 #[.bool a1, .int .u32 (e1 : Int), .int .u32 (t1 : Int), .int .u64 (b1 : Int)]) := Lib.hid (by rw [← hx]; exact Ha_8.out.row _)
          have Hb_9 := Lib.hid (show Whole z9 yb _ _ from by rw [← hx]; exact Hb_8.out.rowOther hne _)
          clear hx
          refine hK.out _ _ HB9.out ?_
          clear hK K
          try simp only [Act.put, List.setIfInBounds_toArray, List.set_cons_zero, List.set_cons_succ]
          refine alongF_last rfl (fun K hK => ?_)
          refine step_store_row rfl rfl rfl rfl rfl Hb_9.out (seenI rfl) rfl (by simp [Value.oneCell']) ?_
          obtain ⟨z10, hx⟩ : ∃ W, z9.setRow yb #[.bool a1, .int .u32 (e1 : Int), .int .u32 (t1 : Int), .int .u64 (b2 : Int)] = W := ⟨_, rfl⟩
          try rw [hx]
          have HB10 : Hid (Below w2.heap.size w2 z10) := Lib.hid (by rw [← hx]; exact below_row HB9.out hlb _)
          have Hb_10 : Hid (Whole z10 yb 25 #[.bool a1, .int .u32 (e1 : Int), .int .u32 (t1 : Int), .int .u64 (b2 : Int)]) := Lib.hid (by rw [← hx]; exact Hb_9.out.row _)
          have Ha_10 := Lib.hid (show Whole z10 ya _ _ from by rw [← hx]; exact Ha_9.out.rowOther hne.symm _)
          clear hx
          refine hK.out _ _ ?_
          clear hK K
          go_wp2_with fail
          go_meet
          exact ⟨ya, yb, rfl, rfl, Ha_10, Hb_10, HB10⟩
      · skip
        go_simp
        obtain ⟨ya, z11, hg, hal, hsz, hG, hb⟩ := varS z1
        try rw [hal]
        try rw [hg]
        have HB11 : Hid (Below w2.heap.size w2 z11) := Lib.hid (HB1.out.trans (hb.mono HB1.out.size))
        have Ha_11 := Lib.hid hG
        have hla : w2.heap.size ≤ ya := by have := HB1.out.size; omega
        refine hK.out _ _ HB11.out ?_
        clear hK K hb hG hsz hal hg
        try simp only [Act.put, List.setIfInBounds_toArray, List.set_cons_zero, List.set_cons_succ]
        refine alongF_fork rfl rfl (fun K hK => ?_) (fun K hK => ?_)
        · skip
          go_simp
          refine (RM.out _).mono ?_
          rintro e1 z12 ⟨rfl, hb⟩
          have HB12 : Hid (Below w2.heap.size w2 z12) := Lib.hid (HB11.out.trans (hb.mono HB11.out.size))
          have Ha_12 := Lib.hid (Ha_11.out.below hb Ha_11.out.lt)
          refine hK.out _ _ HB12.out ?_
          clear hK K hb
          try simp only [Act.put, List.setIfInBounds_toArray, List.set_cons_zero, List.set_cons_succ]
          refine alongF_step rfl (fun K hK => ?_)
          go_simp
          obtain ⟨yb, z13, hg, hal, hsz, hG, hb⟩ := varS z12
          try rw [hal]
          try rw [hg]
          have HB13 : Hid (Below w2.heap.size w2 z13) := Lib.hid (HB12.out.trans (hb.mono HB12.out.size))
          have Hb_13 := Lib.hid hG
          have hlb : w2.heap.size ≤ yb := by have := HB12.out.size; omega
          have hne : yb ≠ ya := by have := Ha_12.out.lt; omega
          have Ha_13 := Lib.hid (Ha_12.out.below hb Ha_12.out.lt)
          refine hK.out _ _ HB13.out ?_
          clear hK K hb hG hsz hal hg
          try simp only [Act.put, List.setIfInBounds_toArray, List.set_cons_zero, List.set_cons_succ]
          refine alongF_step rfl (fun K hK => ?_)
          refine step_store_row rfl rfl rfl rfl rfl Ha_13.out (seenI rfl) rfl (by simp [Value.oneCell']) ?_
          obtain ⟨z14, hx⟩ : ∃ W, z13.setRow ya #[.bool a1, .int .u32 (e1 : Int), .int .u32 (t1 : Int), .int .u64 (b1 : Int)] = W := ⟨_, rfl⟩
          try rw [hx]
          have HB14 : Hid (Below w2.heap.size w2 z14) := Lib.hid (by rw [← hx]; exact below_row HB13.out hla _)
          have Ha_14 : Hid (Whole z14 ya 25 #[.bool a1, .int .u32 (e1 : Int), .int .u32 (t1 : Int), .int .u64 (b1 : Int)]) := Lib.hid (by rw [← hx]; exact Ha_13.out.row _)
          have Hb_14 := Lib.hid (show Whole z14 yb _ _ from by rw [← hx]; exact Hb_13.out.rowOther hne _)
          clear hx
          refine hK.out _ _ HB14.out ?_
          clear hK K
          try simp only [Act.put, List.setIfInBounds_toArray, List.set_cons_zero, List.set_cons_succ]
          refine alongF_last rfl (fun K hK => ?_)
          refine step_store_row rfl rfl rfl rfl rfl Hb_14.out (seenI rfl) rfl (by simp [Value.oneCell']) ?_
          obtain ⟨z15, hx⟩ : ∃ W, z14.setRow yb #[.bool a1, .int .u32 (e1 : Int), .int .u32 (t1 : Int), .int .u64 (b2 : Int)] = W := ⟨_, rfl⟩
          try rw [hx]
          have HB15 : Hid (Below w2.heap.size w2 z15) := Lib.hid (by rw [← hx]; exact below_row HB14.out hlb _)
          have Hb_15 : Hid (Whole z15 yb 25 #[.bool a1, .int .u32 (e1 : Int), .int .u32 (t1 : Int), .int .u64 (b2 : Int)]) := Lib.hid (by rw [← hx]; exact Hb_14.out.row _)
          have Ha_15 := Lib.hid (show Whole z15 ya _ _ from by rw [← hx]; exact Ha_14.out.rowOther hne.symm _)
          clear hx
          refine hK.out _ _ ?_
          clear hK K
          go_wp2_with fail
          go_meet
          exact ⟨ya, yb, rfl, rfl, Ha_15, Hb_15, HB15⟩
        · skip
          go_simp
          obtain ⟨yb, z16, hg, hal, hsz, hG, hb⟩ := varS z11
          try rw [hal]
          try rw [hg]
          have HB16 : Hid (Below w2.heap.size w2 z16) := Lib.hid (HB11.out.trans (hb.mono HB11.out.size))
          have Hb_16 := Lib.hid hG
          have hlb : w2.heap.size ≤ yb := by have := HB11.out.size; omega
          have hne : yb ≠ ya := by have := Ha_11.out.lt; omega
          have Ha_16 := Lib.hid (Ha_11.out.below hb Ha_11.out.lt)
          refine hK.out _ _ HB16.out ?_
          clear hK K hb hG hsz hal hg
          try simp only [Act.put, List.setIfInBounds_toArray, List.set_cons_zero, List.set_cons_succ]
          refine alongF_step rfl (fun K hK => ?_)
          go_simp
          refine (RM.out _).mono ?_
          rintro e1 z17 ⟨rfl, hb⟩
          have HB17 : Hid (Below w2.heap.size w2 z17) := Lib.hid (HB16.out.trans (hb.mono HB16.out.size))
          have Ha_17 := Lib.hid (Ha_16.out.below hb Ha_16.out.lt)
          have Hb_17 := Lib.hid (Hb_16.out.below hb Hb_16.out.lt)
          refine hK.out _ _ HB17.out ?_
          clear hK K hb
          try simp only [Act.put, List.setIfInBounds_toArray, List.set_cons_zero, List.set_cons_succ]
          refine alongF_step rfl (fun K hK => ?_)
          refine step_store_row rfl rfl rfl rfl rfl Ha_17.out (seenI rfl) rfl (by simp [Value.oneCell']) ?_
          obtain ⟨z18, hx⟩ : ∃ W, z17.setRow ya #[.bool a1, .int .u32 (e1 : Int), .int .u32 (t1 : Int), .int .u64 (b1 : Int)] = W := ⟨_, rfl⟩
          try rw [hx]
          have HB18 : Hid (Below w2.heap.size w2 z18) := Lib.hid (by rw [← hx]; exact below_row HB17.out hla _)
          have Ha_18 : Hid (Whole z18 ya 25 #[.bool a1, .int .u32 (e1 : Int), .int .u32 (t1 : Int), .int .u64 (b1 : Int)]) := Lib.hid (by rw [← hx]; exact Ha_17.out.row _)
          have Hb_18 := Lib.hid (show Whole z18 yb _ _ from by rw [← hx]; exact Hb_17.out.rowOther hne _)
          clear hx
          refine hK.out _ _ HB18.out ?_
          clear hK K
          try simp only [Act.put, List.setIfInBounds_toArray, List.set_cons_zero, List.set_cons_succ]
          refine alongF_last rfl (fun K hK => ?_)
          refine step_store_row rfl rfl rfl rfl rfl Hb_18.out (seenI rfl) rfl (by simp [Value.oneCell']) ?_
          obtain ⟨z19, hx⟩ : ∃ W, z18.setRow yb #[.bool a1, .int .u32 (e1 : Int), .int .u32 (t1 : Int), .int .u64 (b2 : Int)] = W := ⟨_, rfl⟩
          try rw [hx]
          have HB19 : Hid (Below w2.heap.size w2 z19) := Lib.hid (by rw [← hx]; exact below_row HB18.out hlb _)
          have Hb_19 : Hid (Whole z19 yb 25 #[.bool a1, .int .u32 (e1 : Int), .int .u32 (t1 : Int), .int .u64 (b2 : Int)]) := Lib.hid (by rw [← hx]; exact Hb_18.out.row _)
          have Ha_19 := Lib.hid (show Whole z19 ya _ _ from by rw [← hx]; exact Ha_18.out.rowOther hne.symm _)
          clear hx
          refine hK.out _ _ ?_
          clear hK K
          go_wp2_with fail
          go_meet
          exact ⟨ya, yb, rfl, rfl, Ha_19, Hb_19, HB19⟩
      · skip
        go_simp
        obtain ⟨yb, z20, hg, hal, hsz, hG, hb⟩ := varS z1
        try rw [hal]
        try rw [hg]
        have HB20 : Hid (Below w2.heap.size w2 z20) := Lib.hid (HB1.out.trans (hb.mono HB1.out.size))
        have Hb_20 := Lib.hid hG
        have hlb : w2.heap.size ≤ yb := by have := HB1.out.size; omega
        refine hK.out _ _ HB20.out ?_
        clear hK K hb hG hsz hal hg
        try simp only [Act.put, List.setIfInBounds_toArray, List.set_cons_zero, List.set_cons_succ]
        refine alongF_fork rfl rfl (fun K hK => ?_) (fun K hK => ?_)
        · skip
          go_simp
          refine (RM.out _).mono ?_
          rintro e1 z21 ⟨rfl, hb⟩
          have HB21 : Hid (Below w2.heap.size w2 z21) := Lib.hid (HB20.out.trans (hb.mono HB20.out.size))
          have Hb_21 := Lib.hid (Hb_20.out.below hb Hb_20.out.lt)
          refine hK.out _ _ HB21.out ?_
          clear hK K hb
          try simp only [Act.put, List.setIfInBounds_toArray, List.set_cons_zero, List.set_cons_succ]
          refine alongF_step rfl (fun K hK => ?_)
          go_simp
          obtain ⟨ya, z22, hg, hal, hsz, hG, hb⟩ := varS z21
          try rw [hal]
          try rw [hg]
          have HB22 : Hid (Below w2.heap.size w2 z22) := Lib.hid (HB21.out.trans (hb.mono HB21.out.size))
          have Ha_22 := Lib.hid hG
          have hla : w2.heap.size ≤ ya := by have := HB21.out.size; omega
          have hne : yb ≠ ya := by have := Hb_21.out.lt; omega
          have Hb_22 := Lib.hid (Hb_21.out.below hb Hb_21.out.lt)
          refine hK.out _ _ HB22.out ?_
          clear hK K hb hG hsz hal hg
          try simp only [Act.put, List.setIfInBounds_toArray, List.set_cons_zero, List.set_cons_succ]
          refine alongF_step rfl (fun K hK => ?_)
          refine step_store_row rfl rfl rfl rfl rfl Ha_22.out (seenI rfl) rfl (by simp [Value.oneCell']) ?_
          obtain ⟨z23, hx⟩ : ∃ W, z22.setRow ya #[.bool a1, .int .u32 (e1 : Int), .int .u32 (t1 : Int), .int .u64 (b1 : Int)] = W := ⟨_, rfl⟩
          try rw [hx]
          have HB23 : Hid (Below w2.heap.size w2 z23) := Lib.hid (by rw [← hx]; exact below_row HB22.out hla _)
          have Ha_23 : Hid (Whole z23 ya 25 #[.bool a1, .int .u32 (e1 : Int), .int .u32 (t1 : Int), .int .u64 (b1 : Int)]) := Lib.hid (by rw [← hx]; exact Ha_22.out.row _)
          have Hb_23 := Lib.hid (show Whole z23 yb _ _ from by rw [← hx]; exact Hb_22.out.rowOther hne _)
          clear hx
          refine hK.out _ _ HB23.out ?_
          clear hK K
          try simp only [Act.put, List.setIfInBounds_toArray, List.set_cons_zero, List.set_cons_succ]
          refine alongF_last rfl (fun K hK => ?_)
          refine step_store_row rfl rfl rfl rfl rfl Hb_23.out (seenI rfl) rfl (by simp [Value.oneCell']) ?_
          obtain ⟨z24, hx⟩ : ∃ W, z23.setRow yb #[.bool a1, .int .u32 (e1 : Int), .int .u32 (t1 : Int), .int .u64 (b2 : Int)] = W := ⟨_, rfl⟩
          try rw [hx]
          have HB24 : Hid (Below w2.heap.size w2 z24) := Lib.hid (by rw [← hx]; exact below_row HB23.out hlb _)
          have Hb_24 : Hid (Whole z24 yb 25 #[.bool a1, .int .u32 (e1 : Int), .int .u32 (t1 : Int), .int .u64 (b2 : Int)]) := Lib.hid (by rw [← hx]; exact Hb_23.out.row _)
          have Ha_24 := Lib.hid (show Whole z24 ya _ _ from by rw [← hx]; exact Ha_23.out.rowOther hne.symm _)
          clear hx
          refine hK.out _ _ ?_
          clear hK K
          go_wp2_with fail
          go_meet
          exact ⟨ya, yb, rfl, rfl, Ha_24, Hb_24, HB24⟩
        · skip
          go_simp
          obtain ⟨ya, z25, hg, hal, hsz, hG, hb⟩ := varS z20
          try rw [hal]
          try rw [hg]
          have HB25 : Hid (Below w2.heap.size w2 z25) := Lib.hid (HB20.out.trans (hb.mono HB20.out.size))
          have Ha_25 := Lib.hid hG
          have hla : w2.heap.size ≤ ya := by have := HB20.out.size; omega
          have hne : yb ≠ ya := by have := Hb_20.out.lt; omega
          have Hb_25 := Lib.hid (Hb_20.out.below hb Hb_20.out.lt)
          refine hK.out _ _ HB25.out ?_
          clear hK K hb hG hsz hal hg
          try simp only [Act.put, List.setIfInBounds_toArray, List.set_cons_zero, List.set_cons_succ]
          refine alongF_step rfl (fun K hK => ?_)
          go_simp
          refine (RM.out _).mono ?_
          rintro e1 z26 ⟨rfl, hb⟩
          have HB26 : Hid (Below w2.heap.size w2 z26) := Lib.hid (HB25.out.trans (hb.mono HB25.out.size))
          have Hb_26 := Lib.hid (Hb_25.out.below hb Hb_25.out.lt)
          have Ha_26 := Lib.hid (Ha_25.out.below hb Ha_25.out.lt)
          refine hK.out _ _ HB26.out ?_
          clear hK K hb
          try simp only [Act.put, List.setIfInBounds_toArray, List.set_cons_zero, List.set_cons_succ]
          refine alongF_step rfl (fun K hK => ?_)
          refine step_store_row rfl rfl rfl rfl rfl Ha_26.out (seenI rfl) rfl (by simp [Value.oneCell']) ?_
          obtain ⟨z27, hx⟩ : ∃ W, z26.setRow ya #[.bool a1, .int .u32 (e1 : Int), .int .u32 (t1 : Int), .int .u64 (b1 : Int)] = W := ⟨_, rfl⟩
          try rw [hx]
          have HB27 : Hid (Below w2.heap.size w2 z27) := Lib.hid (by rw [← hx]; exact below_row HB26.out hla _)
          have Ha_27 : Hid (Whole z27 ya 25 #[.bool a1, .int .u32 (e1 : Int), .int .u32 (t1 : Int), .int .u64 (b1 : Int)]) := Lib.hid (by rw [← hx]; exact Ha_26.out.row _)
          have Hb_27 := Lib.hid (show Whole z27 yb _ _ from by rw [← hx]; exact Hb_26.out.rowOther hne _)
          clear hx
          refine hK.out _ _ HB27.out ?_
          clear hK K
          try simp only [Act.put, List.setIfInBounds_toArray, List.set_cons_zero, List.set_cons_succ]
          refine alongF_last rfl (fun K hK => ?_)
          refine step_store_row rfl rfl rfl rfl rfl Hb_27.out (seenI rfl) rfl (by simp [Value.oneCell']) ?_
          obtain ⟨z28, hx⟩ : ∃ W, z27.setRow yb #[.bool a1, .int .u32 (e1 : Int), .int .u32 (t1 : Int), .int .u64 (b2 : Int)] = W := ⟨_, rfl⟩
          try rw [hx]
          have HB28 : Hid (Below w2.heap.size w2 z28) := Lib.hid (by rw [← hx]; exact below_row HB27.out hlb _)
          have Hb_28 : Hid (Whole z28 yb 25 #[.bool a1, .int .u32 (e1 : Int), .int .u32 (t1 : Int), .int .u64 (b2 : Int)]) := Lib.hid (by rw [← hx]; exact Hb_27.out.row _)
          have Ha_28 := Lib.hid (show Whole z28 ya _ _ from by rw [← hx]; exact Ha_27.out.rowOther hne.symm _)
          clear hx
          refine hK.out _ _ ?_
          clear hK K
          go_wp2_with fail
          go_meet
          exact ⟨ya, yb, rfl, rfl, Ha_28, Hb_28, HB28⟩
    · skip
      go_simp
      obtain ⟨ya, z29, hg, hal, hsz, hG, hb⟩ := varS w3
      try rw [hal]
      try rw [hg]
      have HB29 : Hid (Below w2.heap.size w2 z29) := Lib.hid (HB3.out.trans (hb.mono HB3.out.size))
      have Ha_29 := Lib.hid hG
      have hla : w2.heap.size ≤ ya := by have := HB3.out.size; omega
      refine hK.out _ _ HB29.out ?_
      clear hK K hb hG hsz hal hg
      try simp only [Act.put, List.setIfInBounds_toArray, List.set_cons_zero, List.set_cons_succ]
      refine alongF_fork rfl rfl (fun K hK => ?_) (fun K hK => ?_)
      · skip
        go_simp
        refine (CM.out _).mono ?_
        rintro e1 z30 ⟨rfl, hb⟩
        have HB30 : Hid (Below w2.heap.size w2 z30) := Lib.hid (HB29.out.trans (hb.mono HB29.out.size))
        have Ha_30 := Lib.hid (Ha_29.out.below hb Ha_29.out.lt)
        refine hK.out _ _ HB30.out ?_
        clear hK K hb
        try simp only [Act.put, List.setIfInBounds_toArray, List.set_cons_zero, List.set_cons_succ]
        refine alongF_fork rfl rfl (fun K hK => ?_) (fun K hK => ?_)
        · skip
          go_simp
          refine (RM.out _).mono ?_
          rintro e1 z31 ⟨rfl, hb⟩
          have HB31 : Hid (Below w2.heap.size w2 z31) := Lib.hid (HB30.out.trans (hb.mono HB30.out.size))
          have Ha_31 := Lib.hid (Ha_30.out.below hb Ha_30.out.lt)
          refine hK.out _ _ HB31.out ?_
          clear hK K hb
          try simp only [Act.put, List.setIfInBounds_toArray, List.set_cons_zero, List.set_cons_succ]
          refine alongF_step rfl (fun K hK => ?_)
          go_simp
          obtain ⟨yb, z32, hg, hal, hsz, hG, hb⟩ := varS z31
          try rw [hal]
          try rw [hg]
          have HB32 : Hid (Below w2.heap.size w2 z32) := Lib.hid (HB31.out.trans (hb.mono HB31.out.size))
          have Hb_32 := Lib.hid hG
          have hlb : w2.heap.size ≤ yb := by have := HB31.out.size; omega
          have hne : yb ≠ ya := by have := Ha_31.out.lt; omega
          have Ha_32 := Lib.hid (Ha_31.out.below hb Ha_31.out.lt)
          refine hK.out _ _ HB32.out ?_
          clear hK K hb hG hsz hal hg
          try simp only [Act.put, List.setIfInBounds_toArray, List.set_cons_zero, List.set_cons_succ]
          refine alongF_step rfl (fun K hK => ?_)
          refine step_store_row rfl rfl rfl rfl rfl Ha_32.out (seenI rfl) rfl (by simp [Value.oneCell']) ?_
          obtain ⟨z33, hx⟩ : ∃ W, z32.setRow ya #[.bool a1, .int .u32 (e1 : Int), .int .u32 (t1 : Int), .int .u64 (b1 : Int)] = W := ⟨_, rfl⟩
          try rw [hx]
          have HB33 : Hid (Below w2.heap.size w2 z33) := Lib.hid (by rw [← hx]; exact below_row HB32.out hla _)
          have Ha_33 : Hid (Whole z33 ya 25 #[.bool a1, .int .u32 (e1 : Int), .int .u32 (t1 : Int), .int .u64 (b1 : Int)]) := Lib.hid (by rw [← hx]; exact Ha_32.out.row _)
          have Hb_33 := Lib.hid (show Whole z33 yb _ _ from by rw [← hx]; exact Hb_32.out.rowOther hne _)
          clear hx
          refine hK.out _ _ HB33.out ?_
          clear hK K
          try simp only [Act.put, List.setIfInBounds_toArray, List.set_cons_zero, List.set_cons_succ]
          refine alongF_last rfl (fun K hK => ?_)
          refine step_store_row rfl rfl rfl rfl rfl Hb_33.out (seenI rfl) rfl (by simp [Value.oneCell']) ?_
          obtain ⟨z34, hx⟩ : ∃ W, z33.setRow yb #[.bool a1, .int .u32 (e1 : Int), .int .u32 (t1 : Int), .int .u64 (b2 : Int)] = W := ⟨_, rfl⟩
          try rw [hx]
          have HB34 : Hid (Below w2.heap.size w2 z34) := Lib.hid (by rw [← hx]; exact below_row HB33.out hlb _)
          have Hb_34 : Hid (Whole z34 yb 25 #[.bool a1, .int .u32 (e1 : Int), .int .u32 (t1 : Int), .int .u64 (b2 : Int)]) := Lib.hid (by rw [← hx]; exact Hb_33.out.row _)
          have Ha_34 := Lib.hid (show Whole z34 ya _ _ from by rw [← hx]; exact Ha_33.out.rowOther hne.symm _)
          clear hx
          refine hK.out _ _ ?_
          clear hK K
          go_wp2_with fail
          go_meet
          exact ⟨ya, yb, rfl, rfl, Ha_34, Hb_34, HB34⟩
        · skip
          go_simp
          obtain ⟨yb, z35, hg, hal, hsz, hG, hb⟩ := varS z30
          try rw [hal]
          try rw [hg]
          have HB35 : Hid (Below w2.heap.size w2 z35) := Lib.hid (HB30.out.trans (hb.mono HB30.out.size))
          have Hb_35 := Lib.hid hG
          have hlb : w2.heap.size ≤ yb := by have := HB30.out.size; omega
          have hne : yb ≠ ya := by have := Ha_30.out.lt; omega
          have Ha_35 := Lib.hid (Ha_30.out.below hb Ha_30.out.lt)
          refine hK.out _ _ HB35.out ?_
          clear hK K hb hG hsz hal hg
          try simp only [Act.put, List.setIfInBounds_toArray, List.set_cons_zero, List.set_cons_succ]
          refine alongF_step rfl (fun K hK => ?_)
          go_simp
          refine (RM.out _).mono ?_
          rintro e1 z36 ⟨rfl, hb⟩
          have HB36 : Hid (Below w2.heap.size w2 z36) := Lib.hid (HB35.out.trans (hb.mono HB35.out.size))
          have Ha_36 := Lib.hid (Ha_35.out.below hb Ha_35.out.lt)
          have Hb_36 := Lib.hid (Hb_35.out.below hb Hb_35.out.lt)
          refine hK.out _ _ HB36.out ?_
          clear hK K hb
          try simp only [Act.put, List.setIfInBounds_toArray, List.set_cons_zero, List.set_cons_succ]
          refine alongF_step rfl (fun K hK => ?_)
          refine step_store_row rfl rfl rfl rfl rfl Ha_36.out (seenI rfl) rfl (by simp [Value.oneCell']) ?_
          obtain ⟨z37, hx⟩ : ∃ W, z36.setRow ya #[.bool a1, .int .u32 (e1 : Int), .int .u32 (t1 : Int), .int .u64 (b1 : Int)] = W := ⟨_, rfl⟩
          try rw [hx]
          have HB37 : Hid (Below w2.heap.size w2 z37) := Lib.hid (by rw [← hx]; exact below_row HB36.out hla _)
          have Ha_37 : Hid (Whole z37 ya 25 #[.bool a1, .int .u32 (e1 : Int), .int .u32 (t1 : Int), .int .u64 (b1 : Int)]) := Lib.hid (by rw [← hx]; exact Ha_36.out.row _)
          have Hb_37 := Lib.hid (show Whole z37 yb _ _ from by rw [← hx]; exact Hb_36.out.rowOther hne _)
          clear hx
          refine hK.out _ _ HB37.out ?_
          clear hK K
          try simp only [Act.put, List.setIfInBounds_toArray, List.set_cons_zero, List.set_cons_succ]
          refine alongF_last rfl (fun K hK => ?_)
          refine step_store_row rfl rfl rfl rfl rfl Hb_37.out (seenI rfl) rfl (by simp [Value.oneCell']) ?_
          obtain ⟨z38, hx⟩ : ∃ W, z37.setRow yb #[.bool a1, .int .u32 (e1 : Int), .int .u32 (t1 : Int), .int .u64 (b2 : Int)] = W := ⟨_, rfl⟩
          try rw [hx]
          have HB38 : Hid (Below w2.heap.size w2 z38) := Lib.hid (by rw [← hx]; exact below_row HB37.out hlb _)
          have Hb_38 : Hid (Whole z38 yb 25 #[.bool a1, .int .u32 (e1 : Int), .int .u32 (t1 : Int), .int .u64 (b2 : Int)]) := Lib.hid (by rw [← hx]; exact Hb_37.out.row _)
          have Ha_38 := Lib.hid (show Whole z38 ya _ _ from by rw [← hx]; exact Ha_37.out.rowOther hne.symm _)
          clear hx
          refine hK.out _ _ ?_
          clear hK K
          go_wp2_with fail
          go_meet
          exact ⟨ya, yb, rfl, rfl, Ha_38, Hb_38, HB38⟩
      · skip
        go_simp
        obtain ⟨yb, z39, hg, hal, hsz, hG, hb⟩ := varS z29
        try rw [hal]
        try rw [hg]
        have HB39 : Hid (Below w2.heap.size w2 z39) := Lib.hid (HB29.out.trans (hb.mono HB29.out.size))
        have Hb_39 := Lib.hid hG
        have hlb : w2.heap.size ≤ yb := by have := HB29.out.size; omega
        have hne : yb ≠ ya := by have := Ha_29.out.lt; omega
        have Ha_39 := Lib.hid (Ha_29.out.below hb Ha_29.out.lt)
        refine hK.out _ _ HB39.out ?_
        clear hK K hb hG hsz hal hg
        try simp only [Act.put, List.setIfInBounds_toArray, List.set_cons_zero, List.set_cons_succ]
        refine alongF_step rfl (fun K hK => ?_)
        go_simp
        refine (CM.out _).mono ?_
        rintro e1 z40 ⟨rfl, hb⟩
        have HB40 : Hid (Below w2.heap.size w2 z40) := Lib.hid (HB39.out.trans (hb.mono HB39.out.size))
        have Ha_40 := Lib.hid (Ha_39.out.below hb Ha_39.out.lt)
        have Hb_40 := Lib.hid (Hb_39.out.below hb Hb_39.out.lt)
        refine hK.out _ _ HB40.out ?_
        clear hK K hb
        try simp only [Act.put, List.setIfInBounds_toArray, List.set_cons_zero, List.set_cons_succ]
        refine alongF_step rfl (fun K hK => ?_)
        go_simp
        refine (RM.out _).mono ?_
        rintro e1 z41 ⟨rfl, hb⟩
        have HB41 : Hid (Below w2.heap.size w2 z41) := Lib.hid (HB40.out.trans (hb.mono HB40.out.size))
        have Ha_41 := Lib.hid (Ha_40.out.below hb Ha_40.out.lt)
        have Hb_41 := Lib.hid (Hb_40.out.below hb Hb_40.out.lt)
        refine hK.out _ _ HB41.out ?_
        clear hK K hb
        try simp only [Act.put, List.setIfInBounds_toArray, List.set_cons_zero, List.set_cons_succ]
        refine alongF_step rfl (fun K hK => ?_)
        refine step_store_row rfl rfl rfl rfl rfl Ha_41.out (seenI rfl) rfl (by simp [Value.oneCell']) ?_
        obtain ⟨z42, hx⟩ : ∃ W, z41.setRow ya #[.bool a1, .int .u32 (e1 : Int), .int .u32 (t1 : Int), .int .u64 (b1 : Int)] = W := ⟨_, rfl⟩
        try rw [hx]
        have HB42 : Hid (Below w2.heap.size w2 z42) := Lib.hid (by rw [← hx]; exact below_row HB41.out hla _)
        have Ha_42 : Hid (Whole z42 ya 25 #[.bool a1, .int .u32 (e1 : Int), .int .u32 (t1 : Int), .int .u64 (b1 : Int)]) := Lib.hid (by rw [← hx]; exact Ha_41.out.row _)
        have Hb_42 := Lib.hid (show Whole z42 yb _ _ from by rw [← hx]; exact Hb_41.out.rowOther hne _)
        clear hx
        refine hK.out _ _ HB42.out ?_
        clear hK K
        try simp only [Act.put, List.setIfInBounds_toArray, List.set_cons_zero, List.set_cons_succ]
        refine alongF_last rfl (fun K hK => ?_)
        refine step_store_row rfl rfl rfl rfl rfl Hb_42.out (seenI rfl) rfl (by simp [Value.oneCell']) ?_
        obtain ⟨z43, hx⟩ : ∃ W, z42.setRow yb #[.bool a1, .int .u32 (e1 : Int), .int .u32 (t1 : Int), .int .u64 (b2 : Int)] = W := ⟨_, rfl⟩
        try rw [hx]
        have HB43 : Hid (Below w2.heap.size w2 z43) := Lib.hid (by rw [← hx]; exact below_row HB42.out hlb _)
        have Hb_43 : Hid (Whole z43 yb 25 #[.bool a1, .int .u32 (e1 : Int), .int .u32 (t1 : Int), .int .u64 (b2 : Int)]) := Lib.hid (by rw [← hx]; exact Hb_42.out.row _)
        have Ha_43 := Lib.hid (show Whole z43 ya _ _ from by rw [← hx]; exact Ha_42.out.rowOther hne.symm _)
        clear hx
        refine hK.out _ _ ?_
        clear hK K
        go_wp2_with fail
        go_meet
        exact ⟨ya, yb, rfl, rfl, Ha_43, Hb_43, HB43⟩
    · skip
      go_simp
      obtain ⟨yb, z44, hg, hal, hsz, hG, hb⟩ := varS w3
      try rw [hal]
      try rw [hg]
      have HB44 : Hid (Below w2.heap.size w2 z44) := Lib.hid (HB3.out.trans (hb.mono HB3.out.size))
      have Hb_44 := Lib.hid hG
      have hlb : w2.heap.size ≤ yb := by have := HB3.out.size; omega
      refine hK.out _ _ HB44.out ?_
      clear hK K hb hG hsz hal hg
      try simp only [Act.put, List.setIfInBounds_toArray, List.set_cons_zero, List.set_cons_succ]
      refine alongF_fork rfl rfl (fun K hK => ?_) (fun K hK => ?_)
      · skip
        go_simp
        refine (CM.out _).mono ?_
        rintro e1 z45 ⟨rfl, hb⟩
        have HB45 : Hid (Below w2.heap.size w2 z45) := Lib.hid (HB44.out.trans (hb.mono HB44.out.size))
        have Hb_45 := Lib.hid (Hb_44.out.below hb Hb_44.out.lt)
        refine hK.out _ _ HB45.out ?_
        clear hK K hb
        try simp only [Act.put, List.setIfInBounds_toArray, List.set_cons_zero, List.set_cons_succ]
        refine alongF_fork rfl rfl (fun K hK => ?_) (fun K hK => ?_)
        · skip
          go_simp
          refine (RM.out _).mono ?_
          rintro e1 z46 ⟨rfl, hb⟩
          have HB46 : Hid (Below w2.heap.size w2 z46) := Lib.hid (HB45.out.trans (hb.mono HB45.out.size))
          have Hb_46 := Lib.hid (Hb_45.out.below hb Hb_45.out.lt)
          refine hK.out _ _ HB46.out ?_
          clear hK K hb
          try simp only [Act.put, List.setIfInBounds_toArray, List.set_cons_zero, List.set_cons_succ]
          refine alongF_step rfl (fun K hK => ?_)
          go_simp
          obtain ⟨ya, z47, hg, hal, hsz, hG, hb⟩ := varS z46
          try rw [hal]
          try rw [hg]
          have HB47 : Hid (Below w2.heap.size w2 z47) := Lib.hid (HB46.out.trans (hb.mono HB46.out.size))
          have Ha_47 := Lib.hid hG
          have hla : w2.heap.size ≤ ya := by have := HB46.out.size; omega
          have hne : yb ≠ ya := by have := Hb_46.out.lt; omega
          have Hb_47 := Lib.hid (Hb_46.out.below hb Hb_46.out.lt)
          refine hK.out _ _ HB47.out ?_
          clear hK K hb hG hsz hal hg
          try simp only [Act.put, List.setIfInBounds_toArray, List.set_cons_zero, List.set_cons_succ]
          refine alongF_step rfl (fun K hK => ?_)
          refine step_store_row rfl rfl rfl rfl rfl Ha_47.out (seenI rfl) rfl (by simp [Value.oneCell']) ?_
          obtain ⟨z48, hx⟩ : ∃ W, z47.setRow ya #[.bool a1, .int .u32 (e1 : Int), .int .u32 (t1 : Int), .int .u64 (b1 : Int)] = W := ⟨_, rfl⟩
          try rw [hx]
          have HB48 : Hid (Below w2.heap.size w2 z48) := Lib.hid (by rw [← hx]; exact below_row HB47.out hla _)
          have Ha_48 : Hid (Whole z48 ya 25 #[.bool a1, .int .u32 (e1 : Int), .int .u32 (t1 : Int), .int .u64 (b1 : Int)]) := Lib.hid (by rw [← hx]; exact Ha_47.out.row _)
          have Hb_48 := Lib.hid (show Whole z48 yb _ _ from by rw [← hx]; exact Hb_47.out.rowOther hne _)
          clear hx
          refine hK.out _ _ HB48.out ?_
          clear hK K
          try simp only [Act.put, List.setIfInBounds_toArray, List.set_cons_zero, List.set_cons_succ]
          refine alongF_last rfl (fun K hK => ?_)
          refine step_store_row rfl rfl rfl rfl rfl Hb_48.out (seenI rfl) rfl (by simp [Value.oneCell']) ?_
          obtain ⟨z49, hx⟩ : ∃ W, z48.setRow yb #[.bool a1, .int .u32 (e1 : Int), .int .u32 (t1 : Int), .int .u64 (b2 : Int)] = W := ⟨_, rfl⟩
          try rw [hx]
          have HB49 : Hid (Below w2.heap.size w2 z49) := Lib.hid (by rw [← hx]; exact below_row HB48.out hlb _)
          have Hb_49 : Hid (Whole z49 yb 25 #[.bool a1, .int .u32 (e1 : Int), .int .u32 (t1 : Int), .int .u64 (b2 : Int)]) := Lib.hid (by rw [← hx]; exact Hb_48.out.row _)
          have Ha_49 := Lib.hid (show Whole z49 ya _ _ from by rw [← hx]; exact Ha_48.out.rowOther hne.symm _)
          clear hx
          refine hK.out _ _ ?_
          clear hK K
          go_wp2_with fail
          go_meet
          exact ⟨ya, yb, rfl, rfl, Ha_49, Hb_49, HB49⟩
        · skip
          go_simp
          obtain ⟨ya, z50, hg, hal, hsz, hG, hb⟩ := varS z45
          try rw [hal]
          try rw [hg]
          have HB50 : Hid (Below w2.heap.size w2 z50) := Lib.hid (HB45.out.trans (hb.mono HB45.out.size))
          have Ha_50 := Lib.hid hG
          have hla : w2.heap.size ≤ ya := by have := HB45.out.size; omega
          have hne : yb ≠ ya := by have := Hb_45.out.lt; omega
          have Hb_50 := Lib.hid (Hb_45.out.below hb Hb_45.out.lt)
          refine hK.out _ _ HB50.out ?_
          clear hK K hb hG hsz hal hg
          try simp only [Act.put, List.setIfInBounds_toArray, List.set_cons_zero, List.set_cons_succ]
          refine alongF_step rfl (fun K hK => ?_)
          go_simp
          refine (RM.out _).mono ?_
          rintro e1 z51 ⟨rfl, hb⟩
          have HB51 : Hid (Below w2.heap.size w2 z51) := Lib.hid (HB50.out.trans (hb.mono HB50.out.size))
          have Hb_51 := Lib.hid (Hb_50.out.below hb Hb_50.out.lt)
          have Ha_51 := Lib.hid (Ha_50.out.below hb Ha_50.out.lt)
          refine hK.out _ _ HB51.out ?_
          clear hK K hb
          try simp only [Act.put, List.setIfInBounds_toArray, List.set_cons_zero, List.set_cons_succ]
          refine alongF_step rfl (fun K hK => ?_)
          refine step_store_row rfl rfl rfl rfl rfl Ha_51.out (seenI rfl) rfl (by simp [Value.oneCell']) ?_
          obtain ⟨z52, hx⟩ : ∃ W, z51.setRow ya #[.bool a1, .int .u32 (e1 : Int), .int .u32 (t1 : Int), .int .u64 (b1 : Int)] = W := ⟨_, rfl⟩
          try rw [hx]
          have HB52 : Hid (Below w2.heap.size w2 z52) := Lib.hid (by rw [← hx]; exact below_row HB51.out hla _)
          have Ha_52 : Hid (Whole z52 ya 25 #[.bool a1, .int .u32 (e1 : Int), .int .u32 (t1 : Int), .int .u64 (b1 : Int)]) := Lib.hid (by rw [← hx]; exact Ha_51.out.row _)
          have Hb_52 := Lib.hid (show Whole z52 yb _ _ from by rw [← hx]; exact Hb_51.out.rowOther hne _)
          clear hx
          refine hK.out _ _ HB52.out ?_
          clear hK K
          try simp only [Act.put, List.setIfInBounds_toArray, List.set_cons_zero, List.set_cons_succ]
          refine alongF_last rfl (fun K hK => ?_)
          refine step_store_row rfl rfl rfl rfl rfl Hb_52.out (seenI rfl) rfl (by simp [Value.oneCell']) ?_
          obtain ⟨z53, hx⟩ : ∃ W, z52.setRow yb #[.bool a1, .int .u32 (e1 : Int), .int .u32 (t1 : Int), .int .u64 (b2 : Int)] = W := ⟨_, rfl⟩
          try rw [hx]
          have HB53 : Hid (Below w2.heap.size w2 z53) := Lib.hid (by rw [← hx]; exact below_row HB52.out hlb _)
          have Hb_53 : Hid (Whole z53 yb 25 #[.bool a1, .int .u32 (e1 : Int), .int .u32 (t1 : Int), .int .u64 (b2 : Int)]) := Lib.hid (by rw [← hx]; exact Hb_52.out.row _)
          have Ha_53 := Lib.hid (show Whole z53 ya _ _ from by rw [← hx]; exact Ha_52.out.rowOther hne.symm _)
          clear hx
          refine hK.out _ _ ?_
          clear hK K
          go_wp2_with fail
          go_meet
          exact ⟨ya, yb, rfl, rfl, Ha_53, Hb_53, HB53⟩
      · skip
        go_simp
        obtain ⟨ya, z54, hg, hal, hsz, hG, hb⟩ := varS z44
        try rw [hal]
        try rw [hg]
        have HB54 : Hid (Below w2.heap.size w2 z54) := Lib.hid (HB44.out.trans (hb.mono HB44.out.size))
        have Ha_54 := Lib.hid hG
        have hla : w2.heap.size ≤ ya := by have := HB44.out.size; omega
        have hne : yb ≠ ya := by have := Hb_44.out.lt; omega
        have Hb_54 := Lib.hid (Hb_44.out.below hb Hb_44.out.lt)
        refine hK.out _ _ HB54.out ?_
        clear hK K hb hG hsz hal hg
        try simp only [Act.put, List.setIfInBounds_toArray, List.set_cons_zero, List.set_cons_succ]
        refine alongF_step rfl (fun K hK => ?_)
        go_simp
        refine (CM.out _).mono ?_
        rintro e1 z55 ⟨rfl, hb⟩
        have HB55 : Hid (Below w2.heap.size w2 z55) := Lib.hid (HB54.out.trans (hb.mono HB54.out.size))
        have Hb_55 := Lib.hid (Hb_54.out.below hb Hb_54.out.lt)
        have Ha_55 := Lib.hid (Ha_54.out.below hb Ha_54.out.lt)
        refine hK.out _ _ HB55.out ?_
        clear hK K hb
        try simp only [Act.put, List.setIfInBounds_toArray, List.set_cons_zero, List.set_cons_succ]
        refine alongF_step rfl (fun K hK => ?_)
        go_simp
        refine (RM.out _).mono ?_
        rintro e1 z56 ⟨rfl, hb⟩
        have HB56 : Hid (Below w2.heap.size w2 z56) := Lib.hid (HB55.out.trans (hb.mono HB55.out.size))
        have Hb_56 := Lib.hid (Hb_55.out.below hb Hb_55.out.lt)
        have Ha_56 := Lib.hid (Ha_55.out.below hb Ha_55.out.lt)
        refine hK.out _ _ HB56.out ?_
        clear hK K hb
        try simp only [Act.put, List.setIfInBounds_toArray, List.set_cons_zero, List.set_cons_succ]
        refine alongF_step rfl (fun K hK => ?_)
        refine step_store_row rfl rfl rfl rfl rfl Ha_56.out (seenI rfl) rfl (by simp [Value.oneCell']) ?_
        obtain ⟨z57, hx⟩ : ∃ W, z56.setRow ya #[.bool a1, .int .u32 (e1 : Int), .int .u32 (t1 : Int), .int .u64 (b1 : Int)] = W := ⟨_, rfl⟩
        try rw [hx]
        have HB57 : Hid (Below w2.heap.size w2 z57) := Lib.hid (by rw [← hx]; exact below_row HB56.out hla _)
        have Ha_57 : Hid (Whole z57 ya 25 #[.bool a1, .int .u32 (e1 : Int), .int .u32 (t1 : Int), .int .u64 (b1 : Int)]) := Lib.hid (by rw [← hx]; exact Ha_56.out.row _)
        have Hb_57 := Lib.hid (show Whole z57 yb _ _ from by rw [← hx]; exact Hb_56.out.rowOther hne _)
        clear hx
        refine hK.out _ _ HB57.out ?_
        clear hK K
        try simp only [Act.put, List.setIfInBounds_toArray, List.set_cons_zero, List.set_cons_succ]
        refine alongF_last rfl (fun K hK => ?_)
        refine step_store_row rfl rfl rfl rfl rfl Hb_57.out (seenI rfl) rfl (by simp [Value.oneCell']) ?_
        obtain ⟨z58, hx⟩ : ∃ W, z57.setRow yb #[.bool a1, .int .u32 (e1 : Int), .int .u32 (t1 : Int), .int .u64 (b2 : Int)] = W := ⟨_, rfl⟩
        try rw [hx]
        have HB58 : Hid (Below w2.heap.size w2 z58) := Lib.hid (by rw [← hx]; exact below_row HB57.out hlb _)
        have Hb_58 : Hid (Whole z58 yb 25 #[.bool a1, .int .u32 (e1 : Int), .int .u32 (t1 : Int), .int .u64 (b2 : Int)]) := Lib.hid (by rw [← hx]; exact Hb_57.out.row _)
        have Ha_58 := Lib.hid (show Whole z58 ya _ _ from by rw [← hx]; exact Ha_57.out.rowOther hne.symm _)
        clear hx
        refine hK.out _ _ ?_
        clear hK K
        go_wp2_with fail
        go_meet
        exact ⟨ya, yb, rfl, rfl, Ha_58, Hb_58, HB58⟩
  case rest =>
  obtain ⟨ya, yb, rfl, rfl, HA, HB, HB4⟩ := hcut
  obtain ⟨w4, rfl⟩ : ∃ W, W = wc := ⟨_, rfl⟩
  have HB5 := Lib.hid (HB1.out.trans ((HB2.out.trans (HB4.out.mono HB2.out.size)).mono HB1.out.size))
  obtain ⟨a0, a1c, a2c, a3c⟩ := cellsS HA.out
  obtain ⟨b0, b1c, b2c, b3c⟩ := cellsS HB.out
  obtain ⟨c0, c1c, c2c, c3c⟩ := cellsS (HX2.out w4 HB4.out)
  obtain ⟨q, hq⟩ : ∃ q, Hid (decide ((⟨a1, e1, t1, b1⟩ : Sn) = ⟨a1, e1, t1, b2⟩) = q) := ⟨_, Lib.hid rfl⟩
  have hse : ∀ W, (Op.equalIn 10000 25 (.agg #[.bool a1, .int .u32 (e1 : Int), .int .u32 (t1 : Int), .int .u64 (b1 : Int)]) (.agg #[.bool a1, .int .u32 (e1 : Int), .int .u32 (t1 : Int), .int .u64 (b2 : Int)])).run Try.prog W = .ok q W := fun W => by rw [eqSeen, hq.out]
  have bs := bool_self a1
  cases q with
  | true =>
    go_wp2_with fail
    refine (awake20 _).mono ?_
    rintro e w5 ⟨rfl, hb⟩
    have HB6 := Lib.hid (HB5.out.trans (hb.mono HB5.out.size))
    clear hb
    go_wp2_with fail
    go_ret
    exact ⟨rfl, HB6.out⟩
  | false =>
    obtain ⟨rfl, h64⟩ := HEq.out (of_decide_eq_false hq.out)
    have h64' : (t : Int) < 64 := by omega
    go_wp2_with fail
    refine (awake20 _).mono ?_
    rintro e w5 ⟨rfl, hb⟩
    have HB6 := Lib.hid (HB5.out.trans (hb.mono HB5.out.size))
    clear hb
    go_wp2_with fail
    go_ret
    exact ⟨rfl, HB6.out⟩
theorem seenFresh_walk (s : Sn) (a1 a2 : Int) (w : World) (ok : s.Ok) (w1 : (Lit.int .u32 a1).wf = true) (w2 : (Lit.int .u32 a2).wf = true) :
    Calls Try.prog 3 #[.agg #[.bool s.any, .int .u32 (s.epoch : Int), .int .u32 (s.top : Int), .int .u64 (s.bits : Int)], .int .u32 a1, .int .u32 a2] w fun e w' => e = .returned (.bool true) ∧ Below w.heap.size w w' := by
  obtain ⟨p1, q1⟩ := bounds_u32 w1
  obtain ⟨p2, q2⟩ := bounds_u32 w2
  obtain ⟨E, rfl⟩ := Int.eq_ofNat_of_zero_le p1
  obtain ⟨i, rfl⟩ := Int.eq_ofNat_of_zero_le p2
  exact seenFresh_main s ok E (by omega) i (by omega) w
end Go.Proofs.Ytandkgdlcdoikaa
