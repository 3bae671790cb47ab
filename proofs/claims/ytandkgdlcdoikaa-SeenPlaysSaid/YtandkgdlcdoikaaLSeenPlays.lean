/- The walk of the law SeenPlays. -/
import Derived.Test.YtandkgdlcdoikaaAwake20
import Derived.Test.YtandkgdlcdoikaaNl20
import Derived.Test.YtandkgdlcdoikaaFork
namespace Go.Proofs.Ytandkgdlcdoikaa
open Go.RowKit
set_option linter.unusedVariables false
set_option maxRecDepth 100000
set_option linter.unusedSimpArgs false

set_option maxHeartbeats 8000000 in
theorem seenPlays_walk (v0 : Value) (l : List (Nat × Nat)) (w : World) (H : Nl w v0 l) :
    Calls Try.prog 4 #[v0] w fun e w' => e = .returned (.bool true) ∧ Below w.heap.size w w' := by
  obtain ⟨hsl, hok⟩ := H
  obtain ⟨A, c, rfl, hT, hle, hmx, hnl⟩ := hsl
  unfold maxLen at hmx
  obtain ⟨n, hn⟩ : ∃ n, Hid (l.length = n) := ⟨_, Lib.hid rfl⟩
  have HT := Lib.hid (fun W (hW : Below w.heap.size w W) => hT.below hW)
  have HOK := Lib.hid hok
  rw [hn.out] at hle ⊢
  clear hT hnl hok
  by_cases hbig : 100 < n
  · go_enter Try.func4, Try.ntmps4
    go_wp2_with fail
    refine (awake20 _).mono ?_
    rintro e w1 ⟨rfl, hb⟩
    have HB := Lib.hid hb
    clear hb
    go_wp2_with fail
    go_ret
    exact ⟨rfl, HB.out⟩
  · obtain ⟨a, w1, ha, hal, hsz, hA1, hb1⟩ := varS w
    obtain ⟨b, w2, hb, hal2, hsz2, hB1, hb2⟩ := varS w1
    have hab : a < b := by omega
    have hA2 := hA1.below hb2 hA1.lt
    obtain ⟨w3, hw3⟩ : ∃ W, w2.setRow a #[.bool false, .int .u32 0, .int .u32 0, .int .u64 0] = W := ⟨_, rfl⟩
    obtain ⟨w4, hw4⟩ : ∃ W, w3.setRow b #[.bool false, .int .u32 0, .int .u32 0, .int .u64 0] = W := ⟨_, rfl⟩
    have HA2 := Lib.hid hA2
    have HB3 : Hid (Whole w3 b 25 #[.bool false, .int .u32 0, .int .u32 0, .int .u64 0]) := Lib.hid (by rw [← hw3]; exact hB1.rowOther (by omega) _)
    have HA4 : Hid (Whole w4 a 25 #[.bool false, .int .u32 0, .int .u32 0, .int .u64 0]) := Lib.hid (by rw [← hw4, ← hw3]; exact (hA2.row _).rowOther (by omega) _)
    have HB4 : Hid (Whole w4 b 25 #[.bool false, .int .u32 0, .int .u32 0, .int .u64 0]) := Lib.hid (by rw [← hw4]; exact HB3.out.row _)
    have HW4 : Hid (Below w.heap.size w w4) := Lib.hid (by rw [← hw4, ← hw3]; exact below_row (below_row (hb1.trans (hb2.mono hb1.size)) (by omega) _) (by omega) _)
    have HG : Hid (w.heap.size ≤ a ∧ a < b) := Lib.hid ⟨by omega, hab⟩
    clear hA1 hB1 hb1 hb2 hsz hsz2 hA2 hab
    go_enter Try.func4, Try.ntmps4
    go_wp2_with (first | (refine wpList_store_whole rfl rfl rfl rfl rfl HA2.out (seenI rfl) rfl (by simp [Value.oneCell']) ?_; rw [hw3]) | (refine wpList_store_whole rfl rfl rfl rfl rfl HB3.out (seenI rfl) rfl (by simp [Value.oneCell']) ?_; rw [hw4]))
    go_loopw [5] (fun x wr => ∃ j : Nat, j ≤ n ∧ x = .int .i64 (j : Int) ∧ Hid (Whole wr a 25 #[.bool (Sn.run l j).any, .int .u32 ((Sn.run l j).epoch : Int), .int .u32 ((Sn.run l j).top : Int), .int .u64 ((Sn.run l j).bits : Int)]) ∧ Hid (Whole wr b 25 #[.bool (Sn.run l j).any, .int .u32 ((Sn.run l j).epoch : Int), .int .u32 ((Sn.run l j).top : Int), .int .u64 ((Sn.run l j).bits : Int)]) ∧ Hid (Below w.heap.size w wr)) (fun x _ => n - (intOf x).toNat)
    case atStart => exact ⟨0, by omega, rfl, by rw [Sn.run_zero]; exact HA4, by rw [Sn.run_zero]; exact HB4, HW4⟩
    case round =>
      obtain ⟨j, hj, rfl, HA, HB, HW⟩ := hrel
      by_cases hlt : j < n
      · have hjl : j < l.length := by rw [hn.out]; exact hlt
        have hOk := Sn.run_ok HOK.out j (by omega)
        have hCl := Sn.run_clean (l := l) j (by omega)
        have hSu := Sn.run_succ hjl
        have hp := HOK.out _ (List.getElem_mem hjl)
        obtain ⟨blk, off, rfl, hblk, hd0, hd1⟩ := (HT.out wr HW.out).at_ hjl
        have hRM : Sn.rmark (Sn.run l j) l[j].1 l[j].2 = Sn.run l (j + 1) := by rw [hSu, Sn.mark_rmark _ _ (.inr hCl)]
        obtain ⟨p, hpe⟩ : ∃ p : Nat × Nat, l[j] = p := ⟨_, rfl⟩
        obtain ⟨E, i⟩ := p
        rw [hpe] at hp hd0 hd1 hSu hRM
        simp only [fNum] at hp hd0 hd1 hSu hRM
        obtain ⟨hE, hi⟩ := hp
        obtain ⟨M, hM⟩ : ∃ M, Hid (Sn.run l j = M) := ⟨_, Lib.hid rfl⟩
        obtain ⟨M1, hM1⟩ : ∃ M, Hid (Sn.run l (j + 1) = M) := ⟨_, Lib.hid rfl⟩
        rw [hM.out] at hOk hSu hRM HA HB
        rw [hM1.out] at hSu hRM
        have HMk := Lib.hid hSu.symm
        have HRk := Lib.hid hRM
        obtain ⟨v, e, t, b0⟩ := M
        obtain ⟨v1, e1, t1, b1⟩ := M1
        obtain ⟨he, ht, hbt⟩ := hOk
        simp only at he ht hbt HA HB
        have CF := Lib.hid (fun W => cfresh20_any (w := W) (v := v) he ht hbt hE hi)
        have RF := Lib.hid (fun W => rfresh20_any (w := W) (v := v) he ht hbt hE hi)
        have CM := Lib.hid (fun W => cmark20_any (w := W) (v := v) he ht hbt hE hi)
        have RM := Lib.hid (fun W => rmark20_any (w := W) (v := v) he ht hbt hE hi)
        rw [HMk.out] at CM
        rw [HRk.out] at RM
        obtain ⟨f, hf⟩ : ∃ f, Hid (Sn.fresh ⟨v, e, t, b0⟩ E i = f) := ⟨_, Lib.hid rfl⟩
        rw [hf.out] at CF RF
        have nef : ((f : Int) != (f : Int)) = false := by simp
        have hla := HA.out.lt
        have hlb := HB.out.lt
        have FA := Lib.hid (fun W (hW : Below wr.heap.size wr W) => (HA.out.below hW hla : Whole W a 25 #[.bool v, .int .u32 (e : Int), .int .u32 (t : Int), .int .u64 (b0 : Int)]))
        have FB := Lib.hid (fun W (hW : Below wr.heap.size wr W) => (HB.out.below hW hlb : Whole W b 25 #[.bool v, .int .u32 (e : Int), .int .u32 (t : Int), .int .u64 (b0 : Int)]))
        have hwr : w.heap.size ≤ wr.heap.size := HW.out.size
        have FD := Lib.hid (fun W (hW : Below wr.heap.size wr W) => (⟨(hW.cell (p := ⟨blk, off + j * 2, none⟩) (show blk < wr.heap.size by omega)).trans hd0, (hW.cell (p := ⟨blk, off + j * 2 + 1, none⟩) (show blk < wr.heap.size by omega)).trans hd1⟩ : W.cell? ⟨blk, off + j * 2, none⟩ = some (.int .u32 (E : Int)) ∧ W.cell? ⟨blk, off + j * 2 + 1, none⟩ = some (.int .u32 (i : Int))))
        have hj0 : 0 ≤ (j : Int) := by omega
        clear hSu hRM hCl hd0 hd1 hpe hjl
        go_wp2_with fail
        refine wp_region_plan (S := fun W => Below wr.heap.size wr W) [(0, true), (1, true), (2, true), (3, true), (4, true), (5, true), (6, true), (7, true), (8, true), (9, true), (10, true), (12, true), (13, true), (14, true), (15, true), (16, true), (17, true), (18, true), (19, true), (20, true), (21, true), (22, true), (11, false), (23, false), (24, true)] (by kernel_rfl) (by kernel_rfl) rfl (by kernel_rfl) (fun _ _ _ _ _ h => h) (Below.refl _ _).drew ?_
        have HS0 : Hid (Below wr.heap.size wr wr.drew) := Lib.hid (Below.refl _ _).drew
        iterate 22
          refine along_take (v := ?_) rfl (by rfl) ?_ ?_
          rotate_left
          · intro W hW; obtain ⟨c0, c1, c2, c3⟩ := cellsS (FA.out W hW); obtain ⟨k0, k1, k2, k3⟩ := cellsS (FB.out W hW); obtain ⟨d0, d1⟩ := FD.out W hW; clear hW; go_simp; try with_reducible rfl
          simp only [Act.put, List.setIfInBounds_toArray, List.set_cons_zero, List.set_cons_succ]
        refine along_step rfl (fun K hK => ?_)
        go_simp
        refine (CF.out _).mono ?_
        rintro e9 x1 ⟨rfl, hb⟩
        have HS1 : Hid (Below wr.heap.size wr x1) := Lib.hid (HS0.out.trans (hb.mono HS0.out.size))
        refine hK.out _ _ HS1.out ?_
        clear hK K hb
        try simp only [Act.put, List.setIfInBounds_toArray, List.set_cons_zero, List.set_cons_succ]
        refine along_step rfl (fun K hK => ?_)
        go_simp
        refine (RF.out _).mono ?_
        rintro e9 x2 ⟨rfl, hb⟩
        have HS2 : Hid (Below wr.heap.size wr x2) := Lib.hid (HS1.out.trans (hb.mono HS1.out.size))
        refine hK.out _ _ HS2.out ?_
        clear hK K hb
        try simp only [Act.put, List.setIfInBounds_toArray, List.set_cons_zero, List.set_cons_succ]
        iterate 1
          refine along_take (v := ?_) rfl (by rfl) ?_ ?_
          rotate_left
          · intro W hW; obtain ⟨c0, c1, c2, c3⟩ := cellsS (FA.out W hW); obtain ⟨k0, k1, k2, k3⟩ := cellsS (FB.out W hW); obtain ⟨d0, d1⟩ := FD.out W hW; clear hW; go_simp; try with_reducible rfl
          simp only [Act.put, List.setIfInBounds_toArray, List.set_cons_zero, List.set_cons_succ]
        refine along_done ?_
        have HC1 : Hid (Below wr.heap.size wr x2) := Lib.hid HS2.out
        obtain ⟨y1, hy1⟩ : ∃ W, x2 = W := ⟨_, rfl⟩
        rw [hy1] at HC1 ⊢
        clear hy1
        have hhg := HG.out
        have hab : a < b := hhg.2
        have FA2 := Lib.hid (fun W (hW : Below y1.heap.size y1 W) => FA.out W (HC1.out.trans (hW.mono HC1.out.size)))
        have FB2 := Lib.hid (fun W (hW : Below y1.heap.size y1 W) => FB.out W (HC1.out.trans (hW.mono HC1.out.size)))
        have FD2 := Lib.hid (fun W (hW : Below y1.heap.size y1 W) => FD.out W (HC1.out.trans (hW.mono HC1.out.size)))
        have hs1 : wr.heap.size ≤ y1.heap.size := HC1.out.size
        go_wp2_with fail
        refine wp_region_fork (S := fun W => Below y1.heap.size y1 W) 12 (.take 0 (.take 1 (.take 2 (.take 3 (.take 4 (.take 5 (.take 6 (.take 7 (.take 8 (.take 9 (.take 10 (.step 11 (.step 12 .done))))))))))))) (by kernel_rfl) (by kernel_rfl) rfl (by kernel_rfl) (by rfl) (fun _ _ _ _ _ h => h) (Below.refl _ _).drew ?_
        have HS1 : Hid (Below y1.heap.size y1 y1.drew) := Lib.hid (Below.refl _ _).drew
        iterate 11
          refine alongF_take (v := ?_) rfl (by rfl) ?_ ?_
          rotate_left
          · intro W hW; obtain ⟨c0, c1, c2, c3⟩ := cellsS (FA2.out W hW); obtain ⟨k0, k1, k2, k3⟩ := cellsS (FB2.out W hW); obtain ⟨d0, d1⟩ := FD2.out W hW; clear hW; go_simp; try with_reducible rfl
          simp only [Act.put, List.setIfInBounds_toArray, List.set_cons_zero, List.set_cons_succ]
        refine alongF_step rfl (fun K hK => ?_)
        go_simp
        refine (CM.out _).mono ?_
        rintro e9 x3 ⟨rfl, hb⟩
        have HS3 : Hid (Below y1.heap.size y1 x3) := Lib.hid (HS1.out.trans (hb.mono HS1.out.size))
        refine hK.out _ _ HS3.out ?_
        clear hK K hb
        try simp only [Act.put, List.setIfInBounds_toArray, List.set_cons_zero, List.set_cons_succ]
        refine alongF_last rfl (fun K hK => ?_)
        have HWx := Lib.hid (FA2.out _ HS3.out)
        refine step_store_row rfl rfl rfl rfl rfl HWx.out (seenI rfl) rfl (by simp [Value.oneCell']) ?_
        obtain ⟨y2, hx⟩ : ∃ W, x3.setRow a #[.bool v1, .int .u32 (e1 : Int), .int .u32 (t1 : Int), .int .u64 (b1 : Int)] = W := ⟨_, rfl⟩
        try rw [hx]
        refine hK.out _ _ ?_
        clear hK K
        have HNa : Hid (Whole y2 a 25 #[.bool v1, .int .u32 (e1 : Int), .int .u32 (t1 : Int), .int .u64 (b1 : Int)]) := Lib.hid (by rw [← hx]; exact HWx.out.row _)
        have HBxa : Hid (Below a y1 y2) := Lib.hid (by rw [← hx]; exact below_row (HS3.out.mono (by omega)) (by omega) _)
        have HOa : Hid (∀ x, x ≠ a → x < y1.heap.size → y2.heap[x]? = y1.heap[x]?) := Lib.hid (fun x hx1 hx2 => by rw [← hx, setRow_other _ _ _ _ hx1]; exact HS3.out.block x hx2)
        clear hx HWx
        have hs2 : b < y2.heap.size := by
          have h1 := (HOa.out b (by omega) (by omega)).trans (FB2.out y1 (Below.refl _ _))
          exact Whole.lt (show Whole y2 b _ _ from h1)
        have hs2a := HNa.out.lt
        have FA3 := Lib.hid (fun W (hW : Below y2.heap.size y2 W) => (HNa.out.below hW hs2a : Whole W a 25 #[.bool v1, .int .u32 (e1 : Int), .int .u32 (t1 : Int), .int .u64 (b1 : Int)]))
        have FB3 := Lib.hid (fun W (hW : Below y2.heap.size y2 W) => ((show Whole y2 b 25 #[.bool v, .int .u32 (e : Int), .int .u32 (t : Int), .int .u64 (b0 : Int)] from (HOa.out b (by omega) (by omega)).trans (FB2.out y1 (Below.refl _ _))).below hW hs2 : Whole W b 25 #[.bool v, .int .u32 (e : Int), .int .u32 (t : Int), .int .u64 (b0 : Int)]))
        have FD3 := Lib.hid (fun W (hW : Below y2.heap.size y2 W) => (⟨(hW.cell (p := ⟨blk, off + j * 2, none⟩) (show blk < y2.heap.size by omega)).trans ((HBxa.out.cell (p := ⟨blk, off + j * 2, none⟩) (show blk < a by omega)).trans (FD2.out y1 (Below.refl _ _)).1), (hW.cell (p := ⟨blk, off + j * 2 + 1, none⟩) (show blk < y2.heap.size by omega)).trans ((HBxa.out.cell (p := ⟨blk, off + j * 2 + 1, none⟩) (show blk < a by omega)).trans (FD2.out y1 (Below.refl _ _)).2)⟩ : W.cell? ⟨blk, off + j * 2, none⟩ = some (.int .u32 (E : Int)) ∧ W.cell? ⟨blk, off + j * 2 + 1, none⟩ = some (.int .u32 (i : Int))))
        go_wp2_with fail
        refine wp_region_fork (S := fun W => Below y2.heap.size y2 W) 12 (.take 0 (.take 1 (.take 2 (.take 3 (.take 4 (.take 5 (.take 6 (.take 7 (.take 8 (.take 9 (.take 10 (.step 11 (.step 12 .done))))))))))))) (by kernel_rfl) (by kernel_rfl) rfl (by kernel_rfl) (by rfl) (fun _ _ _ _ _ h => h) (Below.refl _ _).drew ?_
        have HS2 : Hid (Below y2.heap.size y2 y2.drew) := Lib.hid (Below.refl _ _).drew
        iterate 11
          refine alongF_take (v := ?_) rfl (by rfl) ?_ ?_
          rotate_left
          · intro W hW; obtain ⟨c0, c1, c2, c3⟩ := cellsS (FA3.out W hW); obtain ⟨k0, k1, k2, k3⟩ := cellsS (FB3.out W hW); obtain ⟨d0, d1⟩ := FD3.out W hW; clear hW; go_simp; try with_reducible rfl
          simp only [Act.put, List.setIfInBounds_toArray, List.set_cons_zero, List.set_cons_succ]
        refine alongF_step rfl (fun K hK => ?_)
        go_simp
        refine (RM.out _).mono ?_
        rintro e9 x4 ⟨rfl, hb⟩
        have HS4 : Hid (Below y2.heap.size y2 x4) := Lib.hid (HS2.out.trans (hb.mono HS2.out.size))
        refine hK.out _ _ HS4.out ?_
        clear hK K hb
        try simp only [Act.put, List.setIfInBounds_toArray, List.set_cons_zero, List.set_cons_succ]
        refine alongF_last rfl (fun K hK => ?_)
        have HWx := Lib.hid (FB3.out _ HS4.out)
        refine step_store_row rfl rfl rfl rfl rfl HWx.out (seenI rfl) rfl (by simp [Value.oneCell']) ?_
        obtain ⟨y3, hx⟩ : ∃ W, x4.setRow b #[.bool v1, .int .u32 (e1 : Int), .int .u32 (t1 : Int), .int .u64 (b1 : Int)] = W := ⟨_, rfl⟩
        try rw [hx]
        refine hK.out _ _ ?_
        clear hK K
        have HNb : Hid (Whole y3 b 25 #[.bool v1, .int .u32 (e1 : Int), .int .u32 (t1 : Int), .int .u64 (b1 : Int)]) := Lib.hid (by rw [← hx]; exact HWx.out.row _)
        have HBxb : Hid (Below a y2 y3) := Lib.hid (by rw [← hx]; exact below_row (HS4.out.mono (by omega)) (by omega) _)
        have HOb : Hid (∀ x, x ≠ b → x < y2.heap.size → y3.heap[x]? = y2.heap[x]?) := Lib.hid (fun x hx1 hx2 => by rw [← hx, setRow_other _ _ _ _ hx1]; exact HS4.out.block x hx2)
        clear hx HWx
        have HFa : Hid (Whole y3 a 25 #[.bool v1, .int .u32 (e1 : Int), .int .u32 (t1 : Int), .int .u64 (b1 : Int)]) := Lib.hid ((HOb.out a (by omega) hs2a).trans HNa.out)
        have HFW : Hid (Below w.heap.size w y3) := Lib.hid (HW.out.trans ((HC1.out.mono hwr).trans ((HBxa.out.mono hhg.1).trans (HBxb.out.mono hhg.1))))
        obtain ⟨m0, m1, m2, m3⟩ := cellsS HFa.out
        obtain ⟨q0, q1, q2, q3⟩ := cellsS HNb.out
        have hse : ∀ W, (Op.equalIn 10000 25 (.agg #[.bool v1, .int .u32 (e1 : Int), .int .u32 (t1 : Int), .int .u64 (b1 : Int)]) (.agg #[.bool v1, .int .u32 (e1 : Int), .int .u32 (t1 : Int), .int .u64 (b1 : Int)])).run Try.prog W = .ok true W := fun W => by rw [eqSeen, decide_eq_true rfl]
        have hjn : (j : Int) + 1 ≤ 9223372036854775807 := by omega
        go_wp2_with fail
        go_roundw
        case rel => exact ⟨j + 1, by omega, by go_num, by rw [hM1.out]; exact HFa, by rw [hM1.out]; exact HNb, HFW⟩
        case measure => simp [intOf]; omega
      · obtain rfl : j = n := by omega
        go_wp2_with fail
        refine (awake20 _).mono ?_
        rintro e w5 ⟨rfl, hb⟩
        have HB5 := Lib.hid (HW.out.trans (hb.mono HW.out.size))
        clear hb
        go_wp2_with fail
        go_ret
        exact ⟨rfl, HB5.out⟩
end Go.Proofs.Ytandkgdlcdoikaa
