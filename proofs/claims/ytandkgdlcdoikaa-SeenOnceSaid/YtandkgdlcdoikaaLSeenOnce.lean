/- The walk of the law SeenOnce. -/
import Derived.Test.YtandkgdlcdoikaaAwake20
import Derived.Test.YtandkgdlcdoikaaNl20
import Derived.Test.YtandkgdlcdoikaaFork
namespace Go.Proofs.Ytandkgdlcdoikaa
open Go.RowKit
set_option linter.unusedVariables false
set_option maxRecDepth 100000
set_option linter.unusedSimpArgs false

set_option maxHeartbeats 8000000 in
theorem seenOnce_walk (v0 : Value) (l : List (Nat × Nat)) (w : World) (H : Nl w v0 l) :
    Calls Try.prog 5 #[v0] w fun e w' => e = .returned (.bool true) ∧ Below w.heap.size w w' := by
  obtain ⟨hsl, hok⟩ := H
  obtain ⟨A, c, rfl, hT, hle, hmx, hnl⟩ := hsl
  unfold maxLen at hmx
  obtain ⟨n, hn⟩ : ∃ n, Hid (l.length = n) := ⟨_, Lib.hid rfl⟩
  have HT := Lib.hid (fun W (hW : Below w.heap.size w W) => hT.below hW)
  have HOK := Lib.hid hok
  rw [hn.out] at hle ⊢
  clear hT hnl hok
  by_cases hbig : 100 < n
  · go_enter Try.func5, Try.ntmps5
    go_wp2_with fail
    refine (awake20 _).mono ?_
    rintro e w1 ⟨rfl, hb⟩
    have HB := Lib.hid hb
    clear hb
    go_wp2_with fail
    go_ret
    exact ⟨rfl, HB.out⟩
  · obtain ⟨a, w1, ha, hal, hsz, hA1, hb1⟩ := varS w
    obtain ⟨w4, hw4⟩ : ∃ W, w1.setRow a #[.bool false, .int .u32 0, .int .u32 0, .int .u64 0] = W := ⟨_, rfl⟩
    have HA1 := Lib.hid hA1
    have HA4 : Hid (Whole w4 a 25 #[.bool false, .int .u32 0, .int .u32 0, .int .u64 0]) := Lib.hid (by rw [← hw4]; exact hA1.row _)
    have HW4 : Hid (Below w.heap.size w w4) := Lib.hid (by rw [← hw4]; exact below_row hb1 (by omega) _)
    have HG : Hid (w.heap.size ≤ a) := Lib.hid (by omega)
    clear hA1 hb1 hsz
    go_enter Try.func5, Try.ntmps5
    go_wp2_with (refine wpList_store_whole rfl rfl rfl rfl rfl HA1.out (seenI rfl) rfl (by simp [Value.oneCell']) ?_; rw [hw4])
    go_loopw [4] (fun x wr => ∃ j : Nat, j ≤ n ∧ x = .int .i64 (j : Int) ∧ Hid (Whole wr a 25 #[.bool (Sn.run l j).any, .int .u32 ((Sn.run l j).epoch : Int), .int .u32 ((Sn.run l j).top : Int), .int .u64 ((Sn.run l j).bits : Int)]) ∧ Hid (Below w.heap.size w wr)) (fun x _ => n - (intOf x).toNat)
    case atStart => exact ⟨0, by omega, rfl, by rw [Sn.run_zero]; exact HA4, HW4⟩
    case round =>
      obtain ⟨wo, rfl⟩ : ∃ W, W = wr := ⟨_, rfl⟩
      obtain ⟨j, hj, rfl, HA, HW⟩ := hrel
      by_cases hlt : j < n
      · have hjl : j < l.length := by rw [hn.out]; exact hlt
        have hOk := Sn.run_ok HOK.out j (by omega)
        have hOk1 := Sn.run_ok HOK.out (j + 1) (by omega)
        have hSu := Sn.run_succ hjl
        have hp := HOK.out _ (List.getElem_mem hjl)
        have HMd := Lib.hid (fun k (hk : k < j) => Sn.run_marked (show k < l.length by omega) j hk (by omega))
        have hm1 := Sn.run_marked hjl (j + 1) (by omega) (by omega)
        obtain ⟨blk, off, rfl, hblk, hd0, hd1⟩ := (HT.out wo HW.out).at_ hjl
        have HLk := Lib.hid (fun k (hk : k < j) => (HT.out wo HW.out).at_ (show k < l.length by omega))
        have HOk := Lib.hid (fun k (hk : k < j) => HOK.out _ (List.getElem_mem (show k < l.length by omega)))
        obtain ⟨p, hpe⟩ : ∃ p : Nat × Nat, l[j] = p := ⟨_, rfl⟩
        obtain ⟨E, i⟩ := p
        rw [hpe] at hp hd0 hd1 hSu hm1
        simp only [fNum] at hp hd0 hd1 hSu hm1
        obtain ⟨hE, hi⟩ := hp
        obtain ⟨M, hM⟩ : ∃ M, Hid (Sn.run l j = M) := ⟨_, Lib.hid rfl⟩
        obtain ⟨M1, hM1⟩ : ∃ M, Hid (Sn.run l (j + 1) = M) := ⟨_, Lib.hid rfl⟩
        rw [hM.out] at hOk hSu HA HMd
        rw [hM1.out] at hSu hm1 hOk1
        have HMk := Lib.hid hSu.symm
        obtain ⟨v, e, t, b0⟩ := M
        obtain ⟨v1, e1, t1, b1⟩ := M1
        obtain ⟨he, ht, hbt⟩ := hOk
        obtain ⟨he1, ht1, hbt1⟩ := hOk1
        simp only at he ht hbt HA he1 ht1 hbt1
        have CF := Lib.hid (fun W => cfresh20_any (w := W) (v := v) he ht hbt hE hi)
        have CM := Lib.hid (fun W => cmark20_any (w := W) (v := v) he ht hbt hE hi)
        have CG := Lib.hid (fun W => cfresh20_any (w := W) (v := v1) he1 ht1 hbt1 hE hi)
        rw [HMk.out] at CM
        obtain ⟨f, hf⟩ : ∃ f, Hid (Sn.fresh ⟨v, e, t, b0⟩ E i = f) := ⟨_, Lib.hid rfl⟩
        obtain ⟨f1, hf1⟩ : ∃ f, Hid (Sn.fresh ⟨v1, e1, t1, b1⟩ E i = f) := ⟨_, Lib.hid rfl⟩
        rw [hf.out] at CF
        rw [hf1.out] at CG hm1
        have Hm1 := Lib.hid hm1
        have hla := HA.out.lt
        have FA := Lib.hid (fun W (hW : Below wo.heap.size wo W) => (HA.out.below hW hla : Whole W a 25 #[.bool v, .int .u32 (e : Int), .int .u32 (t : Int), .int .u64 (b0 : Int)]))
        have hwr : w.heap.size ≤ wo.heap.size := HW.out.size
        have hblk' : blk < wo.heap.size := by omega
        have FD : Hid (∀ W, Below wo.heap.size wo W → W.cell? ⟨blk, off + j * 2, none⟩ = some (.int .u32 (E : Int)) ∧ W.cell? ⟨blk, off + j * 2 + 1, none⟩ = some (.int .u32 (i : Int))) := Lib.hid (fun W (hW : Below wo.heap.size wo W) => (⟨(hW.cell (p := ⟨blk, off + j * 2, none⟩) (show blk < wo.heap.size by omega)).trans ((⟨hd0, hd1⟩ : _ ∧ _).1), (hW.cell (p := ⟨blk, off + j * 2 + 1, none⟩) (show blk < wo.heap.size by omega)).trans ((⟨hd0, hd1⟩ : _ ∧ _).2)⟩ : W.cell? ⟨blk, off + j * 2, none⟩ = some (.int .u32 (E : Int)) ∧ W.cell? ⟨blk, off + j * 2 + 1, none⟩ = some (.int .u32 (i : Int))))
        have hj0 : 0 ≤ (j : Int) := by omega
        have HPe := Lib.hid (fun k (hk : k < j) (h : l[k]'(by omega) = (E, i)) => h)
        clear hSu hd0 hd1 hm1 hpe
        go_wp2_with fail
        go_loopw [5] (fun x wx => ∃ k : Nat, k ≤ j ∧ x = .int .i64 (k : Int) ∧ Hid (Below wo.heap.size wo wx)) (fun x _ => j - (intOf x).toNat)
        case atStart => exact ⟨0, by omega, rfl, Lib.hid (Below.refl _ _)⟩
        case round =>
          obtain ⟨k, hk, rfl, HX⟩ := hrel
          have hxs : wo.heap.size ≤ wr.heap.size := HX.out.size
          by_cases hkt : k < j
          · have hkn : k < n := by omega
            have hkl : k < l.length := by rw [hn.out]; exact hkn
            obtain ⟨blk', off', hEq, hblk2, hg0, hg1⟩ := HLk.out k hkt
            cases hEq
            have hMk := HMd.out k hkt
            obtain ⟨p, hpe⟩ : ∃ p : Nat × Nat, l[k] = p := ⟨_, rfl⟩
            obtain ⟨Ek, ik⟩ := p
            rw [hpe] at hg0 hg1 hMk
            simp only [fNum] at hg0 hg1 hMk
            have IA := Lib.hid (fun W (hW : Below wr.heap.size wr W) => FA.out W (HX.out.trans (hW.mono hxs)))
            have ID := Lib.hid (fun W (hW : Below wr.heap.size wr W) => FD.out W (HX.out.trans (hW.mono hxs)))
            have IG0 : Hid (∀ W, Below wo.heap.size wo W → W.cell? ⟨blk, off + k * 2, none⟩ = some (.int .u32 (Ek : Int)) ∧ W.cell? ⟨blk, off + k * 2 + 1, none⟩ = some (.int .u32 (ik : Int))) := Lib.hid (fun W (hW : Below wo.heap.size wo W) => (⟨(hW.cell (p := ⟨blk, off + k * 2, none⟩) (show blk < wo.heap.size by omega)).trans ((⟨hg0, hg1⟩ : _ ∧ _).1), (hW.cell (p := ⟨blk, off + k * 2 + 1, none⟩) (show blk < wo.heap.size by omega)).trans ((⟨hg0, hg1⟩ : _ ∧ _).2)⟩ : W.cell? ⟨blk, off + k * 2, none⟩ = some (.int .u32 (Ek : Int)) ∧ W.cell? ⟨blk, off + k * 2 + 1, none⟩ = some (.int .u32 (ik : Int))))
            have IG := Lib.hid (fun W (hW : Below wr.heap.size wr W) => IG0.out W (HX.out.trans (hW.mono hxs)))
            have hk0 : 0 ≤ (k : Int) := by omega
            obtain ⟨q, hq⟩ : ∃ q, Hid (decide ((Ek, ik) = (E, i)) = q) := ⟨_, Lib.hid rfl⟩
            have hse : ∀ W, (Op.equalIn 10000 33 (.agg #[.int .u32 (Ek : Int), .int .u32 (ik : Int)]) (.agg #[.int .u32 (E : Int), .int .u32 (i : Int)])).run Try.prog W = .ok q W := fun W => by rw [eqNumber, hq.out]
            have hgn := guardNumber
            have HNz : Hid (q = true → ¬ f = 0) := Lib.hid (fun h => by
              have h1 := of_decide_eq_true (hq.out.trans h)
              simp only [Prod.mk.injEq] at h1
              rw [h1.1, h1.2, hf.out] at hMk
              exact hMk)
            clear hg0 hg1 hpe hkl hMk
            cases q with
            | true =>
              have hfz : ((f : Int) == 0) = false := by have := HNz.out rfl; simp; omega
              clear HNz
              go_wp2_with fail
              refine wp_region_plan (S := fun W => Below wr.heap.size wr W) [(0, true), (1, true), (2, true), (3, true), (4, true), (5, true), (6, true), (7, true), (8, true), (9, true), (10, true), (11, true), (12, true), (13, true), (14, true), (15, true), (16, true), (17, true), (18, true), (19, true), (20, true), (21, false), (22, true), (23, true)] (by kernel_rfl) (by kernel_rfl) rfl (by kernel_rfl) (fun _ _ _ _ _ h => h) (Below.refl _ _).drew ?_
              have HS0 : Hid (Below wr.heap.size wr wr.drew) := Lib.hid (Below.refl _ _).drew
              iterate 21
                refine along_take (v := ?_) rfl (by rfl) ?_ ?_
                rotate_left
                · intro W hW; obtain ⟨c0, c1, c2, c3⟩ := cellsS (IA.out W hW); obtain ⟨d0, d1⟩ := ID.out W hW; obtain ⟨g0, g1⟩ := IG.out W hW; clear hW; go_simp; try with_reducible rfl
                simp only [Act.put, List.setIfInBounds_toArray, List.set_cons_zero, List.set_cons_succ]
              refine along_step rfl (fun K hK => ?_)
              go_simp
              refine (CF.out _).mono ?_
              rintro e9 x1 ⟨rfl, hb⟩
              have HS1 : Hid (Below wr.heap.size wr x1) := Lib.hid (HS0.out.trans (hb.mono HS0.out.size))
              refine hK.out _ _ HS1.out ?_
              clear hK K hb
              try simp only [Act.put, List.setIfInBounds_toArray, List.set_cons_zero, List.set_cons_succ]
              iterate 2
                refine along_take (v := ?_) rfl (by rfl) ?_ ?_
                rotate_left
                · intro W hW; obtain ⟨c0, c1, c2, c3⟩ := cellsS (IA.out W hW); obtain ⟨d0, d1⟩ := ID.out W hW; obtain ⟨g0, g1⟩ := IG.out W hW; clear hW; go_simp; try with_reducible rfl
                simp only [Act.put, List.setIfInBounds_toArray, List.set_cons_zero, List.set_cons_succ]
              refine along_done ?_
              have HC1 : Hid (Below wr.heap.size wr x1) := Lib.hid HS1.out
              obtain ⟨y1, hy1⟩ : ∃ W, x1 = W := ⟨_, rfl⟩
              rw [hy1] at HC1 ⊢
              clear hy1
              have HC2 := Lib.hid (HX.out.trans (HC1.out.mono hxs))
              have hkn1 : (k : Int) + 1 ≤ 9223372036854775807 := by omega
              go_wp2_with fail
              go_roundw
              case rel => exact ⟨k + 1, by omega, by go_num, HC2⟩
              case measure => simp [intOf]; omega
            | false =>
              go_wp2_with fail
              refine wp_region_plan (S := fun W => Below wr.heap.size wr W) [(0, true), (1, true), (2, true), (3, true), (4, true), (5, true), (6, true), (7, true), (8, true), (9, true), (10, true), (11, true), (12, true), (13, true), (14, true), (15, true), (16, true), (17, true), (18, true), (19, true), (20, true), (21, false), (22, true), (23, true)] (by kernel_rfl) (by kernel_rfl) rfl (by kernel_rfl) (fun _ _ _ _ _ h => h) (Below.refl _ _).drew ?_
              have HS0 : Hid (Below wr.heap.size wr wr.drew) := Lib.hid (Below.refl _ _).drew
              iterate 10
                refine along_take (v := ?_) rfl (by rfl) ?_ ?_
                rotate_left
                · intro W hW; obtain ⟨c0, c1, c2, c3⟩ := cellsS (IA.out W hW); obtain ⟨d0, d1⟩ := ID.out W hW; obtain ⟨g0, g1⟩ := IG.out W hW; clear hW; go_simp; try with_reducible rfl
                simp only [Act.put, List.setIfInBounds_toArray, List.set_cons_zero, List.set_cons_succ]
              iterate 11
                refine along_skip rfl (by rfl) ?_
                simp only [Act.put, List.setIfInBounds_toArray, List.set_cons_zero, List.set_cons_succ]
              refine along_step rfl (fun K hK => ?_)
              go_simp
              refine hK.out _ _ HS0.out ?_
              clear hK K
              try simp only [Act.put, List.setIfInBounds_toArray, List.set_cons_zero, List.set_cons_succ]
              iterate 1
                refine along_skip rfl (by rfl) ?_
                simp only [Act.put, List.setIfInBounds_toArray, List.set_cons_zero, List.set_cons_succ]
              iterate 1
                refine along_take (v := ?_) rfl (by rfl) ?_ ?_
                rotate_left
                · intro W hW; obtain ⟨c0, c1, c2, c3⟩ := cellsS (IA.out W hW); obtain ⟨d0, d1⟩ := ID.out W hW; obtain ⟨g0, g1⟩ := IG.out W hW; clear hW; go_simp; try with_reducible rfl
                simp only [Act.put, List.setIfInBounds_toArray, List.set_cons_zero, List.set_cons_succ]
              refine along_done ?_
              have HC1 : Hid (Below wr.heap.size wr wr.drew) := Lib.hid HS0.out
              obtain ⟨y1, hy1⟩ : ∃ W, wr.drew = W := ⟨_, rfl⟩
              rw [hy1] at HC1 ⊢
              clear hy1
              have HC2 := Lib.hid (HX.out.trans (HC1.out.mono hxs))
              have hkn1 : (k : Int) + 1 ≤ 9223372036854775807 := by omega
              go_wp2_with fail
              go_roundw
              case rel => exact ⟨k + 1, by omega, by go_num, HC2⟩
              case measure => simp [intOf]; omega
          · obtain rfl : k = j := by omega
            obtain ⟨y1, rfl⟩ : ∃ W, W = wr := ⟨_, rfl⟩
            have hag : w.heap.size ≤ a := HG.out
            have FA2 := Lib.hid (fun W (hW : Below y1.heap.size y1 W) => FA.out W (HX.out.trans (hW.mono hxs)))
            have FD2 := Lib.hid (fun W (hW : Below y1.heap.size y1 W) => FD.out W (HX.out.trans (hW.mono hxs)))
            go_wp2_with fail
            refine wp_region_fork (S := fun W => Below y1.heap.size y1 W) 12 (.take 0 (.take 1 (.take 2 (.take 3 (.take 4 (.take 5 (.take 6 (.take 7 (.take 8 (.take 9 (.take 10 (.step 11 (.step 12 .done))))))))))))) (by kernel_rfl) (by kernel_rfl) rfl (by kernel_rfl) (by rfl) (fun _ _ _ _ _ h => h) (Below.refl _ _).drew ?_
            have HS1 : Hid (Below y1.heap.size y1 y1.drew) := Lib.hid (Below.refl _ _).drew
            iterate 11
              refine alongF_take (v := ?_) rfl (by rfl) ?_ ?_
              rotate_left
              · intro W hW; obtain ⟨c0, c1, c2, c3⟩ := cellsS (FA2.out W hW); obtain ⟨d0, d1⟩ := FD2.out W hW; clear hW; go_simp; try with_reducible rfl
              simp only [Act.put, List.setIfInBounds_toArray, List.set_cons_zero, List.set_cons_succ]
            refine alongF_step rfl (fun K hK => ?_)
            go_simp
            refine (CM.out _).mono ?_
            rintro e9 x2 ⟨rfl, hb⟩
            have HS2 : Hid (Below y1.heap.size y1 x2) := Lib.hid (HS1.out.trans (hb.mono HS1.out.size))
            refine hK.out _ _ HS2.out ?_
            clear hK K hb
            try simp only [Act.put, List.setIfInBounds_toArray, List.set_cons_zero, List.set_cons_succ]
            refine alongF_last rfl (fun K hK => ?_)
            have HWx := Lib.hid (FA2.out _ HS2.out)
            refine step_store_row rfl rfl rfl rfl rfl HWx.out (seenI rfl) rfl (by simp [Value.oneCell']) ?_
            obtain ⟨y2, hx⟩ : ∃ W, x2.setRow a #[.bool v1, .int .u32 (e1 : Int), .int .u32 (t1 : Int), .int .u64 (b1 : Int)] = W := ⟨_, rfl⟩
            try rw [hx]
            refine hK.out _ _ ?_
            clear hK K
            have HNa : Hid (Whole y2 a 25 #[.bool v1, .int .u32 (e1 : Int), .int .u32 (t1 : Int), .int .u64 (b1 : Int)]) := Lib.hid (by rw [← hx]; exact HWx.out.row _)
            have HBxa : Hid (Below a y1 y2) := Lib.hid (by rw [← hx]; exact below_row (HS2.out.mono (by omega)) (by omega) _)
            clear hx HWx
            have hs2a := HNa.out.lt
            have FA3 := Lib.hid (fun W (hW : Below y2.heap.size y2 W) => (HNa.out.below hW hs2a : Whole W a 25 #[.bool v1, .int .u32 (e1 : Int), .int .u32 (t1 : Int), .int .u64 (b1 : Int)]))
            have FD3 : Hid (∀ W, Below y2.heap.size y2 W → W.cell? ⟨blk, off + k * 2, none⟩ = some (.int .u32 (E : Int)) ∧ W.cell? ⟨blk, off + k * 2 + 1, none⟩ = some (.int .u32 (i : Int))) := Lib.hid (fun W (hW : Below y2.heap.size y2 W) => (⟨(hW.cell (p := ⟨blk, off + k * 2, none⟩) (show blk < y2.heap.size by omega)).trans (((HBxa.out.cell (p := ⟨blk, off + k * 2, none⟩) (show blk < a by omega)).trans (FD2.out y1 (Below.refl _ _)).1 |> fun u => (⟨u, (HBxa.out.cell (p := ⟨blk, off + k * 2 + 1, none⟩) (show blk < a by omega)).trans (FD2.out y1 (Below.refl _ _)).2⟩ : _ ∧ _)).1), (hW.cell (p := ⟨blk, off + k * 2 + 1, none⟩) (show blk < y2.heap.size by omega)).trans (((HBxa.out.cell (p := ⟨blk, off + k * 2, none⟩) (show blk < a by omega)).trans (FD2.out y1 (Below.refl _ _)).1 |> fun u => (⟨u, (HBxa.out.cell (p := ⟨blk, off + k * 2 + 1, none⟩) (show blk < a by omega)).trans (FD2.out y1 (Below.refl _ _)).2⟩ : _ ∧ _)).2)⟩ : W.cell? ⟨blk, off + k * 2, none⟩ = some (.int .u32 (E : Int)) ∧ W.cell? ⟨blk, off + k * 2 + 1, none⟩ = some (.int .u32 (i : Int))))
            go_wp2_with fail
            refine wp_region_plan (S := fun W => Below y2.heap.size y2 W) [(0, true), (1, true), (2, true), (3, true), (4, true), (5, true), (6, true), (7, true), (8, true), (9, true), (10, true), (11, false), (12, true)] (by kernel_rfl) (by kernel_rfl) rfl (by kernel_rfl) (fun _ _ _ _ _ h => h) (Below.refl _ _).drew ?_
            have HS2 : Hid (Below y2.heap.size y2 y2.drew) := Lib.hid (Below.refl _ _).drew
            have hfz : ((f1 : Int) == 0) = false := by have := Hm1.out; simp; omega
            iterate 11
              refine along_take (v := ?_) rfl (by rfl) ?_ ?_
              rotate_left
              · intro W hW; obtain ⟨c0, c1, c2, c3⟩ := cellsS (FA3.out W hW); obtain ⟨d0, d1⟩ := FD3.out W hW; clear hW; go_simp; try with_reducible rfl
              simp only [Act.put, List.setIfInBounds_toArray, List.set_cons_zero, List.set_cons_succ]
            refine along_step rfl (fun K hK => ?_)
            go_simp
            refine (CG.out _).mono ?_
            rintro e9 x3 ⟨rfl, hb⟩
            have HS3 : Hid (Below y2.heap.size y2 x3) := Lib.hid (HS2.out.trans (hb.mono HS2.out.size))
            refine hK.out _ _ HS3.out ?_
            clear hK K hb
            try simp only [Act.put, List.setIfInBounds_toArray, List.set_cons_zero, List.set_cons_succ]
            iterate 1
              refine along_take (v := ?_) rfl (by rfl) ?_ ?_
              rotate_left
              · intro W hW; obtain ⟨c0, c1, c2, c3⟩ := cellsS (FA3.out W hW); obtain ⟨d0, d1⟩ := FD3.out W hW; clear hW; go_simp; try with_reducible rfl
              simp only [Act.put, List.setIfInBounds_toArray, List.set_cons_zero, List.set_cons_succ]
            refine along_done ?_
            have HC3 : Hid (Below y2.heap.size y2 x3) := Lib.hid HS3.out
            obtain ⟨y3, hy3⟩ : ∃ W, x3 = W := ⟨_, rfl⟩
            rw [hy3] at HC3 ⊢
            clear hy3
            have HFa : Hid (Whole y3 a 25 #[.bool v1, .int .u32 (e1 : Int), .int .u32 (t1 : Int), .int .u64 (b1 : Int)]) := Lib.hid (FA3.out y3 HC3.out)
            have hs2y : w.heap.size ≤ y2.heap.size := by have := HBxa.out.size; omega
            have HFW : Hid (Below w.heap.size w y3) := Lib.hid (HW.out.trans ((HX.out.mono hwr).trans ((HBxa.out.mono hag).trans (HC3.out.mono hs2y))))
            have hjn : (k : Int) + 1 ≤ 9223372036854775807 := by omega
            go_wp2_with fail
            go_roundw
            case rel => exact ⟨k + 1, by omega, by go_num, by rw [hM1.out]; exact HFa, HFW⟩
            case measure => simp [intOf]; omega
      · obtain rfl : j = n := by omega
        obtain ⟨M, hM⟩ : ∃ M, Hid (Sn.run l j = M) := ⟨_, Lib.hid rfl⟩
        have hOk := Sn.run_ok HOK.out j (by rw [hn.out]; omega)
        rw [hM.out] at hOk HA
        obtain ⟨v, e, t, b0⟩ := M
        obtain ⟨he, ht, hbt⟩ := hOk
        simp only at he ht hbt HA
        obtain ⟨c0, c1, c2, c3⟩ := cellsS HA.out
        by_cases htop : t = 4294967295
        · have htq : ((t : Int) == 4294967295) = true := by simp; omega
          go_wp2_with fail
          refine (awake20 _).mono ?_
          rintro e w5 ⟨rfl, hb⟩
          have HB5 := Lib.hid (HW.out.trans (hb.mono HW.out.size))
          clear hb
          go_wp2_with fail
          go_ret
          exact ⟨rfl, HB5.out⟩
        · have htq : ((t : Int) == 4294967295) = false := by simp; omega
          have hwrap : ((t : Int) + 1) % 4294967296 = ((t + 1 : Nat) : Int) := by omega
          obtain ⟨t1, ht1⟩ : ∃ t1, Hid (t + 1 = t1) := ⟨_, Lib.hid rfl⟩
          have CF : Hid (∀ W, Calls Try.prog 6 #[.agg #[.bool v, .int .u32 (e : Int), .int .u32 (t : Int), .int .u64 (b0 : Int)], .int .u32 (e : Int), .int .u32 (t1 : Int)] W fun x w' => x = .returned (.int .i64 0) ∧ Below W.heap.size W w') := Lib.hid (fun W => by
            have h := cfresh20_any (w := W) (v := v) he ht hbt he (i := t + 1) (by omega)
            rw [show Sn.fresh ⟨v, e, t, b0⟩ e (t + 1) = 0 from Sn.above ⟨v, e, t, b0⟩, ht1.out] at h
            exact h)
          rw [ht1.out] at hwrap
          have hplain : (t : Int) + 1 = (t1 : Int) := by have := ht1.out; omega
          clear htop
          go_wp2_with fail
          refine (CF.out _).mono ?_
          rintro e w5 ⟨rfl, hb⟩
          have HB5 := Lib.hid (HW.out.trans (hb.mono HW.out.size))
          clear hb
          go_wp2_with fail
          refine (awake20 _).mono ?_
          rintro e w6 ⟨rfl, hb⟩
          have HB6 := Lib.hid (HB5.out.trans (hb.mono HB5.out.size))
          clear hb
          go_wp2_with fail
          go_ret
          exact ⟨rfl, HB6.out⟩
end Go.Proofs.Ytandkgdlcdoikaa
