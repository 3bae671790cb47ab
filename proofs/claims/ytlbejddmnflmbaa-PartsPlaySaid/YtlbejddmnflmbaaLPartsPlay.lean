/- The walk of the law PartsPlay. -/
import Derived.Test.YtlbejddmnflmbaaAwake21
import Derived.Test.YtlbejddmnflmbaaLg21
namespace Go.Proofs.Ytlbejddmnflmbaa
open Go.RowKit
set_option linter.unusedVariables false
set_option maxRecDepth 100000
set_option linter.unusedSimpArgs false

theorem Pm.S.size_put (s : Pm.S) (z : Int) (b : List Nat) : (s.put z b).size ≤ s.size + b.length := by
  unfold Pm.S.put
  split
  · rw [Pm.S.size_add]; exact Nat.le_refl _
  · omega
theorem paSum_take (l : List (Int × Value × List Nat)) (k : Nat) (h : k < l.length) : paSum (l.take (k + 1)) = paSum (l.take k) + l[k].2.2.length := by
  unfold paSum
  rw [List.take_succ_eq_append_getElem h, List.map_append, List.sum_append]
  simp
theorem paSum_le (l : List (Int × Value × List Nat)) (k : Nat) : paSum (l.take k) ≤ paSum l := by
  unfold paSum
  rw [List.map_take]
  exact Pm.sum_take_le _ _
set_option maxHeartbeats 4000000 in
theorem partsPlay_walk (count : Int) (V : Value) (l : List (Int × Value × List Nat)) (w : World) (wc : (Lit.int .i64 count).wf = true) (H : Cl fPa 2 w w.heap.size V l ∧ ∀ x ∈ l, PaOk w x) :
    Calls Try.prog 3 #[.int .i64 count, V] w fun e w' => e = .returned (.bool true) ∧ Below w.heap.size w w' := by
  obtain ⟨H, ok⟩ := H
  obtain ⟨c0, c1⟩ := bounds_i64 wc
  obtain ⟨A, c, rfl, hle, hmx, hA0⟩ := H.shape
  unfold maxLen at hmx
  have HL := Lib.hid (large21_any H ok (by omega))
  have HAt := Lib.hid (fun i (hi : i < l.length) => H.at_ hi)
  have HOk := Lib.hid (fun i (hi : i < l.length) => ok _ (List.getElem_mem hi))
  have HTk := Lib.hid (fun k h => paSum_take l k h)
  have HSl := Lib.hid (fun k => paSum_le l k)
  obtain ⟨n, hn⟩ : ∃ n, Hid (l.length = n) := ⟨_, Lib.hid rfl⟩
  rw [hn.out] at hle HL ⊢
  clear H ok
  go_enter Try.func3, Try.ntmps3
  go_wp2_with fail
  refine (HL.out).mono ?_
  rintro e w0 ⟨rfl, big, rfl, hbig⟩
  have HBig := Lib.hid hbig
  clear hbig
  cases big with
  | true =>
    go_wp2_with fail
    refine (awake21 _).mono ?_
    rintro e w1 ⟨rfl, hb⟩
    have HB := Lib.hid hb
    clear hb
    go_wp2_with fail
    go_ret
    exact ⟨rfl, HB.out⟩
  | false =>
  obtain ⟨hn200, hsum⟩ := HBig.out rfl
  have HSum := Lib.hid hsum
  clear hsum
  by_cases hbad : count < 1 ∨ 65535 < count
  · have N1 := Lib.hid (fun W => pnew21_bad count c0 c1 hbad W)
    have N2 := Lib.hid (fun W => rnew21_bad count c0 c1 hbad W)
    clear hbad
    go_wp2_with fail
    refine (N1.out _).mono ?_
    rintro e w1 ⟨rfl, hb⟩
    have HB1 := Lib.hid hb
    clear hb
    go_wp2_with fail
    refine (N2.out _).mono ?_
    rintro e w2 ⟨rfl, rfl⟩
    go_wp2_with fail
    go_loopw [9] (fun v wr => ∃ k : Nat, v = .int .i64 k ∧ Hid (Below w.heap.size w wr)) (fun _ _ => 0)
    case atStart => exact ⟨0, rfl, HB1⟩
    case round =>
      obtain ⟨k, rfl, HBr⟩ := hrel
      by_cases hlt : k < n
      · go_wp2_with fail
        refine (awake21 _).mono ?_
        rintro e w3 ⟨rfl, hb⟩
        have HB := Lib.hid (HBr.out.trans (hb.mono HBr.out.size))
        clear hb
        go_wp2_with fail
        go_ret
        exact ⟨rfl, HB.out⟩
      · go_wp2_with fail
        refine (awake21 _).mono ?_
        rintro e w3 ⟨rfl, hb⟩
        have HB := Lib.hid (HBr.out.trans (hb.mono HBr.out.size))
        clear hb
        go_wp2_with fail
        go_ret
        exact ⟨rfl, HB.out⟩
  obtain ⟨m, rfl⟩ : ∃ m : Nat, count = (m : Int) := ⟨count.toNat, by omega⟩
  have N1 := Lib.hid (fun W => pnew21_any m (by omega) (by omega) W)
  have N2 := Lib.hid (fun W => rnew21_any m (by omega) (by omega) W)
  clear hbad
  go_wp2_with fail
  refine (N1.out _).mono ?_
  rintro e w1 ⟨p, rfl, hp, hb1⟩
  have HP1 := Lib.hid hp
  have HB1 := Lib.hid hb1
  clear hp hb1
  go_wp2_with fail
  refine (N2.out _).mono ?_
  rintro e w2 ⟨rfl, hx, hb2⟩
  have HT : Hid (Two21 w p w1.heap.size ⟨m, []⟩ ⟨m, []⟩ w2) := Lib.hid ⟨_, _, HP1.out.keep (fun b hb => hb2.block b (HP1.out.lt b hb)), hx, fun b h1 h2 => by omega, fun b hb => hb.1, fun b hb => by have := HB1.out.size; omega, HB1.out.trans (hb2.mono HB1.out.size)⟩
  obtain ⟨x, hx'⟩ : ∃ x, w1.heap.size = x := ⟨_, rfl⟩
  rw [hx'] at HT
  rw [hx']
  clear hx hb2 HP1 HB1 hx'
  go_wp2_with fail
  go_loopw [9] (fun v wr => ∃ (k : Nat) (s : Pm.S), v = .int .i64 k ∧ k ≤ n ∧ Hid (Two21 w p x s s wr) ∧ Hid (s.size ≤ paSum (l.take k))) (fun v _ => n - (intOf v).toNat)
  case atStart => exact ⟨0, ⟨m, []⟩, rfl, Nat.zero_le _, HT, Lib.hid (by simp [Pm.S.size])⟩
  case round =>
    obtain ⟨k, s, rfl, hk, HT0, HS0⟩ := hrel
    by_cases hlt : k < n
    · have hkl : k < l.length := by rw [hn.out]; exact hlt
      obtain ⟨b, off, rfl, hb, hc⟩ := HAt.out k hkl
      obtain ⟨hz1, hz2, hpc, hby⟩ := HOk.out k hkl
      have hS1 : Hid (s.size + l[k].2.2.length ≤ paSum (l.take (k + 1))) := Lib.hid (by rw [HTk.out k hkl]; have := HS0.out; omega)
      have hS2 : Hid (paSum (l.take (k + 1)) ≤ 8000) := Lib.hid (Nat.le_trans (HSl.out _) HSum.out)
      have hsz : Hid (s.size ≤ 1000000000) := Lib.hid (by have := hS1.out; have := hS2.out; omega)
      have hbl : Hid (l[k].2.2.length ≤ 1000000) := Lib.hid (by have := hS1.out; have := hS2.out; omega)
      have hTx : Txt (strOf l[k].2.2) l[k].2.2 := Txt.of hby
      have HC0 := Lib.hid (fun W (hW : Below w.heap.size w W) => (⟨hc W (hW.mono (Nat.le_refl _)) 0 (by omega), hc W (hW.mono (Nat.le_refl _)) 1 (by omega)⟩ : W.cell? ⟨b, off + k * 2 + 0, none⟩ = (fPa l[k])[0]? ∧ W.cell? ⟨b, off + k * 2 + 1, none⟩ = (fPa l[k])[1]?))
      have HV0 := Lib.hid (fun W (hW : Below w.heap.size w W) => (hpc.below hW).conv)
      have HPw0 := Lib.hid (fun W (hW : Below w.heap.size w W) => hpc.below hW)
      have hput : Hid ((s.put l[k].1 l[k].2.2).size ≤ paSum (l.take (k + 1))) := Lib.hid (Nat.le_trans (s.size_put _ _) hS1.out)
      have hsz2 : Hid ((s.put l[k].1 l[k].2.2).size ≤ 1000000) := Lib.hid (by have := hput.out; have := hS2.out; omega)
      obtain ⟨z, hz⟩ : ∃ z, Hid (l[k].1 = z) := ⟨_, Lib.hid rfl⟩
      obtain ⟨v, hv⟩ : ∃ v, Hid (l[k].2.1 = v) := ⟨_, Lib.hid rfl⟩
      obtain ⟨bs, hbs⟩ : ∃ bs, Hid (l[k].2.2 = bs) := ⟨_, Lib.hid rfl⟩
      have HC : Hid (∀ W, Below w.heap.size w W → W.cell? ⟨b, off + k * 2, none⟩ = some (.int .i64 z) ∧ W.cell? ⟨b, off + k * 2 + 1, none⟩ = some v) := Lib.hid (fun W hW => by
        have := HC0.out W hW
        rw [← hz.out, ← hv.out]
        exact this)
      rw [hz.out] at hz1 hz2 hput hsz2
      rw [hv.out] at HV0 HPw0
      rw [hbs.out] at hby hbl hTx HV0 HPw0 hput hsz2
      obtain ⟨A1, a1, rfl, _, _, ha1, ha2⟩ := HPw0.out w (Below.refl _ _)
      unfold maxLen at ha2
      have hbyte := Lib.hid hby
      have HPw := HPw0
      have HPc := Lib.hid (HPw.out _ HT0.out.below)
      obtain ⟨u, hu⟩ : ∃ u, Hid (strOf bs = u) := ⟨_, Lib.hid rfl⟩
      have HV := HV0
      rw [hu.out] at hTx HV
      have HTx := Lib.hid hTx
      obtain ⟨s', hs'⟩ : ∃ s', Hid (s.put z bs = s') := ⟨_, Lib.hid rfl⟩
      have HTd : Hid (Two21 w p x s s wr.drew) := Lib.hid (HT0.out.stay (Below.refl _ _).drew)
      obtain ⟨y, hy⟩ : ∃ y, Hid (bs.length = y) := ⟨_, Lib.hid rfl⟩
      rw [hy.out] at HC HPw HPc HV ha1
      have hk63 : k ≤ 9223372036854775807 := by omega
      have hstop : True := trivial
      clear hc hpc hby hTx
      go_wp2_with fail
      refine wp_region_plan (S := fun W => Below w.heap.size w W) [(0, true), (1, true), (2, true), (3, true), (4, true), (5, true), (6, true), (7, true), (8, true), (9, true), (10, true), (12, true), (13, true), (14, true), (15, true), (16, true), (17, true), (18, true), (19, true), (20, true), (21, true), (22, true), (23, true), (11, false), (24, false), (25, true), (26, true), (27, true), (29, true), (28, false), (30, false), (31, true), (32, true), (33, true), (34, true), (36, true), (35, false), (37, false), (38, true), (39, true), (40, true), (41, true), (42, true), (44, true), (45, true), (43, false), (46, false), (47, true), (48, true)] (by kernel_rfl) (by kernel_rfl) rfl (by kernel_rfl) (fun _ _ _ _ _ h => h) HT0.out.below.drew ?_
      obtain ⟨w4, hw4⟩ : ∃ W, wr.drew = W := ⟨_, rfl⟩
      have HPc : Hid (Piece w4 w.heap.size (.slice A1 y a1) bs) := Lib.hid (by rw [← hw4]; exact HPc.out)
      rw [hw4] at HTd ⊢
      clear hw4
      iterate 23
        refine along_take (v := ?_) rfl (by rfl) ?_ ?_
        rotate_left
        · intro W hW; obtain ⟨c0, c1⟩ := HC.out W hW; have cv := HV.out W hW; clear hW; go_simp; try with_reducible rfl
        simp only [Act.put, List.setIfInBounds_toArray, List.set_cons_zero, List.set_cons_succ]
      refine along_step rfl (fun K hK => ?_)
      go_simp
      refine (padd_two HTd.out (Nat.le_trans hsz.out (by decide)) z hz1 hz2 HPc.out hbyte.out (Nat.le_trans hbl.out (by decide))).mono ?_
      rintro e1 x1 ⟨rfl, hb⟩
      have HT1 := Lib.hid hb
      refine hK.out _ _ HT1.out.below ?_
      clear hK K hb
      rw [hs'.out] at HT1 hsz2 hput
      try simp only [Act.put, List.setIfInBounds_toArray, List.set_cons_zero, List.set_cons_succ]
      refine along_step rfl (fun K hK => ?_)
      go_simp
      refine (radd_two HT1.out z hz1 hz2 HTx.out).mono ?_
      rintro e1 x2 ⟨rfl, hb⟩
      have HT2 := Lib.hid hb
      refine hK.out _ _ HT2.out.below ?_
      clear hK K hb
      rw [hs'.out] at HT2
      try simp only [Act.put, List.setIfInBounds_toArray, List.set_cons_zero, List.set_cons_succ]
      iterate 4
        refine along_take (v := ?_) rfl (by rfl) ?_ ?_
        rotate_left
        · intro W hW; obtain ⟨c0, c1⟩ := HC.out W hW; have cv := HV.out W hW; clear hW; go_simp; try with_reducible rfl
        simp only [Act.put, List.setIfInBounds_toArray, List.set_cons_zero, List.set_cons_succ]
      refine along_step rfl (fun K hK => ?_)
      go_simp
      refine (pmissing_two HT2.out).mono ?_
      rintro e1 x3 ⟨rfl, hb⟩
      have HT3 := Lib.hid hb
      refine hK.out _ _ HT3.out.below ?_
      clear hK K hb
      try simp only [Act.put, List.setIfInBounds_toArray, List.set_cons_zero, List.set_cons_succ]
      refine along_step rfl (fun K hK => ?_)
      go_simp
      refine (rmissing_two HT3.out).mono ?_
      rintro e1 x4 ⟨rfl, hb⟩
      have HT4 := Lib.hid hb
      refine hK.out _ _ HT4.out.below ?_
      clear hK K hb
      try simp only [Act.put, List.setIfInBounds_toArray, List.set_cons_zero, List.set_cons_succ]
      iterate 5
        refine along_take (v := ?_) rfl (by rfl) ?_ ?_
        rotate_left
        · intro W hW; obtain ⟨c0, c1⟩ := HC.out W hW; have cv := HV.out W hW; clear hW; go_simp; try with_reducible rfl
        simp only [Act.put, List.setIfInBounds_toArray, List.set_cons_zero, List.set_cons_succ]
      refine along_step rfl (fun K hK => ?_)
      go_simp
      refine (psize_two HT4.out (Nat.le_trans hsz2.out (by decide))).mono ?_
      rintro e1 x5 ⟨rfl, hb⟩
      have HT5 := Lib.hid hb
      refine hK.out _ _ HT5.out.below ?_
      clear hK K hb
      try simp only [Act.put, List.setIfInBounds_toArray, List.set_cons_zero, List.set_cons_succ]
      refine along_step rfl (fun K hK => ?_)
      go_simp
      refine (rsize_two HT5.out (Nat.le_trans hsz2.out (by decide))).mono ?_
      rintro e1 x6 ⟨rfl, hb⟩
      have HT6 := Lib.hid hb
      refine hK.out _ _ HT6.out.below ?_
      clear hK K hb
      try simp only [Act.put, List.setIfInBounds_toArray, List.set_cons_zero, List.set_cons_succ]
      iterate 7
        refine along_take (v := ?_) rfl (by rfl) ?_ ?_
        rotate_left
        · intro W hW; obtain ⟨c0, c1⟩ := HC.out W hW; have cv := HV.out W hW; clear hW; go_simp; try with_reducible rfl
        simp only [Act.put, List.setIfInBounds_toArray, List.set_cons_zero, List.set_cons_succ]
      refine along_step rfl (fun K hK => ?_)
      go_simp
      refine (phas_two HT6.out k hk63).mono ?_
      rintro e1 x7 ⟨rfl, hb⟩
      have HT7 := Lib.hid hb
      refine hK.out _ _ HT7.out.below ?_
      clear hK K hb
      try simp only [Act.put, List.setIfInBounds_toArray, List.set_cons_zero, List.set_cons_succ]
      refine along_step rfl (fun K hK => ?_)
      go_simp
      refine (rhas_two HT7.out k hk63).mono ?_
      rintro e1 x8 ⟨rfl, hb⟩
      have HT8 := Lib.hid hb
      refine hK.out _ _ HT8.out.below ?_
      clear hK K hb
      try simp only [Act.put, List.setIfInBounds_toArray, List.set_cons_zero, List.set_cons_succ]
      iterate 2
        refine along_take (v := ?_) rfl (by rfl) ?_ ?_
        rotate_left
        · intro W hW; obtain ⟨c0, c1⟩ := HC.out W hW; have cv := HV.out W hW; clear hW; go_simp; try with_reducible rfl
        simp only [Act.put, List.setIfInBounds_toArray, List.set_cons_zero, List.set_cons_succ]
      have HT9 := HT8
      refine along_done ?_
      go_wp2_with fail
      refine (pwhole_two HT9.out hsz2.out).mono ?_
      rintro e w5 ⟨v5, rfl, hp5, hb5⟩
      have HP5 := Lib.hid hp5
      have HT5 := Lib.hid hb5
      obtain ⟨t', ht'⟩ : ∃ t', Hid (s'.told = t') := ⟨_, Lib.hid rfl⟩
      have RW := Lib.hid (rwhole_two HT5.out (Nat.le_trans hsz2.out (by decide)))
      obtain ⟨fb, hfb⟩ : ∃ fb, Hid (s'.full = fb) := ⟨_, Lib.hid rfl⟩
      rw [ht'.out] at HP5 RW
      rw [hfb.out] at RW ⊢
      obtain ⟨A5, a5, rfl, _, _, _, _⟩ := HP5.out
      clear hp5 hb5
      go_wp2_with fail
      refine (RW.out).mono ?_
      rintro e w6 ⟨rfl, h6, hb6⟩
      have HT6 := Lib.hid h6
      have hcv : (convert 33 9 (.slice A5 t'.length a5)).run Try.prog w6 = .ok (.string (strOf t')) w6 := (HP5.out.kept hb6).conv
      obtain ⟨y6, hy6⟩ : ∃ y6, Hid (t'.length = y6) := ⟨_, Lib.hid rfl⟩
      rw [hy6.out] at hcv ⊢
      obtain ⟨u6, hu6⟩ : ∃ u6, Hid (strOf t' = u6) := ⟨_, Lib.hid rfl⟩
      rw [hu6.out] at hcv ⊢
      clear h6 hb6
      go_wp2_with fail
      go_roundw
      case rel => exact ⟨k + 1, s', by go_num, by omega, HT6, hput⟩
      case measure => simp [intOf]; omega
    · go_wp2_with fail
      refine (awake21 _).mono ?_
      rintro e w3 ⟨rfl, hb⟩
      have HB := Lib.hid (HT0.out.below.trans (hb.mono HT0.out.below.size))
      clear hb
      go_wp2_with fail
      go_ret
      exact ⟨rfl, HB.out⟩
end Go.Proofs.Ytlbejddmnflmbaa
