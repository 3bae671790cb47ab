/- The walk of the law TreeSets. -/
import Derived.Test.YtbimalafcgmnaaaAwake11
import Derived.Test.YtbimalafcgmnaaaRright11
import Derived.Test.YtbimalafcgmnaaaRoom11
import Derived.Test.YtbimalafcgmnaaaPA
import Derived.Test.YtbimalafcgmnaaaSame11
namespace Go.Proofs.Ytbimalafcgmnaaa
open Go.RowKit
set_option linter.unusedVariables false
set_option maxRecDepth 100000
set_option linter.unusedSimpArgs false

theorem lim_lens {t : Tn} (h : t.Lim) : t.keys.length ≤ 100000 ∧ t.kids.length ≤ 100000 := by
  cases h with
  | mk hs hk hq hx hl => exact ⟨by omega, by omega⟩
set_option maxHeartbeats 2000000 in
theorem treeSets_walk (t : Tn) (vk vq : Value) (key : ByteArray) (x : Tn) (xk xq : Value) (w : World) (H : Tv w w.heap.size t vk vq) (hkey : key.size ≤ maxLen) (HX : Tv w w.heap.size x xk xq) :
    Calls Try.prog 4 #[tval t vk vq, .string key, tval x xk xq] w fun e w' => e = .returned (.bool true) ∧ Below w.heap.size w w' := by
  obtain ⟨b, w1, hs, hal, hT1, hb1⟩ := boxedT H
  have HX1 : Tv w1 w1.heap.size x xk xq := (HX.keep (by rw [hs]; exact hb1)).all
  obtain ⟨b2, w2, hs2, hal2, hX2, hb2⟩ := boxedT HX1
  have hbb : b < b2 := by rw [← hs2]; exact hT1.lt
  have hT := hT1.below hb2 hbb
  have HT := Lib.hid hT
  have HXb := Lib.hid hX2
  have HB2 : Hid (Below b w w2) := Lib.hid (hb1.trans (hb2.mono (by omega)))
  have hbw2 := hX2.lt
  have HCt := Lib.hid (fun W (h : Below w2.heap.size w2 W) => (HT.out.keep h).cells)
  have HCx := Lib.hid (fun W (h : Below w2.heap.size w2 W) => (HXb.out.keep h).cells)
  have L1 := Lib.hid (large11_any (level := 1) (by omega) hT.tv)
  have L2 := Lib.hid (fun W (h : Below w2.heap.size w2 W) => large11_any (level := 1) (by omega) (HXb.out.keep h).tv)
  have T1 := Lib.hid (fun W (h : Below w2.heap.size w2 W) => (HT.out.keep h).tv)
  have T2 := Lib.hid (fun W (h : Below w2.heap.size w2 W) => (HXb.out.keep h).tv)
  have S1 := Lib.hid (fun h => (Tn.small_of (t := t) h).lim.few)
  have S3 := Lib.hid (fun h => lim_lens (Tn.small_of (t := t) h).lim)
  have S2 := Lib.hid (fun h => (Tn.small_of (t := x) h).lim.few)
  obtain ⟨Ak, ck, ek, _⟩ := hT.tv.keys
  obtain ⟨A, c, eq, _⟩ := hT.tv.kids
  subst ek eq
  obtain ⟨Axk, cxk, ek, _⟩ := hX2.tv.keys
  obtain ⟨Axq, cxq, eq, _⟩ := hX2.tv.kids
  subst ek eq
  obtain ⟨r1, hr1⟩ : ∃ rm, Hid (t.room 1 400 = rm) := ⟨_, rfl⟩
  obtain ⟨r2, hr2⟩ : ∃ rm, Hid (x.room 1 400 = rm) := ⟨_, rfl⟩
  rw [hr1.out] at L1 S1 S3
  rw [hr2.out] at L2 S2
  obtain ⟨sz, hsz⟩ : ∃ sz, key.size = sz := ⟨_, rfl⟩
  have HK := Lib.hid hkey
  rw [hsz] at hkey
  unfold maxLen at hkey
  unfold tcells at hal hal2
  unfold tval at L1 L2
  unfold tval
  obtain ⟨c0, c1, c2, c3, c4⟩ := HCt.out w2 (Below.refl _ _)
  clear hT1 hT H HX HX1 hX2 hb1 hb2
  by_cases hr : r1 < 0
  case pos =>
    rw [decide_eq_true hr] at L1
    go_enter Try.func4, Try.ntmps4
    go_wp2_with fail
    refine (L1.out).mono ?_
    rintro e w3 ⟨rfl, hb3⟩
    have HB3 := Lib.hid (HB2.out.trans (hb3.mono (by omega)))
    clear hb3
    go_wp2_with fail
    refine (awake11 _).mono ?_
    rintro e w4 ⟨rfl, hb4⟩
    have HB4 := Lib.hid (HB3.out.trans (hb4.mono (by have := HB3.out.size; omega)))
    clear hb4
    go_wp2_with fail
    go_ret
    exact ⟨rfl, by first | (rw [hs]; exact HB4.out) | exact HB4.out⟩
  rw [decide_eq_false hr] at L1
  have ft := S1.out hr
  by_cases hr' : r2 < 0
  case pos =>
    rw [decide_eq_true hr'] at L2
    clear ft
    go_enter Try.func4, Try.ntmps4
    go_wp2_with fail
    refine (L1.out).mono ?_
    rintro e w3 ⟨rfl, hb3⟩
    have HB3 := Lib.hid (HB2.out.trans (hb3.mono (by omega)))
    have HC3 := Lib.hid hb3
    obtain ⟨k0, k1, k2, k3, k4⟩ := HCx.out w3 hb3
    clear hb3
    go_wp2_with fail
    refine (L2.out _ HC3.out).mono ?_
    rintro e w5 ⟨rfl, hb5⟩
    have HB5 := Lib.hid (HB3.out.trans (hb5.mono (by have := HB3.out.size; omega)))
    clear hb5
    go_wp2_with fail
    refine (awake11 _).mono ?_
    rintro e w4 ⟨rfl, hb4⟩
    have HB4 := Lib.hid (HB5.out.trans (hb4.mono (by have := HB5.out.size; omega)))
    clear hb4
    go_wp2_with fail
    go_ret
    exact ⟨rfl, by first | (rw [hs]; exact HB4.out) | exact HB4.out⟩
  rw [decide_eq_false hr'] at L2
  have fx := S2.out hr'
  have HFt := Lib.hid ft
  have HLm := Lib.hid (S3.out hr)
  have HFx := Lib.hid fx
  clear ft fx
  by_cases hk : 300 < sz
  case pos =>
    go_enter Try.func4, Try.ntmps4
    go_wp2_with fail
    refine (L1.out).mono ?_
    rintro e w3 ⟨rfl, hb3⟩
    have HB3 := Lib.hid (HB2.out.trans (hb3.mono (by omega)))
    have HC3 := Lib.hid hb3
    obtain ⟨k0, k1, k2, k3, k4⟩ := HCx.out w3 hb3
    clear hb3
    go_wp2_with fail
    refine (L2.out _ HC3.out).mono ?_
    rintro e w5 ⟨rfl, hb5⟩
    have HB5 := Lib.hid (HB3.out.trans (hb5.mono (by have := HB3.out.size; omega)))
    clear hb5
    go_wp2_with fail
    refine (awake11 _).mono ?_
    rintro e w4 ⟨rfl, hb4⟩
    have HB4 := Lib.hid (HB5.out.trans (hb4.mono (by have := HB5.out.size; omega)))
    clear hb4
    go_wp2_with fail
    go_ret
    exact ⟨rfl, by first | (rw [hs]; exact HB4.out) | exact HB4.out⟩
  have hk9 : sz ≤ 300 := by omega
  have G1 := Lib.hid (fun W (h : Below w2.heap.size w2 W) => get11_any HFt.out (T1.out W h) key)
  have G2 := Lib.hid (fun W (h : Below w2.heap.size w2 W) => rget11_any (T1.out W h) key)
  have P1 := Lib.hid (fun W (h : Below w2.heap.size w2 W) => set11_any HFt.out HFx.out (T1.out W h) key HK.out (T2.out W h))
  have P2 := Lib.hid (fun W (h : Below w2.heap.size w2 W) => rset11_any (T1.out W h) HLm.out.1 HLm.out.2 key HK.out (T2.out W h))
  obtain ⟨Gt, hG⟩ : ∃ G, Hid ((t.get key).getD Tn.zero = G) := ⟨_, rfl⟩
  obtain ⟨is, his⟩ : ∃ G, Hid ((t.get key).isSome = G) := ⟨_, rfl⟩
  obtain ⟨S, hS⟩ : ∃ G, Hid (t.set key x = G) := ⟨_, rfl⟩
  rw [hG.out, his.out] at G1 G2
  rw [hS.out] at P1 P2
  have SmS := Lib.hid (fun W (vk vq uk uq : Value) (h1 : Tv W W.heap.size S vk vq) (h2 : Tv W W.heap.size S uk uq) => rsame11_any (SizeOf.sizeOf S + 1) S (Nat.lt_succ_self _) S h1 h2)
  have SmG := Lib.hid (fun W (vk vq uk uq : Value) (h1 : Tv W W.heap.size Gt vk vq) (h2 : Tv W W.heap.size Gt uk uq) => rsame11_any (SizeOf.sizeOf Gt + 1) Gt (Nat.lt_succ_self _) Gt h1 h2)
  rw [Tn.same_true rfl] at SmS SmG
  unfold tval at G1 G2 P1 P2 SmS SmG
  go_enter Try.func4, Try.ntmps4
  go_wp2_with fail
  refine (L1.out).mono ?_
  rintro e w3 ⟨rfl, hb3⟩
  have HC3 := Lib.hid hb3
  obtain ⟨k0, k1, k2, k3, k4⟩ := HCx.out w3 hb3
  clear hb3 c0 c1 c2 c3 c4
  go_wp2_with fail
  refine (L2.out _ HC3.out).mono ?_
  rintro e w5 ⟨rfl, hb5⟩
  have HC5 := Lib.hid (HC3.out.trans (hb5.mono HC3.out.size))
  obtain ⟨c0, c1, c2, c3, c4⟩ := HCt.out w5 HC5.out
  clear hb5 k0 k1 k2 k3 k4
  go_wp2_with fail
  refine (G1.out _ HC5.out).mono ?_
  rintro e w6 ⟨gk, gq, rfl, ht6, hb6⟩
  obtain ⟨Bk, dk, Bq, dq, g1, u0, u1, rfl, rfl, hg1, hal3, hW1, hst1, hx1, hc1, hz1⟩ := var11 ht6
  have HW1 := Lib.hid hW1
  have HV1 := Lib.hid hx1
  have HC6 := Lib.hid (HC5.out.trans (hb6.mono HC5.out.size))
  have HC7 := Lib.hid (HC6.out.trans (hc1.mono (by have := HC6.out.size; omega)))
  have n0 := HCt.out u1 HC7.out
  obtain ⟨m0, m1, m2, m3, m4⟩ := n0
  clear hb6 ht6 hW1 hx1 hc1 c0 c1 c2 c3 c4
  go_wp2_with (refine wpList_store_whole rfl rfl rfl rfl rfl HW1.out (treeI rfl) rfl (by simp [Value.oneCell']) ?_; try rw [hst1])
  refine (G2.out _ HC7.out).mono ?_
  rintro e w8 ⟨gk, gq, rfl, ht8, hb8⟩
  obtain ⟨Ck, d2, Cq, d3, g2, u2, u3, rfl, rfl, hg2, hal4, hW2, hst2, hx2, hc2, hz2⟩ := var11 ht8
  have HW2 := Lib.hid hW2
  have HV2 := Lib.hid hx2
  have HC8 := Lib.hid (HC7.out.trans (hb8.mono HC7.out.size))
  have HC9 := Lib.hid (HC8.out.trans (hc2.mono (by have := HC8.out.size; omega)))
  have hv3 := (HV1.out.keep hb8).below hc2 (by have := (HV1.out.keep hb8).lt; omega)
  have HV3 := Lib.hid hv3
  have HP1 := Lib.hid (fun W (h : Below u3.heap.size u3 W) => HCt.out W (HC9.out.trans (h.mono HC9.out.size)))
  have HP2 := Lib.hid (fun W (h : Below u3.heap.size u3 W) => HCx.out W (HC9.out.trans (h.mono HC9.out.size)))
  have HP3 := Lib.hid (fun W (h : Below u3.heap.size u3 W) => (HV3.out.keep h).cells)
  have HP4 := Lib.hid (fun W (h : Below u3.heap.size u3 W) => (HV2.out.keep h).cells)
  clear hb8 ht8 hW2 hx2 hc2 m0 m1 m2 m3 m4 hv3
  go_wp2_with (refine wpList_store_whole rfl rfl rfl rfl rfl HW2.out (treeI rfl) rfl (by simp [Value.oneCell']) ?_; try rw [hst2])
  refine wp_region_plan (S := fun W => Below u3.heap.size u3 W) [(0, true), (1, true), (2, true), (4, true), (5, true), (6, true), (3, false), (7, false), (8, false), (9, true), (10, true), (11, true), (12, false), (13, true), (14, true), (15, true), (16, true), (17, true), (18, true), (19, true), (20, false), (21, true), (22, true)] (by kernel_rfl) (by kernel_rfl) rfl (by kernel_rfl) (fun _ _ _ _ _ h => h) (Below.refl _ _).drew ?_
  iterate 6
    refine along_take (v := ?_) rfl (by rfl) ?_ ?_
    rotate_left
    · intro W hW; obtain ⟨k0, k1, k2, k3, k4⟩ := HP1.out W hW; obtain ⟨l0, l1, l2, l3, l4⟩ := HP2.out W hW; go_simp; try with_reducible rfl
    simp only [Act.put, List.setIfInBounds_toArray, List.set_cons_zero, List.set_cons_succ]
  have HD0 : Hid (Below u3.heap.size u3 u3.drew) := Lib.hid (Below.refl _ _).drew
  refine along_step rfl (fun K hK => ?_)
  go_simp
  refine (P1.out _ (HC9.out.trans (HD0.out.mono HC9.out.size))).mono ?_
  rintro e w10 ⟨sk, sq, rfl, ht10, hb10⟩
  obtain ⟨E1, f1, ek, _⟩ := ht10.keys
  obtain ⟨E2, f2, eq, _⟩ := ht10.kids
  subst ek eq
  have HD1 := Lib.hid (HD0.out.trans (hb10.mono HD0.out.size))
  have HT10 := Lib.hid ht10
  clear hb10 ht10
  refine hK.out _ _ HD1.out ?_
  clear hK K
  try simp only [Act.put, List.setIfInBounds_toArray, List.set_cons_zero, List.set_cons_succ]
  refine along_step rfl (fun K hK => ?_)
  go_simp
  refine (P2.out _ (HC9.out.trans (HD1.out.mono HC9.out.size))).mono ?_
  rintro e w11 ⟨sk, sq, rfl, ht11, hb11⟩
  obtain ⟨E3, f3, ek, _⟩ := ht11.keys
  obtain ⟨E4, f4, eq, _⟩ := ht11.kids
  subst ek eq
  have HD2 := Lib.hid (HD1.out.trans (hb11.mono HD1.out.size))
  have HT11 := Lib.hid ht11
  have HT12 := Lib.hid ((HT10.out.keep hb11).all)
  clear hb11 ht11
  refine hK.out _ _ HD2.out ?_
  clear hK K
  try simp only [Act.put, List.setIfInBounds_toArray, List.set_cons_zero, List.set_cons_succ]
  refine along_step rfl (fun K hK => ?_)
  go_simp
  refine (SmS.out _ _ _ _ _ HT12.out HT11.out).mono ?_
  rintro e w12 ⟨rfl, hb12⟩
  have HD3 := Lib.hid (HD2.out.trans (hb12.mono HD2.out.size))
  clear hb12
  refine hK.out _ _ HD3.out ?_
  clear hK K
  try simp only [Act.put, List.setIfInBounds_toArray, List.set_cons_zero, List.set_cons_succ]
  iterate 3
    refine along_take (v := ?_) rfl (by rfl) ?_ ?_
    rotate_left
    · intro W hW; obtain ⟨k0, k1, k2, k3, k4⟩ := HP3.out W hW; obtain ⟨l0, l1, l2, l3, l4⟩ := HP4.out W hW; go_simp; try with_reducible rfl
    simp only [Act.put, List.setIfInBounds_toArray, List.set_cons_zero, List.set_cons_succ]
  refine along_step rfl (fun K hK => ?_)
  go_simp
  refine (SmG.out _ _ _ _ _ (HV3.out.keep HD3.out).tv.all (HV2.out.keep HD3.out).tv.all).mono ?_
  rintro e w13 ⟨rfl, hb13⟩
  have HD4 := Lib.hid (HD3.out.trans (hb13.mono HD3.out.size))
  clear hb13
  refine hK.out _ _ HD4.out ?_
  clear hK K
  try simp only [Act.put, List.setIfInBounds_toArray, List.set_cons_zero, List.set_cons_succ]
  iterate 7
    refine along_take (v := ?_) rfl (by rfl) ?_ ?_
    rotate_left
    · intro W hW; go_simp; try with_reducible rfl
    simp only [Act.put, List.setIfInBounds_toArray, List.set_cons_zero, List.set_cons_succ]
  refine along_step rfl (fun K hK => ?_)
  go_simp
  refine (awake11 _).mono ?_
  rintro e w14 ⟨rfl, hb14⟩
  have HD5 := Lib.hid (HD4.out.trans (hb14.mono HD4.out.size))
  clear hb14
  refine hK.out _ _ HD5.out ?_
  clear hK K
  try simp only [Act.put, List.setIfInBounds_toArray, List.set_cons_zero, List.set_cons_succ]
  iterate 2
    refine along_take (v := ?_) rfl (by rfl) ?_ ?_
    rotate_left
    · intro W hW; go_simp; try with_reducible rfl
    simp only [Act.put, List.setIfInBounds_toArray, List.set_cons_zero, List.set_cons_succ]
  refine along_done ?_
  go_wp2_with fail
  go_ret
  have hfin : Below b w w14 := HB2.out.trans ((HC9.out.trans (HD5.out.mono HC9.out.size)).mono (by omega))
  exact ⟨rfl, by first | (rw [hs]; exact hfin) | exact hfin⟩
end Go.Proofs.Ytbimalafcgmnaaa
