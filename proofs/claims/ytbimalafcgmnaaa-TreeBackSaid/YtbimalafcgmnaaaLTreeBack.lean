/- The walk of the law TreeBack. -/
import Derived.Test.YtbimalafcgmnaaaAwake11
import Derived.Test.YtbimalafcgmnaaaRright11
import Derived.Test.YtbimalafcgmnaaaRoom11
import Derived.Test.YtbimalafcgmnaaaPA
import Derived.Test.YtbimalafcgmnaaaLTreeSets
namespace Go.Proofs.Ytbimalafcgmnaaa
open Go.RowKit
set_option linter.unusedVariables false
set_option maxRecDepth 100000
set_option linter.unusedSimpArgs false

theorem Tn.get_d {t : Tn} {k : ByteArray} {u : Tn} (h : t.get k = some u) : (t.get k).getD Tn.zero = u ∧ (t.get k).isSome = true := by rw [h]; exact ⟨rfl, rfl⟩
theorem Tn.put_few {t x : Tn} (ft : t.keys.length ≤ 100000 ∧ t.kids.length ≤ 100000) (hf : t.Few) (hx : x.Few) (key : ByteArray) : (t.set key x).Few := by
  unfold Tn.set
  split
  · exact hf
  · cases hf with
    | mk hk hq hl =>
      split
      · refine .mk hk ?_ ?_
        · show (t.kids.set _ x).length ≤ _
          rw [List.length_set]; exact hq
        · intro u hu
          rcases mem_set (show u ∈ t.kids.set _ x from hu) with rfl | hu
          · exact hx
          · exact hl u hu
      · refine .mk ?_ ?_ ?_
        · show (Tn.put t.keys _ key).length ≤ _
          rw [Tn.put_length _ _ _ (Tn.gap_le _ _)]; omega
        · show (Tn.put t.kids _ x).length ≤ _
          unfold Tn.put
          rw [List.length_append, List.length_take, List.length_cons, List.length_drop]; omega
        · intro u hu
          rcases Tn.mem_put (show u ∈ Tn.put t.kids _ x from hu) with rfl | hu
          · exact hx
          · exact hl u hu
set_option maxHeartbeats 2000000 in
theorem treeBack_walk (t : Tn) (vk vq : Value) (key other : ByteArray) (x : Tn) (xk xq : Value) (w : World) (H : Tv w w.heap.size t vk vq) (hkey : key.size ≤ maxLen) (hother : other.size ≤ maxLen) (HX : Tv w w.heap.size x xk xq) :
    Calls Try.prog 6 #[tval t vk vq, .string key, .string other, tval x xk xq] w fun e w' => e = .returned (.bool true) ∧ Below w.heap.size w w' := by
  obtain ⟨b, w1, hs, hal, hT1, hb1⟩ := boxedT H
  have HX1 : Tv w1 w1.heap.size x xk xq := (HX.keep (by rw [hs]; exact hb1)).all
  obtain ⟨b2, w2, hs2, hal2, hX2, hb2⟩ := boxedT HX1
  have hbb : b < b2 := by rw [← hs2]; exact hT1.lt
  have hT := hT1.below hb2 hbb
  have HT := Lib.hid hT
  have HXb := Lib.hid hX2
  have HB2 : Hid (Below b w w2) := Lib.hid (hb1.trans (hb2.mono (by omega)))
  have hbw2 := hX2.lt
  have HCt := Lib.hid (fun W (h : Below w2.heap.size w2 W) => (HT.out.keep h).cells)
  have HCx := Lib.hid (fun W (h : Below w2.heap.size w2 W) => (HXb.out.keep h).cells)
  have L1 := Lib.hid (large11_any (level := 1) (by omega) hT.tv)
  have L2 := Lib.hid (fun W (h : Below w2.heap.size w2 W) => large11_any (level := 1) (by omega) (HXb.out.keep h).tv)
  have T1 := Lib.hid (fun W (h : Below w2.heap.size w2 W) => (HT.out.keep h).tv)
  have T2 := Lib.hid (fun W (h : Below w2.heap.size w2 W) => (HXb.out.keep h).tv)
  have S1 := Lib.hid (fun h => (Tn.small_of (t := t) h).lim.few)
  have S3 := Lib.hid (fun h => lim_lens (Tn.small_of (t := t) h).lim)
  have S2 := Lib.hid (fun h => (Tn.small_of (t := x) h).lim.few)
  obtain ⟨Ak, ck, ek, _⟩ := hT.tv.keys
  obtain ⟨A, c, eq, _⟩ := hT.tv.kids
  subst ek eq
  obtain ⟨Axk, cxk, ek, _⟩ := hX2.tv.keys
  obtain ⟨Axq, cxq, eq, _⟩ := hX2.tv.kids
  subst ek eq
  obtain ⟨r1, hr1⟩ : ∃ rm, Hid (t.room 1 400 = rm) := ⟨_, rfl⟩
  obtain ⟨r2, hr2⟩ : ∃ rm, Hid (x.room 1 400 = rm) := ⟨_, rfl⟩
  rw [hr1.out] at L1 S1 S3
  rw [hr2.out] at L2 S2
  obtain ⟨sz, hsz⟩ : ∃ sz, key.size = sz := ⟨_, rfl⟩
  obtain ⟨so, hso⟩ : ∃ sz, other.size = sz := ⟨_, rfl⟩
  have HK := Lib.hid hkey
  rw [hsz] at hkey
  rw [hso] at hother
  unfold maxLen at hkey hother
  obtain ⟨nk, hnk⟩ : ∃ n, Hid (t.keys.length = n) := ⟨_, rfl⟩
  obtain ⟨n, hn⟩ : ∃ n, Hid (t.kids.length = n) := ⟨_, rfl⟩
  rw [hnk.out] at hal HCt L1 T1 ⊢
  rw [hn.out] at hal HCt L1 T1 ⊢
  unfold tcells at hal hal2
  unfold tval at L1 L2
  unfold tval
  obtain ⟨c0, c1, c2, c3, c4⟩ := HCt.out w2 (Below.refl _ _)
  have hnk2 : nk ≤ 9223372036854775807 := by
    obtain ⟨A', c', e, _, h1, h2, _⟩ := (HT.out.tv).keys
    rw [hnk.out] at h1
    unfold maxLen at h2
    omega
  have hn2 : n ≤ 9223372036854775807 := by
    obtain ⟨A', c', e, h1, h2, _⟩ := (HT.out.tv).kids
    rw [hn.out] at h1
    unfold maxLen at h2
    omega
  clear hT1 hT H HX HX1 hX2 hb1 hb2
  by_cases hr : r1 < 0
  case pos =>
    rw [decide_eq_true hr] at L1
    go_enter Try.func6, Try.ntmps6
    go_wp2_with fail
    refine (L1.out).mono ?_
    rintro e w3 ⟨rfl, hb3⟩
    have HB3 := Lib.hid (HB2.out.trans (hb3.mono (by omega)))
    have HC3 := Lib.hid hb3
    obtain ⟨k0, k1, k2, k3, k4⟩ := HCx.out w3 hb3
    clear hb3
    go_wp2_with fail
    refine (awake11 _).mono ?_
    rintro e w4 ⟨rfl, hb4⟩
    have HB4 := Lib.hid (HB3.out.trans (hb4.mono (by have := HB3.out.size; omega)))
    clear hb4
    go_wp2_with fail
    go_ret
    exact ⟨rfl, by first | (rw [hs]; exact HB4.out) | exact HB4.out⟩
  rw [decide_eq_false hr] at L1
  have ft := S1.out hr
  have flm := S3.out hr
  by_cases hr' : r2 < 0
  case pos =>
    rw [decide_eq_true hr'] at L2
    clear ft flm
    go_enter Try.func6, Try.ntmps6
    go_wp2_with fail
    refine (L1.out).mono ?_
    rintro e w3 ⟨rfl, hb3⟩
    have HB3 := Lib.hid (HB2.out.trans (hb3.mono (by omega)))
    have HC3 := Lib.hid hb3
    obtain ⟨k0, k1, k2, k3, k4⟩ := HCx.out w3 hb3
    clear hb3
    go_wp2_with fail
    refine (L2.out _ HC3.out).mono ?_
    rintro e w5 ⟨rfl, hb5⟩
    have HB5 := Lib.hid (HB3.out.trans (hb5.mono (by have := HB3.out.size; omega)))
    have HC5 := Lib.hid (HC3.out.trans (hb5.mono HC3.out.size))
    obtain ⟨l0, l1, l2, l3, l4⟩ := HCt.out w5 HC5.out
    clear hb5
    go_wp2_with fail
    refine (awake11 _).mono ?_
    rintro e w4 ⟨rfl, hb4⟩
    have HB4 := Lib.hid (HB5.out.trans (hb4.mono (by have := HB5.out.size; omega)))
    clear hb4
    go_wp2_with fail
    go_ret
    exact ⟨rfl, by first | (rw [hs]; exact HB4.out) | exact HB4.out⟩
  rw [decide_eq_false hr'] at L2
  have fx := S2.out hr'
  have HFt := Lib.hid ft
  have HFx := Lib.hid fx
  have HLm := Lib.hid flm
  clear ft fx flm
  by_cases hk : 300 < sz
  case pos =>
    go_enter Try.func6, Try.ntmps6
    go_wp2_with fail
    refine (L1.out).mono ?_
    rintro e w3 ⟨rfl, hb3⟩
    have HB3 := Lib.hid (HB2.out.trans (hb3.mono (by omega)))
    have HC3 := Lib.hid hb3
    obtain ⟨k0, k1, k2, k3, k4⟩ := HCx.out w3 hb3
    clear hb3
    go_wp2_with fail
    refine (L2.out _ HC3.out).mono ?_
    rintro e w5 ⟨rfl, hb5⟩
    have HB5 := Lib.hid (HB3.out.trans (hb5.mono (by have := HB3.out.size; omega)))
    have HC5 := Lib.hid (HC3.out.trans (hb5.mono HC3.out.size))
    obtain ⟨l0, l1, l2, l3, l4⟩ := HCt.out w5 HC5.out
    clear hb5
    go_wp2_with fail
    refine (awake11 _).mono ?_
    rintro e w4 ⟨rfl, hb4⟩
    have HB4 := Lib.hid (HB5.out.trans (hb4.mono (by have := HB5.out.size; omega)))
    clear hb4
    go_wp2_with fail
    go_ret
    exact ⟨rfl, by first | (rw [hs]; exact HB4.out) | exact HB4.out⟩
  by_cases hk' : 300 < so
  case pos =>
    go_enter Try.func6, Try.ntmps6
    go_wp2_with fail
    refine (L1.out).mono ?_
    rintro e w3 ⟨rfl, hb3⟩
    have HB3 := Lib.hid (HB2.out.trans (hb3.mono (by omega)))
    have HC3 := Lib.hid hb3
    obtain ⟨k0, k1, k2, k3, k4⟩ := HCx.out w3 hb3
    clear hb3
    go_wp2_with fail
    refine (L2.out _ HC3.out).mono ?_
    rintro e w5 ⟨rfl, hb5⟩
    have HB5 := Lib.hid (HB3.out.trans (hb5.mono (by have := HB3.out.size; omega)))
    have HC5 := Lib.hid (HC3.out.trans (hb5.mono HC3.out.size))
    obtain ⟨l0, l1, l2, l3, l4⟩ := HCt.out w5 HC5.out
    clear hb5
    go_wp2_with fail
    refine (awake11 _).mono ?_
    rintro e w4 ⟨rfl, hb4⟩
    have HB4 := Lib.hid (HB5.out.trans (hb4.mono (by have := HB5.out.size; omega)))
    clear hb4
    go_wp2_with fail
    go_ret
    exact ⟨rfl, by first | (rw [hs]; exact HB4.out) | exact HB4.out⟩
  have hk9 : sz ≤ 300 := by omega
  have hk10 : so ≤ 300 := by omega
  by_cases e0 : t.kind = 4
  case neg =>
    have q : (t.kind == 4) = false := by simpa using e0
    have q1 : (t.kind != 4) = true := by simpa using e0
    go_enter Try.func6, Try.ntmps6
    go_wp2_with fail
    refine (L1.out).mono ?_
    rintro e w3 ⟨rfl, hb3⟩
    have HB3 := Lib.hid (HB2.out.trans (hb3.mono (by omega)))
    have HC3 := Lib.hid hb3
    obtain ⟨k0, k1, k2, k3, k4⟩ := HCx.out w3 hb3
    clear hb3
    go_wp2_with fail
    refine (L2.out _ HC3.out).mono ?_
    rintro e w5 ⟨rfl, hb5⟩
    have HB5 := Lib.hid (HB3.out.trans (hb5.mono (by have := HB3.out.size; omega)))
    have HC5 := Lib.hid (HC3.out.trans (hb5.mono HC3.out.size))
    obtain ⟨l0, l1, l2, l3, l4⟩ := HCt.out w5 HC5.out
    clear hb5
    go_wp2_with fail
    refine (awake11 _).mono ?_
    rintro e w4 ⟨rfl, hb4⟩
    have HB4 := Lib.hid (HB5.out.trans (hb4.mono (by have := HB5.out.size; omega)))
    clear hb4
    go_wp2_with fail
    go_ret
    exact ⟨rfl, by first | (rw [hs]; exact HB4.out) | exact HB4.out⟩
  have E0 := Lib.hid e0
  by_cases e1 : nk = n
  case neg =>
    have q : ((nk : Int) == (n : Int)) = false := by simp; omega
    have q1 : ((nk : Int) != (n : Int)) = true := by simp; omega
    rw [e0] at hal c0 ⊢
    have HCt' := Lib.hid (fun W h => by have := HCt.out W h; rw [e0] at this; exact this)
    rw [e0] at L1
    clear e0 HCt
    go_enter Try.func6, Try.ntmps6
    go_wp2_with fail
    refine (L1.out).mono ?_
    rintro e w3 ⟨rfl, hb3⟩
    have HB3 := Lib.hid (HB2.out.trans (hb3.mono (by omega)))
    have HC3 := Lib.hid hb3
    obtain ⟨k0, k1, k2, k3, k4⟩ := HCx.out w3 hb3
    clear hb3
    go_wp2_with fail
    refine (L2.out _ HC3.out).mono ?_
    rintro e w5 ⟨rfl, hb5⟩
    have HB5 := Lib.hid (HB3.out.trans (hb5.mono (by have := HB3.out.size; omega)))
    have HC5 := Lib.hid (HC3.out.trans (hb5.mono HC3.out.size))
    obtain ⟨l0, l1, l2, l3, l4⟩ := HCt'.out w5 HC5.out
    clear hb5
    go_wp2_with fail
    refine (awake11 _).mono ?_
    rintro e w4 ⟨rfl, hb4⟩
    have HB4 := Lib.hid (HB5.out.trans (hb4.mono (by have := HB5.out.size; omega)))
    clear hb4
    go_wp2_with fail
    go_ret
    exact ⟨rfl, by first | (rw [hs]; exact HB4.out) | exact HB4.out⟩
  subst e1
  have hF : t.fits = true := by unfold Tn.fits; rw [hn.out, hnk.out, E0.out]; simp
  have HSk := Lib.hid (Tn.get_set hF key x)
  have HSo := Lib.hid (fun (h : other ≠ key) => Tn.get_other hF h x)
  have HRs := Lib.hid (fun h h1 h2 => Tn.right_set (key := key) (x := x) hF h h1 h2)
  have HRo := Lib.hid (Tn.right_one (x := x))
  have fS := Tn.put_few HLm.out HFt.out HFx.out key
  have P1 := Lib.hid (fun W (h : Below w2.heap.size w2 W) => set11_any HFt.out HFx.out (T1.out W h) key HK.out (T2.out W h))
  have GT := Lib.hid (fun W (h : Below w2.heap.size w2 W) => get11_any HFt.out (T1.out W h) other)
  have RT := Lib.hid (fun W (h : Below w2.heap.size w2 W) => right11_any (T1.out W h))
  obtain ⟨S, hS⟩ : ∃ G, Hid (t.set key x = G) := ⟨_, rfl⟩
  rw [hS.out] at P1 HSk HSo HRs fS
  have HFS := Lib.hid fS
  have GK := Lib.hid (fun W (vk vq : Value) (h : Tv W W.heap.size S vk vq) => get11_any fS h key)
  rw [HSk.out] at GK
  simp only [Option.getD_some, Option.isSome_some] at GK
  have GO := Lib.hid (fun W (vk vq : Value) (h : Tv W W.heap.size S vk vq) => get11_any fS h other)
  have RS := Lib.hid (fun W (vk vq : Value) (h : Tv W W.heap.size S vk vq) => right11_any h)
  have RL := Lib.hid (fun W (uk uq : Value) (h : Tv W W.heap.size (Tn.listOf [x]) uk uq) => right11_any h)
  have LX := Lib.hid (fun W (v : Value) (h : Kv W W.heap.size v [x]) => list11_any h (by simp) (fun u hu => by rw [List.mem_singleton] at hu; subst hu; exact HFx.out))
  obtain ⟨rt, hrt⟩ : ∃ r, Hid (t.right 0 = r) := ⟨_, rfl⟩
  obtain ⟨rl, hrl⟩ : ∃ r, Hid ((Tn.listOf [x]).right 0 = r) := ⟨_, rfl⟩
  obtain ⟨rs, hrs⟩ : ∃ r, Hid (S.right 0 = r) := ⟨_, rfl⟩
  have HFine : Hid (rt = 0 → rl = 0 → rs = 0) := Lib.hid (fun h1 h2 => by
    have a1 := HRs.out (by rw [hrt.out]; exact h1) (by omega) (HRo.out.1 (hrl.out.trans h2))
    rw [← hrs.out]; exact a1)
  rw [hrt.out] at RT
  rw [hrl.out] at RL
  rw [hrs.out] at RS
  have SmX := Lib.hid (fun W (vk vq uk uq : Value) (h1 : Tv W W.heap.size x vk vq) (h2 : Tv W W.heap.size x uk uq) => rsame11_any (SizeOf.sizeOf x + 1) x (Nat.lt_succ_self _) x h1 h2)
  rw [Tn.same_true rfl] at SmX
  have hoq := txt_eq other key
  rw [e0] at hal c0 ⊢
  rw [e0] at L1
  have HCt' := Lib.hid (fun W h => by have := HCt.out W h; rw [e0] at this; exact this)
  unfold tval at P1 GT RT GK GO RS RL LX SmX
  rw [e0] at P1 GT RT
  clear e0 fS hF HCt
  go_enter Try.func6, Try.ntmps6
  go_wp2_with fail
  refine (L1.out).mono ?_
  rintro e w3 ⟨rfl, hb3⟩
  have HC3 := Lib.hid hb3
  obtain ⟨k0, k1, k2, k3, k4⟩ := HCx.out w3 hb3
  clear hb3 c0 c1 c2 c3 c4
  go_wp2_with fail
  refine (L2.out _ HC3.out).mono ?_
  rintro e w5 ⟨rfl, hb5⟩
  have HC5 := Lib.hid (HC3.out.trans (hb5.mono HC3.out.size))
  obtain ⟨c0, c1, c2, c3, c4⟩ := HCt'.out w5 HC5.out
  obtain ⟨l0, l1, l2, l3, l4⟩ := HCx.out w5 HC5.out
  clear hb5 k0 k1 k2 k3 k4
  go_wp2_with fail
  refine (P1.out _ HC5.out).mono ?_
  rintro e w6 ⟨sk, sq, rfl, ht6, hb6⟩
  obtain ⟨Bk, dk, Bq, dq, g1, u0, u1, rfl, rfl, hg1, hal3, hW1, hst1, hx1, hc1, hz1⟩ := var11 ht6
  have HW1 := Lib.hid hW1
  have HV1 := Lib.hid hx1
  have HC6 := Lib.hid ((HC5.out.trans (hb6.mono HC5.out.size)).trans (hc1.mono (by have := HC5.out.size; have := hb6.size; omega)))
  have CK := Lib.hid (GK.out _ _ _ hx1.tv.all)
  obtain ⟨m0, m1, m2, m3, m4⟩ := hx1.cells
  clear hb6 ht6 hW1 hx1 hc1 c0 c1 c2 c3 c4 l0 l1 l2 l3 l4
  go_wp2_with (refine wpList_store_whole rfl rfl rfl rfl rfl HW1.out (treeI rfl) rfl (by simp [Value.oneCell']) ?_; try rw [hst1])
  refine (CK.out).mono ?_
  rintro e w7 ⟨sk, sq, rfl, ht7, hb7⟩
  obtain ⟨Ck, d2, Cq, d3, g2, u2, u3, rfl, rfl, hg2, hal4, hW2, hst2, hx2, hc2, hz2⟩ := var11 ht7
  have HW2 := Lib.hid hW2
  have HV2 := Lib.hid hx2
  have HC7 := Lib.hid ((HC6.out.trans (hb7.mono HC6.out.size)).trans (hc2.mono (by have := HC6.out.size; have := hb7.size; omega)))
  have HV1b := Lib.hid ((HV1.out.keep hb7).below hc2 (by have := (HV1.out.keep hb7).lt; omega))
  obtain ⟨n0, n1, n2, n3, n4⟩ := hx2.cells
  obtain ⟨l0, l1, l2, l3, l4⟩ := HCx.out u3 HC7.out
  have CS := Lib.hid (SmX.out _ _ _ _ _ hx2.tv.all (T2.out u3 HC7.out).all)
  clear hb7 ht7 hW2 hx2 hc2 CK m0 m1 m2 m3 m4
  go_wp2_with (refine wpList_store_whole rfl rfl rfl rfl rfl HW2.out (treeI rfl) rfl (by simp [Value.oneCell']) ?_; try rw [hst2])
  refine (CS.out).mono ?_
  rintro e w8 ⟨rfl, hb8⟩
  have HC8 := Lib.hid (HC7.out.trans (hb8.mono HC7.out.size))
  have HV1c := Lib.hid (HV1b.out.keep hb8)
  obtain ⟨m0, m1, m2, m3, m4⟩ := HV1c.out.cells
  have CO := Lib.hid (GO.out _ _ _ HV1c.out.tv.all)
  clear hb8 CS n0 n1 n2 n3 n4 l0 l1 l2 l3 l4
  obtain ⟨Gs, hGs⟩ : ∃ G, Hid ((S.get other).getD Tn.zero = G) := ⟨_, rfl⟩
  obtain ⟨ss, hss⟩ : ∃ G, Hid ((S.get other).isSome = G) := ⟨_, rfl⟩
  obtain ⟨Gt, hGt⟩ : ∃ G, Hid ((t.get other).getD Tn.zero = G) := ⟨_, rfl⟩
  obtain ⟨st, hst⟩ : ∃ G, Hid ((t.get other).isSome = G) := ⟨_, rfl⟩
  have HEq : Hid (other ≠ key → Gs = Gt ∧ ss = st) := Lib.hid (fun h => by rw [← hGs.out, ← hGt.out, ← hss.out, ← hst.out, HSo.out h]; exact ⟨rfl, rfl⟩)
  rw [hGs.out, hss.out] at CO
  rw [hGt.out, hst.out] at GT
  go_wp2_with fail
  refine (CO.out).mono ?_
  rintro e w9 ⟨sk, sq, rfl, ht9, hb9⟩
  obtain ⟨Dk, d4, Dq, d5, g3, u4, u5, rfl, rfl, hg3, hal5, hW3, hst3, hx3, hc3, hz3⟩ := var11 ht9
  have HW3 := Lib.hid hW3
  have HV3 := Lib.hid hx3
  have HC9 := Lib.hid ((HC8.out.trans (hb9.mono HC8.out.size)).trans (hc3.mono (by have := HC8.out.size; have := hb9.size; omega)))
  have HV1d := Lib.hid ((HV1c.out.keep hb9).below hc3 (by have := (HV1c.out.keep hb9).lt; omega))
  obtain ⟨c0, c1, c2, c3, c4⟩ := HCt'.out u5 HC9.out
  clear hb9 ht9 hW3 hx3 hc3 CO m0 m1 m2 m3 m4
  go_wp2_with (refine wpList_store_whole rfl rfl rfl rfl rfl HW3.out (treeI rfl) rfl (by simp [Value.oneCell']) ?_; try rw [hst3])
  refine (GT.out _ HC9.out).mono ?_
  rintro e w10 ⟨sk, sq, rfl, ht10, hb10⟩
  obtain ⟨Ek, d6, Eq, d7, g4, u6, u7, rfl, rfl, hg4, hal6, hW4, hst4, hx4, hc4, hz4⟩ := var11 ht10
  have HW4 := Lib.hid hW4
  have HV4 := Lib.hid hx4
  have HC10 := Lib.hid ((HC9.out.trans (hb10.mono HC9.out.size)).trans (hc4.mono (by have := HC9.out.size; have := hb10.size; omega)))
  have HV1e := Lib.hid ((HV1d.out.keep hb10).below hc4 (by have := (HV1d.out.keep hb10).lt; omega))
  have HV3b := Lib.hid ((HV3.out.keep hb10).below hc4 (by have := (HV3.out.keep hb10).lt; omega))
  clear hb10 ht10 hW4 hx4 hc4 c0 c1 c2 c3 c4
  by_cases hne : other = key
  · rw [decide_eq_true hne] at hoq
    clear HEq
    obtain ⟨c0, c1, c2, c3, c4⟩ := HCt'.out _ HC10.out
    have CT := Lib.hid (RT.out _ HC10.out)
    go_wp2_with (refine wpList_store_whole rfl rfl rfl rfl rfl HW4.out (treeI rfl) rfl (by simp [Value.oneCell']) ?_; try rw [hst4])
    refine (CT.out).mono ?_
    rintro e w13 ⟨rfl, hb13⟩
    have HC13 := Lib.hid (HC10.out.trans (hb13.mono HC10.out.size))
    have HV1g := Lib.hid (HV1e.out.keep hb13)
    clear hb13 c0 c1 c2 c3 c4 CT
    by_cases z1 : rt = 0
    case neg =>
      have q1 : ((rt : Int) == 0) = false := by simp; omega
      go_wp2_with fail
      refine (awake11 _).mono ?_
      rintro e w14 ⟨rfl, hb14⟩
      have hfin : Below b w w14 := HB2.out.trans ((HC13.out.trans (hb14.mono HC13.out.size)).mono (by omega))
      clear hb14
      have HFi := Lib.hid hfin
      clear hfin
      go_wp2_with fail
      go_ret
      exact ⟨rfl, by first | (rw [hs]; exact HFi.out) | exact HFi.out⟩
    have Z1 := Lib.hid z1
    subst z1
    obtain ⟨l0, l1, l2, l3, l4⟩ := HCx.out w13 HC13.out
    obtain ⟨v1, hv1⟩ : ∃ v1, w13.heap.size = v1 := ⟨_, rfl⟩
    obtain ⟨wA, hwA⟩ : ∃ wA, w13.alloc (.cells #[.int .i64 x.kind, .int .i64 x.n, .string x.s, .slice Axk x.keys.length cxk, .slice Axq x.kids.length cxq] 25) = wA := ⟨_, rfl⟩
    have hkv : Kv wA (v1 + 1) (.slice (some ⟨v1, 0, none⟩) 1 1) [x] := by
      rw [← hwA]
      exact Kv.lit (n := 1) hv1 [(x, Value.slice Axk x.keys.length cxk, Value.slice Axq x.kids.length cxq)] rfl (fun y hy => by rw [List.mem_singleton] at hy; subst hy; rw [← hv1]; exact (T2.out _ HC13.out).all) (by omega)
    have hbA : Below v1 w13 wA := by rw [← hwA]; exact (Below.refl _ _).alloc (by omega) _
    have hsA : v1 + 1 ≤ wA.heap.size := by rw [← hwA]; simp; omega
    have CL := Lib.hid (LX.out _ _ (hkv.more hsA))
    have HCA := Lib.hid (HC13.out.trans (hbA.mono (by have := HC13.out.size; omega)))
    have HVA := Lib.hid (HV1g.out.below hbA (by have := HV1g.out.lt; omega))
    clear hkv hbA hsA
    go_wp2_with fail
    refine (CL.out).mono ?_
    rintro e w15 ⟨lk, lq, rfl, ht15, hb15⟩
    have HC15 := Lib.hid (HCA.out.trans (hb15.mono HCA.out.size))
    have HV15 := Lib.hid (HVA.out.keep hb15)
    have CR := Lib.hid (RL.out _ _ _ ht15)
    clear hb15 ht15 l0 l1 l2 l3 l4
    go_wp2_with fail
    refine (CR.out).mono ?_
    rintro e w16 ⟨rfl, hb16⟩
    have HC16 := Lib.hid (HC15.out.trans (hb16.mono HC15.out.size))
    have HV16 := Lib.hid (HV15.out.keep hb16)
    clear hb16 CR
    by_cases z2 : rl = 0
    case neg =>
      have q1 : ((rl : Int) == 0) = false := by simp; omega
      go_wp2_with fail
      refine (awake11 _).mono ?_
      rintro e w14 ⟨rfl, hb14⟩
      have HFi : Hid (Below b w w14) := Lib.hid (HB2.out.trans ((HC16.out.trans (hb14.mono HC16.out.size)).mono (by omega)))
      clear hb14
      go_wp2_with fail
      go_ret
      exact ⟨rfl, by first | (rw [hs]; exact HFi.out) | exact HFi.out⟩
    have z3 := HFine.out Z1.out z2
    subst z2
    have CQ := Lib.hid (RS.out _ _ _ HV16.out.tv.all)
    rw [z3] at CQ
    obtain ⟨m0, m1, m2, m3, m4⟩ := HV16.out.cells
    clear z3
    go_wp2_with fail
    refine (CQ.out).mono ?_
    rintro e w17 ⟨rfl, hb17⟩
    have HC17 := Lib.hid (HC16.out.trans (hb17.mono HC16.out.size))
    clear hb17 m0 m1 m2 m3 m4
    go_wp2_with fail
    refine (awake11 _).mono ?_
    rintro e w14 ⟨rfl, hb14⟩
    have HFi : Hid (Below b w w14) := Lib.hid (HB2.out.trans ((HC17.out.trans (hb14.mono HC17.out.size)).mono (by omega)))
    clear hb14
    go_wp2_with fail
    go_ret
    exact ⟨rfl, by first | (rw [hs]; exact HFi.out) | exact HFi.out⟩
  · rw [decide_eq_false hne] at hoq
    obtain ⟨hg5, hs5⟩ := HEq.out hne
    subst hg5 hs5
    have SmG := Lib.hid (fun W (vk vq uk uq : Value) (h1 : Tv W W.heap.size Gs vk vq) (h2 : Tv W W.heap.size Gs uk uq) => rsame11_any (SizeOf.sizeOf Gs + 1) Gs (Nat.lt_succ_self _) Gs h1 h2)
    rw [Tn.same_true rfl] at SmG
    unfold tval at SmG
    have CG := Lib.hid (SmG.out _ _ _ _ _ HV3b.out.tv.all HV4.out.tv.all)
    obtain ⟨n0, n1, n2, n3, n4⟩ := HV3b.out.cells
    obtain ⟨m0, m1, m2, m3, m4⟩ := HV4.out.cells
    clear HEq
    go_wp2_with (refine wpList_store_whole rfl rfl rfl rfl rfl HW4.out (treeI rfl) rfl (by simp [Value.oneCell']) ?_; try rw [hst4])
    refine (CG.out).mono ?_
    rintro e w12 ⟨rfl, hb12⟩
    have HC12 := Lib.hid (HC10.out.trans (hb12.mono HC10.out.size))
    have HV1f := Lib.hid (HV1e.out.keep hb12)
    clear hb12 CG n0 n1 n2 n3 n4 m0 m1 m2 m3 m4
    obtain ⟨c0, c1, c2, c3, c4⟩ := HCt'.out _ HC12.out
    have CT := Lib.hid (RT.out _ HC12.out)
    go_wp2_with fail
    refine (CT.out).mono ?_
    rintro e w13 ⟨rfl, hb13⟩
    have HC13 := Lib.hid (HC12.out.trans (hb13.mono HC12.out.size))
    have HV1g := Lib.hid (HV1f.out.keep hb13)
    clear hb13 c0 c1 c2 c3 c4 CT
    by_cases z1 : rt = 0
    case neg =>
      have q1 : ((rt : Int) == 0) = false := by simp; omega
      go_wp2_with fail
      refine (awake11 _).mono ?_
      rintro e w14 ⟨rfl, hb14⟩
      have hfin : Below b w w14 := HB2.out.trans ((HC13.out.trans (hb14.mono HC13.out.size)).mono (by omega))
      clear hb14
      have HFi := Lib.hid hfin
      clear hfin
      go_wp2_with fail
      go_ret
      exact ⟨rfl, by first | (rw [hs]; exact HFi.out) | exact HFi.out⟩
    have Z1 := Lib.hid z1
    subst z1
    obtain ⟨l0, l1, l2, l3, l4⟩ := HCx.out w13 HC13.out
    obtain ⟨v1, hv1⟩ : ∃ v1, w13.heap.size = v1 := ⟨_, rfl⟩
    obtain ⟨wA, hwA⟩ : ∃ wA, w13.alloc (.cells #[.int .i64 x.kind, .int .i64 x.n, .string x.s, .slice Axk x.keys.length cxk, .slice Axq x.kids.length cxq] 25) = wA := ⟨_, rfl⟩
    have hkv : Kv wA (v1 + 1) (.slice (some ⟨v1, 0, none⟩) 1 1) [x] := by
      rw [← hwA]
      exact Kv.lit (n := 1) hv1 [(x, Value.slice Axk x.keys.length cxk, Value.slice Axq x.kids.length cxq)] rfl (fun y hy => by rw [List.mem_singleton] at hy; subst hy; rw [← hv1]; exact (T2.out _ HC13.out).all) (by omega)
    have hbA : Below v1 w13 wA := by rw [← hwA]; exact (Below.refl _ _).alloc (by omega) _
    have hsA : v1 + 1 ≤ wA.heap.size := by rw [← hwA]; simp; omega
    have CL := Lib.hid (LX.out _ _ (hkv.more hsA))
    have HCA := Lib.hid (HC13.out.trans (hbA.mono (by have := HC13.out.size; omega)))
    have HVA := Lib.hid (HV1g.out.below hbA (by have := HV1g.out.lt; omega))
    clear hkv hbA hsA
    go_wp2_with fail
    refine (CL.out).mono ?_
    rintro e w15 ⟨lk, lq, rfl, ht15, hb15⟩
    have HC15 := Lib.hid (HCA.out.trans (hb15.mono HCA.out.size))
    have HV15 := Lib.hid (HVA.out.keep hb15)
    have CR := Lib.hid (RL.out _ _ _ ht15)
    clear hb15 ht15 l0 l1 l2 l3 l4
    go_wp2_with fail
    refine (CR.out).mono ?_
    rintro e w16 ⟨rfl, hb16⟩
    have HC16 := Lib.hid (HC15.out.trans (hb16.mono HC15.out.size))
    have HV16 := Lib.hid (HV15.out.keep hb16)
    clear hb16 CR
    by_cases z2 : rl = 0
    case neg =>
      have q1 : ((rl : Int) == 0) = false := by simp; omega
      go_wp2_with fail
      refine (awake11 _).mono ?_
      rintro e w14 ⟨rfl, hb14⟩
      have HFi : Hid (Below b w w14) := Lib.hid (HB2.out.trans ((HC16.out.trans (hb14.mono HC16.out.size)).mono (by omega)))
      clear hb14
      go_wp2_with fail
      go_ret
      exact ⟨rfl, by first | (rw [hs]; exact HFi.out) | exact HFi.out⟩
    have z3 := HFine.out Z1.out z2
    subst z2
    have CQ := Lib.hid (RS.out _ _ _ HV16.out.tv.all)
    rw [z3] at CQ
    obtain ⟨m0, m1, m2, m3, m4⟩ := HV16.out.cells
    clear z3
    go_wp2_with fail
    refine (CQ.out).mono ?_
    rintro e w17 ⟨rfl, hb17⟩
    have HC17 := Lib.hid (HC16.out.trans (hb17.mono HC16.out.size))
    clear hb17 m0 m1 m2 m3 m4
    go_wp2_with fail
    refine (awake11 _).mono ?_
    rintro e w14 ⟨rfl, hb14⟩
    have HFi : Hid (Below b w w14) := Lib.hid (HB2.out.trans ((HC17.out.trans (hb14.mono HC17.out.size)).mono (by omega)))
    clear hb14
    go_wp2_with fail
    go_ret
    exact ⟨rfl, by first | (rw [hs]; exact HFi.out) | exact HFi.out⟩
end Go.Proofs.Ytbimalafcgmnaaa
