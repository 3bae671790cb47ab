/- The walk of the law TreeMakes. -/
import Derived.Test.YtbimalafcgmnaaaAwake11
import Derived.Test.YtbimalafcgmnaaaRright11
import Derived.Test.YtbimalafcgmnaaaRoom11
import Derived.Test.YtbimalafcgmnaaaPA
import Derived.Test.YtbimalafcgmnaaaLTreeSets
namespace Go.Proofs.Ytbimalafcgmnaaa
open Go.RowKit
set_option linter.unusedVariables false
set_option maxRecDepth 100000
set_option linter.unusedSimpArgs false

def Tn.bump (t : Tn) : Tn := .mk (IntKind.i64.wrap (t.kind + 1)) t.n t.s t.keys t.kids
theorem Tn.bump_ne {t : Tn} (h : -9223372036854775808 ≤ t.kind ∧ t.kind ≤ 9223372036854775807) : ¬ t.bump = t := fun e => by
  have : IntKind.i64.wrap (t.kind + 1) = t.kind := congrArg Tn.kind e
  rw [IntKind.wrap_i64] at this
  omega
theorem Tl.bump {w : World} {lo : Nat} {t : Tn} {vk vq : Value} (h : Tl w lo t vk vq) : Tl w lo t.bump vk vq := by
  cases h with
  | mk K Q rk rn rs hk h1 h2 h3 h4 hl hm hn hc ht =>
    refine .mk K Q ?_ rn rs hk h1 h2 h3 h4 hl hm hn hc ht
    show -9223372036854775808 ≤ IntKind.i64.wrap _ ∧ IntKind.i64.wrap _ ≤ 9223372036854775807
    rw [IntKind.wrap_i64]
    omega
def bumpq (x : Tq) : Tq := (x.1.bump, x.2.1, x.2.2)
theorem five_bump (L : List Tq) (i : Nat) (h : i < L.length) : (five L).set (i * 5) (.int .i64 (IntKind.i64.wrap (L[i].1.kind + 1))) = five (L.set i (bumpq L[i])) := by
  induction L generalizing i with
  | nil => simp at h
  | cons y L ih =>
    cases i with
    | zero => rfl
    | succ i =>
      rw [List.set_cons_succ, five_cons, five_cons, show (i + 1) * 5 = i * 5 + 5 by omega]
      have := ih i (by simpa using h)
      show _ :: _ :: _ :: _ :: _ :: (five L).set (i * 5) _ = _
      simp only [List.getElem_cons_succ]
      rw [this]
theorem bump_mid {L : List Tq} {i : Nat} (h : i < L.length) : ((L.take i).map bumpq ++ L.drop i).set i (bumpq L[i]) = (L.take (i + 1)).map bumpq ++ L.drop (i + 1) := by
  rw [set_mid h (by simp; omega), List.take_succ_eq_append_getElem h, List.map_append]
  rfl
theorem mid_get {L : List Tq} {i : Nat} (h : i < L.length) : ((L.take i).map bumpq ++ L.drop i)[i]'(by simp; omega) = L[i] := by
  rw [List.getElem_append_right (by simp; omega)]
  simp [Nat.min_eq_left (Nat.le_of_lt h)]
theorem grown_setCell {w w' : World} {g i : Nat} {u : Value} (h : w.grownBy w' (some g)) : w.grownBy (w'.setCell ⟨g, i, none⟩ u) (some g) :=
  ⟨h.os, h.tape, h.output, by simpa [World.setCell] using h.size, fun k hk hne => (Below.heap_setCell _ _ _ _ (fun e => hne (by rw [show k = g from e]))).trans (h.block k hk hne)⟩
theorem grown_drew {w w' : World} {r : Option Nat} (h : w.grownBy w' r) : w.grownBy w'.drew r := ⟨h.os, h.tape, h.output, h.size, h.block⟩
theorem same_bump {t : Tn} (hb : ∀ u ∈ t.kids, -9223372036854775808 ≤ u.kind ∧ u.kind ≤ 9223372036854775807) : Tn.same (.mk t.kind t.n t.s t.keys (t.kids.map Tn.bump)) t = decide (t.kids.length = 0) := by
  by_cases h : t.kids = []
  · rw [Tn.same_true (by rw [h, List.map_nil, ← h]; exact t.eta.symm)]
    simp [h]
  · have h0 : 0 < t.kids.length := by
      have := mt List.length_eq_zero_iff.1 h
      omega
    rw [Tn.same_false (fun e => Tn.bump_ne (hb _ (List.getElem_mem h0)) (by
      have e2 : t.kids.map Tn.bump = t.kids := congrArg Tn.kids e
      have e3 : (t.kids.map Tn.bump)[0]? = t.kids[0]? := by rw [e2]
      rw [List.getElem?_map, List.getElem?_eq_getElem h0] at e3
      exact Option.some.inj e3))]
    exact (decide_eq_false (by omega)).symm
abbrev madeOf (n : Int) (s : ByteArray) (l : List Tn) : Tn := Tn.listOf [.mk 1 n ⟨#[]⟩ [] [], .mk 2 0 s [] [], Tn.listOf l, .mk 4 0 ⟨#[]⟩ [] []]
abbrev kidsOf (l : List Tn) : Tn := .mk 0 0 ⟨#[]⟩ [] l

set_option maxHeartbeats 2000000 in
theorem treeMakes_walk (n : Int) (s : ByteArray) (v : Value) (l : List Tn) (t : Tn) (vk vq : Value) (w : World) (hn : (Lit.int .i64 n).wf = true) (hsz : s.size ≤ maxLen) (HL : Kv w w.heap.size v l) (H : Tv w w.heap.size t vk vq) :
    Calls Try.prog 5 #[.int .i64 n, .string s, v, tval t vk vq] w fun e w' => e = .returned (.bool true) ∧ Below w.heap.size w w' := by
  have hb := bounds_i64 hn
  obtain ⟨b, w1, hs, hal, hT, hb1⟩ := boxedT H
  have HT := Lib.hid hT
  have HB1 := Lib.hid hb1
  have hbw := hT.lt
  have HCt := Lib.hid (fun W (h : Below w1.heap.size w1 W) => (HT.out.keep h).cells)
  have T1 := Lib.hid (fun W (h : Below w1.heap.size w1 W) => (HT.out.keep h).tv)
  have KL := Lib.hid (fun W (h : Below b w W) => HL.below (by rw [hs]; exact h))
  have hkt : Tv w w.heap.size (kidsOf l) (.slice none 0 0) v := Tv.of (by simp [kidsOf, Tn.kind]) (by simp [kidsOf, Tn.n]) (tsmall (by simp [kidsOf, Tn.s, ByteArray.size])) (Sk.nil _ _) HL
  have L1 := Lib.hid (fun W (h : Below b w W) => large11_any (level := 1) (by omega) (hkt.keep (by rw [hs]; exact h)))
  have L2 := Lib.hid (fun W (h : Below w1.heap.size w1 W) => large11_any (level := 1) (by omega) (T1.out W h))
  have S1 := Lib.hid (fun h => (Tn.small_of (t := kidsOf l) h).lim.few)
  have S2 := Lib.hid (fun h => (Tn.small_of (t := t) h).lim.few)
  obtain ⟨Al, cl, el, _⟩ := HL
  subst el
  obtain ⟨Ak, ck, ek, _⟩ := hT.tv.keys
  obtain ⟨A, c, eq, _⟩ := hT.tv.kids
  subst ek eq
  obtain ⟨r1, hr1⟩ : ∃ rm, Hid ((kidsOf l).room 1 400 = rm) := ⟨_, rfl⟩
  obtain ⟨r2, hr2⟩ : ∃ rm, Hid (t.room 1 400 = rm) := ⟨_, rfl⟩
  rw [hr1.out] at L1 S1
  rw [hr2.out] at L2 S2
  have HBn := Lib.hid hb
  have HSz := Lib.hid hsz
  obtain ⟨sz, hszz⟩ : ∃ sz, s.size = sz := ⟨_, rfl⟩
  rw [hszz] at hsz
  unfold maxLen at hsz
  unfold tcells at hal
  unfold tval at L1 L2
  unfold tval
  obtain ⟨c0, c1, c2, c3, c4⟩ := HCt.out w1 (Below.refl _ _)
  clear hT H hb1 hkt hn hb
  by_cases hk : 300 < sz
  case pos =>
    go_enter Try.func5, Try.ntmps5
    go_wp2_with fail
    refine (awake11 _).mono ?_
    rintro e w4 ⟨rfl, hb4⟩
    have HB4 := Lib.hid (HB1.out.trans (hb4.mono (by omega)))
    clear hb4
    go_wp2_with fail
    go_ret
    exact ⟨rfl, by first | (rw [hs]; exact HB4.out) | exact HB4.out⟩
  by_cases hr : r1 < 0
  case pos =>
    rw [decide_eq_true hr] at L1
    go_enter Try.func5, Try.ntmps5
    go_wp2_with fail
    refine (L1.out _ HB1.out).mono ?_
    rintro e w3 ⟨rfl, hb3⟩
    have HB3 := Lib.hid (HB1.out.trans (hb3.mono (by omega)))
    clear hb3
    go_wp2_with fail
    refine (awake11 _).mono ?_
    rintro e w4 ⟨rfl, hb4⟩
    have HB4 := Lib.hid (HB3.out.trans (hb4.mono (by have := HB3.out.size; omega)))
    clear hb4
    go_wp2_with fail
    go_ret
    exact ⟨rfl, by first | (rw [hs]; exact HB4.out) | exact HB4.out⟩
  rw [decide_eq_false hr] at L1
  have fl := S1.out hr
  by_cases hr' : r2 < 0
  case pos =>
    rw [decide_eq_true hr'] at L2
    clear fl
    go_enter Try.func5, Try.ntmps5
    go_wp2_with fail
    refine (L1.out _ HB1.out).mono ?_
    rintro e w3 ⟨rfl, hb3⟩
    have HB3 := Lib.hid (HB1.out.trans (hb3.mono (by omega)))
    have HC3 := Lib.hid hb3
    obtain ⟨k0, k1, k2, k3, k4⟩ := HCt.out w3 hb3
    clear hb3
    go_wp2_with fail
    refine (L2.out _ HC3.out).mono ?_
    rintro e w5 ⟨rfl, hb5⟩
    have HB5 := Lib.hid (HB3.out.trans (hb5.mono (by have := HB3.out.size; omega)))
    clear hb5
    go_wp2_with fail
    refine (awake11 _).mono ?_
    rintro e w4 ⟨rfl, hb4⟩
    have HB4 := Lib.hid (HB5.out.trans (hb4.mono (by have := HB5.out.size; omega)))
    clear hb4
    go_wp2_with fail
    go_ret
    exact ⟨rfl, by first | (rw [hs]; exact HB4.out) | exact HB4.out⟩
  rw [decide_eq_false hr'] at L2
  have ft := S2.out hr'
  have HFl := Lib.hid fl
  have HFt := Lib.hid ft
  have CT := Lib.hid (fun W (h : Below w1.heap.size w1 W) => copy11_any (SizeOf.sizeOf t + 1) t (Nat.lt_succ_self _) HFt.out (T1.out W h))
  have hl6 : l.length ≤ 1000000 := HFl.out.kids
  have LL := Lib.hid (fun W (h : Below b w W) => list11_any (KL.out W h) hl6 (fun u hu => by cases HFl.out with | mk _ _ hh => exact hh u hu))
  have LM := Lib.hid (fun W (v : Value) (h : Kv W W.heap.size v [.mk 1 n ⟨#[]⟩ [] [], .mk 2 0 s [] [], Tn.listOf l, .mk 4 0 ⟨#[]⟩ [] []]) => list11_any h (by simp) (fun u hu => by
    have hll : (Tn.listOf l).Few := Tn.Few.list hl6 (fun u hu => by cases HFl.out with | mk _ _ hh => exact hh u hu)
    simp at hu
    rcases hu with rfl | rfl | rfl | rfl
    · exact few_plain
    · exact few_plain
    · exact hll
    · exact few_plain))
  have plain1 : ∀ W B, Tv W B (.mk 1 n ⟨#[]⟩ [] []) (.slice none 0 0) (.slice none 0 0) := fun W B => tv_plain (by omega) HBn.out (tsmall (by simp [ByteArray.size]))
  have plain2 : ∀ W B, Tv W B (.mk 2 0 s [] []) (.slice none 0 0) (.slice none 0 0) := fun W B => tv_plain (by omega) (by omega) HSz.out
  have plain4 : ∀ W B, Tv W B (.mk 4 0 ⟨#[]⟩ [] []) (.slice none 0 0) (.slice none 0 0) := fun W B => tv_plain (by omega) (by omega) (tsmall (by simp [ByteArray.size]))
  have HP1 := Lib.hid plain1
  have HP2 := Lib.hid plain2
  have HP4 := Lib.hid plain4
  unfold tval at CT LL LM
  clear ft fl plain1 plain2 plain4
  go_enter Try.func5, Try.ntmps5
  go_wp2_with fail
  refine (L1.out _ HB1.out).mono ?_
  rintro e w3 ⟨rfl, hb3⟩
  have HC3 := Lib.hid hb3
  obtain ⟨k0, k1, k2, k3, k4⟩ := HCt.out w3 hb3
  clear hb3 c0 c1 c2 c3 c4
  go_wp2_with fail
  refine (L2.out _ HC3.out).mono ?_
  rintro e w5 ⟨rfl, hb5⟩
  have HC5 := Lib.hid (HC3.out.trans (hb5.mono HC3.out.size))
  have HB5 := Lib.hid (HB1.out.trans (HC5.out.mono (by omega)))
  clear hb5 k0 k1 k2 k3 k4
  obtain ⟨v1, hv1⟩ : ∃ v1, w5.heap.size = v1 := ⟨_, rfl⟩
  obtain ⟨wA, hwA⟩ : ∃ wA, w5.alloc (.cells #[.int .i64 1, .int .i64 n, .string ⟨#[]⟩, .slice none 0 0, .slice none 0 0, .int .i64 2, .int .i64 0, .string s, .slice none 0 0, .slice none 0 0, .int .i64 3, .int .i64 0, .string ⟨#[]⟩, .slice none 0 0, .slice Al l.length cl, .int .i64 4, .int .i64 0, .string ⟨#[]⟩, .slice none 0 0, .slice none 0 0] 25) = wA := ⟨_, rfl⟩
  have hkl := KL.out w5 HB5.out
  have hkv : Kv wA (v1 + 1) (.slice (some ⟨v1, 0, none⟩) 4 4) [.mk 1 n ⟨#[]⟩ [] [], .mk 2 0 s [] [], Tn.listOf l, .mk 4 0 ⟨#[]⟩ [] []] := by
    rw [← hwA]
    exact Kv.lit (n := 4) hv1 [(.mk 1 n ⟨#[]⟩ [] [], .slice none 0 0, .slice none 0 0), (.mk 2 0 s [] [], .slice none 0 0, .slice none 0 0), (Tn.listOf l, .slice none 0 0, .slice Al l.length cl), (.mk 4 0 ⟨#[]⟩ [] [], .slice none 0 0, .slice none 0 0)] rfl (fun y hy => by
      simp at hy
      rcases hy with rfl | rfl | rfl | rfl
      · exact HP1.out _ _
      · exact HP2.out _ _
      · rw [← hv1]; exact hkl.tree.all
      · exact HP4.out _ _) (by omega)
  have hbA : Below v1 w5 wA := by rw [← hwA]; exact (Below.refl _ _).alloc (by omega) _
  obtain ⟨_, _, Bq, dq, g1, u0, u1, ex1, ex2, hg1, hal2, hW1, hst1, hx1, hc1, hz1⟩ := var11 hkv.tree
  injection ex1 with e1 e5 e2
  injection ex2 with e3 e6 e4
  subst e1 e2 e3 e4
  clear e5 e6
  have hst1' : u0.setRow g1 #[.int .i64 3, .int .i64 0, .string ⟨#[]⟩, .slice none 0 0, .slice (some ⟨v1, 0, none⟩) 4 4] = u1 := hst1
  have HW1 := Lib.hid hW1
  have HV1 := Lib.hid hx1
  have HC6 := Lib.hid ((HC5.out.trans (hbA.mono (by have := HC5.out.size; omega))).trans (hc1.mono (by have := HC5.out.size; have := hbA.size; omega)))
  clear hkv hbA hkl hW1 hx1 hc1
  go_upto_region 4 with (refine wpList_store_whole rfl rfl rfl rfl rfl HW1.out (treeI rfl) rfl (by simp [Value.oneCell']) ?_; try rw [hst1])
  have I1 := Lib.hid (int11_any n u1)
  have HSv1 := Lib.hid HV1.out.lt
  go_wp2_with fail
  refine (I1.out).mono ?_
  rintro e w7 ⟨rfl, hb7⟩
  have HC7 := Lib.hid (HC6.out.trans (hb7.mono HC6.out.size))
  have HV7 := Lib.hid (HV1.out.keep hb7)
  clear hb7
  go_wp2_with fail
  refine (text11_any s w7).mono ?_
  rintro e w8 ⟨rfl, hb8⟩
  have HC8 := Lib.hid (HC7.out.trans (hb8.mono HC7.out.size))
  have HV8 := Lib.hid (HV7.out.keep hb8)
  have HB8 := Lib.hid (HB1.out.trans (HC8.out.mono (by omega)))
  clear hb8
  go_wp2_with fail
  refine (LL.out w8 HB8.out).mono ?_
  rintro e w9 ⟨lk, lq, rfl, ht9, hb9⟩
  obtain ⟨Lk, kc, ek, _⟩ := ht9.keys
  obtain ⟨Lq, qc, eq, _⟩ := ht9.kids
  subst ek eq
  have HC9 := Lib.hid (HC8.out.trans (hb9.mono HC8.out.size))
  have HV9 := Lib.hid (HV8.out.keep hb9)
  have HT9 := Lib.hid ht9
  clear hb9 ht9
  go_wp2_with fail
  refine (dict11_any w9).mono ?_
  rintro e w10 ⟨rfl, hb10⟩
  have HC10 := Lib.hid (HC9.out.trans (hb10.mono HC9.out.size))
  have HV10 := Lib.hid (HV9.out.keep hb10)
  have HT10 := Lib.hid (HT9.out.keep hb10).all
  clear hb10
  obtain ⟨v2, hv2⟩ : ∃ v2, w10.heap.size = v2 := ⟨_, rfl⟩
  obtain ⟨wB, hwB⟩ : ∃ wB, w10.alloc (.cells #[.int .i64 (Tn.mk 1 n ⟨#[]⟩ [] []).kind, .int .i64 (Tn.mk 1 n ⟨#[]⟩ [] []).n, .string (Tn.mk 1 n ⟨#[]⟩ [] []).s, .slice none 0 0, .slice none 0 0, .int .i64 (Tn.mk 2 0 s [] []).kind, .int .i64 (Tn.mk 2 0 s [] []).n, .string (Tn.mk 2 0 s [] []).s, .slice none 0 0, .slice none 0 0, .int .i64 (Tn.listOf l).kind, .int .i64 (Tn.listOf l).n, .string (Tn.listOf l).s, .slice Lk (Tn.listOf l).keys.length kc, .slice Lq (Tn.listOf l).kids.length qc, .int .i64 (Tn.mk 4 0 ⟨#[]⟩ [] []).kind, .int .i64 (Tn.mk 4 0 ⟨#[]⟩ [] []).n, .string (Tn.mk 4 0 ⟨#[]⟩ [] []).s, .slice none 0 0, .slice none 0 0] 25) = wB := ⟨_, rfl⟩
  have hkv : Kv wB (v2 + 1) (.slice (some ⟨v2, 0, none⟩) 4 4) [.mk 1 n ⟨#[]⟩ [] [], .mk 2 0 s [] [], Tn.listOf l, .mk 4 0 ⟨#[]⟩ [] []] := by
    rw [← hwB]
    exact Kv.lit (n := 4) hv2 [(.mk 1 n ⟨#[]⟩ [] [], .slice none 0 0, .slice none 0 0), (.mk 2 0 s [] [], .slice none 0 0, .slice none 0 0), (Tn.listOf l, .slice Lk (Tn.listOf l).keys.length kc, .slice Lq (Tn.listOf l).kids.length qc), (.mk 4 0 ⟨#[]⟩ [] [], .slice none 0 0, .slice none 0 0)] rfl (fun y hy => by
      simp at hy
      rcases hy with rfl | rfl | rfl | rfl
      · exact HP1.out _ _
      · exact HP2.out _ _
      · rw [← hv2]; exact HT10.out
      · exact HP4.out _ _) (by omega)
  have hbB : Below v2 w10 wB := by rw [← hwB]; exact (Below.refl _ _).alloc (by omega) _
  have hsB : v2 + 1 ≤ wB.heap.size := by rw [← hwB]; simp; omega
  have LG := Lib.hid (LM.out _ _ (hkv.more hsB))
  have HCB := Lib.hid (HC10.out.trans (hbB.mono (by have := HC10.out.size; omega)))
  have HVB := Lib.hid (HV10.out.below hbB (by have := HV10.out.lt; omega))
  clear hkv hbB hsB
  go_wp2_with fail
  refine (LG.out).mono ?_
  rintro e w11 ⟨gk, gq0, rfl, ht11, hb11⟩
  obtain ⟨Gk, gkc, Gq, gqc, g2, u2, u3, rfl, rfl, hg2, hal3, hW2, hst2, hx2, hc2, hz2⟩ := var11 ht11
  have HW2 := Lib.hid hW2
  have HV2 := Lib.hid hx2
  have HC11 := Lib.hid ((HCB.out.trans (hb11.mono HCB.out.size)).trans (hc2.mono (by have := HCB.out.size; have := hb11.size; omega)))
  have HV1b := Lib.hid ((HVB.out.keep hb11).below hc2 (by have := (HVB.out.keep hb11).lt; omega))
  obtain ⟨c0, c1, c2, c3, c4⟩ := HCt.out u3 HC11.out
  have CC := Lib.hid (CT.out u3 HC11.out)
  clear hb11 ht11 hW2 hx2 hc2 LG
  go_wp2_with (refine wpList_store_whole rfl rfl rfl rfl rfl HW2.out (treeI rfl) rfl (by simp [Value.oneCell']) ?_; try rw [hst2])
  refine (CC.out).mono ?_
  rintro e w12 ⟨uk, uq, rfl, hc12, hb12⟩
  obtain ⟨kA, kc2, qA, qc2, g3, u4, u5, rfl, rfl, hg3, hal4, hW3, hst3, hx3, hc3, hz3⟩ := var11 hc12.tv
  have HW3 := Lib.hid hW3
  have HV3 := Lib.hid hx3
  have HC12 := Lib.hid ((HC11.out.trans (hb12.mono HC11.out.size)).trans (hc3.mono (by have := HC11.out.size; have := hb12.size; omega)))
  have HV1c := Lib.hid ((HV1b.out.keep hb12).below hc3 (by have := (HV1b.out.keep hb12).lt; omega))
  have HV2b := Lib.hid ((HV2.out.keep hb12).below hc3 (by have := (HV2.out.keep hb12).lt; omega))
  have hlts := hc12.lts.2
  rw [hg3] at hlts
  have HLT := Lib.hid hlts
  have HCpy := Lib.hid (hc12.from_ (From.of_below (lo := u3.heap.size) (by rw [hg3]; exact hc3)))
  have hu3 := HC11.out.size
  clear hb12 hc12 hW3 hx3 hc3 CC hlts c0 c1 c2 c3 c4
  go_wp2_with (refine wpList_store_whole rfl rfl rfl rfl rfl HW3.out (treeI rfl) rfl (by simp [Value.oneCell']) ?_; try rw [hst3])
  have SmT := Lib.hid (fun W (vk vq uk uq : Value) (h1 : Tv W W.heap.size t vk vq) (h2 : Tv W W.heap.size t uk uq) => rsame11_any (SizeOf.sizeOf t + 1) t (Nat.lt_succ_self _) t h1 h2)
  have SmC := Lib.hid (fun W (vk vq uk uq : Value) (h1 : Tv W W.heap.size t vk vq) (h2 : Tv W W.heap.size t uk uq) => same11_any (SizeOf.sizeOf t + 1) t (Nat.lt_succ_self _) t h1 h2)
  rw [Tn.same_true rfl] at SmT SmC
  obtain ⟨M, hM⟩ : ∃ M, Hid (madeOf n s l = M) := ⟨_, rfl⟩
  have hMl : Tn.listOf [.mk 1 n ⟨#[]⟩ [] [], .mk 2 0 s [] [], Tn.listOf l, .mk 4 0 ⟨#[]⟩ [] []] = M := hM.out
  rw [hMl] at HV1c HV2b
  have SmM := Lib.hid (fun W (vk vq uk uq : Value) (h1 : Tv W W.heap.size M vk vq) (h2 : Tv W W.heap.size M uk uq) => rsame11_any (SizeOf.sizeOf M + 1) M (Nat.lt_succ_self _) M h1 h2)
  rw [Tn.same_true rfl] at SmM
  have X1 := Lib.hid (fun W (vk vq uk uq : Value) (h1 : Tv W W.heap.size M vk vq) (h2 : Tv W W.heap.size t uk uq) => same11_any (SizeOf.sizeOf M + 1) M (Nat.lt_succ_self _) t h1 h2)
  have X2 := Lib.hid (fun W (vk vq uk uq : Value) (h1 : Tv W W.heap.size M vk vq) (h2 : Tv W W.heap.size t uk uq) => rsame11_any (SizeOf.sizeOf M + 1) M (Nat.lt_succ_self _) t h1 h2)
  obtain ⟨y, hy⟩ : ∃ y, Hid (Tn.same M t = y) := ⟨_, rfl⟩
  rw [hy.out] at X1 X2
  unfold tval at SmT SmC SmM X1 X2
  have HPt := Lib.hid (fun W (h : Below u5.heap.size u5 W) => HCt.out W (HC12.out.trans (h.mono HC12.out.size)))
  have HPc := Lib.hid (fun W (h : Below u5.heap.size u5 W) => (HV3.out.keep h).cells)
  have HPm := Lib.hid (fun W (h : Below u5.heap.size u5 W) => (HV1c.out.keep h).cells)
  have HPg := Lib.hid (fun W (h : Below u5.heap.size u5 W) => (HV2b.out.keep h).cells)
  have TT := Lib.hid (fun W (h : Below u5.heap.size u5 W) => (T1.out W (HC12.out.trans (h.mono HC12.out.size))).all)
  have TC := Lib.hid (fun W (h : Below u5.heap.size u5 W) => (HV3.out.keep h).tv.all)
  have TM := Lib.hid (fun W (h : Below u5.heap.size u5 W) => (HV1c.out.keep h).tv.all)
  have TG := Lib.hid (fun W (h : Below u5.heap.size u5 W) => (HV2b.out.keep h).tv.all)
  refine wp_region_plan (S := fun W => Below u5.heap.size u5 W) [(0, true), (1, true), (2, false), (3, true), (4, true), (5, true), (6, false), (7, true), (8, true), (9, true), (10, true), (12, true), (13, true), (11, false), (14, false), (15, true), (16, true), (17, true), (18, true), (19, true), (20, false), (21, true), (22, true)] (by kernel_rfl) (by kernel_rfl) rfl (by kernel_rfl) (fun _ _ _ _ _ h => h) (Below.refl _ _).drew ?_
  have HD0 : Hid (Below u5.heap.size u5 u5.drew) := Lib.hid (Below.refl _ _).drew
  iterate 2
    refine along_take (v := ?_) rfl (by rfl) ?_ ?_
    rotate_left
    · intro W hW; obtain ⟨k0, k1, k2, k3, k4⟩ := HPc.out W hW; obtain ⟨l0, l1, l2, l3, l4⟩ := HPt.out W hW; go_simp; try with_reducible rfl
    simp only [Act.put, List.setIfInBounds_toArray, List.set_cons_zero, List.set_cons_succ]
  refine along_step rfl (fun K hK => ?_)
  go_simp
  refine (SmT.out _ _ _ _ _ (TC.out _ HD0.out) (TT.out _ HD0.out)).mono ?_
  rintro e x1 ⟨rfl, hb⟩
  have HD1 := Lib.hid (HD0.out.trans (hb.mono HD0.out.size))
  clear hb
  refine hK.out _ _ HD1.out ?_
  clear hK K
  try simp only [Act.put, List.setIfInBounds_toArray, List.set_cons_zero, List.set_cons_succ]
  iterate 3
    refine along_take (v := ?_) rfl (by rfl) ?_ ?_
    rotate_left
    · intro W hW; obtain ⟨k0, k1, k2, k3, k4⟩ := HPm.out W hW; obtain ⟨l0, l1, l2, l3, l4⟩ := HPg.out W hW; go_simp; try with_reducible rfl
    simp only [Act.put, List.setIfInBounds_toArray, List.set_cons_zero, List.set_cons_succ]
  refine along_step rfl (fun K hK => ?_)
  go_simp
  refine (SmM.out _ _ _ _ _ (TM.out _ HD1.out) (TG.out _ HD1.out)).mono ?_
  rintro e x2 ⟨rfl, hb⟩
  have HD2 := Lib.hid (HD1.out.trans (hb.mono HD1.out.size))
  clear hb
  refine hK.out _ _ HD2.out ?_
  clear hK K
  try simp only [Act.put, List.setIfInBounds_toArray, List.set_cons_zero, List.set_cons_succ]
  iterate 6
    refine along_take (v := ?_) rfl (by rfl) ?_ ?_
    rotate_left
    · intro W hW; obtain ⟨k0, k1, k2, k3, k4⟩ := HPm.out W hW; obtain ⟨l0, l1, l2, l3, l4⟩ := HPt.out W hW; go_simp; try with_reducible rfl
    simp only [Act.put, List.setIfInBounds_toArray, List.set_cons_zero, List.set_cons_succ]
  refine along_step rfl (fun K hK => ?_)
  go_simp
  refine (X1.out _ _ _ _ _ (TM.out _ HD2.out) (TT.out _ HD2.out)).mono ?_
  rintro e x3 ⟨rfl, hb⟩
  have HD3 := Lib.hid (HD2.out.trans (hb.mono HD2.out.size))
  clear hb
  refine hK.out _ _ HD3.out ?_
  clear hK K
  try simp only [Act.put, List.setIfInBounds_toArray, List.set_cons_zero, List.set_cons_succ]
  refine along_step rfl (fun K hK => ?_)
  go_simp
  refine (X2.out _ _ _ _ _ (TM.out _ HD3.out) (TT.out _ HD3.out)).mono ?_
  rintro e x4 ⟨rfl, hb⟩
  have HD4 := Lib.hid (HD3.out.trans (hb.mono HD3.out.size))
  clear hb
  refine hK.out _ _ HD4.out ?_
  clear hK K
  try simp only [Act.put, List.setIfInBounds_toArray, List.set_cons_zero, List.set_cons_succ]
  iterate 5
    refine along_take (v := ?_) rfl (by rfl) ?_ ?_
    rotate_left
    · intro W hW; obtain ⟨k0, k1, k2, k3, k4⟩ := HPc.out W hW; obtain ⟨l0, l1, l2, l3, l4⟩ := HPt.out W hW; go_simp; try with_reducible rfl
    simp only [Act.put, List.setIfInBounds_toArray, List.set_cons_zero, List.set_cons_succ]
  refine along_step rfl (fun K hK => ?_)
  go_simp
  refine (SmC.out _ _ _ _ _ (TC.out _ HD4.out) (TT.out _ HD4.out)).mono ?_
  rintro e x5 ⟨rfl, hb⟩
  have HD5 := Lib.hid (HD4.out.trans (hb.mono HD4.out.size))
  clear hb
  refine hK.out _ _ HD5.out ?_
  clear hK K
  try simp only [Act.put, List.setIfInBounds_toArray, List.set_cons_zero, List.set_cons_succ]
  iterate 2
    refine along_take (v := ?_) rfl (by rfl) ?_ ?_
    rotate_left
    · intro W hW; go_simp; try with_reducible rfl
    simp only [Act.put, List.setIfInBounds_toArray, List.set_cons_zero, List.set_cons_succ]
  refine along_done ?_
  have HCpy5 := HCpy.out.from_ (From.of_below HD5.out)
  obtain ⟨mid, lo, L, hm1, hm2, hm0, hok, hkm, hoq, hql, hLm, hTl⟩ := HCpy5.ex
  have hLl : L.length = t.kids.length := by rw [← hLm]; simp
  have hgx3 : g3 < u5.heap.size := HV3.out.lt
  have hx5 := HD5.out.size
  have hbu : w1.heap.size ≤ u3.heap.size := HC11.out.size
  have hW5 := (HV3.out.keep HD5.out).bx
  have hB5 := (HT.out.keep (HC12.out.trans (HD5.out.mono HC12.out.size))).bx
  have HCx5 := Lib.hid (HC12.out.trans (HD5.out.mono HC12.out.size))
  have hbt := HT.out.lt
  obtain ⟨nq, hnq⟩ : ∃ q, Hid (t.kids.length = q) := ⟨_, rfl⟩
  obtain ⟨nk, hnk⟩ : ∃ q, Hid (t.keys.length = q) := ⟨_, rfl⟩
  have HBd := Lib.hid (And.intro HCpy5.kind (And.intro HCpy5.num (And.intro HCpy5.str HCpy5.sizes)))
  unfold tcells at hW5 hB5
  rw [hnq.out, hnk.out] at hW5
  rw [hnq.out, hnk.out] at hB5
  rw [hnk.out] at hok hkm
  rw [hLl, hnq.out] at hoq
  rw [hnq.out] at hql hLl
  rw [hnq.out] at HLT
  rw [hnq.out, hnk.out]
  have HW5 := Lib.hid hW5
  have HB5' := Lib.hid hB5
  have HOK := Lib.hid hok
  have HOQ := Lib.hid hoq
  have HQL := Lib.hid hql
  have HKM := Lib.hid hkm
  have HLM := Lib.hid hLm
  have HTL := Lib.hid hTl
  have HLL := Lib.hid hLl
  clear HCpy5 hok hkm hoq hql hLm hTl hLl hW5 hB5 HPt HPc HPm HPg TT TC TM TG X1 X2 SmT SmC SmM
  have hnqm : nq ≤ 9223372036854775807 := by
    obtain ⟨_, _, e, h1, h2, _⟩ := own_look HOQ.out
    injection e with _ _ e
    unfold maxLen at h2
    omega
  go_wp2_with fail
  go_loopw [13] (fun vi wr => ∃ i : Nat, i ≤ nq ∧ vi = .int .i64 i ∧ Hid (wr.ownsRow mid 25 5 (.slice qA nq qc2) nq (five ((L.take i).map bumpq ++ L.drop i))) ∧ Hid (x5.grownBy wr (Value.slice qA nq qc2).ownBlock)) (fun vi _ => nq - (intOf vi).toNat)
  case atStart => exact ⟨0, by omega, rfl, Lib.hid (by simpa using HOQ.out), Lib.hid (World.grownBy.refl _ _)⟩
  case round =>
    obtain ⟨i, hi, rfl, HO, HG⟩ := hrel
    have hw3 := HW5.out.grown HG.out (fun e => by have := HLT.out g3 e.symm; omega)
    have k4 : wr.cell? ⟨g3, 4, none⟩ = some (.slice qA nq qc2) := hw3.at_ 4
    by_cases hlt : i < nq
    · have hil : i < L.length := by rw [HLL.out]; exact hlt
      obtain ⟨gq, cq0, eq, hgq1, hgq2⟩ := HO.out.form (by omega)
      injection eq with eq1 _ eq2
      subst eq1 eq2
      have hmg := mid_get hil
      obtain ⟨f0, _⟩ := five_get ((L.take i).map bumpq ++ L.drop i) i (by simp; omega)
      rw [hmg] at f0
      have q0 : wr.cell? ⟨gq, i * 5, none⟩ = some (.int .i64 L[i].1.kind) := by
        have := HO.out.cells (g := gq) rfl _ _ f0
        rwa [Addr.add_mid, Nat.zero_add] at this
      have f1 : wr.frozen? ⟨gq, i * 5, none⟩ = false := HO.out.frozenAt _
      have hst := (HO.out.stored (i * 5) (.int .i64 (IntKind.i64.wrap (L[i].1.kind + 1)))).1
      have hfb := five_bump ((L.take i).map bumpq ++ L.drop i) i (by simp; omega)
      rw [hmg, bump_mid hil] at hfb
      rw [hfb] at hst
      have HST := Lib.hid hst
      have HGr : Hid (∀ u, x5.grownBy (wr.setCell ⟨gq, i * 5, none⟩ u) (some gq)) := Lib.hid (fun u => grown_setCell HG.out)
      obtain ⟨kd, hkd⟩ : ∃ kd, Hid (L[i].1.kind = kd) := ⟨L[i].1.kind, Lib.hid rfl⟩
      rw [hkd.out] at q0 HST
      obtain ⟨kd', hkd'⟩ : ∃ k, IntKind.i64.wrap (kd + 1) = k := ⟨_, rfl⟩
      rw [hkd'] at HST
      have hin2 : (i : Int) < (nq : Int) := by omega
      clear hw3 hmg f0 hst hfb
      go_wp2_with fail
      go_region
      go_wp2_with fail
      go_roundw
      case rel => exact ⟨i + 1, by omega, by go_num, HST, Lib.hid (grown_drew (HGr.out _))⟩
      case measure => simp [intOf]; omega
    · have hin : i = nq := by omega
      have hfull : (L.take i).map bumpq ++ L.drop i = L.map bumpq := by rw [hin, ← HLL.out, List.take_length, List.drop_length, List.append_nil]
      have hgl : ∀ j, (Value.slice qA nq qc2).ownBlock = some j → mid ≤ j ∧ j < lo := fun j hj => ⟨(HOQ.out.lt j hj).1, HQL.out j hj⟩
      have hown := HO.out
      rw [hfull] at hown
      have hb3 := HB5'.out.grown HG.out (fun e => by have := hgl b e.symm; omega)
      have hokr := own_grown HOK.out HG.out (fun j hj e => by have := HKM.out j hj; have := hgl j e.symm; omega)
      have hcw : Below w1.heap.size w1 wr := HCx5.out.grown HG.out HCx5.out.size (fun k hk => by have := hgl k hk; omega)
      have hte := same_bump (t := t) (fun u hu => by
        rw [← HLM.out] at hu
        obtain ⟨y, hy, rfl⟩ := List.mem_map.1 hu
        exact (HTL.out y hy).tv.kind)
      rw [hnq.out] at hte
      have hTc : Tl wr u3.heap.size (Tn.mk t.kind t.n t.s t.keys (t.kids.map Tn.bump)) (.slice kA nk kc2) (.slice qA nq qc2) := by
        refine Tl.of_own (L := L.map bumpq) HBd.out.1 HBd.out.2.1 HBd.out.2.2.1 ?_ HBd.out.2.2.2 ?_ ?_ (fun y hy => ?_)
        · show World.ownsRow _ _ _ _ _ t.keys.length (txs t.keys)
          rw [hnk.out]; exact hokr
        · rw [List.length_map, HLL.out]
          exact own_less hown hm1
        · rw [List.map_map]
          show L.map (fun x => (bumpq x).1) = t.kids.map Tn.bump
          rw [← HLM.out, List.map_map]
          rfl
        · obtain ⟨z, hz, rfl⟩ := List.mem_map.1 hy
          exact (((HTL.out z hz).from_ (From.of_grown HG.out (fun j hj => (hgl j hj).2))).less (by omega)).bump
      have HTc := Lib.hid hTc.tv
      have CS : Hid (∀ W, Below wr.heap.size wr W → Calls Try.prog 23 #[.agg #[.int .i64 t.kind, .int .i64 t.n, .string t.s, .slice kA nk kc2, .slice qA nq qc2], .agg #[.int .i64 t.kind, .int .i64 t.n, .string t.s, .slice Ak nk ck, .slice A nq c]] W fun e w' => e = .returned (.bool (decide (nq = 0))) ∧ Below W.heap.size W w') := Lib.hid (fun W hW => by
        rw [← hte]
        have h1 := T1.out W (hcw.trans (hW.mono hcw.size))
        rw [hnq.out, hnk.out] at h1
        exact same11_any (SizeOf.sizeOf (Tn.mk t.kind t.n t.s t.keys (t.kids.map Tn.bump)) + 1) (Tn.mk t.kind t.n t.s t.keys (t.kids.map Tn.bump)) (Nat.lt_succ_self _) t (HTc.out.keep hW) h1)
      have HPw : Hid (∀ W, Below wr.heap.size wr W → (W.cell? ⟨g3, 0, none⟩ = some (.int .i64 t.kind) ∧ W.cell? ⟨g3, 1, none⟩ = some (.int .i64 t.n) ∧ W.cell? ⟨g3, 2, none⟩ = some (.string t.s) ∧ W.cell? ⟨g3, 3, none⟩ = some (.slice kA nk kc2) ∧ W.cell? ⟨g3, 4, none⟩ = some (.slice qA nq qc2)) ∧ (W.cell? ⟨b, 0, none⟩ = some (.int .i64 t.kind) ∧ W.cell? ⟨b, 1, none⟩ = some (.int .i64 t.n) ∧ W.cell? ⟨b, 2, none⟩ = some (.string t.s) ∧ W.cell? ⟨b, 3, none⟩ = some (.slice Ak nk ck) ∧ W.cell? ⟨b, 4, none⟩ = some (.slice A nq c))) := Lib.hid (fun W hW => by
        have a1 := hw3.below hW hw3.lt
        have a2 := hb3.below hW hb3.lt
        exact ⟨⟨a1.at_ 0, a1.at_ 1, a1.at_ 2, a1.at_ 3, a1.at_ 4⟩, ⟨a2.at_ 0, a2.at_ 1, a2.at_ 2, a2.at_ 3, a2.at_ 4⟩⟩)
      have HFb : Hid (Below b w wr) := Lib.hid (HB1.out.trans (hcw.mono (by omega)))
      have hwz : b ≤ wr.heap.size := by have := HFb.out.size; omega
      clear hfull hgl hown hb3 hokr hcw hte hTc hw3
      by_cases hn0 : nq = 0
      · rw [decide_eq_true hn0] at CS
        have hq0 : ((nq : Int) == 0) = true := by simp; omega
        subst hn0
        go_wp2_with fail
        refine wp_region_plan (S := fun W => Below wr.heap.size wr W) [(0, true), (1, true), (2, true), (3, true), (5, true), (6, true), (7, true), (8, true), (4, false), (9, true), (10, true), (11, true), (12, false), (13, true), (14, true)] (by kernel_rfl) (by kernel_rfl) rfl (by kernel_rfl) (fun _ _ _ _ _ h => h) (Below.refl _ _).drew ?_
        iterate 8
          refine along_take (v := ?_) rfl (by rfl) ?_ ?_
          rotate_left
          · intro W hW; obtain ⟨⟨k0, k1, k2, k3, k4⟩, ⟨l0, l1, l2, l3, l4⟩⟩ := HPw.out W hW; go_simp; try with_reducible rfl
          simp only [Act.put, List.setIfInBounds_toArray, List.set_cons_zero, List.set_cons_succ]
        refine along_step rfl (fun K hK => ?_)
        go_simp
        refine (CS.out _ (Below.refl _ _).drew).mono ?_
        rintro e y1 ⟨rfl, hb⟩
        have HE1 : Hid (Below wr.heap.size wr y1) := Lib.hid ((Below.refl _ _).drew.trans hb)
        clear hb
        refine hK.out _ _ HE1.out ?_
        clear hK K
        try simp only [Act.put, List.setIfInBounds_toArray, List.set_cons_zero, List.set_cons_succ]
        iterate 3
          refine along_take (v := ?_) rfl (by rfl) ?_ ?_
          rotate_left
          · intro W hW; obtain ⟨⟨k0, k1, k2, k3, k4⟩, ⟨l0, l1, l2, l3, l4⟩⟩ := HPw.out W hW; go_simp; try with_reducible rfl
          simp only [Act.put, List.setIfInBounds_toArray, List.set_cons_zero, List.set_cons_succ]
        refine along_step rfl (fun K hK => ?_)
        go_simp
        refine (awake11 _).mono ?_
        rintro e y2 ⟨rfl, hb⟩
        have HE2 := Lib.hid (HE1.out.trans (hb.mono HE1.out.size))
        clear hb
        refine hK.out _ _ HE2.out ?_
        clear hK K
        try simp only [Act.put, List.setIfInBounds_toArray, List.set_cons_zero, List.set_cons_succ]
        iterate 2
          refine along_take (v := ?_) rfl (by rfl) ?_ ?_
          rotate_left
          · intro W hW; obtain ⟨⟨k0, k1, k2, k3, k4⟩, ⟨l0, l1, l2, l3, l4⟩⟩ := HPw.out W hW; go_simp; try with_reducible rfl
          simp only [Act.put, List.setIfInBounds_toArray, List.set_cons_zero, List.set_cons_succ]
        refine along_done ?_
        have HFi : Hid (Below b w y2) := Lib.hid (HFb.out.trans (HE2.out.mono hwz))
        go_wp2_with fail
        go_ret
        exact ⟨rfl, by first | (rw [hs]; exact HFi.out) | exact HFi.out⟩
      · rw [decide_eq_false hn0] at CS
        have hq0 : ((nq : Int) == 0) = false := by simp; omega
        go_wp2_with fail
        refine wp_region_plan (S := fun W => Below wr.heap.size wr W) [(0, true), (1, true), (2, true), (3, true), (5, true), (6, true), (7, true), (8, true), (4, false), (9, true), (10, true), (11, true), (12, false), (13, true), (14, true)] (by kernel_rfl) (by kernel_rfl) rfl (by kernel_rfl) (fun _ _ _ _ _ h => h) (Below.refl _ _).drew ?_
        iterate 8
          refine along_take (v := ?_) rfl (by rfl) ?_ ?_
          rotate_left
          · intro W hW; obtain ⟨⟨k0, k1, k2, k3, k4⟩, ⟨l0, l1, l2, l3, l4⟩⟩ := HPw.out W hW; go_simp; try with_reducible rfl
          simp only [Act.put, List.setIfInBounds_toArray, List.set_cons_zero, List.set_cons_succ]
        refine along_step rfl (fun K hK => ?_)
        go_simp
        refine (CS.out _ (Below.refl _ _).drew).mono ?_
        rintro e y1 ⟨rfl, hb⟩
        have HE1 : Hid (Below wr.heap.size wr y1) := Lib.hid ((Below.refl _ _).drew.trans hb)
        clear hb
        refine hK.out _ _ HE1.out ?_
        clear hK K
        try simp only [Act.put, List.setIfInBounds_toArray, List.set_cons_zero, List.set_cons_succ]
        iterate 3
          refine along_take (v := ?_) rfl (by rfl) ?_ ?_
          rotate_left
          · intro W hW; obtain ⟨⟨k0, k1, k2, k3, k4⟩, ⟨l0, l1, l2, l3, l4⟩⟩ := HPw.out W hW; go_simp; try with_reducible rfl
          simp only [Act.put, List.setIfInBounds_toArray, List.set_cons_zero, List.set_cons_succ]
        refine along_step rfl (fun K hK => ?_)
        go_simp
        refine (awake11 _).mono ?_
        rintro e y2 ⟨rfl, hb⟩
        have HE2 := Lib.hid (HE1.out.trans (hb.mono HE1.out.size))
        clear hb
        refine hK.out _ _ HE2.out ?_
        clear hK K
        try simp only [Act.put, List.setIfInBounds_toArray, List.set_cons_zero, List.set_cons_succ]
        iterate 2
          refine along_take (v := ?_) rfl (by rfl) ?_ ?_
          rotate_left
          · intro W hW; obtain ⟨⟨k0, k1, k2, k3, k4⟩, ⟨l0, l1, l2, l3, l4⟩⟩ := HPw.out W hW; go_simp; try with_reducible rfl
          simp only [Act.put, List.setIfInBounds_toArray, List.set_cons_zero, List.set_cons_succ]
        refine along_done ?_
        have HFi : Hid (Below b w y2) := Lib.hid (HFb.out.trans (HE2.out.mono hwz))
        go_wp2_with fail
        go_ret
        exact ⟨rfl, by first | (rw [hs]; exact HFi.out) | exact HFi.out⟩
end Go.Proofs.Ytbimalafcgmnaaa
