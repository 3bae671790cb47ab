/- Contract of the reference's list of layer 12, out of that of its value. -/
import Derived.Test.YtphanlkobkkgfaaRval12
namespace Go.Proofs.Ytphanlkobkkgfaa
open Go.RowKit
set_option linter.unusedVariables false
set_option maxRecDepth 100000
set_option linter.unusedSimpArgs false
namespace Bn
section
variable {v : List Nat → Rs Tn} {d : Bool} {f e c : Nat} {ks ks' : List ByteArray} {ts : List Tn} {l r r' : List Nat} {t : Tn} {s : ByteArray}
theorem loop_hit (h : l.head? = some 101) : loop v d (f + 1) ks ts l = .ok (.mk (if d = true then 4 else 3) 0 ⟨#[]⟩ ks ts) l.tail := by rw [loop, if_pos h]
theorem loop_entry (h : ¬ l.head? = some 101) (he : entry d ks l = .bad e) : loop v d (f + 1) ks ts l = .bad e := by rw [loop, if_neg h, he]
theorem loop_value (h : ¬ l.head? = some 101) (he : entry d ks l = .ok ks' r) (hv : v r = .bad e) : loop v d (f + 1) ks ts l = .bad e := by
  rw [loop, if_neg h, he]
  simp only []
  rw [hv]
theorem loop_step (hvl : ∀ l t r, v l = .ok t r → r.length < l.length) (h : ¬ l.head? = some 101) (he : entry d ks l = .ok ks' r) (hv : v r = .ok t r') : loop v d (l.length + 1) ks ts l = loop v d (r'.length + 1) ks' (ts ++ [t]) r' := by
  rw [loop, if_neg h, he]
  simp only []
  rw [hv]
  simp only []
  have h1 := entry_len he
  have h2 := hvl _ _ _ hv
  exact loop_fuel hvl _ _ _ _ _ (by omega) (by omega)
theorem entry_plain : entry false ks l = .ok ks l := by unfold entry; rw [if_pos rfl]
theorem entry_nil : entry true ks [] = .bad 2 := by unfold entry; rw [if_neg (by simp)]
theorem entry_form (h : digit c = false) : entry true ks (c :: l) = .bad 3 := by
  unfold entry
  rw [if_neg (by simp)]
  simp only []
  rw [if_pos h]
theorem entry_word (h : digit c = true) (hw : word (c :: l) = .bad e) : entry true ks (c :: l) = .bad e := by
  unfold entry
  rw [if_neg (by simp)]
  simp only []
  rw [if_neg (by simp [h]), hw]
theorem entry_less (h : digit c = true) (hw : word (c :: l) = .ok s r) (hx : ∃ k, ks.getLast? = some k ∧ Tn.less k s = false) : entry true ks (c :: l) = .bad 3 := by
  unfold entry
  rw [if_neg (by simp)]
  simp only []
  rw [if_neg (by simp [h]), hw]
  simp only []
  rw [if_pos hx]
theorem entry_ok (h : digit c = true) (hw : word (c :: l) = .ok s r) (hx : ¬ ∃ k, ks.getLast? = some k ∧ Tn.less k s = false) : entry true ks (c :: l) = .ok (ks ++ [s]) r := by
  unfold entry
  rw [if_neg (by simp)]
  simp only []
  rw [if_neg (by simp [h]), hw]
  simp only []
  rw [if_neg hx]
end
end Bn
theorem txs_snoc (ks : List ByteArray) (s : ByteArray) : txs (ks ++ [s]) = txs ks ++ [.string s] := by simp [txs]
theorem five_snoc (L : List Tq) (x : Tq) : five (L ++ [x]) = five L ++ five [x] := by simp [five]


set_option maxHeartbeats 8000000 in
theorem rlist12_plain {s : ByteArray} {l : List Nat} (T : Txt s l) (hl : l.length ≤ 1000000000) (k' m : Nat) (hm : m + (k' + 1) = 8)
    (HV : ∀ (a : Nat) (w : World), a ≤ l.length → Calls Try.prog 21 #[.string s, .int .i64 (a : Int), .int .i64 ((m + 1 : Nat) : Int)] w fun e w' => ∃ v, e = .returned v ∧ Bn.ValR l a w.heap.size (Bn.value k' (l.drop a)) v w' ∧ Below w.heap.size w w')
    (a : Nat) (ha : a ≤ l.length) (w : World) : Calls Try.prog 42 #[.string s, .int .i64 (a : Int), .int .i64 (m : Int), .bool false] w fun e w' => ∃ v, e = .returned v ∧ Bn.ValR l a w.heap.size (Bn.loop (Bn.value k') false ((l.drop a).length + 1) [] [] (l.drop a)) v w' ∧ Below w.heap.size w w' := by
  obtain ⟨h, w1, hh, hal1, hH1, hb1, hs1⟩ := var_tree w
  obtain ⟨g, w2, hg, hal2, hG2, hb2, hs2⟩ := var_tree w1
  have hhg : h < g := by omega
  have hH2 := hH1.below hb2 (by omega)
  obtain ⟨w3, hst⟩ : ∃ w3, w2.setRow g #[.int .i64 3, .int .i64 0, .string ⟨#[]⟩, .slice none 0 0, .slice none 0 0] = w3 := ⟨_, rfl⟩
  have hG3 : Whole w3 g 25 #[.int .i64 3, .int .i64 0, .string ⟨#[]⟩, .slice none 0 0, .slice none 0 0] := by rw [← hst]; exact hG2.row _
  have hH3 : Whole w3 h 25 #[.int .i64 0, .int .i64 0, .string ⟨#[]⟩, .slice none 0 0, .slice none 0 0] := by rw [← hst]; exact hH2.rowOther (by omega) _
  have hB3 : Below w.heap.size w w3 := by rw [← hst]; exact below_row (hb1.trans (hb2.mono (by omega)) |>.mono (by omega)) (by omega) _
  have HG2 := Lib.hid hG2
  have HS := Lib.hid (Lst.start (kd := 3) hB3 hH3 hG3 ⟨by omega, hhg⟩)
  have HHg : Hid (w.heap.size ≤ h ∧ h < g) := Lib.hid ⟨by omega, hhg⟩
  have hsz := T.size
  have HT := Lib.hid T
  have HVl := Lib.hid (Bn.value_len k')
  have HVb := Lib.hid (Bn.value_bad k')
  have HVe := Lib.hid (Bn.value_end k')
  obtain ⟨m1, hm1⟩ : ∃ x, Hid (m + 1 = x) := ⟨_, rfl⟩
  have hw1 : IntKind.i64.wrap ((m : Int) + 1) = (m1 : Int) := by rw [← hm1.out, IntKind.wrap_i64]; omega
  have hm8 : m ≤ 7 := by omega
  rw [hm1.out] at HV
  have HVv := Lib.hid HV
  obtain ⟨V, hV⟩ : ∃ V, Hid (Bn.value k' = V) := ⟨_, rfl⟩
  rw [hV.out] at HVl HVb HVe HVv ⊢
  obtain ⟨R, hR⟩ : ∃ R, Hid (Bn.loop V false ((l.drop a).length + 1) [] [] (l.drop a) = R) := ⟨_, rfl⟩
  rw [hR.out]
  obtain ⟨n, hn⟩ : ∃ n, Hid (l.length = n) := ⟨_, rfl⟩
  rw [hn.out] at hl ha hsz
  clear hH1 hH2 hH3 hG3 hG2 hB3 hb1 hb2 hs1 hs2 T HV hm
  go_enter Try.func42, Try.ntmps42
  go_wp2_with (refine wpList_store_whole rfl rfl rfl rfl rfl HG2.out (treeI rfl) rfl (by simp [Value.oneCell']) ?_; rw [hst])
  clear hh hg hal1 hal2 hst
  go_loopw [1] (fun v1 wr => ∃ (p : Nat) (L : List Tq) (vq : Value), p ≤ n ∧ v1 = .int .i64 (p : Int) ∧ L.length ≤ p ∧ a ≤ p ∧ Hid (Lst w h g 3 [] L (.slice none 0 0) vq wr) ∧ Hid (Bn.loop V false ((l.drop p).length + 1) [] (L.map (·.1)) (l.drop p) = R)) (fun v1 _ => n - (intOf v1).toNat)
  case atStart => exact ⟨a, [], _, ha, rfl, by simp, by omega, HS, hR⟩
  case round =>
    obtain ⟨p, L, vq, hp, rfl, hLp, hap, HI, HR⟩ := hrel
    by_cases hlt : p < n
    case neg =>
      obtain rfl : p = n := by omega
      have HNil : Hid (l.drop p = []) := Lib.hid (List.drop_eq_nil_of_le (by rw [hn.out]; omega))
      have HNh : Hid (¬ (l.drop p).head? = some 101) := Lib.hid (by rw [HNil.out]; simp)
      have CV := Lib.hid (HVv.out p wr (by rw [hn.out]; omega))
      rw [HNil.out, HVe.out] at CV
      have HE : Hid (R = .bad 2) := Lib.hid (by rw [← HR.out]; exact Bn.loop_value HNh.out Bn.entry_plain (by rw [HNil.out]; exact HVe.out))
      go_wp2_with fail
      refine (CV.out).mono ?_
      rintro e w4 ⟨v, rfl, hv, hb4⟩
      have HI4 := Lib.hid (HI.out.behind hb4)
      obtain ⟨u, w5, hu, hal5, hU5, hb5, hs5⟩ := var_tree w4
      have hb5s : Below w4.heap.size w4 w5 := by rw [hu]; exact hb5
      have hu4 : w4.heap.size ≤ u := by omega
      clear hb5 hb4
      rcases hv with ⟨e, he, rfl⟩ | ⟨x, r, kk, xk, xq, he, _⟩
      case inr => cases he
      obtain rfl : e = 2 := by injection he with he; omega
      obtain ⟨w6, hst6⟩ : ∃ w6, w5.setRow u #[.int .i64 0, .int .i64 0, .string ⟨#[]⟩, .slice none 0 0, .slice none 0 0] = w6 := ⟨_, rfl⟩
      have HB6 : Hid (Below w4.heap.size w4 w6) := Lib.hid (by rw [← hst6]; exact below_row hb5s hu4 _)
      have HI6 := Lib.hid (HI4.out.behind HB6.out)
      have HZ := Lib.hid HI6.out.zero
      have HBz := Lib.hid HI6.out.bel
      have HGz := Lib.hid HI6.out.lt.1
      have HU5 := Lib.hid hU5
      clear hb5s hs5 hU5 he
      go_upto_region 18 with (refine wpList_store_whole rfl rfl rfl rfl rfl HU5.out (treeI rfl) rfl (by simp [Value.oneCell']) ?_; rw [hst6])
      clear hu hal5
      go_wp2_with (refine wpList_store_whole rfl rfl rfl rfl rfl HZ.out (treeI rfl) rfl (by simp [Value.oneCell']) ?_)
      refine bodyPost_ret (v := .tuple #[.agg #[.int .i64 0, .int .i64 0, .string ⟨#[]⟩, .slice none 0 0, .slice none 0 0], .int .i64 0, .int .i64 2]) ?_ rfl ⟨_, rfl, .inl ⟨_, HE.out, rfl⟩, below_row HBz.out HGz.out _⟩
      exact results_tree3 rfl rfl rfl rfl (HZ.out.row _) rfl
    have hcons := Bn.drop_head (l := l) (a := p) (by rw [hn.out]; exact hlt)
    obtain ⟨c, hc⟩ : ∃ c, Hid (l.getD p 0 = c) := ⟨_, rfl⟩
    rw [hc.out] at hcons
    have hc256 : c < 256 := by rw [← hc.out]; exact getD_lt HT.out.byte p
    have hat : ∀ (h : p < s.size), (s[p]'h).toNat = c := fun h => by rw [← hc.out]; exact HT.out.at_ p h
    have HC := Lib.hid hcons
    clear hcons
    by_cases h1 : c = 101
    case pos =>
      subst h1
      have HE : Hid (R = .ok (.mk 3 0 ⟨#[]⟩ [] (L.map (·.1))) (l.drop (p + 1))) := Lib.hid (by rw [← HR.out, HC.out, Bn.loop_hit rfl]; rfl)
      obtain ⟨A, c0, rfl, hc1, hc2, hc3, _⟩ := own_look HI.out.kids
      have t0 := HI.out.tree.at_ 0
      have t1 := HI.out.tree.at_ 1
      have t2 := HI.out.tree.at_ 2
      have t3 := HI.out.tree.at_ 3
      have t4 := HI.out.tree.at_ 4
      simp at t0 t1 t2 t3 t4
      have HZ := Lib.hid HI.out.zero
      go_wp2_with (refine wpList_store_whole rfl rfl rfl rfl rfl HZ.out (treeI rfl) rfl (by simp [Value.oneCell']) ?_)
      refine bodyPost_ret (v := .tuple #[.agg #[.int .i64 3, .int .i64 0, .string ⟨#[]⟩, (Value.slice none 0 0), .slice A L.length c0], .int .i64 ((p + 1 : Nat) : Int), .int .i64 0]) ?_ rfl ⟨_, rfl, .inr ⟨_, _, p + 1, (Value.slice none 0 0), .slice A L.length c0, HE.out, rfl, rfl, by rw [hn.out]; omega, by omega, HI.out.done (.inl rfl) _⟩, below_row HI.out.bel HI.out.lt.1 _⟩
      refine results_tree3 rfl rfl ?_ rfl (HZ.out.row _) rfl
      go_num
    have q101 : ((c : Int) != 101) = true := by simp; omega
    have q101' : ((c : Int) == 101) = false := by simp; omega
    have HNh : Hid (¬ (l.drop p).head? = some 101) := Lib.hid (by rw [HC.out]; simpa using h1)
    have HEn : Hid (Bn.entry false [] (l.drop p) = .ok [] (l.drop p)) := Lib.hid Bn.entry_plain
    have CV := Lib.hid (HVv.out p wr (by rw [hn.out]; omega))
    obtain ⟨Rv, hRv⟩ : ∃ X, Hid (V (l.drop p) = X) := ⟨_, rfl⟩
    rw [hRv.out] at CV
    go_wp2_with fail
    refine (CV.out).mono ?_
    rintro e w4 ⟨v, rfl, hv, hb4⟩
    have HI4 := Lib.hid (HI.out.behind hb4)
    have HW4 : Hid (wr.heap.size ≤ w4.heap.size) := Lib.hid hb4.size
    obtain ⟨u, w5, hu, hal5, hU5, hb5, hs5⟩ := var_tree w4
    have hb5s : Below w4.heap.size w4 w5 := by rw [hu]; exact hb5
    have hu4 : w4.heap.size ≤ u := by omega
    clear hb5 hb4
    rcases hv with ⟨e, rfl, rfl⟩ | ⟨x, r, kk, xk, xq, rfl, rfl, hk1, hk2, hk3, hx⟩
    · have he := HVb.out _ _ hRv.out
      have q1 : ((e : Int) != 0) = true := by simp; omega
      have q2 : ((e : Int) == 0) = false := by simp; omega
      have he9 : e ≤ 6 := by omega
      clear he
      obtain ⟨w6, hst6⟩ : ∃ w6, w5.setRow u #[.int .i64 0, .int .i64 0, .string ⟨#[]⟩, .slice none 0 0, .slice none 0 0] = w6 := ⟨_, rfl⟩
      have HB6 : Hid (Below w4.heap.size w4 w6) := Lib.hid (by rw [← hst6]; exact below_row hb5s hu4 _)
      have HI6 := Lib.hid (HI4.out.behind HB6.out)
      have HZ := Lib.hid HI6.out.zero
      have HBz := Lib.hid HI6.out.bel
      have HGz := Lib.hid HI6.out.lt.1
      have HE : Hid (R = .bad e) := Lib.hid (by rw [← HR.out]; exact Bn.loop_value HNh.out HEn.out hRv.out)
      have HU5 := Lib.hid hU5
      clear hb5s hs5 hU5
      go_upto_region 18 with (refine wpList_store_whole rfl rfl rfl rfl rfl HU5.out (treeI rfl) rfl (by simp [Value.oneCell']) ?_; rw [hst6])
      clear hu hal5
      go_wp2_with (refine wpList_store_whole rfl rfl rfl rfl rfl HZ.out (treeI rfl) rfl (by simp [Value.oneCell']) ?_)
      refine bodyPost_ret (v := .tuple #[.agg #[.int .i64 0, .int .i64 0, .string ⟨#[]⟩, .slice none 0 0, .slice none 0 0], .int .i64 0, .int .i64 (e : Int)]) ?_ rfl ⟨_, rfl, .inl ⟨_, HE.out, rfl⟩, below_row HBz.out HGz.out _⟩
      exact results_tree3 rfl rfl rfl rfl (HZ.out.row _) rfl
    · have HK1 := Lib.hid hk1
      have HK2 := Lib.hid hk2
      rw [hn.out] at hk2
      obtain ⟨Ak, ck, rfl, _⟩ := hx.tv.keys
      obtain ⟨Aq, cq, rfl, _⟩ := hx.tv.kids
      have HX := Lib.hid hx
      unfold tval
      obtain ⟨w6, hst6⟩ : ∃ w6, w5.setRow u #[.int .i64 x.kind, .int .i64 x.n, .string x.s, .slice Ak x.keys.length ck, .slice Aq x.kids.length cq] = w6 := ⟨_, rfl⟩
      have hU6 : Whole w6 u 25 #[.int .i64 x.kind, .int .i64 x.n, .string x.s, .slice Ak x.keys.length ck, .slice Aq x.kids.length cq] := by rw [← hst6]; exact hU5.row _
      have HB6 : Hid (Below w4.heap.size w4 w6) := Lib.hid (by rw [← hst6]; exact below_row hb5s hu4 _)
      have HI6 := Lib.hid (HI4.out.behind HB6.out)
      have HU5 := Lib.hid hU5
      have u0 := hU6.at_ 0
      have u1 := hU6.at_ 1
      have u2 := hU6.at_ 2
      have u3 := hU6.at_ 3
      have u4 := hU6.at_ 4
      simp at u0 u1 u2 u3 u4
      clear hb5s hs5 hU5 hU6 hx hk1
      go_upto_region 18 with (refine wpList_store_whole rfl rfl rfl rfl rfl HU5.out (treeI rfl) rfl (by simp [Value.oneCell']) ?_; rw [hst6])
      clear hu hal5
      go_upto_region 20 with fail
      obtain ⟨A, c0, rfl, hc1, hc2, hc3, _⟩ := own_look HI6.out.kids
      have t4 := HI6.out.tree.at_ 4
      simp at t4
      obtain ⟨z, hz⟩ : ∃ z, w6.heap.size = z := ⟨_, rfl⟩
      obtain ⟨wa, hala⟩ : ∃ wa, w6.alloc (.cells #[.int .i64 x.kind, .int .i64 x.n, .string x.s, .slice Ak x.keys.length ck, .slice Aq x.kids.length cq] 25) = wa := ⟨_, rfl⟩
      have hBa : Below w6.heap.size w6 wa := by rw [hz, ← hala]; exact below_lit _ hz _
      have hsrc : Src wa (some ⟨z, 0, none⟩) (five [(x, .slice Ak x.keys.length ck, .slice Aq x.kids.length cq)]) := by rw [← hala]; exact src_lit _ hz _
      have HSa := Lib.hid hsrc
      have HIa := Lib.hid (HI6.out.behind hBa)
      have HBa : Hid (Below w4.heap.size w4 wa) := Lib.hid (HB6.out.trans (hBa.mono HB6.out.size))
      have hgb : g + 1 ≤ wa.heap.size := HIa.out.tree.lt
      have HXa : Hid (Tp wa (fun b => g < b ∧ (Value.slice none 0 0).ownBlock ≠ some b ∧ (Value.slice A L.length c0).ownBlock ≠ some b) x (.slice Ak x.keys.length ck) (.slice Aq x.kids.length cq)) := Lib.hid (HX.out.keep (fun b p q => ⟨⟨by have := HI.out.tree.lt; omega, fun e => by have := (HI.out.gk e).2; omega, fun e => by have := (HI.out.gq e).2; omega⟩, HBa.out.block b q⟩))
      clear hBa hsrc
      go_upto_region 21 with (at_builtin; refine wpList_append_cells Try.underlying23 treeZ rfl (by decide) (by decide) _ _ rfl rfl (g + 1) (.slice A L.length c0) L.length _ rfl HIa.out.kids 1 1 (five [(x, .slice Ak x.keys.length ck, .slice Aq x.kids.length cq)]) rfl rfl (fun h => by cases h) (Nat.le_refl _) HSa.out (by simp [five, Value.oneCell']) (by omega) hgb ?_; intro v7 w7 ho7 hg7 hv7; obtain ⟨g7, c7, rfl, hg7a, hg7b⟩ := ho7.form (by omega); have hT7 := whole_grown12 HIa.out.tree hg7 (fun e => by have := (HIa.out.gq e.symm).1; omega); have f7 := hT7.free 4; have d7 := hT7.at_ 4; simp at d7)
      have HF := Lib.hid (HIa.out.kid HXa.out (by rw [five_snoc, List.length_append]; exact ho7) hg7 hv7)
      have HRn : Hid (Bn.loop V false ((l.drop kk).length + 1) [] ((L ++ [(x, Value.slice Ak x.keys.length ck, Value.slice Aq x.kids.length cq)]).map (·.1)) (l.drop kk) = R) := Lib.hid (by
        rw [← HR.out, Bn.loop_step HVl.out HNh.out HEn.out hRv.out, List.map_append, HK1.out]; rfl)
      clear hz hala t4 f7 d7 hT7 ho7 hg7 hv7 u0 u1 u2 u3 u4
      go_wp2_with fail
      go_roundw
      case rel => exact ⟨kk, _, _, hk2, by go_num, by rw [List.length_append, List.length_singleton]; omega, by omega, HF, HRn⟩
      case measure => simp [intOf]; omega

set_option maxHeartbeats 8000000 in
theorem rlist12_dict {s : ByteArray} {l : List Nat} (T : Txt s l) (hl : l.length ≤ 1000000000) (k' m : Nat) (hm : m + (k' + 1) = 8)
    (HV : ∀ (a : Nat) (w : World), a ≤ l.length → Calls Try.prog 21 #[.string s, .int .i64 (a : Int), .int .i64 ((m + 1 : Nat) : Int)] w fun e w' => ∃ v, e = .returned v ∧ Bn.ValR l a w.heap.size (Bn.value k' (l.drop a)) v w' ∧ Below w.heap.size w w')
    (a : Nat) (ha : a ≤ l.length) (w : World) : Calls Try.prog 42 #[.string s, .int .i64 (a : Int), .int .i64 (m : Int), .bool true] w fun e w' => ∃ v, e = .returned v ∧ Bn.ValR l a w.heap.size (Bn.loop (Bn.value k') true ((l.drop a).length + 1) [] [] (l.drop a)) v w' ∧ Below w.heap.size w w' := by
  obtain ⟨h, w1, hh, hal1, hH1, hb1, hs1⟩ := var_tree w
  obtain ⟨g, w2, hg, hal2, hG2, hb2, hs2⟩ := var_tree w1
  have hhg : h < g := by omega
  have hH2 := hH1.below hb2 (by omega)
  obtain ⟨w3, hst⟩ : ∃ w3, w2.setRow g #[.int .i64 3, .int .i64 0, .string ⟨#[]⟩, .slice none 0 0, .slice none 0 0] = w3 := ⟨_, rfl⟩
  have hG3 : Whole w3 g 25 #[.int .i64 3, .int .i64 0, .string ⟨#[]⟩, .slice none 0 0, .slice none 0 0] := by rw [← hst]; exact hG2.row _
  have hH3 : Whole w3 h 25 #[.int .i64 0, .int .i64 0, .string ⟨#[]⟩, .slice none 0 0, .slice none 0 0] := by rw [← hst]; exact hH2.rowOther (by omega) _
  have hB3 : Below w.heap.size w w3 := by rw [← hst]; exact below_row (hb1.trans (hb2.mono (by omega)) |>.mono (by omega)) (by omega) _
  have HG2 := Lib.hid hG2
  have f0 := hG3.free 0
  have g0 := hG3.at_ 0
  simp at g0
  have HS := Lib.hid (Lst.start (kd := 4) (hB3.setCell (p := ⟨g, 0, none⟩) (by show w.heap.size ≤ g; omega) (.int .i64 4)) (hH3.other (p := ⟨g, 0, none⟩) (by show h ≠ g; omega) _) (hG3.put 0 (.int .i64 4)) ⟨by omega, hhg⟩)
  have HHg : Hid (w.heap.size ≤ h ∧ h < g) := Lib.hid ⟨by omega, hhg⟩
  have hsz := T.size
  have HT := Lib.hid T
  have HVl := Lib.hid (Bn.value_len k')
  have HVb := Lib.hid (Bn.value_bad k')
  have HVe := Lib.hid (Bn.value_end k')
  obtain ⟨m1, hm1⟩ : ∃ x, Hid (m + 1 = x) := ⟨_, rfl⟩
  have hw1 : IntKind.i64.wrap ((m : Int) + 1) = (m1 : Int) := by rw [← hm1.out, IntKind.wrap_i64]; omega
  have hm8 : m ≤ 7 := by omega
  rw [hm1.out] at HV
  have HVv := Lib.hid HV
  obtain ⟨V, hV⟩ : ∃ V, Hid (Bn.value k' = V) := ⟨_, rfl⟩
  rw [hV.out] at HVl HVb HVe HVv ⊢
  obtain ⟨R, hR⟩ : ∃ R, Hid (Bn.loop V true ((l.drop a).length + 1) [] [] (l.drop a) = R) := ⟨_, rfl⟩
  rw [hR.out]
  obtain ⟨n, hn⟩ : ∃ n, Hid (l.length = n) := ⟨_, rfl⟩
  rw [hn.out] at hl ha hsz
  clear hH1 hH2 hH3 hG3 hG2 hB3 hb1 hb2 hs1 hs2 T HV hm
  go_enter Try.func42, Try.ntmps42
  go_wp2_with (refine wpList_store_whole rfl rfl rfl rfl rfl HG2.out (treeI rfl) rfl (by simp [Value.oneCell']) ?_; rw [hst])
  clear hh hg hal1 hal2 hst f0 g0
  go_loopw [1] (fun v1 wr => ∃ (p : Nat) (ks : List ByteArray) (L : List Tq) (vk vq : Value), p ≤ n ∧ v1 = .int .i64 (p : Int) ∧ ks.length ≤ p ∧ L.length ≤ p ∧ a ≤ p ∧ Hid (Lst w h g 4 ks L vk vq wr) ∧ Hid (Bn.loop V true ((l.drop p).length + 1) ks (L.map (·.1)) (l.drop p) = R)) (fun v1 _ => n - (intOf v1).toNat)
  case atStart => exact ⟨a, [], [], _, _, ha, rfl, by simp, by simp, by omega, HS, hR⟩
  case round =>
    obtain ⟨p, ks, L, vk, vq, hp, rfl, hkp, hLp, hap, HI, HR⟩ := hrel
    obtain ⟨Ay, cy, rfl, hy1, hy2, hy3, hy4⟩ := own_look HI.out.keys
    clear hy4
    by_cases hlt : p < n
    case neg =>
      obtain rfl : p = n := by omega
      have HNil : Hid (l.drop p = []) := Lib.hid (List.drop_eq_nil_of_le (by rw [hn.out]; omega))
      have HNh : Hid (¬ (l.drop p).head? = some 101) := Lib.hid (by rw [HNil.out]; simp)
      have HE : Hid (R = .bad 2) := Lib.hid (by rw [← HR.out]; exact Bn.loop_entry HNh.out (by rw [HNil.out]; exact Bn.entry_nil))
      have HZ := Lib.hid HI.out.zero
      have HBz := Lib.hid HI.out.bel
      have HGz := Lib.hid HI.out.lt.1
      go_wp2_with (refine wpList_store_whole rfl rfl rfl rfl rfl HZ.out (treeI rfl) rfl (by simp [Value.oneCell']) ?_)
      refine bodyPost_ret (v := .tuple #[.agg #[.int .i64 0, .int .i64 0, .string ⟨#[]⟩, .slice none 0 0, .slice none 0 0], .int .i64 0, .int .i64 2]) ?_ rfl ⟨_, rfl, .inl ⟨_, HE.out, rfl⟩, below_row HBz.out HGz.out _⟩
      exact results_tree3 rfl rfl rfl rfl (HZ.out.row _) rfl
    have hcons := Bn.drop_head (l := l) (a := p) (by rw [hn.out]; exact hlt)
    obtain ⟨c, hc⟩ : ∃ c, Hid (l.getD p 0 = c) := ⟨_, rfl⟩
    rw [hc.out] at hcons
    have hc256 : c < 256 := by rw [← hc.out]; exact getD_lt HT.out.byte p
    have hat : ∀ (h : p < s.size), (s[p]'h).toNat = c := fun h => by rw [← hc.out]; exact HT.out.at_ p h
    have HC := Lib.hid hcons
    clear hcons
    by_cases h1 : c = 101
    case pos =>
      subst h1
      have HE : Hid (R = .ok (.mk 4 0 ⟨#[]⟩ ks (L.map (·.1))) (l.drop (p + 1))) := Lib.hid (by rw [← HR.out, HC.out, Bn.loop_hit rfl]; rfl)
      obtain ⟨A, c0, rfl, hc1, hc2, hc3, _⟩ := own_look HI.out.kids
      have t0 := HI.out.tree.at_ 0
      have t1 := HI.out.tree.at_ 1
      have t2 := HI.out.tree.at_ 2
      have t3 := HI.out.tree.at_ 3
      have t4 := HI.out.tree.at_ 4
      simp at t0 t1 t2 t3 t4
      have HZ := Lib.hid HI.out.zero
      go_wp2_with (refine wpList_store_whole rfl rfl rfl rfl rfl HZ.out (treeI rfl) rfl (by simp [Value.oneCell']) ?_)
      refine bodyPost_ret (v := .tuple #[.agg #[.int .i64 4, .int .i64 0, .string ⟨#[]⟩, (Value.slice Ay ks.length cy), .slice A L.length c0], .int .i64 ((p + 1 : Nat) : Int), .int .i64 0]) ?_ rfl ⟨_, rfl, .inr ⟨_, _, p + 1, (Value.slice Ay ks.length cy), .slice A L.length c0, HE.out, rfl, rfl, by rw [hn.out]; omega, by omega, HI.out.done (.inr rfl) _⟩, below_row HI.out.bel HI.out.lt.1 _⟩
      refine results_tree3 rfl rfl ?_ rfl (HZ.out.row _) rfl
      go_num
    have q101 : ((c : Int) != 101) = true := by simp; omega
    have q101' : ((c : Int) == 101) = false := by simp; omega
    have HNh : Hid (¬ (l.drop p).head? = some 101) := Lib.hid (by rw [HC.out]; simpa using h1)
    have CD := Lib.hid (rdigit12_any c hc256 wr)
    obtain ⟨y, hy⟩ : ∃ y, Hid (Bn.digit c = y) := ⟨_, rfl⟩
    rw [hy.out] at CD
    cases y with
    | false =>
      have HE : Hid (R = .bad 3) := Lib.hid (by rw [← HR.out]; exact Bn.loop_entry HNh.out (by rw [HC.out]; exact Bn.entry_form hy.out))
      have HZ := Lib.hid HI.out.zero
      have HBz := Lib.hid HI.out.bel
      have HGz := Lib.hid HI.out.lt.1
      go_wp2_with fail
      refine (CD.out).mono ?_
      rintro e w3 ⟨rfl, rfl⟩
      go_wp2_with (refine wpList_store_whole rfl rfl rfl rfl rfl HZ.out (treeI rfl) rfl (by simp [Value.oneCell']) ?_)
      refine bodyPost_ret (v := .tuple #[.agg #[.int .i64 0, .int .i64 0, .string ⟨#[]⟩, .slice none 0 0, .slice none 0 0], .int .i64 0, .int .i64 3]) ?_ rfl ⟨_, rfl, .inl ⟨_, HE.out, rfl⟩, below_row HBz.out HGz.out _⟩
      exact results_tree3 rfl rfl rfl rfl (HZ.out.row _) rfl
    | true =>
    have CW := Lib.hid (rword12_any HT.out (by rw [hn.out]; exact hl) p (by rw [hn.out]; exact hlt) (by rw [hc.out]; exact hy.out) wr)
    have HNB := Lib.hid (fun e h => Bn.word_bad (e := e) (l := l.drop p) h)
    obtain ⟨Rw, hRw⟩ : ∃ X, Hid (Bn.word (l.drop p) = X) := ⟨_, rfl⟩
    rw [hRw.out] at CW HNB
    go_wp2_with fail
    refine (CD.out).mono ?_
    rintro e w3 ⟨rfl, rfl⟩
    go_wp2_with fail
    refine (CW.out).mono ?_
    rintro e w9 ⟨v, rfl, hv, hb9⟩
    have HJ := Lib.hid (HI.out.behind hb9)
    clear hb9
    rcases hv with ⟨e, rfl, rfl⟩ | ⟨key, r1, k1, rfl, rfl, hj1, hj2, hj3, hks⟩
    · have he := HNB.out e rfl
      have q1 : ((e : Int) != 0) = true := by simp; omega
      have q2 : ((e : Int) == 0) = false := by simp; omega
      have he9 : e ≤ 5 := by omega
      clear he
      have HE : Hid (R = .bad e) := Lib.hid (by rw [← HR.out]; exact Bn.loop_entry HNh.out (by rw [HC.out]; exact Bn.entry_word hy.out (by rw [← HC.out]; exact hRw.out)))
      have HZ := Lib.hid HJ.out.zero
      have HBz := Lib.hid HJ.out.bel
      have HGz := Lib.hid HJ.out.lt.1
      go_wp2_with (refine wpList_store_whole rfl rfl rfl rfl rfl HZ.out (treeI rfl) rfl (by simp [Value.oneCell']) ?_)
      refine bodyPost_ret (v := .tuple #[.agg #[.int .i64 0, .int .i64 0, .string ⟨#[]⟩, .slice none 0 0, .slice none 0 0], .int .i64 0, .int .i64 (e : Int)]) ?_ rfl ⟨_, rfl, .inl ⟨_, HE.out, rfl⟩, below_row HBz.out HGz.out _⟩
      exact results_tree3 rfl rfl rfl rfl (HZ.out.row _) rfl
    rw [hn.out] at hj2
    have HJ1 := Lib.hid hj1
    clear hj1
    -- the key is greater than the last
    have HL0 : ks = [] ∨ ∃ j, ks.length = j + 1 := by
      cases ks with
      | nil => exact .inl rfl
      | cons x xs => exact .inr ⟨xs.length, rfl⟩
    have tail : ∀ (W : World), Hid (Lst w h g 4 ks L (.slice Ay ks.length cy) vq W) → True := fun _ _ => trivial
    clear tail
    rcases HL0 with hk0 | ⟨j, hj⟩
    · have t3z := HJ.out.tree.at_ 3
      simp at t3z
      have hks0 : ks.length = 0 := by rw [hk0]; rfl
      have HK0 := Lib.hid hk0
      clear hk0
      go_upto_region 15 with fail
      clear hks0 t3z
      have HEn : Hid (Bn.entry true ks (l.drop p) = .ok (ks ++ [key]) (l.drop k1)) := Lib.hid (by rw [HC.out]; rw [HJ1.out]; exact Bn.entry_ok hy.out (by rw [← HC.out]; exact hRw.out) (by rw [HK0.out]; simp))
      have t3 := HJ.out.tree.at_ 3
      simp at t3
      obtain ⟨zk, hzk⟩ : ∃ z, w9.heap.size = z := ⟨_, rfl⟩
      obtain ⟨wb, halb⟩ : ∃ wb, w9.alloc (.cells #[.string key] 9) = wb := ⟨_, rfl⟩
      have hBb : Below w9.heap.size w9 wb := by rw [hzk, ← halb]; exact below_lit _ hzk _
      have hsrcb : Src wb (some ⟨zk, 0, none⟩) [.string key] := by rw [← halb]; exact src_lit _ hzk _
      have HSb := Lib.hid hsrcb
      have HIb := Lib.hid (HJ.out.behind hBb)
      have hgbk : g + 1 ≤ wb.heap.size := HIb.out.tree.lt
      clear hBb hsrcb
      go_upto_region 16 with (at_builtin; refine wpList_append_cells Try.underlying22 strZ11 rfl (by decide) (by decide) _ _ rfl rfl (g + 1) (.slice Ay ks.length cy) ks.length _ rfl HIb.out.keys 1 1 [.string key] rfl rfl (fun h => by cases h) (Nat.le_refl _) HSb.out (by simp [Value.oneCell']) (by omega) hgbk ?_; intro v8 w8 ho8 hg8 hv8; obtain ⟨g8, c8, rfl, hg8a, hg8b⟩ := ho8.form (by omega); have hT8 := whole_grown12 HIb.out.tree hg8 (fun e => by have := (HIb.out.gk e.symm).1; omega); have f8 := hT8.free 3; have d8 := hT8.at_ 3; simp at d8)
      have HF8 := Lib.hid (HIb.out.key (by rw [txs_snoc, List.length_append]; exact ho8) hg8 hv8 (by unfold maxLen; omega))
      obtain ⟨wz, hwz⟩ : ∃ W, w8.setCell ⟨g, 3, none⟩ (.slice (some ⟨g8, 0, none⟩) (ks.length + 1) c8) = W := ⟨_, rfl⟩
      rw [hwz] at HF8 ⊢
      clear hzk halb t3 f8 d8 hT8 ho8 hg8 hv8 hwz
      have CV := Lib.hid (HVv.out k1 wz (by rw [hn.out]; omega))
      obtain ⟨Rv, hRv⟩ : ∃ X, Hid (V (l.drop k1) = X) := ⟨_, rfl⟩
      rw [hRv.out] at CV
      go_wp2_with fail
      refine (CV.out).mono ?_
      rintro e w4 ⟨v, rfl, hv, hb4⟩
      have HI4 := Lib.hid (HF8.out.behind hb4)
      have HW4 : Hid (wz.heap.size ≤ w4.heap.size) := Lib.hid hb4.size
      obtain ⟨u, w5, hu, hal5, hU5, hb5, hs5⟩ := var_tree w4
      have hb5s : Below w4.heap.size w4 w5 := by rw [hu]; exact hb5
      have hu4 : w4.heap.size ≤ u := by omega
      clear hb5 hb4
      rcases hv with ⟨e, rfl, rfl⟩ | ⟨x, r, kk, xk, xq, rfl, rfl, hk1, hk2, hk3, hx⟩
      · have he := HVb.out _ _ hRv.out
        have q1 : ((e : Int) != 0) = true := by simp; omega
        have q2 : ((e : Int) == 0) = false := by simp; omega
        have he9 : e ≤ 6 := by omega
        clear he
        obtain ⟨w6, hst6⟩ : ∃ w6, w5.setRow u #[.int .i64 0, .int .i64 0, .string ⟨#[]⟩, .slice none 0 0, .slice none 0 0] = w6 := ⟨_, rfl⟩
        have HB6 : Hid (Below w4.heap.size w4 w6) := Lib.hid (by rw [← hst6]; exact below_row hb5s hu4 _)
        have HI6 := Lib.hid (HI4.out.behind HB6.out)
        have HZ := Lib.hid HI6.out.zero
        have HBz := Lib.hid HI6.out.bel
        have HGz := Lib.hid HI6.out.lt.1
        have HE : Hid (R = .bad e) := Lib.hid (by rw [← HR.out]; exact Bn.loop_value HNh.out HEn.out hRv.out)
        have HU5 := Lib.hid hU5
        clear hb5s hs5 hU5
        go_upto_region 18 with (refine wpList_store_whole rfl rfl rfl rfl rfl HU5.out (treeI rfl) rfl (by simp [Value.oneCell']) ?_; rw [hst6])
        clear hu hal5
        go_wp2_with (refine wpList_store_whole rfl rfl rfl rfl rfl HZ.out (treeI rfl) rfl (by simp [Value.oneCell']) ?_)
        refine bodyPost_ret (v := .tuple #[.agg #[.int .i64 0, .int .i64 0, .string ⟨#[]⟩, .slice none 0 0, .slice none 0 0], .int .i64 0, .int .i64 (e : Int)]) ?_ rfl ⟨_, rfl, .inl ⟨_, HE.out, rfl⟩, below_row HBz.out HGz.out _⟩
        exact results_tree3 rfl rfl rfl rfl (HZ.out.row _) rfl
      · have HK1 := Lib.hid hk1
        have HK2 := Lib.hid hk2
        rw [hn.out] at hk2
        obtain ⟨Ak, ck, rfl, _⟩ := hx.tv.keys
        obtain ⟨Aq, cq, rfl, _⟩ := hx.tv.kids
        have HX := Lib.hid hx
        unfold tval
        obtain ⟨w6, hst6⟩ : ∃ w6, w5.setRow u #[.int .i64 x.kind, .int .i64 x.n, .string x.s, .slice Ak x.keys.length ck, .slice Aq x.kids.length cq] = w6 := ⟨_, rfl⟩
        have hU6 : Whole w6 u 25 #[.int .i64 x.kind, .int .i64 x.n, .string x.s, .slice Ak x.keys.length ck, .slice Aq x.kids.length cq] := by rw [← hst6]; exact hU5.row _
        have HB6 : Hid (Below w4.heap.size w4 w6) := Lib.hid (by rw [← hst6]; exact below_row hb5s hu4 _)
        have HI6 := Lib.hid (HI4.out.behind HB6.out)
        have HU5 := Lib.hid hU5
        have u0 := hU6.at_ 0
        have u1 := hU6.at_ 1
        have u2 := hU6.at_ 2
        have u3 := hU6.at_ 3
        have u4 := hU6.at_ 4
        simp at u0 u1 u2 u3 u4
        clear hb5s hs5 hU5 hU6 hx hk1
        go_upto_region 18 with (refine wpList_store_whole rfl rfl rfl rfl rfl HU5.out (treeI rfl) rfl (by simp [Value.oneCell']) ?_; rw [hst6])
        clear hu hal5
        go_upto_region 20 with fail
        obtain ⟨A, c0, rfl, hc1, hc2, hc3, _⟩ := own_look HI6.out.kids
        have t4 := HI6.out.tree.at_ 4
        simp at t4
        obtain ⟨z, hz⟩ : ∃ z, w6.heap.size = z := ⟨_, rfl⟩
        obtain ⟨wa, hala⟩ : ∃ wa, w6.alloc (.cells #[.int .i64 x.kind, .int .i64 x.n, .string x.s, .slice Ak x.keys.length ck, .slice Aq x.kids.length cq] 25) = wa := ⟨_, rfl⟩
        have hBa : Below w6.heap.size w6 wa := by rw [hz, ← hala]; exact below_lit _ hz _
        have hsrc : Src wa (some ⟨z, 0, none⟩) (five [(x, .slice Ak x.keys.length ck, .slice Aq x.kids.length cq)]) := by rw [← hala]; exact src_lit _ hz _
        have HSa := Lib.hid hsrc
        have HIa := Lib.hid (HI6.out.behind hBa)
        have HBa : Hid (Below w4.heap.size w4 wa) := Lib.hid (HB6.out.trans (hBa.mono HB6.out.size))
        have hgb : g + 1 ≤ wa.heap.size := HIa.out.tree.lt
        have HXa : Hid (Tp wa (fun b => g < b ∧ (Value.slice (some ⟨g8, 0, none⟩) (ks.length + 1) c8).ownBlock ≠ some b ∧ (Value.slice A L.length c0).ownBlock ≠ some b) x (.slice Ak x.keys.length ck) (.slice Aq x.kids.length cq)) := Lib.hid (HX.out.keep (fun b p q => ⟨⟨by have := HF8.out.tree.lt; omega, fun e => by have := (HF8.out.gk e).2; omega, fun e => by have := (HF8.out.gq e).2; omega⟩, HBa.out.block b q⟩))
        clear hBa hsrc
        go_upto_region 21 with (at_builtin; refine wpList_append_cells Try.underlying23 treeZ rfl (by decide) (by decide) _ _ rfl rfl (g + 1) (.slice A L.length c0) L.length _ rfl HIa.out.kids 1 1 (five [(x, .slice Ak x.keys.length ck, .slice Aq x.kids.length cq)]) rfl rfl (fun h => by cases h) (Nat.le_refl _) HSa.out (by simp [five, Value.oneCell']) (by omega) hgb ?_; intro v7 w7 ho7 hg7 hv7; obtain ⟨g7, c7, rfl, hg7a, hg7b⟩ := ho7.form (by omega); have hT7 := whole_grown12 HIa.out.tree hg7 (fun e => by have := (HIa.out.gq e.symm).1; omega); have f7 := hT7.free 4; have d7 := hT7.at_ 4; simp at d7)
        have HF := Lib.hid (HIa.out.kid HXa.out (by rw [five_snoc, List.length_append]; exact ho7) hg7 hv7)
        have HRn : Hid (Bn.loop V true ((l.drop kk).length + 1) (ks ++ [key]) ((L ++ [(x, Value.slice Ak x.keys.length ck, Value.slice Aq x.kids.length cq)]).map (·.1)) (l.drop kk) = R) := Lib.hid (by
          rw [← HR.out, Bn.loop_step HVl.out HNh.out HEn.out hRv.out, List.map_append, HK1.out]; rfl)
        clear hz hala t4 f7 d7 hT7 ho7 hg7 hv7 u0 u1 u2 u3 u4
        go_wp2_with fail
        go_roundw
        case rel => exact ⟨kk, _, _, _, _, hk2, by go_num, by rw [List.length_append, List.length_singleton]; omega, by rw [List.length_append, List.length_singleton]; omega, by omega, HF, HRn⟩
        case measure => simp [intOf]; omega
    · have t3z := HJ.out.tree.at_ 3
      simp at t3z
      have hja : j < ks.length := by omega
      obtain ⟨_, _, e2, _, _, _, hz4⟩ := own_look HJ.out.keys
      injection e2 with e2 e3 e4
      rw [← e2] at hz4
      obtain ⟨lb, e5, _, _, hl5⟩ := hz4 j (.string ks[j]) (by simp [txs, List.getElem?_eq_getElem hja])
      rw [e5] at t3z
      clear e5 e2 e4
      have hlast : ks.getLast? = some ks[j] := by rw [List.getLast?_eq_getElem?, hj, Nat.add_sub_cancel, List.getElem?_eq_getElem hja]
      have CL := Lib.hid (rless_any ks[j] key (by have := HJ.out.sizes _ (List.getElem_mem hja); unfold maxLen at this; omega) (by omega) w9)
      obtain ⟨u0, hu0⟩ : ∃ u, Hid (ks[j] = u) := ⟨ks[j], Lib.hid rfl⟩
      rw [hu0.out] at CL hl5 hlast
      have HLast := Lib.hid hlast
      obtain ⟨yl, hyl⟩ : ∃ y, Hid (Tn.less u0 key = y) := ⟨_, rfl⟩
      rw [hyl.out] at CL
      have hjw : IntKind.i64.wrap (((ks.length : Nat) : Int) - 1) = (j : Int) := by rw [hj, IntKind.wrap_i64]; omega
      have hjp : (0 : Int) < (ks.length : Int) := by omega
      clear hj
      clear hz4 hlast
      go_wp2_with fail
      refine (CL.out).mono ?_
      rintro e w10 ⟨rfl, hb10⟩
      have HJ2 := Lib.hid (HJ.out.behind hb10)
      clear hb10 hl5 t3z hjw hjp
      cases yl with
      | false =>
        have HE : Hid (R = .bad 3) := Lib.hid (by rw [← HR.out]; exact Bn.loop_entry HNh.out (by rw [HC.out]; exact Bn.entry_less hy.out (by rw [← HC.out]; exact hRw.out) ⟨u0, HLast.out, hyl.out⟩))
        have HZ := Lib.hid HJ2.out.zero
        have HBz := Lib.hid HJ2.out.bel
        have HGz := Lib.hid HJ2.out.lt.1
        go_wp2_with (refine wpList_store_whole rfl rfl rfl rfl rfl HZ.out (treeI rfl) rfl (by simp [Value.oneCell']) ?_)
        refine bodyPost_ret (v := .tuple #[.agg #[.int .i64 0, .int .i64 0, .string ⟨#[]⟩, .slice none 0 0, .slice none 0 0], .int .i64 0, .int .i64 3]) ?_ rfl ⟨_, rfl, .inl ⟨_, HE.out, rfl⟩, below_row HBz.out HGz.out _⟩
        exact results_tree3 rfl rfl rfl rfl (HZ.out.row _) rfl
      | true =>
        go_upto_region 15 with fail
        have HEn : Hid (Bn.entry true ks (l.drop p) = .ok (ks ++ [key]) (l.drop k1)) := Lib.hid (by rw [HC.out]; rw [HJ1.out]; exact Bn.entry_ok hy.out (by rw [← HC.out]; exact hRw.out) (fun ⟨k, hk1, hk2⟩ => by rw [HLast.out] at hk1; injection hk1 with hk1; subst hk1; rw [hyl.out] at hk2; cases hk2))
        have t3 := HJ2.out.tree.at_ 3
        simp at t3
        obtain ⟨zk, hzk⟩ : ∃ z, w10.heap.size = z := ⟨_, rfl⟩
        obtain ⟨wb, halb⟩ : ∃ wb, w10.alloc (.cells #[.string key] 9) = wb := ⟨_, rfl⟩
        have hBb : Below w10.heap.size w10 wb := by rw [hzk, ← halb]; exact below_lit _ hzk _
        have hsrcb : Src wb (some ⟨zk, 0, none⟩) [.string key] := by rw [← halb]; exact src_lit _ hzk _
        have HSb := Lib.hid hsrcb
        have HIb := Lib.hid (HJ2.out.behind hBb)
        have hgbk : g + 1 ≤ wb.heap.size := HIb.out.tree.lt
        clear hBb hsrcb
        go_upto_region 16 with (at_builtin; refine wpList_append_cells Try.underlying22 strZ11 rfl (by decide) (by decide) _ _ rfl rfl (g + 1) (.slice Ay ks.length cy) ks.length _ rfl HIb.out.keys 1 1 [.string key] rfl rfl (fun h => by cases h) (Nat.le_refl _) HSb.out (by simp [Value.oneCell']) (by omega) hgbk ?_; intro v8 w8 ho8 hg8 hv8; obtain ⟨g8, c8, rfl, hg8a, hg8b⟩ := ho8.form (by omega); have hT8 := whole_grown12 HIb.out.tree hg8 (fun e => by have := (HIb.out.gk e.symm).1; omega); have f8 := hT8.free 3; have d8 := hT8.at_ 3; simp at d8)
        have HF8 := Lib.hid (HIb.out.key (by rw [txs_snoc, List.length_append]; exact ho8) hg8 hv8 (by unfold maxLen; omega))
        obtain ⟨wz, hwz⟩ : ∃ W, w8.setCell ⟨g, 3, none⟩ (.slice (some ⟨g8, 0, none⟩) (ks.length + 1) c8) = W := ⟨_, rfl⟩
        rw [hwz] at HF8 ⊢
        clear hzk halb t3 f8 d8 hT8 ho8 hg8 hv8 hwz
        have CV := Lib.hid (HVv.out k1 wz (by rw [hn.out]; omega))
        obtain ⟨Rv, hRv⟩ : ∃ X, Hid (V (l.drop k1) = X) := ⟨_, rfl⟩
        rw [hRv.out] at CV
        go_wp2_with fail
        refine (CV.out).mono ?_
        rintro e w4 ⟨v, rfl, hv, hb4⟩
        have HI4 := Lib.hid (HF8.out.behind hb4)
        have HW4 : Hid (wz.heap.size ≤ w4.heap.size) := Lib.hid hb4.size
        obtain ⟨u, w5, hu, hal5, hU5, hb5, hs5⟩ := var_tree w4
        have hb5s : Below w4.heap.size w4 w5 := by rw [hu]; exact hb5
        have hu4 : w4.heap.size ≤ u := by omega
        clear hb5 hb4
        rcases hv with ⟨e, rfl, rfl⟩ | ⟨x, r, kk, xk, xq, rfl, rfl, hk1, hk2, hk3, hx⟩
        · have he := HVb.out _ _ hRv.out
          have q1 : ((e : Int) != 0) = true := by simp; omega
          have q2 : ((e : Int) == 0) = false := by simp; omega
          have he9 : e ≤ 6 := by omega
          clear he
          obtain ⟨w6, hst6⟩ : ∃ w6, w5.setRow u #[.int .i64 0, .int .i64 0, .string ⟨#[]⟩, .slice none 0 0, .slice none 0 0] = w6 := ⟨_, rfl⟩
          have HB6 : Hid (Below w4.heap.size w4 w6) := Lib.hid (by rw [← hst6]; exact below_row hb5s hu4 _)
          have HI6 := Lib.hid (HI4.out.behind HB6.out)
          have HZ := Lib.hid HI6.out.zero
          have HBz := Lib.hid HI6.out.bel
          have HGz := Lib.hid HI6.out.lt.1
          have HE : Hid (R = .bad e) := Lib.hid (by rw [← HR.out]; exact Bn.loop_value HNh.out HEn.out hRv.out)
          have HU5 := Lib.hid hU5
          clear hb5s hs5 hU5
          go_upto_region 18 with (refine wpList_store_whole rfl rfl rfl rfl rfl HU5.out (treeI rfl) rfl (by simp [Value.oneCell']) ?_; rw [hst6])
          clear hu hal5
          go_wp2_with (refine wpList_store_whole rfl rfl rfl rfl rfl HZ.out (treeI rfl) rfl (by simp [Value.oneCell']) ?_)
          refine bodyPost_ret (v := .tuple #[.agg #[.int .i64 0, .int .i64 0, .string ⟨#[]⟩, .slice none 0 0, .slice none 0 0], .int .i64 0, .int .i64 (e : Int)]) ?_ rfl ⟨_, rfl, .inl ⟨_, HE.out, rfl⟩, below_row HBz.out HGz.out _⟩
          exact results_tree3 rfl rfl rfl rfl (HZ.out.row _) rfl
        · have HK1 := Lib.hid hk1
          have HK2 := Lib.hid hk2
          rw [hn.out] at hk2
          obtain ⟨Ak, ck, rfl, _⟩ := hx.tv.keys
          obtain ⟨Aq, cq, rfl, _⟩ := hx.tv.kids
          have HX := Lib.hid hx
          unfold tval
          obtain ⟨w6, hst6⟩ : ∃ w6, w5.setRow u #[.int .i64 x.kind, .int .i64 x.n, .string x.s, .slice Ak x.keys.length ck, .slice Aq x.kids.length cq] = w6 := ⟨_, rfl⟩
          have hU6 : Whole w6 u 25 #[.int .i64 x.kind, .int .i64 x.n, .string x.s, .slice Ak x.keys.length ck, .slice Aq x.kids.length cq] := by rw [← hst6]; exact hU5.row _
          have HB6 : Hid (Below w4.heap.size w4 w6) := Lib.hid (by rw [← hst6]; exact below_row hb5s hu4 _)
          have HI6 := Lib.hid (HI4.out.behind HB6.out)
          have HU5 := Lib.hid hU5
          have u0 := hU6.at_ 0
          have u1 := hU6.at_ 1
          have u2 := hU6.at_ 2
          have u3 := hU6.at_ 3
          have u4 := hU6.at_ 4
          simp at u0 u1 u2 u3 u4
          clear hb5s hs5 hU5 hU6 hx hk1
          go_upto_region 18 with (refine wpList_store_whole rfl rfl rfl rfl rfl HU5.out (treeI rfl) rfl (by simp [Value.oneCell']) ?_; rw [hst6])
          clear hu hal5
          go_upto_region 20 with fail
          obtain ⟨A, c0, rfl, hc1, hc2, hc3, _⟩ := own_look HI6.out.kids
          have t4 := HI6.out.tree.at_ 4
          simp at t4
          obtain ⟨z, hz⟩ : ∃ z, w6.heap.size = z := ⟨_, rfl⟩
          obtain ⟨wa, hala⟩ : ∃ wa, w6.alloc (.cells #[.int .i64 x.kind, .int .i64 x.n, .string x.s, .slice Ak x.keys.length ck, .slice Aq x.kids.length cq] 25) = wa := ⟨_, rfl⟩
          have hBa : Below w6.heap.size w6 wa := by rw [hz, ← hala]; exact below_lit _ hz _
          have hsrc : Src wa (some ⟨z, 0, none⟩) (five [(x, .slice Ak x.keys.length ck, .slice Aq x.kids.length cq)]) := by rw [← hala]; exact src_lit _ hz _
          have HSa := Lib.hid hsrc
          have HIa := Lib.hid (HI6.out.behind hBa)
          have HBa : Hid (Below w4.heap.size w4 wa) := Lib.hid (HB6.out.trans (hBa.mono HB6.out.size))
          have hgb : g + 1 ≤ wa.heap.size := HIa.out.tree.lt
          have HXa : Hid (Tp wa (fun b => g < b ∧ (Value.slice (some ⟨g8, 0, none⟩) (ks.length + 1) c8).ownBlock ≠ some b ∧ (Value.slice A L.length c0).ownBlock ≠ some b) x (.slice Ak x.keys.length ck) (.slice Aq x.kids.length cq)) := Lib.hid (HX.out.keep (fun b p q => ⟨⟨by have := HF8.out.tree.lt; omega, fun e => by have := (HF8.out.gk e).2; omega, fun e => by have := (HF8.out.gq e).2; omega⟩, HBa.out.block b q⟩))
          clear hBa hsrc
          go_upto_region 21 with (at_builtin; refine wpList_append_cells Try.underlying23 treeZ rfl (by decide) (by decide) _ _ rfl rfl (g + 1) (.slice A L.length c0) L.length _ rfl HIa.out.kids 1 1 (five [(x, .slice Ak x.keys.length ck, .slice Aq x.kids.length cq)]) rfl rfl (fun h => by cases h) (Nat.le_refl _) HSa.out (by simp [five, Value.oneCell']) (by omega) hgb ?_; intro v7 w7 ho7 hg7 hv7; obtain ⟨g7, c7, rfl, hg7a, hg7b⟩ := ho7.form (by omega); have hT7 := whole_grown12 HIa.out.tree hg7 (fun e => by have := (HIa.out.gq e.symm).1; omega); have f7 := hT7.free 4; have d7 := hT7.at_ 4; simp at d7)
          have HF := Lib.hid (HIa.out.kid HXa.out (by rw [five_snoc, List.length_append]; exact ho7) hg7 hv7)
          have HRn : Hid (Bn.loop V true ((l.drop kk).length + 1) (ks ++ [key]) ((L ++ [(x, Value.slice Ak x.keys.length ck, Value.slice Aq x.kids.length cq)]).map (·.1)) (l.drop kk) = R) := Lib.hid (by
            rw [← HR.out, Bn.loop_step HVl.out HNh.out HEn.out hRv.out, List.map_append, HK1.out]; rfl)
          clear hz hala t4 f7 d7 hT7 ho7 hg7 hv7 u0 u1 u2 u3 u4
          go_wp2_with fail
          go_roundw
          case rel => exact ⟨kk, _, _, _, _, hk2, by go_num, by rw [List.length_append, List.length_singleton]; omega, by rw [List.length_append, List.length_singleton]; omega, by omega, HF, HRn⟩
          case measure => simp [intOf]; omega

end Go.Proofs.Ytphanlkobkkgfaa
