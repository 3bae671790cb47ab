/- Contracts of dict.getPeer, getPair and of sliceOf at both. -/
import Derived.Test.YtldjdoebappkoaaGreatDoorDr13
import Derived.Test.YtldjdoebappkoaaGreatDoorDl13
import Derived.Deep.CutRange
namespace Go.Proofs.YtldjdoebappkoaaGreatDoor
open Go.RowKit
set_option linter.unusedVariables false
set_option maxRecDepth 100000
set_option linter.unusedSimpArgs false
open Gm
def Dx.peerC (t : Tn) : Nat × Nat := Dx.oneC t.s
/-- '[]byte(s)' -/
theorem conv_piece13 {w : World} {s : ByteArray} {l : List Nat} (T : Txt s l) (hl : l.length ≤ 1000000000) :
    ∃ c w', (convert 9 59 (.string s)).run Tryz.prog w = .ok (.slice (some ⟨w.heap.size, 0, none⟩) l.length c) w' ∧ Piece w' w'.heap.size (.slice (some ⟨w.heap.size, 0, none⟩) l.length c) l ∧ Below w.heap.size w w' := by
  refine ⟨grownCap w s.size 0 5, Lib.bytesWorld w 5 s, by rw [Lib.run_convert_string_bytes w _ _ 5 s Tryz.underlying9 Tryz.underlying59 Tryz.underlying5, T.size], ⟨_, _, rfl, ?_, (fun h => by cases h), ?_, ?_⟩, ?_⟩
  · intro hl
    refine ⟨_, 0, rfl, by rw [Lib.bytesWorld_size]; omega, fun i hi => ?_⟩
    rw [Nat.zero_add, Lib.bytesWorld_cell w _ s i (by rw [T.size]; exact hi)]
    have h := T.at_ i (by rw [T.size]; exact hi)
    rw [← h]
    have hi' : i < s.data.toList.length := by
      have e : s.data.toList.length = s.size := Array.length_toList
      rw [e, T.size]
      exact hi
    simp [List.getD, List.getElem?_eq_getElem hi']
    rfl
  · rw [← T.size]; exact grownCap_ge _ _ _ _
  · exact grownCap_le_maxLen _ _ _ _ (by rw [T.size]; unfold maxLen; omega)
  · exact ⟨by unfold Lib.bytesWorld World.freeze; split <;> rfl, by unfold Lib.bytesWorld World.freeze; split <;> rfl, by unfold Lib.bytesWorld World.freeze; split <;> rfl, by rw [Lib.bytesWorld_size]; omega, fun i hi => Lib.bytesWorld_at_old w _ s i hi⟩
theorem src2p {w : World} {z : Nat} (hz : w.heap.size = z) (x y : Nat) : Src (w.alloc (.cells #[.int .u64 (x : Int), .int .u16 (y : Int)] 32)) (some ⟨z, 0, none⟩) (two fPeer [(x, y)]) := src_lit _ hz _
theorem src2q {w : World} {z : Nat} (hz : w.heap.size = z) (x y : ByteArray) : Src (w.alloc (.cells #[.string x, .string y] 65)) (some ⟨z, 0, none⟩) (two fPair [(x, y)]) := src_lit _ hz _
theorem results_pair {fn : Func} {p : Tmp} {tmps : Array Value} {w : World} {g : Nat} {cs : Array Value} (h : fn.results = #[.cell p 65])
    (hp : tmps.getD p undef = .pointer (some ⟨g, 0, none⟩)) (hg : Whole w g 65 cs) (hc : cs.size = 2) :
    (results fn tmps).run Tryz.prog w = .ok (.agg cs) w := by
  have hp' : tmps[p]?.getD undef = .pointer (some ⟨g, 0, none⟩) := by simpa using hp
  simp [results, h, hp', asAddr, run_loadVar_row w g 65 65 cs (0, 0) _ hg Tryz.underlying65 rfl (pairI13 hc)]

set_option maxHeartbeats 1000000 in
theorem getpeer13_any {t : Tn} (hz : t.s.size ≤ 1000000) {w : World} {B : Nat} {vk vq : Value} (H : Tv w B t vk vq) :
    Calls Tryz.prog 29 #[tval t vk vq] w fun e w' => e = .returned (.agg #[.int .u64 ((Dx.peerC t).1 : Int), .int .u16 ((Dx.peerC t).2 : Int)]) ∧ Below w.heap.size w w' := by
  unfold Dx.peerC
  obtain ⟨Ak, ck, rfl, _⟩ := H.keys
  obtain ⟨Aq, cq, rfl, _⟩ := H.kids
  obtain ⟨b, w1, hb, hal, hT, hb1⟩ := boxedT H
  obtain ⟨g, w2, hg, hal2, hP, hb2, hs2⟩ : ∃ g w0, w1.heap.size = g ∧ w1.alloc (.cells #[.int .u64 0, .int .u16 0] 32) = w0 ∧ Whole w0 g 32 #[.int .u64 0, .int .u16 0] ∧ Below g w1 w0 ∧ w0.heap.size = g + 1 := ⟨_, _, rfl, rfl, Whole.made _ _ _, (Below.refl _ _).alloc (Nat.le_refl _) _, by simp⟩
  have hbg : b < g := by rw [← hg]; exact hT.lt
  have HP := Lib.hid hP
  have HB2 : Hid (Below b w w2) := Lib.hid (hb1.trans (hb2.mono (by omega)))
  obtain ⟨c0, c1, c2, c3, c4⟩ := (hT.below hb2 hbg).cells
  have T := Txt.nums t.s
  obtain ⟨l, hl⟩ : ∃ l, Hid (nums t.s = l) := ⟨_, Lib.hid rfl⟩
  have hone := Dx.oneC_lt t.s
  have HO : Hid (Dx.oneC t.s = ((Bm.rfix l 0 8).1, (Bm.rfix (Bm.rfix l 0 8).2.1 (Bm.rfix l 0 8).2.2 2).1)) := Lib.hid (by rw [← hl.out]; rfl)
  rw [hl.out] at T
  have hll : l.length ≤ 1000000 := by rw [← T.size]; exact hz
  obtain ⟨cc, w3, hcv, hpc, hb3⟩ := conv_piece13 (w := w2) T (by omega)
  have CO := Lib.hid (open_any hpc (by omega) T.byte)
  have HP3 := Lib.hid (HP.out.below hb3 (by omega))
  have HB3 := Lib.hid (HB2.out.trans (hb3.mono (by omega)))
  obtain ⟨x, l1, e1, h1⟩ : ∃ x l1 e1, Bm.rfix l 0 8 = (x, l1, e1) := ⟨_, _, _, rfl⟩
  obtain ⟨y, l2, e2, h2⟩ : ∃ y l2 e2, Bm.rfix l1 e1 2 = (y, l2, e2) := ⟨_, _, _, rfl⟩
  rw [h1] at HO
  simp only [h2] at HO
  rw [HO.out] at hone ⊢
  have hy : y < 65536 := hone.2
  have hwr : IntKind.u16.wrap (y : Int) = (y : Int) := by rw [IntKind.wrap_u16]; omega
  have F1 := Lib.hid (fun W gr (h : Rd W gr l 0) => rfix_any (w := W) (g := gr) (l := l) (e := 0) 8 (by omega) (by omega) h)
  have F2 := Lib.hid (fun W gr (h : Rd W gr l1 e1) => rfix_any (w := W) (g := gr) (l := l1) (e := e1) 2 (by omega) (by omega) h)
  simp only [h1] at F1
  simp only [h2] at F2
  unfold tcells at hal
  unfold tval
  clear hT hP hb1 hb2 H hpc hb3 hs2 h1 h2 hone hll T
  go_enter Tryz.func29, Tryz.ntmps29
  go_wp2_with fail
  refine (CO.out).mono ?_
  rintro e w4 ⟨gr, rfl, hgr, hr, hb4⟩
  have hgw : g < w3.heap.size := HP3.out.lt
  have HP4 := Lib.hid (HP3.out.below hb4 HP3.out.lt)
  have HB4 := Lib.hid (HB3.out.trans (hb4.mono (by omega)))
  have HR := Lib.hid hr
  clear hb4 hr CO c0 c1 c2 c3 c4 hcv
  go_wp2_with fail
  refine (F1.out _ _ HR.out).mono ?_
  rintro e w5 ⟨rfl, hr5, ho5⟩
  have HP5 := Lib.hid (HP4.out.only ho5 (by omega))
  have HB5 := Lib.hid (HB4.out.trans (ho5.below (by omega) (by have := HP4.out.lt; omega)))
  have HR5 := Lib.hid hr5
  clear hr5 ho5
  go_wp2_with fail
  refine (F2.out _ _ HR5.out).mono ?_
  rintro e w6 ⟨rfl, hr6, ho6⟩
  have HP6 := Lib.hid (HP5.out.only ho6 (by omega))
  have HB6 := Lib.hid (HB5.out.trans (ho6.below (by omega) (by have := HP5.out.lt; omega)))
  clear hr6 ho6
  go_wp2_with (refine wpList_store_whole rfl rfl rfl rfl rfl HP6.out (peerI rfl) rfl (by simp [Value.oneCell']) ?_)
  refine bodyPost_ret (v := .agg #[.int .u64 (x : Int), .int .u16 (y : Int)]) ?_ rfl ⟨rfl, by rw [hb]; exact below_row HB6.out (by omega) _⟩
  exact results_peer rfl rfl (HP6.out.row _) rfl

set_option maxHeartbeats 1000000 in
theorem getpair13_any {t : Tn} {w : World} {B : Nat} {vk vq : Value} (H : Tv w B t vk vq) :
    Calls Tryz.prog 32 #[tval t vk vq] w fun e w' => e = .returned (.agg #[.string (Dm.pairOf t).1, .string (Dm.pairOf t).2]) ∧ Below w.heap.size w w' := by
  obtain ⟨Ak, ck, rfl, _⟩ := H.keys
  obtain ⟨Aq, cq, rfl, hq1, hq2, _⟩ := H.kids
  obtain ⟨b, w1, hb, hal, hT, hb1⟩ := boxedT H
  obtain ⟨g, w2, hg, hal2, hP, hb2, hs2⟩ : ∃ g w0, w1.heap.size = g ∧ w1.alloc (.cells #[.string ⟨#[]⟩, .string ⟨#[]⟩] 65) = w0 ∧ Whole w0 g 65 #[.string ⟨#[]⟩, .string ⟨#[]⟩] ∧ Below g w1 w0 ∧ w0.heap.size = g + 1 := ⟨_, _, rfl, rfl, Whole.made _ _ _, (Below.refl _ _).alloc (Nat.le_refl _) _, by simp⟩
  have hbg : b < g := by rw [← hg]; exact hT.lt
  have HT := Lib.hid (hT.below hb2 hbg)
  have HP := Lib.hid hP
  have HB2 : Hid (Below b w w2) := Lib.hid (hb1.trans (hb2.mono (by omega)))
  obtain ⟨c0, c1, c2, c3, c4⟩ := HT.out.cells
  unfold maxLen at hq2
  unfold tcells at hal
  unfold tval
  clear hT hP hb1 hb2 H hs2
  by_cases h2 : t.kids.length = 2
  · have k0 : 0 < t.kids.length := by omega
    have k1 : 1 < t.kids.length := by omega
    rw [pairOf_two h2]
    obtain ⟨bk, ok, K1, Q1, hA2, hb2, g5, gv5⟩ := Tv.kid_at HT.out.tv k0
    obtain ⟨bk', ok', K2, Q2, hA2', hb2', g5', gv5'⟩ := Tv.kid_at HT.out.tv k1
    clear gv5 gv5'
    rw [hA2] at hA2'
    cases hA2'
    obtain ⟨y1, hy1⟩ : ∃ y, t.kids[0].s = y := ⟨_, rfl⟩
    obtain ⟨y2, hy2⟩ : ∃ y, t.kids[1].s = y := ⟨_, rfl⟩
    have s0 := g5.c2
    have s1 := g5'.c2
    rw [hy1] at s0
    rw [hy2] at s1
    rw [hy1, hy2]
    have HG : Hid (∀ W, Below g w2 W → W.cell? ⟨b, 4, none⟩ = some (.slice (some ⟨bk, ok, none⟩) 2 cq) ∧ W.cell? ⟨bk, ok + 2, none⟩ = some (.string y1) ∧ W.cell? ⟨bk, ok + 5 + 2, none⟩ = some (.string y2)) := Lib.hid (fun W hW => by
      have f4 := (HT.out.below hW hbg).cells.2.2.2.2
      rw [hA2, h2] at f4
      have hlw := HT.out.lt
      refine ⟨f4, ?_, ?_⟩
      · exact (World.cell?_of_block (hW.block bk (by omega))).trans (by simpa using s0)
      · exact (World.cell?_of_block (hW.block bk (by omega))).trans (by simpa using s1))
    have hc2 : 2 ≤ cq := by omega
    rw [h2] at c4 hal ⊢
    rw [hA2] at c4 hal ⊢
    clear g5 g5' s0 s1 hy1 hy2 hb2 h2 hA2 hq1
    go_enter Tryz.func32, Tryz.ntmps32
    go_wp2_with fail
    refine wp_region_last (S := fun W => Below g w2 W) 11 [(0, true), (1, true), (2, true), (3, true), (4, true), (5, true), (6, true), (7, true), (8, true), (9, true), (10, true), (11, false)] (by kernel_rfl) (by kernel_rfl) rfl (by kernel_rfl) (by rfl) (fun _ _ _ _ _ h => h) (Below.refl _ _).drew ?_
    iterate 11
      refine alongL_take (v := ?_) rfl (by rfl) ?_ ?_
      rotate_left
      · intro W hW; obtain ⟨f1, f3, f4⟩ := HG.out W hW; clear hW; go_simp; try with_reducible rfl
      simp only [Act.put, List.setIfInBounds_toArray, List.set_cons_zero, List.set_cons_succ]
    refine alongL_last rfl (fun K hK => ?_)
    refine step_store_whole rfl rfl rfl rfl rfl (HP.out.drew) (pairI13 rfl) rfl (by simp [Value.oneCell']) ?_
    refine hK.out _ _ ?_
    clear hK K
    go_wp2_with fail
    refine bodyPost_ret (v := .agg #[.string y1, .string y2]) ?_ rfl ⟨rfl, by rw [hb]; exact below_row HB2.out.drew (by omega) _⟩
    exact results_pair rfl rfl ((HP.out.drew).row _) rfl
  · rw [pairOf_not h2]
    have q : ((t.kids.length : Int) == 2) = false := by simp; omega
    have q1 : ((t.kids.length : Int) != 2) = true := by simp; omega
    clear h2
    go_enter Tryz.func32, Tryz.ntmps32
    go_wp2_with (refine wpList_store_whole rfl rfl rfl rfl rfl HP.out (pairI13 rfl) rfl (by simp [Value.oneCell']) ?_)
    refine bodyPost_ret (v := .agg #[.string ⟨#[]⟩, .string ⟨#[]⟩]) ?_ rfl ⟨rfl, by rw [hb]; exact below_row HB2.out (by omega) _⟩
    exact results_pair rfl rfl (HP.out.row _) rfl

set_option maxHeartbeats 4000000 in
theorem slicepeer13_any {t : Tn} (hl : t.kids.length ≤ 1000000) (hz : ∀ u ∈ t.kids, u.s.size ≤ 1000000) {w : World} {B : Nat} {vk vq : Value} (H : Tv w B t vk vq) :
    Calls Tryz.prog 30 #[tval t vk vq, .func (.func 29) #[] #[]] w fun e w' => ∃ v, e = .returned v ∧ w'.ownsRow w.heap.size 32 2 v (t.kids.map Dx.peerC).length (two fPeer (t.kids.map Dx.peerC)) ∧ Below w.heap.size w w' := by
  obtain ⟨Ak, ck, rfl, _⟩ := H.keys
  obtain ⟨Aq, cq, rfl, hq1, hq2, _⟩ := H.kids
  obtain ⟨b, w1, hb, hal, hT, hb1⟩ := boxedT H
  have HT := Lib.hid hT
  have HB1 := Lib.hid hb1
  have HZ := Lib.hid hz
  obtain ⟨M, hM⟩ : ∃ M, Hid (t.kids.map Dx.peerC = M) := ⟨_, Lib.hid rfl⟩
  rw [hM.out]
  obtain ⟨c0, c1, c2, c3, c4⟩ := HT.out.cells
  obtain ⟨s1, hz1⟩ : ∃ s, Hid (w1.heap.size = s) := ⟨_, Lib.hid rfl⟩
  have hbs : b < s1 := by rw [← hz1.out]; exact hT.lt
  have HO0 : Hid (w1.ownsRow s1 32 2 (.slice none 0 0) 0 (two fPeer ([] : List (Nat × Nat)))) := Lib.hid (World.ownsRow_nil _ _ 32 2)
  unfold maxLen at hq2
  unfold tcells at hal
  unfold tval
  clear hT hb1 H hz
  go_enter Tryz.func30, Tryz.ntmps30
  go_wp2_with fail
  go_loopw [5, 11] (fun vl vi wr => ∃ (j : Nat) (L : List (Nat × Nat)), vi = .int .i64 (j : Int) ∧ j ≤ t.kids.length ∧ Hid (L.length = j) ∧ Hid (wr.ownsRow s1 32 2 vl L.length (two fPeer L)) ∧ Hid (L = (t.kids.take j).map Dx.peerC) ∧ Hid (Below s1 w1 wr)) (fun _ vi _ => t.kids.length - (intOf vi).toNat)
  case atStart => exact ⟨0, [], rfl, Nat.zero_le _, Lib.hid rfl, HO0, Lib.hid rfl, Lib.hid (Below.refl _ _)⟩
  case round =>
    obtain ⟨j, L, rfl, hj, hLj, HO, HM, HB⟩ := hrel
    clear HO0
    have hsz : s1 ≤ wr.heap.size := by have := HB.out.size; have := hz1.out; omega
    clear c0 c1 c2 c3 c4
    obtain ⟨A9, c9, rfl, _, _, _, _⟩ := own_look HO.out
    by_cases hlt : j < t.kids.length
    · have hlt' : (j : Int) < (t.kids.length : Int) := by omega
      have HTr := Lib.hid (HT.out.below HB.out hbs)
      obtain ⟨bk, ok, K, Q, hAt, hbk, h5, h6⟩ := Tv.kid_at HTr.out.tv hlt
      have HMn := Lib.hid (take_map13 Dx.peerC hlt HM.out (x := Dx.peerC t.kids[j]) rfl)
      have CP := Lib.hid (fun W (hW : Below s1 wr W) => getpeer13_any (HZ.out _ (List.getElem_mem hlt)) (h6.keep (hW.mono (by omega))))
      obtain ⟨A1, e1, ek, _⟩ := h6.keys
      obtain ⟨A2, e2, eq, _⟩ := h6.kids
      rw [ek, eq] at h5 CP
      obtain ⟨y1, y2, hy⟩ : ∃ y1 y2, Hid (Dx.peerC t.kids[j] = (y1, y2)) := ⟨_, _, Lib.hid rfl⟩
      rw [hy.out] at HMn CP
      obtain ⟨x, hx⟩ : ∃ x, t.kids[j] = x := ⟨_, rfl⟩
      rw [hx] at h5 CP
      obtain ⟨m0, m1, m2, m3, m4⟩ := h5
      obtain ⟨gk, wk, hgk, halk, hYk, hbk2, hsk⟩ := var_tree wr
      obtain ⟨w7, hw7⟩ : ∃ w7, wk.setRow gk #[.int .i64 x.kind, .int .i64 x.n, .string x.s, .slice A1 x.keys.length e1, .slice A2 x.kids.length e2] = w7 := ⟨_, rfl⟩
      have hk7 : Whole w7 gk 25 #[.int .i64 x.kind, .int .i64 x.n, .string x.s, .slice A1 x.keys.length e1, .slice A2 x.kids.length e2] := by rw [← hw7]; exact hYk.row _
      have hB7 : Below wr.heap.size wr w7 := by rw [← hw7, hgk]; exact below_row hbk2 (Nat.le_refl _) _
      have HY := Lib.hid hYk
      have HO7 := Lib.hid (own2_below HO.out hB7)
      have HB7 := Lib.hid (HB.out.trans (hB7.mono hsz))
      have HC7 := Lib.hid (CP.out _ (hB7.mono hsz))
      have hs7 : s1 ≤ w7.heap.size := by have := hB7.size; omega
      have r0 := hk7.at_ 0
      have r1 := hk7.at_ 1
      have r2 := hk7.at_ 2
      have r3 := hk7.at_ 3
      have r4 := hk7.at_ 4
      simp at r0 r1 r2 r3 r4
      unfold tval at HC7
      rw [hAt]
      clear h6 ek eq hx hYk hbk2 hk7 hB7 CP hbk hAt hsk
      go_wp2_with (refine wpList_store_whole rfl rfl rfl rfl rfl HY.out (treeI rfl) rfl (by simp [Value.oneCell']) ?_)
      refine (HC7.out).mono ?_
      rintro e w2 ⟨rfl, hb2⟩
      have HO2 := Lib.hid (own2_below HO7.out hb2)
      have HB2 := Lib.hid (HB7.out.trans (hb2.mono hs7))
      have hs2 : s1 ≤ w2.heap.size := by have := hb2.size; omega
      clear hb2 m0 m1 m2 m3 m4 r0 r1 r2 r3 r4
      obtain ⟨z, hz⟩ : ∃ z, w2.heap.size = z := ⟨_, rfl⟩
      obtain ⟨wa, hala⟩ : ∃ wa, w2.alloc (.cells #[.int .u64 (y1 : Int), .int .u16 (y2 : Int)] 32) = wa := ⟨_, rfl⟩
      have hBa : Below w2.heap.size w2 wa := by rw [hz, ← hala]; exact below_lit _ hz _
      have HSa : Hid (Src wa (some ⟨z, 0, none⟩) (two fPeer [(y1, y2)])) := Lib.hid (by rw [← hala]; exact src2p hz _ _)
      have HOa := Lib.hid (own2_below HO2.out hBa)
      have HBa := Lib.hid (HB2.out.trans (hBa.mono hs2))
      have hsa : s1 ≤ wa.heap.size := by have := hBa.size; omega
      clear hBa
      go_upto_region 5 with (at_builtin; refine wpList_append_cells Tryz.underlying33 peerZ13 rfl (by decide) (by decide) _ _ rfl rfl s1 (.slice A9 L.length c9) L.length _ rfl HOa.out 1 1 (two fPeer [(y1, y2)]) rfl rfl (fun h => by cases h) (Nat.le_refl _) HSa.out (by simp [two, fPeer, Value.oneCell']) (by have := hLj.out; omega) hsa ?_; intro v8 w8 ho8 hg8 hv8; obtain ⟨g8, c8, rfl, hg8a, hg8b⟩ := ho8.form (by omega))
      have HO8 : Hid (w8.ownsRow s1 32 2 (.slice (some ⟨g8, 0, none⟩) (L.length + 1) c8) (L ++ [(y1, y2)]).length (two fPeer (L ++ [(y1, y2)]))) := Lib.hid (by rw [two_more, List.length_append]; exact ho8)
      have HB8 := Lib.hid (HBa.out.grown hg8 hsa (fun q e => (HOa.out.lt q e).1))
      clear ho8 hg8 hv8 hg8a hg8b
      go_wp2_with fail
      go_roundw
      case rel => exact ⟨j + 1, L ++ [(y1, y2)], by go_num, by omega, Lib.hid (by rw [List.length_append, hLj.out]; rfl), HO8, HMn, HB8⟩
      case measure => simp [intOf]; omega
    · have hjn : j = t.kids.length := by omega
      have HE : Hid (L = M) := Lib.hid (by rw [HM.out, hjn, List.take_length, hM.out])
      have hlt2 : ¬ (j : Int) < (t.kids.length : Int) := by omega
      go_wp2_with fail
      go_ret
      have hbel := HB1.out.trans (HB.out.mono (by omega))
      exact ⟨_, rfl, by rw [← HE.out]; exact own2_lower HO.out (by omega), by first | exact hbel | (rw [hb]; exact hbel)⟩

set_option maxHeartbeats 4000000 in
theorem slicepair13_any {t : Tn} (hl : t.kids.length ≤ 1000000) {w : World} {B : Nat} {vk vq : Value} (H : Tv w B t vk vq) :
    Calls Tryz.prog 31 #[tval t vk vq, .func (.func 32) #[] #[]] w fun e w' => ∃ v, e = .returned v ∧ w'.ownsRow w.heap.size 65 2 v (t.kids.map Dm.pairOf).length (two fPair (t.kids.map Dm.pairOf)) ∧ Below w.heap.size w w' := by
  obtain ⟨Ak, ck, rfl, _⟩ := H.keys
  obtain ⟨Aq, cq, rfl, hq1, hq2, _⟩ := H.kids
  obtain ⟨b, w1, hb, hal, hT, hb1⟩ := boxedT H
  have HT := Lib.hid hT
  have HB1 := Lib.hid hb1
  obtain ⟨M, hM⟩ : ∃ M, Hid (t.kids.map Dm.pairOf = M) := ⟨_, Lib.hid rfl⟩
  rw [hM.out]
  obtain ⟨c0, c1, c2, c3, c4⟩ := HT.out.cells
  obtain ⟨s1, hz1⟩ : ∃ s, Hid (w1.heap.size = s) := ⟨_, Lib.hid rfl⟩
  have hbs : b < s1 := by rw [← hz1.out]; exact hT.lt
  have HO0 : Hid (w1.ownsRow s1 65 2 (.slice none 0 0) 0 (two fPair ([] : List (ByteArray × ByteArray)))) := Lib.hid (World.ownsRow_nil _ _ 65 2)
  unfold maxLen at hq2
  unfold tcells at hal
  unfold tval
  clear hT hb1 H
  go_enter Tryz.func31, Tryz.ntmps31
  go_wp2_with fail
  go_loopw [5, 11] (fun vl vi wr => ∃ (j : Nat) (L : List (ByteArray × ByteArray)), vi = .int .i64 (j : Int) ∧ j ≤ t.kids.length ∧ Hid (L.length = j) ∧ Hid (wr.ownsRow s1 65 2 vl L.length (two fPair L)) ∧ Hid (L = (t.kids.take j).map Dm.pairOf) ∧ Hid (Below s1 w1 wr)) (fun _ vi _ => t.kids.length - (intOf vi).toNat)
  case atStart => exact ⟨0, [], rfl, Nat.zero_le _, Lib.hid rfl, HO0, Lib.hid rfl, Lib.hid (Below.refl _ _)⟩
  case round =>
    obtain ⟨j, L, rfl, hj, hLj, HO, HM, HB⟩ := hrel
    clear HO0
    have hsz : s1 ≤ wr.heap.size := by have := HB.out.size; have := hz1.out; omega
    clear c0 c1 c2 c3 c4
    obtain ⟨A9, c9, rfl, _, _, _, _⟩ := own_look HO.out
    by_cases hlt : j < t.kids.length
    · have hlt' : (j : Int) < (t.kids.length : Int) := by omega
      have HTr := Lib.hid (HT.out.below HB.out hbs)
      obtain ⟨bk, ok, K, Q, hAt, hbk, h5, h6⟩ := Tv.kid_at HTr.out.tv hlt
      have HMn := Lib.hid (take_map13 Dm.pairOf hlt HM.out (x := Dm.pairOf t.kids[j]) rfl)
      have CP := Lib.hid (fun W (hW : Below s1 wr W) => getpair13_any (h6.keep (hW.mono (by omega))))
      obtain ⟨A1, e1, ek, _⟩ := h6.keys
      obtain ⟨A2, e2, eq, _⟩ := h6.kids
      rw [ek, eq] at h5 CP
      obtain ⟨y1, y2, hy⟩ : ∃ y1 y2, Hid (Dm.pairOf t.kids[j] = (y1, y2)) := ⟨_, _, Lib.hid rfl⟩
      rw [hy.out] at HMn CP
      obtain ⟨x, hx⟩ : ∃ x, t.kids[j] = x := ⟨_, rfl⟩
      rw [hx] at h5 CP
      obtain ⟨m0, m1, m2, m3, m4⟩ := h5
      obtain ⟨gk, wk, hgk, halk, hYk, hbk2, hsk⟩ := var_tree wr
      obtain ⟨w7, hw7⟩ : ∃ w7, wk.setRow gk #[.int .i64 x.kind, .int .i64 x.n, .string x.s, .slice A1 x.keys.length e1, .slice A2 x.kids.length e2] = w7 := ⟨_, rfl⟩
      have hk7 : Whole w7 gk 25 #[.int .i64 x.kind, .int .i64 x.n, .string x.s, .slice A1 x.keys.length e1, .slice A2 x.kids.length e2] := by rw [← hw7]; exact hYk.row _
      have hB7 : Below wr.heap.size wr w7 := by rw [← hw7, hgk]; exact below_row hbk2 (Nat.le_refl _) _
      have HY := Lib.hid hYk
      have HO7 := Lib.hid (own2_below HO.out hB7)
      have HB7 := Lib.hid (HB.out.trans (hB7.mono hsz))
      have HC7 := Lib.hid (CP.out _ (hB7.mono hsz))
      have hs7 : s1 ≤ w7.heap.size := by have := hB7.size; omega
      have r0 := hk7.at_ 0
      have r1 := hk7.at_ 1
      have r2 := hk7.at_ 2
      have r3 := hk7.at_ 3
      have r4 := hk7.at_ 4
      simp at r0 r1 r2 r3 r4
      unfold tval at HC7
      rw [hAt]
      clear h6 ek eq hx hYk hbk2 hk7 hB7 CP hbk hAt hsk
      go_wp2_with (refine wpList_store_whole rfl rfl rfl rfl rfl HY.out (treeI rfl) rfl (by simp [Value.oneCell']) ?_)
      refine (HC7.out).mono ?_
      rintro e w2 ⟨rfl, hb2⟩
      have HO2 := Lib.hid (own2_below HO7.out hb2)
      have HB2 := Lib.hid (HB7.out.trans (hb2.mono hs7))
      have hs2 : s1 ≤ w2.heap.size := by have := hb2.size; omega
      clear hb2 m0 m1 m2 m3 m4 r0 r1 r2 r3 r4
      obtain ⟨z, hz⟩ : ∃ z, w2.heap.size = z := ⟨_, rfl⟩
      obtain ⟨wa, hala⟩ : ∃ wa, w2.alloc (.cells #[.string y1, .string y2] 65) = wa := ⟨_, rfl⟩
      have hBa : Below w2.heap.size w2 wa := by rw [hz, ← hala]; exact below_lit _ hz _
      have HSa : Hid (Src wa (some ⟨z, 0, none⟩) (two fPair [(y1, y2)])) := Lib.hid (by rw [← hala]; exact src2q hz _ _)
      have HOa := Lib.hid (own2_below HO2.out hBa)
      have HBa := Lib.hid (HB2.out.trans (hBa.mono hs2))
      have hsa : s1 ≤ wa.heap.size := by have := hBa.size; omega
      clear hBa
      go_upto_region 5 with (at_builtin; refine wpList_append_cells Tryz.underlying34 pairZ13 rfl (by decide) (by decide) _ _ rfl rfl s1 (.slice A9 L.length c9) L.length _ rfl HOa.out 1 1 (two fPair [(y1, y2)]) rfl rfl (fun h => by cases h) (Nat.le_refl _) HSa.out (by simp [two, fPair, Value.oneCell']) (by have := hLj.out; omega) hsa ?_; intro v8 w8 ho8 hg8 hv8; obtain ⟨g8, c8, rfl, hg8a, hg8b⟩ := ho8.form (by omega))
      have HO8 : Hid (w8.ownsRow s1 65 2 (.slice (some ⟨g8, 0, none⟩) (L.length + 1) c8) (L ++ [(y1, y2)]).length (two fPair (L ++ [(y1, y2)]))) := Lib.hid (by rw [two_more, List.length_append]; exact ho8)
      have HB8 := Lib.hid (HBa.out.grown hg8 hsa (fun q e => (HOa.out.lt q e).1))
      clear ho8 hg8 hv8 hg8a hg8b
      go_wp2_with fail
      go_roundw
      case rel => exact ⟨j + 1, L ++ [(y1, y2)], by go_num, by omega, Lib.hid (by rw [List.length_append, hLj.out]; rfl), HO8, HMn, HB8⟩
      case measure => simp [intOf]; omega
    · have hjn : j = t.kids.length := by omega
      have HE : Hid (L = M) := Lib.hid (by rw [HM.out, hjn, List.take_length, hM.out])
      have hlt2 : ¬ (j : Int) < (t.kids.length : Int) := by omega
      go_wp2_with fail
      go_ret
      have hbel := HB1.out.trans (HB.out.mono (by omega))
      exact ⟨_, rfl, by rw [← HE.out]; exact own2_lower HO.out (by omega), by first | exact hbel | (rw [hb]; exact hbel)⟩
end Go.Proofs.YtldjdoebappkoaaGreatDoor
