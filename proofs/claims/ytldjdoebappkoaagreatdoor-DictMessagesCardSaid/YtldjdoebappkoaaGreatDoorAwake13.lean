/- The law's awake of layer 13: the chapter's example, and others. -/
import Derived.Test.YtldjdoebappkoaaGreatDoorLw13
import Derived.Deep.CutRange
namespace Go.Proofs.YtldjdoebappkoaaGreatDoor
open Go.RowKit
set_option linter.unusedVariables false
set_option maxRecDepth 100000
set_option linter.unusedSimpArgs false
open Gm
def mPing : Ms := ⟨11, 7, 0, false, 0, ⟨#[]⟩, ⟨#[]⟩, 0, 0, [], []⟩
def tPing : Tn := .mk 4 0 ⟨#[]⟩ [⟨#[113]⟩, ⟨#[114]⟩] [Dm.text ⟨#[112, 105, 110, 103]⟩, Dm.num 7]
theorem right_ping : right mPing = 0 := by decide +kernel
theorem name_ping : (at_ mPing.kind).name = ⟨#[112, 105, 110, 103]⟩ := by decide +kernel
theorem tree_ping : Dm.tree mPing = tPing := by
  unfold Dm.tree Dm.t9 Dm.t8 Dm.t7 Dm.t6 Dm.t5 Dm.t4 Dm.t3 Dm.t2 Dm.t1
  rw [name_ping]
  rfl
theorem to_ping : Dm.to mPing = (tPing, 0) := by rw [Dm.to_good13 right_ping, tree_ping]
theorem told_ping : Dm.told tPing = (mPing, 0) := by
  rw [← tree_ping]
  exact Dm.told_tree right_ping (by decide) (by decide) (by decide) (by decide) (by decide) (fun p hp => by cases hp)
theorem told_list13 : Dm.told (.mk 3 0 ⟨#[]⟩ [] []) = (Dm.zero, 3) := Dx.told_fits rfl
theorem told_dict13 : Dm.told (.mk 4 0 ⟨#[]⟩ [] []) = (Dm.zero, 9) := Dx.told_kind rfl (by decide)
theorem ping_ok : Ok mPing := ⟨by show (-9223372036854775808 : Int) ≤ 11 ∧ (11 : Int) ≤ 9223372036854775807; omega, by decide, by decide, by decide, Nat.zero_le _, Nat.zero_le _, by decide, by decide, (fun p hp => by cases hp), (fun p hp => by cases hp)⟩
theorem ping_fw : tPing.Fw := .mk emp_fw13 (by simp [tPing, Tn.keys]) (by simp [tPing, Tn.kids]) (fun u hu => by
  rcases List.mem_cons.1 (show u ∈ [Dm.text ⟨#[112, 105, 110, 103]⟩, Dm.num 7] from hu) with rfl | hu
  · exact leaf_fw _ _ (by simp [ByteArray.size])
  · rcases List.mem_cons.1 hu with rfl | hu
    · exact leaf_fw _ _ emp_fw13
    · cases hu)
theorem to_ping13 (w : World) (T : Tab w) :
    Calls Tryz.prog 10 #[.agg #[.int .i64 11, .int .u32 7, .int .u8 0, .bool false, .int .u64 0, .string ⟨#[]⟩, .string ⟨#[]⟩, .int .u64 0, .int .u16 0, .slice none 0 0, .slice none 0 0]] w fun e w' => ∃ Ak ck Aq cq, e = .returned (.tuple #[.agg #[.int .i64 4, .int .i64 0, .string ⟨#[]⟩, .slice Ak 2 ck, .slice Aq 2 cq], .int .i64 0]) ∧ Tv w' w'.heap.size tPing (.slice Ak 2 ck) (.slice Aq 2 cq) ∧ Below w.heap.size w w' := by
  refine (dto13_any (m := mPing) (B := 0) ⟨⟨_, _, rfl, Sl.empty _ _, Sl.empty _ _⟩, ping_ok⟩ T (by decide) (by decide)).mono ?_
  rintro e w' ⟨uk, uq, rfl, hv, hb⟩
  rw [to_ping] at hv ⊢
  obtain ⟨Ak, ck, rfl, _⟩ := hv.keys
  obtain ⟨Aq, cq, rfl, _⟩ := hv.kids
  exact ⟨Ak, ck, Aq, cq, rfl, hv, hb⟩
theorem from_ping13 {w : World} {B : Nat} {Ak Aq : Option Addr} {ck cq : Nat} (H : Tv w B tPing (.slice Ak 2 ck) (.slice Aq 2 cq)) (T : Tab w) :
    Calls Tryz.prog 6 #[.agg #[.int .i64 4, .int .i64 0, .string ⟨#[]⟩, .slice Ak 2 ck, .slice Aq 2 cq]] w fun e w' => ∃ A c A' c', e = .returned (.tuple #[.agg #[.int .i64 11, .int .u32 7, .int .u8 0, .bool false, .int .u64 0, .string ⟨#[]⟩, .string ⟨#[]⟩, .int .u64 0, .int .u16 0, .slice A 0 c, .slice A' 0 c'], .int .i64 0]) ∧ Below w.heap.size w w' := by
  refine (dfrom13_any H T ping_fw).mono ?_
  rintro e w' ⟨v, rfl, hv, hb⟩
  rw [told_ping] at hv ⊢
  obtain ⟨vp, vq, rfl, hp, hq⟩ := hv.ex
  obtain ⟨A, c, rfl, _⟩ := hp.ex
  obtain ⟨A', c', rfl, _⟩ := hq.ex
  exact ⟨A, c, A', c', rfl, hb⟩
theorem from_bad13 (kd : Int) (code : Nat) (hc : Dm.told (.mk kd 0 ⟨#[]⟩ [] []) = (Dm.zero, code)) (hk : -9223372036854775808 ≤ kd ∧ kd ≤ 9223372036854775807) (w : World) (T : Tab w) :
    Calls Tryz.prog 6 #[.agg #[.int .i64 kd, .int .i64 0, .string ⟨#[]⟩, .slice none 0 0, .slice none 0 0]] w fun e w' => ∃ A c A' c', e = .returned (.tuple #[.agg #[.int .i64 0, .int .u32 0, .int .u8 0, .bool false, .int .u64 0, .string ⟨#[]⟩, .string ⟨#[]⟩, .int .u64 0, .int .u16 0, .slice A 0 c, .slice A' 0 c'], .int .i64 (code : Int)]) ∧ Below w.heap.size w w' := by
  refine (dfrom13_any (t := .mk kd 0 ⟨#[]⟩ [] []) (tv_plain (B := 0) hk (by omega) (by unfold maxLen; simp [ByteArray.size])) T (leaf_fw _ _ emp_fw13)).mono ?_
  rintro e w' ⟨v, rfl, hv, hb⟩
  rw [hc] at hv ⊢
  obtain ⟨vp, vq, rfl, hp, hq⟩ := hv.ex
  obtain ⟨A, c, rfl, _⟩ := hp.ex
  obtain ⟨A', c', rfl, _⟩ := hq.ex
  exact ⟨A, c, A', c', rfl, hb⟩

set_option maxHeartbeats 2000000 in
theorem awake13 (w : World) (T : Tab w) : Calls Tryz.prog 5 #[] w fun e w' => e = .returned (.bool true) ∧ Below w.heap.size w w' := by
  have HTb := Lib.hid (fun W (h : Below w.heap.size w W) => T.below h T.lt)
  have C1 := Lib.hid (to_ping13 w T)
  have B3 := Lib.hid (fun W h => from_bad13 3 3 told_list13 (by omega) W (HTb.out W h))
  have B4 := Lib.hid (fun W h => from_bad13 4 9 told_dict13 (by omega) W (HTb.out W h))
  clear T
  go_enter Tryz.func5, Tryz.ntmps5
  go_wp2_with fail
  refine (C1.out).mono ?_
  rintro e x1 ⟨Ak, ck, Aq, cq, rfl, hv, hb⟩
  obtain ⟨g1, y1, hg1, hal1, hY1, hby1, hsy1⟩ := var_tree x1
  obtain ⟨w1, hst1⟩ : ∃ W, y1.setRow g1 #[.int .i64 4, .int .i64 0, .string ⟨#[]⟩, .slice Ak 2 ck, .slice Aq 2 cq] = W := ⟨_, rfl⟩
  have hb1 : Below x1.heap.size x1 w1 := by rw [← hst1]; exact below_row (by rw [hg1]; exact hby1) (by omega) _
  have HC1 := Lib.hid (hb.trans (hb1.mono hb.size))
  have HV1 := Lib.hid (hv.keep hb1)
  have hW1 : Whole w1 g1 25 #[.int .i64 4, .int .i64 0, .string ⟨#[]⟩, .slice Ak 2 ck, .slice Aq 2 cq] := by rw [← hst1]; exact hY1.row _
  have HW1 := Lib.hid hW1
  have HY1 := Lib.hid hY1
  have C2 := Lib.hid (from_ping13 HV1.out (HTb.out _ HC1.out))
  clear hb hb1 hby1 hsy1 hv hY1
  have t0 := hW1.at_ 0
  have t1 := hW1.at_ 1
  have t2 := hW1.at_ 2
  have t3 := hW1.at_ 3
  have t4 := hW1.at_ 4
  simp at t0 t1 t2 t3 t4
  clear hW1
  go_upto_region 1 with (refine wpList_store_whole rfl rfl rfl rfl rfl HY1.out (treeI rfl) rfl (by simp [Value.oneCell']) ?_; rw [hst1])
  clear hg1 hal1 hst1
  go_wp2_with fail
  refine (C2.out).mono ?_
  rintro e x2 ⟨A2, c2, A2', c2', rfl, hb⟩
  obtain ⟨g2, y2, hg2, hal2, hsy2, hY2, hby2⟩ := msg_box x2
  obtain ⟨w2, hst2⟩ : ∃ W, y2.setRow g2 #[.int .i64 11, .int .u32 7, .int .u8 0, .bool false, .int .u64 0, .string ⟨#[]⟩, .string ⟨#[]⟩, .int .u64 0, .int .u16 0, .slice A2 0 c2, .slice A2' 0 c2'] = W := ⟨_, rfl⟩
  have hb2 : Below x2.heap.size x2 w2 := by rw [← hst2]; exact below_row (by rw [hg2]; exact hby2) (by omega) _
  have HC2 := Lib.hid (hb.trans (hb2.mono hb.size))
  have HW2 : Hid (Whole w2 g2 36 #[.int .i64 11, .int .u32 7, .int .u8 0, .bool false, .int .u64 0, .string ⟨#[]⟩, .string ⟨#[]⟩, .int .u64 0, .int .u16 0, .slice A2 0 c2, .slice A2' 0 c2']) := Lib.hid (by rw [← hst2]; exact hY2.row _)
  have HY2 := Lib.hid hY2
  clear hb hb2 hby2 hsy2 hY2 t0 t1 t2 t3 t4
  go_upto_region 2 with (refine wpList_store_whole rfl rfl rfl rfl rfl HY2.out (msgI rfl) rfl (by simp [Value.oneCell']) ?_; rw [hst2])
  clear hg2 hal2 hst2
  go_wp2_with fail
  refine (B3.out _ (HC1.out.trans (HC2.out.mono HC1.out.size))).mono ?_
  rintro e x3 ⟨A3, c3, A3', c3', rfl, hb⟩
  obtain ⟨g3, y3, hg3, hal3, hsy3, hY3, hby3⟩ := msg_box x3
  obtain ⟨w3, hst3⟩ : ∃ W, y3.setRow g3 #[.int .i64 0, .int .u32 0, .int .u8 0, .bool false, .int .u64 0, .string ⟨#[]⟩, .string ⟨#[]⟩, .int .u64 0, .int .u16 0, .slice A3 0 c3, .slice A3' 0 c3'] = W := ⟨_, rfl⟩
  have hb3 : Below x3.heap.size x3 w3 := by rw [← hst3]; exact below_row (by rw [hg3]; exact hby3) (by omega) _
  have HC3 := Lib.hid (hb.trans (hb3.mono hb.size))
  have HY3 := Lib.hid hY3
  clear hb hb3 hby3 hsy3 hY3
  go_upto_region 3 with (refine wpList_store_whole rfl rfl rfl rfl rfl HY3.out (msgI rfl) rfl (by simp [Value.oneCell']) ?_; rw [hst3])
  clear hg3 hal3 hst3
  have HD3 := Lib.hid (HC2.out.trans (HC3.out.mono HC2.out.size))
  go_wp2_with fail
  refine (B4.out _ (HC1.out.trans (HD3.out.mono HC1.out.size))).mono ?_
  rintro e x4 ⟨A4, c4, A4', c4', rfl, hb⟩
  obtain ⟨g4, y4, hg4, hal4, hsy4, hY4, hby4⟩ := msg_box x4
  obtain ⟨w4, hst4⟩ : ∃ W, y4.setRow g4 #[.int .i64 0, .int .u32 0, .int .u8 0, .bool false, .int .u64 0, .string ⟨#[]⟩, .string ⟨#[]⟩, .int .u64 0, .int .u16 0, .slice A4 0 c4, .slice A4' 0 c4'] = W := ⟨_, rfl⟩
  have hb4 : Below x4.heap.size x4 w4 := by rw [← hst4]; exact below_row (by rw [hg4]; exact hby4) (by omega) _
  have HC4 := Lib.hid (hb.trans (hb4.mono hb.size))
  have HY4 := Lib.hid hY4
  clear hb hb4 hby4 hsy4 hY4
  have HD4 := Lib.hid (HD3.out.trans (HC4.out.mono HD3.out.size))
  have HE4 := Lib.hid (HC3.out.trans (HC4.out.mono HC3.out.size))
  have hw1 := HW1.out.below HD4.out HW1.out.lt
  have hw2 := HW2.out.below HE4.out HW2.out.lt
  have hv4 := HV1.out.all.keep HD4.out
  obtain ⟨A, c, e, hSc, _⟩ := hv4.keys
  injection e with e1 e2 e3
  subst e1 e3
  obtain ⟨bk, ok, rfl, _, hk0⟩ := hSc 0 (by decide)
  obtain ⟨A, c, e, hcq1, hcq2, _, K, Q, hK⟩ := hv4.kids
  injection e with f1 f2 f3
  subst f1 f3
  obtain ⟨bq, oq, rfl, _, h5, _⟩ := hK 1 (by decide)
  have hcq : 2 ≤ cq := hcq1
  unfold maxLen at hcq2
  have k0 : w4.cell? ⟨bk, ok, none⟩ = some (.string ⟨#[113]⟩) := hk0
  have n1 : w4.cell? ⟨bq, oq + 5 + 1, none⟩ = some (.int .i64 7) := h5.c1
  have t3 : w4.cell? ⟨g1, 3, none⟩ = some (.slice (some ⟨bk, ok, none⟩) 2 ck) := hw1.at_ 3
  have t4 : w4.cell? ⟨g1, 4, none⟩ = some (.slice (some ⟨bq, oq, none⟩) 2 cq) := hw1.at_ 4
  have m0 : w4.cell? ⟨g2, 0, none⟩ = some (.int .i64 11) := hw2.at_ 0
  have m1 : w4.cell? ⟨g2, 1, none⟩ = some (.int .u32 7) := hw2.at_ 1
  have hck : 2 ≤ ck := by
    obtain ⟨_, _, e, _, h, _⟩ := hv4.keys
    injection e with _ _ e3
    rw [e3]
    exact h
  have hqq : ((⟨#[113]⟩ : ByteArray).toList == (⟨#[113]⟩ : ByteArray).toList) = true := by decide +kernel
  clear hw1 hw2 hv4 hSc hk0 hK h5 e2 f2
  go_upto_region 4 with (refine wpList_store_whole rfl rfl rfl rfl rfl HY4.out (msgI rfl) rfl (by simp [Value.oneCell']) ?_; rw [hst4])
  clear hg4 hal4 hst4
  go_wp2_with fail
  go_ret
  exact ⟨rfl, HC1.out.trans (HD4.out.mono HC1.out.size)⟩
end Go.Proofs.YtldjdoebappkoaaGreatDoor
