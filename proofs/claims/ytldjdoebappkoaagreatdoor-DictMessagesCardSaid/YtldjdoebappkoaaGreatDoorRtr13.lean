/- Contract of layer 13's reference's Tree. -/
import Derived.Test.YtldjdoebappkoaaGreatDoorTt13
import Derived.Deep.CutRange
namespace Go.Proofs.YtldjdoebappkoaaGreatDoor
open Go.RowKit
set_option linter.unusedVariables false
set_option maxRecDepth 100000
set_option linter.unusedSimpArgs false
open Gm

/-- a tree that the call has made, all of it -/
def TreeNew (t : Tn) (w : World) (e : Ending) (w' : World) : Prop := ∃ vk vq, e = .returned (tval t vk vq) ∧ Tp w' (fun x => w.heap.size ≤ x) t vk vq ∧ Below w.heap.size w w'
set_option maxHeartbeats 8000000 in
theorem rtree13_any {w : World} {B : Nat} {m : Ms} {v : Value} (H : Mv w B m v) (hlp : m.peers.length ≤ 100000) (hlq : m.pairs.length ≤ 100000) :
    Calls Tryz.prog 21 #[v] w (TreeNew (Dm.tree m) w) := by
  obtain ⟨b, vp, vq, w1, rfl, hb, hal, hsz, hx, hb1⟩ := boxed H
  obtain ⟨r, w2, hr, hal2, hR, hb2, hs2⟩ := var_tree w1
  obtain ⟨g, w3, hg, hal3, hG, hb3, hs3⟩ := var_tree w2
  obtain ⟨w4, hst4⟩ : ∃ W, w3.setRow g #[.int .i64 4, .int .i64 0, .string ⟨#[]⟩, .slice none 0 0, .slice none 0 0] = W := ⟨_, rfl⟩
  have hbr : b < r := by rw [← hr]; exact hx.lt
  have hrg : r < g := by omega
  have hwb : w.heap.size ≤ b := by omega
  have HN : Hid (Tt w b r g m vp vq Dm.base (.slice none 0 0) (.slice none 0 0) w4) := Lib.hid (by
    have hb2' : Below w1.heap.size w1 w2 := by rw [hr]; exact hb2
    have hb3' : Below w2.heap.size w2 w3 := by rw [hg]; exact hb3
    have hx3 := (hx.kept hb2').kept hb3'
    have hb1' : Below w.heap.size w w1 := by rw [hb]; exact hb1
    rw [← hst4]
    refine ⟨hx3.below (below_row (Below.refl g w3) (Nat.le_refl _) _) (by omega), (hR.below hb3 hrg).rowOther (by omega) _, hG.row _, ?_, below_row (hb1'.trans ((hb2'.trans (hb3'.mono hb2'.size)).mono hb1'.size)) (by omega) _, ⟨hwb, hbr, hrg⟩⟩
    exact Tp.leaf _ _ (by omega) (by omega) (by show (0 : Nat) ≤ maxLen; omega))
  have HG := Lib.hid hG
  obtain ⟨Ap, cp, rfl, htp, hp1, hp2, hp3⟩ := hx.peers.ex
  obtain ⟨Aq, cq, rfl, htq, hq1, hq2, hq3⟩ := hx.pairs.ex
  have HTP := Lib.hid htp
  have HTQ := Lib.hid htq
  unfold maxLen at hp2 hq2
  clear htp htq hp3 hq3
  have ok := hx.ok
  have o1 := ok.rid
  have o2 := ok.code
  have o3 := ok.id
  have o4 := ok.pid
  have o5 := ok.pad
  have o6 := ok.key
  have o7 := ok.val
  have o8 := ok.kind
  have OK := Lib.hid ok
  have N1 := Lib.hid (nx1 m)
  have N2 := Lib.hid (nx2 m)
  have N3 := Lib.hid (nx3 m)
  have N4 := Lib.hid (nx4 m)
  have N5 := Lib.hid (nx5 m)
  have N6 := Lib.hid (nx6 m)
  have N7 := Lib.hid (nx7 m)
  have N8 := Lib.hid (nx8 m)
  have N9 := Lib.hid (nx9 m)
  have N10 := Lib.hid (nx10 m)
  obtain ⟨q1, hq1⟩ : ∃ q, Hid ((!decide (m.code = 0)) = q) := ⟨_, Lib.hid rfl⟩
  rw [hq1.out] at N1
  obtain ⟨q2, hq2⟩ : ∃ q, Hid ((m.has) = q) := ⟨_, Lib.hid rfl⟩
  rw [hq2.out] at N2
  obtain ⟨q3, hq3⟩ : ∃ q, Hid ((!decide (m.id = 0)) = q) := ⟨_, Lib.hid rfl⟩
  rw [hq3.out] at N3
  obtain ⟨q4, hq4⟩ : ∃ q, Hid ((!decide (m.key = ⟨#[]⟩)) = q) := ⟨_, Lib.hid rfl⟩
  rw [hq4.out] at N4
  obtain ⟨q5, hq5⟩ : ∃ q, Hid ((!decide (m.pid = 0) || !decide (m.pad = 0)) = q) := ⟨_, Lib.hid rfl⟩
  rw [hq5.out] at N5
  obtain ⟨q6, hq6⟩ : ∃ q, Hid ((!decide (m.peers.length = 0)) = q) := ⟨_, Lib.hid rfl⟩
  rw [hq6.out] at N6
  obtain ⟨q8, hq8⟩ : ∃ q, Hid ((!decide (m.rid = 0)) = q) := ⟨_, Lib.hid rfl⟩
  rw [hq8.out] at N8
  obtain ⟨q9, hq9⟩ : ∃ q, Hid ((!decide (m.pairs.length = 0)) = q) := ⟨_, Lib.hid rfl⟩
  rw [hq9.out] at N9
  obtain ⟨q10, hq10⟩ : ∃ q, Hid ((!decide (m.val = ⟨#[]⟩)) = q) := ⟨_, Lib.hid rfl⟩
  rw [hq10.out] at N10
  have HTr : Hid (Dm.tree m = Dm.tree m) := Lib.hid rfl
  obtain ⟨T0, hT0⟩ : ∃ T, Hid (Dm.base = T) := ⟨_, Lib.hid rfl⟩
  rw [hT0.out] at N1 HN
  obtain ⟨T1, hT1⟩ : ∃ T, Hid (Dm.t1 m = T) := ⟨_, Lib.hid rfl⟩
  rw [hT1.out] at N1 N2
  obtain ⟨T2, hT2⟩ : ∃ T, Hid (Dm.t2 m = T) := ⟨_, Lib.hid rfl⟩
  rw [hT2.out] at N2 N3
  obtain ⟨T3, hT3⟩ : ∃ T, Hid (Dm.t3 m = T) := ⟨_, Lib.hid rfl⟩
  rw [hT3.out] at N3 N4
  obtain ⟨T4, hT4⟩ : ∃ T, Hid (Dm.t4 m = T) := ⟨_, Lib.hid rfl⟩
  rw [hT4.out] at N4 N5
  obtain ⟨T5, hT5⟩ : ∃ T, Hid (Dm.t5 m = T) := ⟨_, Lib.hid rfl⟩
  rw [hT5.out] at N5 N6
  obtain ⟨T6, hT6⟩ : ∃ T, Hid (Dm.t6 m = T) := ⟨_, Lib.hid rfl⟩
  rw [hT6.out] at N6 N7
  obtain ⟨T7, hT7⟩ : ∃ T, Hid (Dm.t7 m = T) := ⟨_, Lib.hid rfl⟩
  rw [hT7.out] at N7 N8
  obtain ⟨T8, hT8⟩ : ∃ T, Hid (Dm.t8 m = T) := ⟨_, Lib.hid rfl⟩
  rw [hT8.out] at N8 N9
  obtain ⟨T9, hT9⟩ : ∃ T, Hid (Dm.t9 m = T) := ⟨_, Lib.hid rfl⟩
  rw [hT9.out] at N9 N10
  obtain ⟨T10, hT10⟩ : ∃ T, Hid (Dm.tree m = T) := ⟨_, Lib.hid rfl⟩
  rw [hT10.out] at N10 ⊢
  have z1 : Hid (q1 = decide (0 < m.code)) := Lib.hid (by rw [← hq1.out, Bool.eq_iff_iff]; simp; omega)
  have z2 := hq2.out
  have z3 : Hid (q3 = decide (0 < m.id)) := Lib.hid (by rw [← hq3.out, Bool.eq_iff_iff]; simp; omega)
  have z4 : Hid ((!m.key.toList.isEmpty) = q4) := Lib.hid (by rw [← hq4.out, str_emp])
  have z5 : Hid ((decide (0 < m.pid) || decide (0 < m.pad)) = q5) := Lib.hid (by rw [← hq5.out, Bool.eq_iff_iff]; simp; omega)
  have z6 : Hid (q6 = decide (0 < m.peers.length)) := Lib.hid (by rw [← hq6.out]; exact pos13 _)
  have z8 : Hid (q8 = decide (0 < m.rid)) := Lib.hid (by rw [← hq8.out]; exact pos13 _)
  have z9 : Hid (q9 = decide (0 < m.pairs.length)) := Lib.hid (by rw [← hq9.out]; exact pos13 _)
  have z10 : Hid ((!m.val.toList.isEmpty) = q10) := Lib.hid (by rw [← hq10.out, str_emp])
  have zQ : Hid ((at_ m.kind).name.size ≤ 5) := Lib.hid (by have := (ent_bounds (bif known m.kind then m.kind.toNat else 0)).2.2.2.2; unfold at_; omega)
  have zI : Hid ((Dm.idS m.id).size = 8) := Lib.hid (by unfold Dm.idS; rw [strOf_size, Bm.fix_length])
  have zO : Hid ((Dm.peerS (m.pid, m.pad)).size = 10) := Lib.hid (by unfold Dm.peerS; rw [strOf_size, List.length_append, Bm.fix_length, Bm.fix_length])
  clear hx hR hG hb1 hb2 hb3 hs2 hs3 H ok hsz z2
  go_enter Tryz.func21, Tryz.ntmps21
  go_upto_region 2 with (refine wpList_store_whole rfl rfl rfl rfl rfl HG.out (treeI rfl) rfl (by simp [Value.oneCell']) ?_; rw [hst4])
  clear hb hal hr hal2 hg hal3 hst4
  obtain ⟨vk, vt, HN⟩ : ∃ vk vt, Hid (Tt w b r g m (.slice Ap m.peers.length cp) (.slice Aq m.pairs.length cq) T0 vk vt w4) := ⟨_, _, HN⟩
  have t1 : decide (0 < m.code) = q1 := z1.out.symm
  obtain ⟨c0, c1, c2, c3, c4, c5, c6, c7, c8, c9, c10⟩ := HN.out.box.cells
  obtain ⟨d0, d1, d2, d3, d4⟩ := HN.out.cells
  go_upto_if 11 with fail
  go_cut [0, 2] from 8 (fun s0 s2 wx => s2 = .pointer (some ⟨r, 0, none⟩) ∧ ∃ vk vt, Hid (Tt w b r g m (.slice Ap m.peers.length cp) (.slice Aq m.pairs.length cq) T1 vk vt wx))
  case first =>
    cases q1
    case' false =>
      have HT := N1.out.no rfl
      subst HT
      go_wp2_with fail
      go_meet
      exact ⟨rfl, _, _, HN⟩
    case' true =>
      go_wp2_with fail
      refine (HN.out.leaf (by omega) (by omega) (by show (0 : Nat) ≤ maxLen; omega) N1.out rfl (by show (1 : Nat) ≤ 1000; omega)).mono ?_
      rintro e w1 ⟨Ak, ck, At, ct, rfl, h1, hp1, _⟩
      have HS := Lib.hid h1
      have HPs := Lib.hid hp1
      clear h1 hp1
      go_wp2_with (first | (refine wpList_store_whole rfl rfl rfl rfl rfl HS.out.tr (treeI rfl) rfl (by simp [Value.oneCell']) ?_))
      go_meet
      exact ⟨rfl, _, _, Lib.hid (HS.out.put HPs.out)⟩
  case rest =>
  clear c0 c1 c2 c3 c4 c5 c6 c7 c8 c9 c10 d0 d1 d2 d3 d4 HN
  obtain ⟨rfl, vk, vt, HN⟩ := hcut
  have t2 := hq2.out
  obtain ⟨c0, c1, c2, c3, c4, c5, c6, c7, c8, c9, c10⟩ := HN.out.box.cells
  obtain ⟨d0, d1, d2, d3, d4⟩ := HN.out.cells
  go_upto_if 19 with fail
  go_cut [0, 2] from 8 (fun s0 s2 wx => s2 = .pointer (some ⟨r, 0, none⟩) ∧ ∃ vk vt, Hid (Tt w b r g m (.slice Ap m.peers.length cp) (.slice Aq m.pairs.length cq) T2 vk vt wx))
  case first =>
    cases q2
    case' false =>
      have HT := N2.out.no rfl
      subst HT
      go_wp2_with fail
      go_meet
      exact ⟨rfl, _, _, HN⟩
    case' true =>
      go_wp2_with fail
      refine (HN.out.leaf (by omega) (by omega) (by show (0 : Nat) ≤ maxLen; omega) N2.out rfl (by show (1 : Nat) ≤ 1000; omega)).mono ?_
      rintro e w1 ⟨Ak, ck, At, ct, rfl, h1, hp1, _⟩
      have HS := Lib.hid h1
      have HPs := Lib.hid hp1
      clear h1 hp1
      go_wp2_with (first | (refine wpList_store_whole rfl rfl rfl rfl rfl HS.out.tr (treeI rfl) rfl (by simp [Value.oneCell']) ?_))
      go_meet
      exact ⟨rfl, _, _, Lib.hid (HS.out.put HPs.out)⟩
  case rest =>
  clear c0 c1 c2 c3 c4 c5 c6 c7 c8 c9 c10 d0 d1 d2 d3 d4 HN
  obtain ⟨rfl, vk, vt, HN⟩ := hcut
  have t3 : decide (0 < m.id) = q3 := z3.out.symm
  obtain ⟨c0, c1, c2, c3, c4, c5, c6, c7, c8, c9, c10⟩ := HN.out.box.cells
  obtain ⟨d0, d1, d2, d3, d4⟩ := HN.out.cells
  go_upto_if 25 with fail
  go_cut [0, 2] from 8 (fun s0 s2 wx => s2 = .pointer (some ⟨r, 0, none⟩) ∧ ∃ vk vt, Hid (Tt w b r g m (.slice Ap m.peers.length cp) (.slice Aq m.pairs.length cq) T3 vk vt wx))
  case first =>
    cases q3
    case' false =>
      have HT := N3.out.no rfl
      subst HT
      go_wp2_with fail
      go_meet
      exact ⟨rfl, _, _, HN⟩
    case' true =>
      go_wp2_with fail
      refine wp_region_last (S := fun W => Tt w b r g m (.slice Ap m.peers.length cp) (.slice Aq m.pairs.length cq) T2 vk vt W) 6 [(0, true), (1, true), (2, true), (3, false), (4, false), (5, false), (6, false)] (by kernel_rfl) (by kernel_rfl) rfl (by kernel_rfl) (by rfl) (fun _ _ _ _ _ h => h) HN.out.drew ?_
      clear c0 c1 c2 c3 c4 c5 c6 c7 c8 c9 c10 d0 d1 d2 d3 d4
      iterate 3
        refine alongL_take (v := ?_) rfl (by rfl) ?_ ?_
        rotate_left
        · intro W hW; have hW' : Tt w b r g m (.slice Ap m.peers.length cp) (.slice Aq m.pairs.length cq) T2 vk vt W := hW; obtain ⟨d0, d1, d2, d3, d4⟩ := hW'.cells; obtain ⟨c0, c1, c2, c3, c4, c5, c6, c7, c8, c9, c10⟩ := hW'.box.cells; clear hW hW'; go_simp; try with_reducible rfl
        simp only [Act.put, List.setIfInBounds_toArray, List.set_cons_zero, List.set_cons_succ]
      have HD := Lib.hid HN.out.drew
      refine alongL_step rfl (fun K hK => ?_)
      go_simp
      refine (rid13_any m.id o3 _).mono ?_
      rintro e x0 ⟨rfl, hb⟩
      have HE0 := Lib.hid (HD.out.behind hb)
      refine hK.out _ _ HE0.out ?_
      clear hK K hb
      try simp only [Act.put, List.setIfInBounds_toArray, List.set_cons_zero, List.set_cons_succ]
      refine alongL_step rfl (fun K hK => ?_)
      go_simp
      refine (rtext13_any _ _).mono ?_
      rintro e x1 ⟨rfl, hb⟩
      have HE1 := Lib.hid (HE0.out.behind hb)
      refine hK.out _ _ HE1.out ?_
      clear hK K hb
      try simp only [Act.put, List.setIfInBounds_toArray, List.set_cons_zero, List.set_cons_succ]
      refine alongL_step rfl (fun K hK => ?_)
      go_simp
      refine (HE1.out.leaf (by omega) (by omega) (by rw [zI.out]; unfold maxLen; omega) N3.out rfl (by show (1 : Nat) ≤ 1000; omega)).mono ?_
      rintro e w1 ⟨Ak, ck, At, ct, rfl, h1, hp1, _⟩
      have HS := Lib.hid h1
      have HPs := Lib.hid hp1
      refine hK.out _ _ h1 ?_
      clear hK K h1 hp1
      try simp only [Act.put, List.setIfInBounds_toArray, List.set_cons_zero, List.set_cons_succ]
      refine alongL_last rfl (fun K hK => ?_)
      refine step_store_whole rfl rfl rfl rfl rfl HS.out.tr (treeI rfl) rfl (by simp [Value.oneCell']) ?_
      refine hK.out _ _ ?_
      clear hK K
      go_wp2_with fail
      go_meet
      exact ⟨rfl, _, _, Lib.hid (HS.out.put HPs.out)⟩
  case rest =>
  clear c0 c1 c2 c3 c4 c5 c6 c7 c8 c9 c10 d0 d1 d2 d3 d4 HN
  obtain ⟨rfl, vk, vt, HN⟩ := hcut
  have t4 := z4.out
  obtain ⟨c0, c1, c2, c3, c4, c5, c6, c7, c8, c9, c10⟩ := HN.out.box.cells
  obtain ⟨d0, d1, d2, d3, d4⟩ := HN.out.cells
  go_upto_if 34 with fail
  go_cut [0, 2] from 8 (fun s0 s2 wx => s2 = .pointer (some ⟨r, 0, none⟩) ∧ ∃ vk vt, Hid (Tt w b r g m (.slice Ap m.peers.length cp) (.slice Aq m.pairs.length cq) T4 vk vt wx))
  case first =>
    cases q4
    case' false =>
      have HT := N4.out.no rfl
      subst HT
      go_wp2_with fail
      go_meet
      exact ⟨rfl, _, _, HN⟩
    case' true =>
      go_wp2_with fail
      refine wp_region_last (S := fun W => Tt w b r g m (.slice Ap m.peers.length cp) (.slice Aq m.pairs.length cq) T3 vk vt W) 5 [(0, true), (1, true), (2, true), (3, false), (4, false), (5, false)] (by kernel_rfl) (by kernel_rfl) rfl (by kernel_rfl) (by rfl) (fun _ _ _ _ _ h => h) HN.out.drew ?_
      clear c0 c1 c2 c3 c4 c5 c6 c7 c8 c9 c10 d0 d1 d2 d3 d4
      iterate 3
        refine alongL_take (v := ?_) rfl (by rfl) ?_ ?_
        rotate_left
        · intro W hW; have hW' : Tt w b r g m (.slice Ap m.peers.length cp) (.slice Aq m.pairs.length cq) T3 vk vt W := hW; obtain ⟨d0, d1, d2, d3, d4⟩ := hW'.cells; obtain ⟨c0, c1, c2, c3, c4, c5, c6, c7, c8, c9, c10⟩ := hW'.box.cells; clear hW hW'; go_simp; try with_reducible rfl
        simp only [Act.put, List.setIfInBounds_toArray, List.set_cons_zero, List.set_cons_succ]
      have HD := Lib.hid HN.out.drew
      refine alongL_step rfl (fun K hK => ?_)
      go_simp
      refine (rtext13_any _ _).mono ?_
      rintro e x0 ⟨rfl, hb⟩
      have HE0 := Lib.hid (HD.out.behind hb)
      refine hK.out _ _ HE0.out ?_
      clear hK K hb
      try simp only [Act.put, List.setIfInBounds_toArray, List.set_cons_zero, List.set_cons_succ]
      refine alongL_step rfl (fun K hK => ?_)
      go_simp
      refine (HE0.out.leaf (by omega) (by omega) o6 N4.out rfl (by show (1 : Nat) ≤ 1000; omega)).mono ?_
      rintro e w1 ⟨Ak, ck, At, ct, rfl, h1, hp1, _⟩
      have HS := Lib.hid h1
      have HPs := Lib.hid hp1
      refine hK.out _ _ h1 ?_
      clear hK K h1 hp1
      try simp only [Act.put, List.setIfInBounds_toArray, List.set_cons_zero, List.set_cons_succ]
      refine alongL_last rfl (fun K hK => ?_)
      refine step_store_whole rfl rfl rfl rfl rfl HS.out.tr (treeI rfl) rfl (by simp [Value.oneCell']) ?_
      refine hK.out _ _ ?_
      clear hK K
      go_wp2_with fail
      go_meet
      exact ⟨rfl, _, _, Lib.hid (HS.out.put HPs.out)⟩
  case rest =>
  clear c0 c1 c2 c3 c4 c5 c6 c7 c8 c9 c10 d0 d1 d2 d3 d4 HN
  obtain ⟨rfl, vk, vt, HN⟩ := hcut
  have t5 := z5.out
  obtain ⟨c0, c1, c2, c3, c4, c5, c6, c7, c8, c9, c10⟩ := HN.out.box.cells
  obtain ⟨d0, d1, d2, d3, d4⟩ := HN.out.cells
  go_upto_region 10 with fail
  go_cut [49] from 8 (fun s49 wx => s49 = Value.bool q5 ∧ wx = wc)
  case first =>
    by_cases h1 : 0 < m.pid
    · have e : q5 = true := by rw [← z5.out]; simp [h1]
      go_wp2_with fail
      go_meet
      exact ⟨by rw [e], rfl⟩
    · by_cases h2 : 0 < m.pad
      · have e : q5 = true := by rw [← z5.out]; simp [h2]
        go_wp2_with fail
        go_meet
        exact ⟨by rw [e], rfl⟩
      · have e : q5 = false := by rw [← z5.out]; simp [h1, h2]
        go_wp2_with fail
        go_meet
        exact ⟨by rw [e], rfl⟩
  case rest =>
  obtain ⟨rfl, rfl⟩ := hcut
  go_upto_if 49 with fail
  go_cut [0, 2] from 8 (fun s0 s2 wx => s2 = .pointer (some ⟨r, 0, none⟩) ∧ ∃ vk vt, Hid (Tt w b r g m (.slice Ap m.peers.length cp) (.slice Aq m.pairs.length cq) T5 vk vt wx))
  case first =>
    cases q5
    case' false =>
      have HT := N5.out.no rfl
      subst HT
      go_wp2_with fail
      go_meet
      exact ⟨rfl, _, _, HN⟩
    case' true =>
      go_wp2_with fail
      refine wp_region_last (S := fun W => Tt w b r g m (.slice Ap m.peers.length cp) (.slice Aq m.pairs.length cq) T4 vk vt W) 6 [(0, true), (1, true), (2, true), (3, false), (4, false), (5, false), (6, false)] (by kernel_rfl) (by kernel_rfl) rfl (by kernel_rfl) (by rfl) (fun _ _ _ _ _ h => h) HN.out.drew ?_
      clear c0 c1 c2 c3 c4 c5 c6 c7 c8 c9 c10 d0 d1 d2 d3 d4
      iterate 3
        refine alongL_take (v := ?_) rfl (by rfl) ?_ ?_
        rotate_left
        · intro W hW; have hW' : Tt w b r g m (.slice Ap m.peers.length cp) (.slice Aq m.pairs.length cq) T4 vk vt W := hW; obtain ⟨d0, d1, d2, d3, d4⟩ := hW'.cells; obtain ⟨c0, c1, c2, c3, c4, c5, c6, c7, c8, c9, c10⟩ := hW'.box.cells; clear hW hW'; go_simp; try with_reducible rfl
        simp only [Act.put, List.setIfInBounds_toArray, List.set_cons_zero, List.set_cons_succ]
      have HD := Lib.hid HN.out.drew
      refine alongL_step rfl (fun K hK => ?_)
      go_simp
      refine (rpeer13_any (m.pid, m.pad) o4 o5 _).mono ?_
      rintro e x0 ⟨rfl, hb⟩
      have HE0 := Lib.hid (HD.out.behind hb)
      refine hK.out _ _ HE0.out ?_
      clear hK K hb
      try simp only [Act.put, List.setIfInBounds_toArray, List.set_cons_zero, List.set_cons_succ]
      refine alongL_step rfl (fun K hK => ?_)
      go_simp
      refine (rtext13_any _ _).mono ?_
      rintro e x1 ⟨rfl, hb⟩
      have HE1 := Lib.hid (HE0.out.behind hb)
      refine hK.out _ _ HE1.out ?_
      clear hK K hb
      try simp only [Act.put, List.setIfInBounds_toArray, List.set_cons_zero, List.set_cons_succ]
      refine alongL_step rfl (fun K hK => ?_)
      go_simp
      refine (HE1.out.leaf (by omega) (by omega) (by rw [zO.out]; unfold maxLen; omega) N5.out rfl (by show (1 : Nat) ≤ 1000; omega)).mono ?_
      rintro e w1 ⟨Ak, ck, At, ct, rfl, h1, hp1, _⟩
      have HS := Lib.hid h1
      have HPs := Lib.hid hp1
      refine hK.out _ _ h1 ?_
      clear hK K h1 hp1
      try simp only [Act.put, List.setIfInBounds_toArray, List.set_cons_zero, List.set_cons_succ]
      refine alongL_last rfl (fun K hK => ?_)
      refine step_store_whole rfl rfl rfl rfl rfl HS.out.tr (treeI rfl) rfl (by simp [Value.oneCell']) ?_
      refine hK.out _ _ ?_
      clear hK K
      go_wp2_with fail
      go_meet
      exact ⟨rfl, _, _, Lib.hid (HS.out.put HPs.out)⟩
  case rest =>
  clear c0 c1 c2 c3 c4 c5 c6 c7 c8 c9 c10 d0 d1 d2 d3 d4 HN
  obtain ⟨rfl, vk, vt, HN⟩ := hcut
  obtain ⟨c0, c1, c2, c3, c4, c5, c6, c7, c8, c9, c10⟩ := HN.out.box.cells
  obtain ⟨d0, d1, d2, d3, d4⟩ := HN.out.cells
  obtain ⟨gl, w5, hgl, hal5, hL, hbl, hsl⟩ := var_tree wc
  obtain ⟨w6, hst6⟩ : ∃ W, w5.setRow gl #[.int .i64 3, .int .i64 0, .string ⟨#[]⟩, .slice none 0 0, .slice none 0 0] = W := ⟨_, rfl⟩
  have hggl : g < gl := by rw [← hgl]; exact HN.out.tr.lt
  have HBl : Hid (Below gl wc w6) := Lib.hid (by rw [← hst6]; exact below_row hbl (Nat.le_refl _) _)
  have HNl : Hid (∀ W, Below gl wc W → Tt w b r g m (.slice Ap m.peers.length cp) (.slice Aq m.pairs.length cq) T5 vk vt W) := Lib.hid (fun W hW => HN.out.behind (by rw [hgl]; exact hW))
  have HI0 : Hid (Lst w r gl 3 [] [] (.slice none 0 0) (.slice none 0 0) w6) := Lib.hid (Lst.start (HNl.out w6 HBl.out).low (HNl.out w6 HBl.out).res (by rw [← hst6]; exact hL.row _) ⟨by omega, by omega⟩)
  have HL := Lib.hid hL
  clear hL hbl hsl c0 c1 c2 c3 c4 c5 c6 c7 c8 c9 c10 d0 d1 d2 d3 d4
  go_upto_region 13 with (refine wpList_store_whole rfl rfl rfl rfl rfl HL.out (treeI rfl) rfl (by simp [Value.oneCell']) ?_; rw [hst6])
  clear hgl hal5 hst6
  go_wp2_with fail
  go_loopw [5] (fun i wr => ∃ (j : Nat) (L : List Tq) (vl : Value), i = .int .i64 (j : Int) ∧ j ≤ m.peers.length ∧ Hid (L.length = j) ∧ Hid (Lst w r gl 3 [] L (.slice none 0 0) vl wr) ∧ Hid (L.map (·.1) = (m.peers.take j).map Dm.peerT) ∧ Hid (Below gl wc wr)) (fun i _ => m.peers.length - (intOf i).toNat)
  case atStart => exact ⟨0, [], .slice none 0 0, rfl, Nat.zero_le _, Lib.hid rfl, HI0, Lib.hid rfl, HBl⟩
  case round =>
    obtain ⟨j, L, vl, rfl, hj, hLj, HI, HM, HB⟩ := hrel
    clear HI0
    have HNr := Lib.hid (HNl.out wr HB.out)
    obtain ⟨c0, c1, c2, c3, c4, c5, c6, c7, c8, c9, c10⟩ := HNr.out.box.cells
    clear c0 c1 c2 c3 c4 c5 c6 c7 c8 c10
    by_cases hlt : j < m.peers.length
    · have hlt' : (j : Int) < (m.peers.length : Int) := by omega
      obtain ⟨bp, op, hAp, hbp, e0, e1⟩ := HTP.out.at_ hlt
      obtain ⟨p1, p2, hpj⟩ : ∃ p1 p2, m.peers[j] = (p1, p2) := ⟨_, _, rfl⟩
      have hpb := OK.out.peers _ (List.getElem_mem hlt)
      rw [hpj] at e0 e1 hpb
      have hpb1 : p1 < 18446744073709551616 := hpb.1
      have hpb2 : p2 < 65536 := hpb.2
      have HE0 : Hid (∀ W, Below gl wc W → W.cell? ⟨bp, op + j * 2, none⟩ = some (.int .u64 (p1 : Int)) ∧ W.cell? ⟨bp, op + j * 2 + 1, none⟩ = some (.int .u16 (p2 : Int))) := Lib.hid (fun W hW => by have h := (HNl.out W hW).box.peer_at hlt hAp; rw [hpj] at h; exact h)
      have HCM : Hid (∀ W, Below gl wc W → W.cell? ⟨b, 9, none⟩ = some (.slice (some ⟨bp, op, none⟩) m.peers.length cp)) := Lib.hid (fun W hW => by
        obtain ⟨_, _, _, _, _, _, _, _, _, c9, _⟩ := (HNl.out W hW).box.cells
        rw [hAp] at c9
        exact c9)
      obtain ⟨A, c0, rfl, hc1, hc2, hc3, _⟩ := own_look HI.out.kids
      have t4 := HI.out.tree.at_ 4
      simp at t4
      obtain ⟨vl, hvl⟩ : ∃ v, Hid (Value.slice A L.length c0 = v) := ⟨_, Lib.hid rfl⟩
      rw [hAp] at c9
      have HMn : Hid ((L ++ [(Dm.peerT (p1, p2), Value.slice none 0 0, Value.slice none 0 0)]).map (·.1) = (m.peers.take (j + 1)).map Dm.peerT) := Lib.hid (by
        rw [List.map_append, HM.out, List.take_succ_eq_append_getElem hlt, List.map_append, hpj]; rfl)
      clear hpb e0 e1 hpj hAp hbp
      go_wp2_with fail
      refine wp_region_last (S := fun W => Below gl wc W ∧ W.cell? ⟨gl, 4, none⟩ = some (Value.slice A L.length c0)) 12 [(0, true), (1, true), (2, true), (3, true), (4, true), (5, true), (6, true), (7, false), (8, false), (9, false), (10, false), (11, true), (12, false)] (by kernel_rfl) (by kernel_rfl) rfl (by kernel_rfl) (by rfl) (fun _ _ _ _ _ h => h) ⟨HB.out.drew, by rw [← t4]; rfl⟩ ?_
      iterate 7
        refine alongL_take (v := ?_) rfl (by rfl) ?_ ?_
        rotate_left
        · intro W hW; have e4 := hW.2; have hcm := HCM.out W hW.1; obtain ⟨e0, e1⟩ := HE0.out W hW.1; clear hW; go_simp; try with_reducible rfl
        simp only [Act.put, List.setIfInBounds_toArray, List.set_cons_zero, List.set_cons_succ]
      have HId := Lib.hid (HI.out.behind (Below.refl _ _).drew)
      have HBd := Lib.hid HB.out.drew
      refine alongL_step rfl (fun K hK => ?_)
      go_simp
      refine (rpeer13_any (p1, p2) hpb1 hpb2 _).mono ?_
      rintro e x1 ⟨rfl, hb⟩
      have HIa := Lib.hid (HId.out.behind hb)
      have HBa := Lib.hid (HBd.out.trans (hb.mono (by have := HId.out.tree.lt; omega)))
      have d4 := HIa.out.tree.at_ 4
      simp at d4
      refine hK.out _ _ ⟨HBa.out, d4⟩ ?_
      clear hK K hb d4
      try simp only [Act.put, List.setIfInBounds_toArray, List.set_cons_zero, List.set_cons_succ]
      refine alongL_step rfl (fun K hK => ?_)
      go_simp
      refine (rtext13_any _ _).mono ?_
      rintro e x2 ⟨rfl, hb⟩
      have HIb := Lib.hid (HIa.out.behind hb)
      have HBb := Lib.hid (HBa.out.trans (hb.mono (by have := HIa.out.tree.lt; omega)))
      have d4 := HIb.out.tree.at_ 4
      simp at d4
      refine hK.out _ _ ⟨HBb.out, d4⟩ ?_
      clear hK K hb d4
      try simp only [Act.put, List.setIfInBounds_toArray, List.set_cons_zero, List.set_cons_succ]
      refine alongL_step rfl (fun K hK => ?_)
      go_simp
      obtain ⟨z, hz⟩ : ∃ z, x2.heap.size = z := ⟨_, rfl⟩
      obtain ⟨wa, hala⟩ : ∃ wa, x2.alloc (.cells #[.int .i64 2, .int .i64 0, .string (Dm.peerS (p1, p2)), .slice none 0 0, .slice none 0 0] 25) = wa := ⟨_, rfl⟩
      have hBa : Below x2.heap.size x2 wa := by rw [hz, ← hala]; exact below_lit _ hz _
      have HSa : Hid (Src wa (some ⟨z, 0, none⟩) (five [(Dm.peerT (p1, p2), .slice none 0 0, .slice none 0 0)])) := Lib.hid (by rw [← hala]; exact src_lit _ hz _)
      have HIc := Lib.hid (HIb.out.behind hBa)
      have HBc := Lib.hid (HBb.out.trans (hBa.mono (by have := HIb.out.tree.lt; omega)))
      have d4 := HIc.out.tree.at_ 4
      simp at d4
      rw [hala]
      try rw [hz]
      refine hK.out _ _ ⟨HBc.out, d4⟩ ?_
      clear hK K hBa d4 hala
      try simp only [Act.put, List.setIfInBounds_toArray, List.set_cons_zero, List.set_cons_succ]
      refine alongL_step rfl (fun K hK => ?_)
      have hgb : gl + 1 ≤ wa.heap.size := HIc.out.tree.lt
      refine step_append_cells Tryz.underlying23 treeZ rfl (by decide) (by decide) _ _ rfl rfl (gl + 1) (.slice A L.length c0) L.length _ rfl HIc.out.kids 1 1 (five [(Dm.peerT (p1, p2), .slice none 0 0, .slice none 0 0)]) rfl rfl (fun h => by cases h) (Nat.le_refl _) HSa.out (by simp [five, Value.oneCell']) (by have := hLj.out; omega) hgb ?_
      intro v7 w7 ho7 hg7 hv7
      obtain ⟨g7, c7, rfl, hg7a, hg7b⟩ := ho7.form (by omega)
      have hT7 := whole_grown12 HIc.out.tree hg7 (fun e => by have := (HIc.out.gq e.symm).1; omega)
      have f7 := hT7.free 4
      have d7 := hT7.at_ 4
      simp at d7
      have hB7 : Below gl wc w7 := HBc.out.grown hg7 (by omega) (fun b e => by have := HIc.out.gq e; omega)
      refine hK.out _ _ ⟨hB7, d7⟩ ?_
      clear hK K
      try simp only [Act.put, List.setIfInBounds_toArray, List.set_cons_zero, List.set_cons_succ]
      refine alongL_take (v := ?_) rfl (by rfl) ?_ ?_
      rotate_left
      · intro W hW; clear hW; go_simp; try with_reducible rfl
      simp only [Act.put, List.setIfInBounds_toArray, List.set_cons_zero, List.set_cons_succ]
      refine alongL_last rfl (fun K hK => ?_)
      go_simp
      refine hK.out _ _ ?_
      clear hK K
      have HF := Lib.hid (HIc.out.kid (x := Dm.peerT (p1, p2)) (Tp.leaf _ _ (by omega) (by omega) (by show (Dm.peerS (p1, p2)).size ≤ maxLen; unfold Dm.peerS maxLen; rw [strOf_size, List.length_append, Bm.fix_length, Bm.fix_length]; omega)) (by rw [five_append, List.length_append]; exact ho7) hg7 hv7)
      have HB8 : Hid (Below gl wc (w7.setCell ⟨gl, 4, none⟩ (.slice (some ⟨g7, 0, none⟩) (L.length + 1) c7))) := Lib.hid (hB7.setCell (p := ⟨gl, 4, none⟩) (Nat.le_refl _) _)
      clear f7 d7 hT7 ho7 hg7 hv7 hB7 hg7a hg7b hz
      go_wp2_with fail
      go_roundw
      case rel => exact ⟨j + 1, _, _, by go_num, by omega, Lib.hid (by rw [List.length_append, List.length_singleton, hLj.out]), HF, HMn, HB8⟩
      case measure => simp [intOf]; omega
    · have hjn : j = m.peers.length := by omega
      subst hjn
      rw [List.take_length] at HM
      have HN := HNr
      clear HNr
      have HX := Lib.hid (HI.out.here (Or.inl rfl))
      rw [HM.out] at HX
      obtain ⟨A, c0l, rfl, _, _, _, _⟩ := own_look HI.out.kids
      have C6 := Lib.hid (fun h => HN.out.set (HX.out.any (fun y hy => by omega)) N6.out h (by show (1 : Nat) ≤ 1000; omega))
      have l0 := HI.out.tree.at_ 0
      have l1 := HI.out.tree.at_ 1
      have l2 := HI.out.tree.at_ 2
      have l3 := HI.out.tree.at_ 3
      have l4 := HI.out.tree.at_ 4
      simp at l0 l1 l2 l3 l4
      have t6 : decide (0 < m.peers.length) = q6 := z6.out.symm
      obtain ⟨c0, c1, c2, c3, c4, c5, c6, c7, c8, c9, c10⟩ := HN.out.box.cells
      obtain ⟨d0, d1, d2, d3, d4⟩ := HN.out.cells
      go_upto_if 79 with fail
      go_cut [0, 2] from 8 (fun s0 s2 wx => s2 = .pointer (some ⟨r, 0, none⟩) ∧ ∃ vk vt, Hid (Tt w b r g m (.slice Ap m.peers.length cp) (.slice Aq m.pairs.length cq) T6 vk vt wx))
      case first =>
        cases q6
        case' false =>
          have HT := N6.out.no rfl
          subst HT
          go_wp2_with fail
          go_meet
          exact ⟨rfl, _, _, HN⟩
        case' true =>
          go_wp2_with fail
          refine (C6.out (by first | rfl | trivial)).mono ?_
          rintro e w1 ⟨Ak, ck, At, ct, rfl, h1, hp1, _⟩
          have HS := Lib.hid h1
          have HPs := Lib.hid hp1
          clear h1 hp1
          go_wp2_with (first | (refine wpList_store_whole rfl rfl rfl rfl rfl HS.out.tr (treeI rfl) rfl (by simp [Value.oneCell']) ?_))
          go_meet
          exact ⟨rfl, _, _, Lib.hid (HS.out.put HPs.out)⟩
      case rest =>
      clear l0 l1 l2 l3 l4 HX C6 HI HM
      clear c0 c1 c2 c3 c4 c5 c6 c7 c8 c9 c10 d0 d1 d2 d3 d4 HN
      obtain ⟨rfl, vk, vt, HN⟩ := hcut
      obtain ⟨c0, c1, c2, c3, c4, c5, c6, c7, c8, c9, c10⟩ := HN.out.box.cells
      obtain ⟨d0, d1, d2, d3, d4⟩ := HN.out.cells
      go_wp2_with fail
      refine wp_region_last (S := fun W => Tt w b r g m (.slice Ap m.peers.length cp) (.slice Aq m.pairs.length cq) T6 vk vt W) 6 [(0, true), (1, true), (2, true), (3, false), (4, false), (5, false), (6, false)] (by kernel_rfl) (by kernel_rfl) rfl (by kernel_rfl) (by rfl) (fun _ _ _ _ _ h => h) HN.out.drew ?_
      clear c0 c1 c2 c3 c4 c5 c6 c7 c8 c9 c10 d0 d1 d2 d3 d4
      iterate 3
        refine alongL_take (v := ?_) rfl (by rfl) ?_ ?_
        rotate_left
        · intro W hW; have hW' : Tt w b r g m (.slice Ap m.peers.length cp) (.slice Aq m.pairs.length cq) T6 vk vt W := hW; obtain ⟨d0, d1, d2, d3, d4⟩ := hW'.cells; obtain ⟨c0, c1, c2, c3, c4, c5, c6, c7, c8, c9, c10⟩ := hW'.box.cells; clear hW hW'; go_simp; try with_reducible rfl
        simp only [Act.put, List.setIfInBounds_toArray, List.set_cons_zero, List.set_cons_succ]
      have HD := Lib.hid HN.out.drew
      refine alongL_step rfl (fun K hK => ?_)
      go_simp
      refine (rname_any m.kind o8 _).mono ?_
      rintro e x0 ⟨rfl, hb⟩
      have HE0 := Lib.hid (HD.out.behind hb)
      refine hK.out _ _ HE0.out ?_
      clear hK K hb
      try simp only [Act.put, List.setIfInBounds_toArray, List.set_cons_zero, List.set_cons_succ]
      refine alongL_step rfl (fun K hK => ?_)
      go_simp
      refine (rtext13_any _ _).mono ?_
      rintro e x1 ⟨rfl, hb⟩
      have HE1 := Lib.hid (HE0.out.behind hb)
      refine hK.out _ _ HE1.out ?_
      clear hK K hb
      try simp only [Act.put, List.setIfInBounds_toArray, List.set_cons_zero, List.set_cons_succ]
      refine alongL_step rfl (fun K hK => ?_)
      go_simp
      refine (HE1.out.leaf (by omega) (by omega) (by have := zQ.out; unfold maxLen; omega) N7.out rfl (by show (1 : Nat) ≤ 1000; omega)).mono ?_
      rintro e w1 ⟨Ak, ck, At, ct, rfl, h1, hp1, _⟩
      have HS := Lib.hid h1
      have HPs := Lib.hid hp1
      refine hK.out _ _ h1 ?_
      clear hK K h1 hp1
      try simp only [Act.put, List.setIfInBounds_toArray, List.set_cons_zero, List.set_cons_succ]
      refine alongL_last rfl (fun K hK => ?_)
      refine step_store_whole rfl rfl rfl rfl rfl HS.out.tr (treeI rfl) rfl (by simp [Value.oneCell']) ?_
      refine hK.out _ _ ?_
      clear hK K
      obtain ⟨W7, hW7⟩ : ∃ W, w1.setRow g #[.int .i64 T7.kind, .int .i64 T7.n, .string T7.s, .slice Ak T7.keys.length ck, .slice At T7.kids.length ct] = W := ⟨_, rfl⟩
      have HN7 := Lib.hid (HS.out.put HPs.out)
      rw [hW7] at HN7 ⊢
      clear hW7 HS HPs HN
      obtain ⟨vk, vt, HN⟩ : ∃ vk vt, Hid (Tt w b r g m (.slice Ap m.peers.length cp) (.slice Aq m.pairs.length cq) T7 vk vt W7) := ⟨_, _, HN7⟩
      clear HN7
      have t8 : decide (0 < m.rid) = q8 := z8.out.symm
      obtain ⟨c0, c1, c2, c3, c4, c5, c6, c7, c8, c9, c10⟩ := HN.out.box.cells
      obtain ⟨d0, d1, d2, d3, d4⟩ := HN.out.cells
      go_upto_if 91 with fail
      go_cut [0, 2] from 8 (fun s0 s2 wx => s2 = .pointer (some ⟨r, 0, none⟩) ∧ ∃ vk vt, Hid (Tt w b r g m (.slice Ap m.peers.length cp) (.slice Aq m.pairs.length cq) T8 vk vt wx))
      case first =>
        cases q8
        case' false =>
          have HT := N8.out.no rfl
          subst HT
          go_wp2_with fail
          go_meet
          exact ⟨rfl, _, _, HN⟩
        case' true =>
          go_wp2_with fail
          refine (HN.out.leaf (by omega) (by omega) (by show (0 : Nat) ≤ maxLen; omega) N8.out rfl (by show (1 : Nat) ≤ 1000; omega)).mono ?_
          rintro e w1 ⟨Ak, ck, At, ct, rfl, h1, hp1, _⟩
          have HS := Lib.hid h1
          have HPs := Lib.hid hp1
          clear h1 hp1
          go_wp2_with (first | (refine wpList_store_whole rfl rfl rfl rfl rfl HS.out.tr (treeI rfl) rfl (by simp [Value.oneCell']) ?_))
          go_meet
          exact ⟨rfl, _, _, Lib.hid (HS.out.put HPs.out)⟩
      case rest =>
      clear c0 c1 c2 c3 c4 c5 c6 c7 c8 c9 c10 d0 d1 d2 d3 d4 HN
      obtain ⟨rfl, vk, vt, HN⟩ := hcut
      obtain ⟨c0, c1, c2, c3, c4, c5, c6, c7, c8, c9, c10⟩ := HN.out.box.cells
      obtain ⟨d0, d1, d2, d3, d4⟩ := HN.out.cells
      obtain ⟨gl, w5, hgl, hal5, hL, hbl, hsl⟩ := var_tree wc
      obtain ⟨w6, hst6⟩ : ∃ W, w5.setRow gl #[.int .i64 3, .int .i64 0, .string ⟨#[]⟩, .slice none 0 0, .slice none 0 0] = W := ⟨_, rfl⟩
      have hggl : g < gl := by rw [← hgl]; exact HN.out.tr.lt
      have HBl : Hid (Below gl wc w6) := Lib.hid (by rw [← hst6]; exact below_row hbl (Nat.le_refl _) _)
      have HNl : Hid (∀ W, Below gl wc W → Tt w b r g m (.slice Ap m.peers.length cp) (.slice Aq m.pairs.length cq) T8 vk vt W) := Lib.hid (fun W hW => HN.out.behind (by rw [hgl]; exact hW))
      have HI0 : Hid (Lst w r gl 3 [] [] (.slice none 0 0) (.slice none 0 0) w6) := Lib.hid (Lst.start (HNl.out w6 HBl.out).low (HNl.out w6 HBl.out).res (by rw [← hst6]; exact hL.row _) ⟨by omega, by omega⟩)
      have HL := Lib.hid hL
      clear hL hbl hsl c0 c1 c2 c3 c4 c5 c6 c7 c8 c9 c10 d0 d1 d2 d3 d4
      go_upto_region 23 with (refine wpList_store_whole rfl rfl rfl rfl rfl HL.out (treeI rfl) rfl (by simp [Value.oneCell']) ?_; rw [hst6])
      clear hgl hal5 hst6
      go_wp2_with fail
      go_loopw [7] (fun i wr => ∃ (j : Nat) (L : List Tq) (vl : Value), i = .int .i64 (j : Int) ∧ j ≤ m.pairs.length ∧ Hid (L.length = j) ∧ Hid (Lst w r gl 3 [] L (.slice none 0 0) vl wr) ∧ Hid (L.map (·.1) = (m.pairs.take j).map Dm.pairT) ∧ Hid (Below gl wc wr)) (fun i _ => m.pairs.length - (intOf i).toNat)
      case atStart => exact ⟨0, [], .slice none 0 0, rfl, Nat.zero_le _, Lib.hid rfl, HI0, Lib.hid rfl, HBl⟩
      case round =>
        obtain ⟨j, L, vl, rfl, hj, hLj, HI, HM, HB⟩ := hrel
        clear HI0
        have HNr := Lib.hid (HNl.out wr HB.out)
        obtain ⟨c0, c1, c2, c3, c4, c5, c6, c7, c8, c9, c10⟩ := HNr.out.box.cells
        clear c0 c1 c2 c3 c4 c5 c6 c7 c8 c9
        by_cases hlt : j < m.pairs.length
        · have hlt' : (j : Int) < (m.pairs.length : Int) := by omega
          obtain ⟨bp, op, hAp, hbp, e0, e1⟩ := HTQ.out.at_ hlt
          obtain ⟨p1, p2, hpj⟩ : ∃ p1 p2, m.pairs[j] = (p1, p2) := ⟨_, _, rfl⟩
          have hpb := OK.out.pairs _ (List.getElem_mem hlt)
          rw [hpj] at e0 e1 hpb
          have hpb1 : Hid (p1.size ≤ maxLen) := Lib.hid hpb.1
          have hpb2 : Hid (p2.size ≤ maxLen) := Lib.hid hpb.2
          have HE0 : Hid (∀ W, Below gl wc W → W.cell? ⟨bp, op + j * 2, none⟩ = some (.string p1) ∧ W.cell? ⟨bp, op + j * 2 + 1, none⟩ = some (.string p2)) := Lib.hid (fun W hW => by have h := (HNl.out W hW).box.pair_at hlt hAp; rw [hpj] at h; exact h)
          have HCM : Hid (∀ W, Below gl wc W → W.cell? ⟨b, 10, none⟩ = some (.slice (some ⟨bp, op, none⟩) m.pairs.length cq)) := Lib.hid (fun W hW => by
            obtain ⟨_, _, _, _, _, _, _, _, _, _, c10⟩ := (HNl.out W hW).box.cells
            rw [hAp] at c10
            exact c10)
          obtain ⟨A, c0, rfl, hc1, hc2, hc3, _⟩ := own_look HI.out.kids
          have t4 := HI.out.tree.at_ 4
          simp at t4
          rw [hAp] at c10
          have HMn : Hid (∀ xq : Value, (L ++ [(Dm.pairT (p1, p2), Value.slice none 0 0, xq)]).map (·.1) = (m.pairs.take (j + 1)).map Dm.pairT) := Lib.hid (fun xq => by
            rw [List.map_append, HM.out, List.take_succ_eq_append_getElem hlt, List.map_append, hpj]; rfl)
          clear hpb e0 e1 hpj hAp hbp
          go_wp2_with fail
          refine wp_region_last (S := fun W => Below gl wc W ∧ W.cell? ⟨gl, 4, none⟩ = some (Value.slice A L.length c0)) 21 [(0, true), (1, true), (2, true), (3, true), (4, true), (5, true), (6, true), (7, true), (9, true), (10, true), (11, true), (12, true), (13, true), (14, true), (8, false), (15, false), (16, false), (17, true), (18, false), (19, false), (20, true), (21, false)] (by kernel_rfl) (by kernel_rfl) rfl (by kernel_rfl) (by rfl) (fun _ _ _ _ _ h => h) ⟨HB.out.drew, by rw [← t4]; rfl⟩ ?_
          iterate 14
            refine alongL_take (v := ?_) rfl (by rfl) ?_ ?_
            rotate_left
            · intro W hW; have e4 := hW.2; have hcm := HCM.out W hW.1; obtain ⟨e0, e1⟩ := HE0.out W hW.1; clear hW; go_simp; try with_reducible rfl
            simp only [Act.put, List.setIfInBounds_toArray, List.set_cons_zero, List.set_cons_succ]
          have HId := Lib.hid (HI.out.behind (Below.refl _ _).drew)
          have HBd := Lib.hid HB.out.drew
          refine alongL_step rfl (fun K hK => ?_)
          go_simp
          refine (rtext13_any _ _).mono ?_
          rintro e x1 ⟨rfl, hb⟩
          have HIa := Lib.hid (HId.out.behind hb)
          have HBa := Lib.hid (HBd.out.trans (hb.mono (by have := HId.out.tree.lt; omega)))
          have d4 := HIa.out.tree.at_ 4
          simp at d4
          refine hK.out _ _ ⟨HBa.out, d4⟩ ?_
          clear hK K hb d4
          try simp only [Act.put, List.setIfInBounds_toArray, List.set_cons_zero, List.set_cons_succ]
          refine alongL_step rfl (fun K hK => ?_)
          go_simp
          refine (rtext13_any _ _).mono ?_
          rintro e x2 ⟨rfl, hb⟩
          have HIb := Lib.hid (HIa.out.behind hb)
          have HBb := Lib.hid (HBa.out.trans (hb.mono (by have := HIa.out.tree.lt; omega)))
          have d4 := HIb.out.tree.at_ 4
          simp at d4
          refine hK.out _ _ ⟨HBb.out, d4⟩ ?_
          clear hK K hb d4
          try simp only [Act.put, List.setIfInBounds_toArray, List.set_cons_zero, List.set_cons_succ]
          refine alongL_step rfl (fun K hK => ?_)
          go_simp
          obtain ⟨z, hz⟩ : ∃ z, x2.heap.size = z := ⟨_, rfl⟩
          obtain ⟨wa, hala⟩ : ∃ wa, x2.alloc (.cells #[.int .i64 2, .int .i64 0, .string p1, .slice none 0 0, .slice none 0 0, .int .i64 2, .int .i64 0, .string p2, .slice none 0 0, .slice none 0 0] 25) = wa := ⟨_, rfl⟩
          have hBa : Below x2.heap.size x2 wa := by rw [hz, ← hala]; exact below_lit _ hz _
          have HOa : Hid (wa.ownsRow z 25 5 (.slice (some ⟨z, 0, none⟩) 2 2) 2 (five [(Dm.text p1, .slice none 0 0, .slice none 0 0), (Dm.text p2, .slice none 0 0, .slice none 0 0)])) := Lib.hid (by rw [← hala]; exact own_two13 _ hz _ rfl)
          have HIc := Lib.hid (HIb.out.behind hBa)
          have HBc := Lib.hid (HBb.out.trans (hBa.mono (by have := HIb.out.tree.lt; omega)))
          have hza : z < wa.heap.size := by rw [← hala]; simp; omega
          have hglz : gl < z := by rw [← hz]; exact HIb.out.tree.lt
          have hne : Hid (∀ q, (Value.slice A L.length c0).ownBlock = some q → q < z) := Lib.hid (fun q e => by rw [← hz]; exact (HIb.out.gq e).2)
          have d4 := HIc.out.tree.at_ 4
          simp at d4
          rw [hala]
          try rw [hz]
          refine hK.out _ _ ⟨HBc.out, d4⟩ ?_
          clear hK K hBa d4 hala
          try simp only [Act.put, List.setIfInBounds_toArray, List.set_cons_zero, List.set_cons_succ]
          refine alongL_take (v := ?_) rfl (by rfl) ?_ ?_
          rotate_left
          · intro W hW; clear hW; go_simp; try with_reducible rfl
          simp only [Act.put, List.setIfInBounds_toArray, List.set_cons_zero, List.set_cons_succ]
          refine alongL_step rfl (fun K hK => ?_)
          go_simp
          obtain ⟨y, hy⟩ : ∃ y, wa.heap.size = y := ⟨_, rfl⟩
          obtain ⟨wb, halb⟩ : ∃ wb, wa.alloc (.cells #[.int .i64 3, .int .i64 0, .string ⟨#[]⟩, .slice none 0 0, .slice (some ⟨z, 0, none⟩) 2 2] 25) = wb := ⟨_, rfl⟩
          have hBb : Below wa.heap.size wa wb := by rw [hy, ← halb]; exact below_lit _ hy _
          have HSa : Hid (Src wb (some ⟨y, 0, none⟩) (five [(Dm.pairT (p1, p2), .slice none 0 0, .slice (some ⟨z, 0, none⟩) 2 2)])) := Lib.hid (by rw [← halb]; exact src_lit _ hy _)
          have HOb := Lib.hid (own_below HOa.out hBb)
          have HIe := Lib.hid (HIc.out.behind hBb)
          have HBe := Lib.hid (HBc.out.trans (hBb.mono (by have := HIc.out.tree.lt; omega)))
          have HXe : Hid (Tp wb (fun q => gl < q ∧ (Value.slice none 0 0).ownBlock ≠ some q ∧ (Value.slice A L.length c0).ownBlock ≠ some q) (Dm.pairT (p1, p2)) (.slice none 0 0) (.slice (some ⟨z, 0, none⟩) 2 2)) := Lib.hid (pair_own13 HOb.out hpb1.out hpb2.out (fun q hq => ⟨by omega, (fun e => by cases e), (fun e => by have := hne.out q e; omega)⟩))
          have d4 := HIe.out.tree.at_ 4
          simp at d4
          rw [halb]
          try rw [hy]
          refine hK.out _ _ ⟨HBe.out, d4⟩ ?_
          clear hK K hBb d4 halb
          try simp only [Act.put, List.setIfInBounds_toArray, List.set_cons_zero, List.set_cons_succ]
          refine alongL_step rfl (fun K hK => ?_)
          have hgb : gl + 1 ≤ wb.heap.size := HIe.out.tree.lt
          refine step_append_cells Tryz.underlying23 treeZ rfl (by decide) (by decide) _ _ rfl rfl (gl + 1) (.slice A L.length c0) L.length _ rfl HIe.out.kids 1 1 (five [(Dm.pairT (p1, p2), .slice none 0 0, .slice (some ⟨z, 0, none⟩) 2 2)]) rfl rfl (fun h => by cases h) (Nat.le_refl _) HSa.out (by simp [five, Value.oneCell']) (by have := hLj.out; omega) hgb ?_
          intro v7 w7 ho7 hg7 hv7
          obtain ⟨g7, c7, rfl, hg7a, hg7b⟩ := ho7.form (by omega)
          have hT7 := whole_grown12 HIe.out.tree hg7 (fun e => by have := (HIe.out.gq e.symm).1; omega)
          have f7 := hT7.free 4
          have d7 := hT7.at_ 4
          simp at d7
          have hB7 : Below gl wc w7 := HBe.out.grown hg7 (by omega) (fun b e => by have := HIe.out.gq e; omega)
          refine hK.out _ _ ⟨hB7, d7⟩ ?_
          clear hK K
          try simp only [Act.put, List.setIfInBounds_toArray, List.set_cons_zero, List.set_cons_succ]
          refine alongL_take (v := ?_) rfl (by rfl) ?_ ?_
          rotate_left
          · intro W hW; clear hW; go_simp; try with_reducible rfl
          simp only [Act.put, List.setIfInBounds_toArray, List.set_cons_zero, List.set_cons_succ]
          refine alongL_last rfl (fun K hK => ?_)
          go_simp
          refine hK.out _ _ ?_
          clear hK K
          have HF := Lib.hid (HIe.out.kid (x := Dm.pairT (p1, p2)) HXe.out (by rw [five_append, List.length_append]; exact ho7) hg7 hv7)
          have HB8 : Hid (Below gl wc (w7.setCell ⟨gl, 4, none⟩ (.slice (some ⟨g7, 0, none⟩) (L.length + 1) c7))) := Lib.hid (hB7.setCell (p := ⟨gl, 4, none⟩) (Nat.le_refl _) _)
          have HMx := Lib.hid (HMn.out (.slice (some ⟨z, 0, none⟩) 2 2))
          clear f7 d7 hT7 ho7 hg7 hv7 hB7 hg7a hg7b hz hy
          go_wp2_with fail
          go_roundw
          case rel => exact ⟨j + 1, _, _, by go_num, by omega, Lib.hid (by rw [List.length_append, List.length_singleton, hLj.out]), HF, HMx, HB8⟩
          case measure => simp [intOf]; omega
        · have hjn : j = m.pairs.length := by omega
          subst hjn
          rw [List.take_length] at HM
          have HN := HNr
          clear HNr
          have HX := Lib.hid (HI.out.here (Or.inl rfl))
          rw [HM.out] at HX
          obtain ⟨A, c0l, rfl, _, _, _, _⟩ := own_look HI.out.kids
          have C9 := Lib.hid (fun h => HN.out.set (HX.out.any (fun y hy => by omega)) N9.out h (by show (1 : Nat) ≤ 1000; omega))
          have l0 := HI.out.tree.at_ 0
          have l1 := HI.out.tree.at_ 1
          have l2 := HI.out.tree.at_ 2
          have l3 := HI.out.tree.at_ 3
          have l4 := HI.out.tree.at_ 4
          simp at l0 l1 l2 l3 l4
          have t9 : decide (0 < m.pairs.length) = q9 := z9.out.symm
          obtain ⟨c0, c1, c2, c3, c4, c5, c6, c7, c8, c9, c10⟩ := HN.out.box.cells
          obtain ⟨d0, d1, d2, d3, d4⟩ := HN.out.cells
          go_upto_if 130 with fail
          go_cut [0, 2] from 8 (fun s0 s2 wx => s2 = .pointer (some ⟨r, 0, none⟩) ∧ ∃ vk vt, Hid (Tt w b r g m (.slice Ap m.peers.length cp) (.slice Aq m.pairs.length cq) T9 vk vt wx))
          case first =>
            cases q9
            case' false =>
              have HT := N9.out.no rfl
              subst HT
              go_wp2_with fail
              go_meet
              exact ⟨rfl, _, _, HN⟩
            case' true =>
              go_wp2_with fail
              refine (C9.out (by first | rfl | trivial)).mono ?_
              rintro e w1 ⟨Ak, ck, At, ct, rfl, h1, hp1, _⟩
              have HS := Lib.hid h1
              have HPs := Lib.hid hp1
              clear h1 hp1
              go_wp2_with (first | (refine wpList_store_whole rfl rfl rfl rfl rfl HS.out.tr (treeI rfl) rfl (by simp [Value.oneCell']) ?_))
              go_meet
              exact ⟨rfl, _, _, Lib.hid (HS.out.put HPs.out)⟩
          case rest =>
          clear l0 l1 l2 l3 l4 HX C9 HI HM
          clear c0 c1 c2 c3 c4 c5 c6 c7 c8 c9 c10 d0 d1 d2 d3 d4 HN
          obtain ⟨rfl, vk, vt, HN⟩ := hcut
          have t10 := z10.out
          obtain ⟨c0, c1, c2, c3, c4, c5, c6, c7, c8, c9, c10⟩ := HN.out.box.cells
          obtain ⟨d0, d1, d2, d3, d4⟩ := HN.out.cells
          go_upto_if 136 with fail
          go_cut [0, 2] from 8 (fun s0 s2 wx => s2 = .pointer (some ⟨r, 0, none⟩) ∧ ∃ vk vt, Hid (Tt w b r g m (.slice Ap m.peers.length cp) (.slice Aq m.pairs.length cq) T10 vk vt wx))
          case first =>
            cases q10
            case' false =>
              have HT := N10.out.no rfl
              subst HT
              go_wp2_with fail
              go_meet
              exact ⟨rfl, _, _, HN⟩
            case' true =>
              go_wp2_with fail
              refine wp_region_last (S := fun W => Tt w b r g m (.slice Ap m.peers.length cp) (.slice Aq m.pairs.length cq) T9 vk vt W) 5 [(0, true), (1, true), (2, true), (3, false), (4, false), (5, false)] (by kernel_rfl) (by kernel_rfl) rfl (by kernel_rfl) (by rfl) (fun _ _ _ _ _ h => h) HN.out.drew ?_
              clear c0 c1 c2 c3 c4 c5 c6 c7 c8 c9 c10 d0 d1 d2 d3 d4
              iterate 3
                refine alongL_take (v := ?_) rfl (by rfl) ?_ ?_
                rotate_left
                · intro W hW; have hW' : Tt w b r g m (.slice Ap m.peers.length cp) (.slice Aq m.pairs.length cq) T9 vk vt W := hW; obtain ⟨d0, d1, d2, d3, d4⟩ := hW'.cells; obtain ⟨c0, c1, c2, c3, c4, c5, c6, c7, c8, c9, c10⟩ := hW'.box.cells; clear hW hW'; go_simp; try with_reducible rfl
                simp only [Act.put, List.setIfInBounds_toArray, List.set_cons_zero, List.set_cons_succ]
              have HD := Lib.hid HN.out.drew
              refine alongL_step rfl (fun K hK => ?_)
              go_simp
              refine (rtext13_any _ _).mono ?_
              rintro e x0 ⟨rfl, hb⟩
              have HE0 := Lib.hid (HD.out.behind hb)
              refine hK.out _ _ HE0.out ?_
              clear hK K hb
              try simp only [Act.put, List.setIfInBounds_toArray, List.set_cons_zero, List.set_cons_succ]
              refine alongL_step rfl (fun K hK => ?_)
              go_simp
              refine (HE0.out.leaf (by omega) (by omega) o7 N10.out rfl (by show (1 : Nat) ≤ 1000; omega)).mono ?_
              rintro e w1 ⟨Ak, ck, At, ct, rfl, h1, hp1, _⟩
              have HS := Lib.hid h1
              have HPs := Lib.hid hp1
              refine hK.out _ _ h1 ?_
              clear hK K h1 hp1
              try simp only [Act.put, List.setIfInBounds_toArray, List.set_cons_zero, List.set_cons_succ]
              refine alongL_last rfl (fun K hK => ?_)
              refine step_store_whole rfl rfl rfl rfl rfl HS.out.tr (treeI rfl) rfl (by simp [Value.oneCell']) ?_
              refine hK.out _ _ ?_
              clear hK K
              go_wp2_with fail
              go_meet
              exact ⟨rfl, _, _, Lib.hid (HS.out.put HPs.out)⟩
          case rest =>
          clear c0 c1 c2 c3 c4 c5 c6 c7 c8 c9 c10 d0 d1 d2 d3 d4 HN
          obtain ⟨rfl, vk, vt, HN⟩ := hcut
          obtain ⟨Ak, ck, At, ct, rfl, rfl⟩ := Tt.shape HN.out.tp
          obtain ⟨d0, d1, d2, d3, d4⟩ := HN.out.cells
          go_wp2_with (refine wpList_store_whole rfl rfl rfl rfl rfl HN.out.res (treeI rfl) rfl (by simp [Value.oneCell']) ?_)
          refine bodyPost_ret (v := .agg #[.int .i64 T10.kind, .int .i64 T10.n, .string T10.s, .slice Ak T10.keys.length ck, .slice At T10.kids.length ct]) ?_ rfl ⟨_, _, rfl, ?_, below_row HN.out.low (by omega) _⟩
          · exact results_tree rfl rfl (HN.out.res.row _) rfl
          · exact HN.out.tp.keep (fun x p q => ⟨by omega, setRow_other wc r x _ (by omega)⟩)
end Go.Proofs.YtldjdoebappkoaaGreatDoor
