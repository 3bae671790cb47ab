/- Contract of tree.Get. -/
import Derived.Test.YtbimalafcgmnaaaIns11
import Derived.Test.YtbimalafcgmnaaaIdx11
namespace Go.Proofs.Ytbimalafcgmnaaa
open Go.RowKit
set_option linter.unusedVariables false
set_option maxRecDepth 100000
set_option linter.unusedSimpArgs false

theorem Tn.Few.kid {t : Tn} (h : t.Few) {i : Nat} (hi : i < t.kids.length) : t.kids[i].Few := by
  cases h with
  | mk hk hq hl => exact hl _ (List.getElem_mem hi)
theorem Tn.Few.keys {t : Tn} (h : t.Few) : t.keys.length ≤ 1000000 := by cases h with | mk hk hq hl => exact hk
theorem Tn.Few.kids {t : Tn} (h : t.Few) : t.kids.length ≤ 1000000 := by cases h with | mk hk hq hl => exact hq

set_option maxHeartbeats 2000000 in
theorem get11_any {t : Tn} (hfew : t.Few) {w : World} {B : Nat} {vk vq : Value} (H : Tv w B t vk vq) (key : ByteArray) :
    Calls Try.prog 13 #[tval t vk vq, .string key] w fun e w' => ∃ xk xq, e = .returned (.tuple #[tval ((t.get key).getD Tn.zero) xk xq, .bool (t.get key).isSome]) ∧ Tv w' w'.heap.size ((t.get key).getD Tn.zero) xk xq ∧ Below w.heap.size w w' := by
  obtain ⟨b, w1, hs, hal, hT1, hb1⟩ := boxedT H
  obtain ⟨g, w2, hg, hal2, hY, hb2, hs2⟩ := var_tree w1
  have hbg : b < g := by rw [← hg]; exact hT1.lt
  have hT := hT1.below hb2 hbg
  have HT := Lib.hid hT
  have HY := Lib.hid hY
  have HB2 : Hid (Below b w w2) := Lib.hid (hb1.trans (hb2.mono (by omega)))
  obtain ⟨c0, c1, c2, c3, c4⟩ := hT.cells
  have HC := Lib.hid (indexof_any hT.tv.keys key)
  have HCt := Lib.hid (fun W (h : Below w2.heap.size w2 W) => (HT.out.keep h).cells)
  obtain ⟨A, c, rfl, h1, h2, _, K, Q, hK⟩ := hT.tv.kids
  have HK := Lib.hid hK
  obtain ⟨Ak, ck, rfl, hSk⟩ := hT.tv.keys
  unfold maxLen at h2
  have hsk := hSk.2
  unfold maxLen at hsk
  have hpl := Tn.place_le t.keys key
  have HSp := Lib.hid (Tn.spot_place t.keys key)
  have G1 := Lib.hid (fun h => Tn.get_kind (t := t) (key := key) h)
  have G2 := Lib.hid (fun h => Tn.get_place (t := t) (key := key) h)
  have G3 := Lib.hid (fun h => Tn.get_none (t := t) (key := key) h)
  have G4 := Lib.hid (fun h h1 h2 => Tn.get_some (t := t) (key := key) h h1 h2)
  obtain ⟨r, hr⟩ : ∃ r, Hid (t.get key = r) := ⟨_, rfl⟩
  rw [hr.out] at G1 G2 G3 G4 ⊢
  obtain ⟨p, hp⟩ : ∃ p, Hid (Tn.place t.keys key = p) := ⟨_, rfl⟩
  rw [hp.out] at hpl HSp G2 G3
  obtain ⟨sp, hsp⟩ : ∃ sp, Hid (Tn.spot (fun k => decide (k = key)) t.keys = sp) := ⟨_, rfl⟩
  rw [hsp.out] at HC HSp
  obtain ⟨nk, hnk⟩ : ∃ n, Hid (t.keys.length = n) := ⟨_, rfl⟩
  obtain ⟨n, hn⟩ : ∃ n, Hid (t.kids.length = n) := ⟨_, rfl⟩
  rw [hnk.out] at HC hpl HSp HCt G2 c3 hsk hal ⊢
  rw [hn.out] at h1 c4 hal HCt G3 ⊢
  unfold tcells at hal
  unfold tval
  have G4' := Lib.hid (fun (h : t.kind = 4) (h1 : p < nk) (h2 : p < t.kids.length) => (by have h' := hp.out; subst h'; exact G4.out h (by rw [hnk.out]; exact h1) h2 : r = some t.kids[p]))
  have HFw := Lib.hid (fun i (hi : i < t.kids.length) => hfew.kid hi)
  clear hT1 hT H hK hSk hY hb1 hb2 hfew
  by_cases e0 : t.kind = 4
  case neg =>
    have HR := Lib.hid (G1.out e0)
    have q : (t.kind == 4) = false := by simpa using e0
    have q1 : (t.kind != 4) = true := by simpa using e0
    go_enter Try.func13, Try.ntmps13
    go_wp2_with (refine wpList_store_whole rfl rfl rfl rfl rfl HY.out (treeI rfl) rfl (by simp [Value.oneCell']) ?_)
    refine bodyPost_ret (v := .tuple #[tval Tn.zero (.slice none 0 0) (.slice none 0 0), .bool false]) ?_ rfl ⟨.slice none 0 0, .slice none 0 0, by rw [HR.out]; rfl, by rw [HR.out]; exact Tv.zero _ _, by rw [hs]; exact below_row HB2.out (by omega) _⟩
    exact results_tree2 rfl rfl rfl (HY.out.row _) rfl
  have E0 := Lib.hid e0
  rw [e0] at hal c0 ⊢
  by_cases e1 : p < nk
  case neg =>
    have HR := Lib.hid (G2.out e1)
    have e2 : sp = -1 := by rw [HSp.out, if_neg e1]
    subst e2
    go_enter Try.func13, Try.ntmps13
    go_wp2_with fail
    refine (HC.out).mono ?_
    rintro e w3 ⟨rfl, hb3⟩
    have HY3 := Lib.hid (HY.out.below hb3 (by omega))
    have HB3 := Lib.hid (HB2.out.trans (hb3.mono (by omega)))
    clear hb3
    go_wp2_with (refine wpList_store_whole rfl rfl rfl rfl rfl HY3.out (treeI rfl) rfl (by simp [Value.oneCell']) ?_)
    refine bodyPost_ret (v := .tuple #[tval Tn.zero (.slice none 0 0) (.slice none 0 0), .bool false]) ?_ rfl ⟨.slice none 0 0, .slice none 0 0, by rw [HR.out]; rfl, by rw [HR.out]; exact Tv.zero _ _, by rw [hs]; exact below_row HB3.out (by omega) _⟩
    exact results_tree2 rfl rfl rfl (HY3.out.row _) rfl
  have e2 : sp = (p : Int) := by rw [HSp.out, if_pos e1]
  subst e2
  have hp0 : ¬ ((p : Int) < 0) := by omega
  by_cases e3 : p < n
  case neg =>
    have HR := Lib.hid (G3.out e3)
    go_enter Try.func13, Try.ntmps13
    go_wp2_with fail
    refine (HC.out).mono ?_
    rintro e w3 ⟨rfl, hb3⟩
    have HY3 := Lib.hid (HY.out.below hb3 (by omega))
    have HB3 := Lib.hid (HB2.out.trans (hb3.mono (by omega)))
    obtain ⟨d0, d1, d2, d3, d4⟩ := HCt.out w3 hb3
    clear hb3
    go_wp2_with (refine wpList_store_whole rfl rfl rfl rfl rfl HY3.out (treeI rfl) rfl (by simp [Value.oneCell']) ?_)
    refine bodyPost_ret (v := .tuple #[tval Tn.zero (.slice none 0 0) (.slice none 0 0), .bool false]) ?_ rfl ⟨.slice none 0 0, .slice none 0 0, by rw [HR.out]; rfl, by rw [HR.out]; exact Tv.zero _ _, by rw [hs]; exact below_row HB3.out (by omega) _⟩
    exact results_tree2 rfl rfl rfl (HY3.out.row _) rfl
  have hpa : p < t.kids.length := by rw [hn.out]; exact e3
  have HR : Hid (r = some t.kids[p]) := Lib.hid (G4'.out e0 e1 hpa)
  obtain ⟨b1, o1, rfl, hb1, h5, hv⟩ := HK.out p hpa
  have hfw := HFw.out p hpa
  obtain ⟨u, hu⟩ : ∃ u, Hid (t.kids[p] = u) := ⟨t.kids[p], Lib.hid rfl⟩
  rw [hu.out] at h5 hv HR hfw
  obtain ⟨Ax, cx, ex, _⟩ := hv.keys
  obtain ⟨Ay, cy, ey, _⟩ := hv.kids
  rw [ex, ey] at h5 hv
  have HV := Lib.hid hv
  have H5 := Lib.hid h5
  have HFu := Lib.hid hfw
  clear hv ex ey h5 hfw G1 G2 G3 G4 G4'
  go_enter Try.func13, Try.ntmps13
  go_wp2_with fail
  refine (HC.out).mono ?_
  rintro e w3 ⟨rfl, hb3⟩
  have HY3 := Lib.hid (HY.out.below hb3 (by omega))
  have HB3 := Lib.hid (HB2.out.trans (hb3.mono (by omega)))
  obtain ⟨d0, d1, d2, d3, d4⟩ := HCt.out w3 hb3
  obtain ⟨m0, m1, m2, m3, m4⟩ := H5.out.below (hb3.mono (by omega)) hb1
  have HCu := Lib.hid (copy11_any (SizeOf.sizeOf u + 1) u (by omega) HFu.out (HV.out.keep (hb3.mono (by omega))))
  unfold tval at HCu
  clear hb3
  go_wp2_with fail
  refine (HCu.out).mono ?_
  rintro e w4 ⟨u1, u2, rfl, hc4, hb4⟩
  obtain ⟨A1, c1, rfl, _⟩ := hc4.tv.keys
  obtain ⟨A2, c2, rfl, _⟩ := hc4.tv.kids
  have HY4 := Lib.hid (HY3.out.below hb4 HY3.out.lt)
  have HB4 := Lib.hid (HB3.out.trans (hb4.mono (by have := HB3.out.size; omega)))
  have hs3 := HY3.out.lt
  have HRt := Lib.hid (hc4.from_ ((From.refl w3.heap.size w4).setRow hs3 #[.int .i64 u.kind, .int .i64 u.n, .string u.s, .slice A1 u.keys.length c1, .slice A2 u.kids.length c2]))
  clear hc4 hb4 d0 d1 d2 d3 d4 m0 m1 m2 m3 m4
  go_wp2_with (refine wpList_store_whole rfl rfl rfl rfl rfl HY4.out (treeI rfl) rfl (by simp [Value.oneCell']) ?_)
  refine bodyPost_ret (v := .tuple #[tval u (.slice A1 u.keys.length c1) (.slice A2 u.kids.length c2), .bool true]) ?_ rfl ⟨.slice A1 u.keys.length c1, .slice A2 u.kids.length c2, by rw [HR.out]; rfl, ?_, by rw [hs]; exact below_row HB4.out (by omega) _⟩
  · exact results_tree2 rfl rfl rfl (HY4.out.row _) rfl
  · rw [HR.out]
    exact HRt.out.tv
end Go.Proofs.Ytbimalafcgmnaaa
