/- Contract of layer 13's reference's From. -/
import Derived.Test.YtldjdoebappkoaaGreatDoorRtr13
import Derived.Test.YtldjdoebappkoaaGreatDoorRread13
import Derived.Test.YtldjdoebappkoaaGreatDoorRright8
import Derived.Test.YtldjdoebappkoaaGreatDoorPJ
namespace Go.Proofs.YtldjdoebappkoaaGreatDoor
open Go.RowKit
set_option linter.unusedVariables false
set_option maxRecDepth 100000
set_option linter.unusedSimpArgs false
open Gm

namespace Dm
theorem told_fits {t : Tn} (h : ¬ t.fits = true) : told t = (zero, 3) := by unfold told; rw [if_pos (by simpa using h)]
theorem told_kind {t : Tn} (h : t.fits = true) (h2 : (field t kQ).kind ≠ 2 ∨ kindOf (field t kQ).s = 0) : told t = (zero, 9) := by unfold told; rw [if_neg (by rw [h]; decide), if_pos h2]
theorem told_form {t : Tn} (h : t.fits = true) (h2 : ¬ ((field t kQ).kind ≠ 2 ∨ kindOf (field t kQ).s = 0)) (h3 : Tn.same (tree (read t)) t = false) : told t = (zero, 3) := by
  unfold told
  rw [if_neg (by rw [h]; decide), if_neg h2]
  show (if Tn.same (tree (read t)) t = false then _ else _) = _
  rw [if_pos h3]
theorem told_right {t : Tn} (h : t.fits = true) (h2 : ¬ ((field t kQ).kind ≠ 2 ∨ kindOf (field t kQ).s = 0)) (h3 : Tn.same (tree (read t)) t = true) (h4 : ¬ right (read t) = 0) : told t = (zero, right (read t)) := by
  unfold told
  rw [if_neg (by rw [h]; decide), if_neg h2, if_neg (by show ¬ Tn.same (tree (read t)) t = false; rw [h3]; decide), if_neg h4]
theorem told_good {t : Tn} (h : t.fits = true) (h2 : ¬ ((field t kQ).kind ≠ 2 ∨ kindOf (field t kQ).s = 0)) (h3 : Tn.same (tree (read t)) t = true) (h4 : right (read t) = 0) : told t = (read t, 0) := by
  unfold told
  rw [if_neg (by rw [h]; decide), if_neg h2, if_neg (by show ¬ Tn.same (tree (read t)) t = false; rw [h3]; decide), if_pos h4]
end Dm
theorem results_msg2 {fn : Func} {p u : Tmp} {x : Value} {tmps : Array Value} {w : World} {g : Nat} {cs : Array Value} (h : fn.results = #[.cell p 36, .tmp u])
    (hp : tmps.getD p undef = .pointer (some ⟨g, 0, none⟩)) (hx : tmps.getD u undef = x) (hg : Whole w g 36 cs) (hc : cs.size = 11) :
    (results fn tmps).run Tryz.prog w = .ok (.tuple #[.agg cs, x]) w := by
  subst hx
  have hp' : tmps[p]?.getD undef = .pointer (some ⟨g, 0, none⟩) := by simpa using hp
  simp [results, h, hp', asAddr, run_loadVar_row w g 36 36 cs (0, 0) _ hg Tryz.underlying36 rfl (msgI hc)]
theorem Mo.none13 (w : World) (base : Nat) : Mo w base Dm.zero (.agg #[.int .i64 0, .int .u32 0, .int .u8 0, .bool false, .int .u64 0, .string ⟨#[]⟩, .string ⟨#[]⟩, .int .u64 0, .int .u16 0, .slice none 0 0, .slice none 0 0]) :=
  ⟨⟨_, _, rfl, World.ownsRow_nil _ _ 32 2, World.ownsRow_nil _ _ 65 2⟩, ⟨by show (-9223372036854775808 : Int) ≤ 0 ∧ (0 : Int) ≤ 9223372036854775807; omega, by decide, by decide, by decide, Nat.zero_le _, Nat.zero_le _, by decide, by decide, (fun p hp => by cases hp), (fun p hp => by cases hp)⟩⟩
/-- what From answers: the message's slices are the call's own -/
def MsgPost (P : Ms × Nat) (w : World) (e : Ending) (w' : World) : Prop := ∃ v, e = .returned (.tuple #[v, .int .i64 (P.2 : Int)]) ∧ Mo w' w.heap.size P.1 v ∧ Below w.heap.size w w'
set_option maxHeartbeats 4000000 in
theorem rfrom13_any {w : World} {B : Nat} {t : Tn} {tk tq : Value} (H : Tv w B t tk tq) (hk1 : (Dm.field t Dm.kP).kids.length ≤ 100000) (hk2 : (Dm.field t Dm.kT).kids.length ≤ 100000) :
    Calls Tryz.prog 7 #[tval t tk tq] w (MsgPost (Dm.told t) w) := by
  obtain ⟨b, w1, hb, hal, hT, hb1⟩ := boxedT H
  obtain ⟨r, w2, hr, hal2, hs2, hR, hb2⟩ := msg_box w1
  have hbr : b < r := by rw [← hr]; exact hT.lt
  have hwb : w.heap.size ≤ b := by omega
  have hb1' : Below w.heap.size w w1 := by rw [hb]; exact hb1
  have hb2' : Below w1.heap.size w1 w2 := by rw [hr]; exact hb2
  have HT := Lib.hid (hT.keep hb2')
  have HR := Lib.hid hR
  have HB := Lib.hid (hb1'.trans (hb2'.mono hb1'.size))
  have HTk := Lib.hid (fun W (h : Below w2.heap.size w2 W) => HT.out.keep h)
  have G1 := Lib.hid (rget11_any HT.out.tv Dm.kQ)
  have C5 := Lib.hid (fun W (h : Below w2.heap.size w2 W) => rread13_any (HTk.out W h).tv hk1 hk2)
  have hpl : (Dm.read t).peers.length ≤ 100000 := by show ((Dm.field t Dm.kP).kids.map _).length ≤ _; rw [List.length_map]; exact hk1
  have hql : (Dm.read t).pairs.length ≤ 100000 := by show ((Dm.field t Dm.kT).kids.map _).length ≤ _; rw [List.length_map]; exact hk2
  have A1 := Lib.hid (fun h => Dm.told_fits (t := t) h)
  have A2 := Lib.hid (fun h h2 => Dm.told_kind (t := t) h h2)
  have A3 := Lib.hid (fun h h2 h3 => Dm.told_form (t := t) h h2 h3)
  have A4 := Lib.hid (fun h h2 h3 h4 => Dm.told_right (t := t) h h2 h3 h4)
  have A5 := Lib.hid (fun h h2 h3 h4 => Dm.told_good (t := t) h h2 h3 h4)
  have F1 : Hid (t.kind = 4 → t.keys.length = t.kids.length → t.fits = true) := Lib.hid (fun h1 h2 => Dm.fits_of h1 h2)
  have F2 : Hid (t.fits = true → t.kind = 4 ∧ t.keys.length = t.kids.length) := Lib.hid (fun h => Tn.fits_eq h)
  have hsm : Hid ((t.get Dm.kQ).isSome = false → (Dm.field t Dm.kQ).kind = 0) := Lib.hid (fun h => by unfold Dm.field; cases hg : t.get Dm.kQ with | none => rfl | some u => rw [hg] at h; cases h)
  have hfq : (t.get Dm.kQ).getD Tn.zero = Dm.field t Dm.kQ := rfl
  rw [hfq] at G1
  obtain ⟨P, hP⟩ : ∃ P, Hid (Dm.told t = P) := ⟨_, Lib.hid rfl⟩
  rw [hP.out] at A1 A2 A3 A4 A5 ⊢
  obtain ⟨X, hX⟩ : ∃ X, Hid (Dm.field t Dm.kQ = X) := ⟨_, Lib.hid rfl⟩
  rw [hX.out] at G1 A2 A3 A4 A5 hsm
  obtain ⟨sq, hsq⟩ : ∃ s, Hid ((t.get Dm.kQ).isSome = s) := ⟨_, Lib.hid rfl⟩
  rw [hsq.out] at G1 hsm
  obtain ⟨M, hM⟩ : ∃ M, Hid (Dm.read t = M) := ⟨_, Lib.hid rfl⟩
  rw [hM.out] at C5 A3 A4 A5 hpl hql
  have S1 := Lib.hid (fun W (vk vq : Value) (C : Nat) (h : Tv W C (Dm.tree M) vk vq) (hW : Below w2.heap.size w2 W) => rsame11_any (SizeOf.sizeOf (Dm.tree M) + 1) (Dm.tree M) (Nat.lt_succ_self _) t h (HTk.out W hW).tv)
  have C6 := Lib.hid (fun W (C : Nat) (v : Value) (h : Mv W C M v) => rtree13_any h hpl hql)
  have C7 := Lib.hid (fun W (C : Nat) (v : Value) (h : Mv W C M v) => rright_any h (by omega) (by omega))
  obtain ⟨E, hE⟩ : ∃ E, Hid (Dm.tree M = E) := ⟨_, Lib.hid rfl⟩
  rw [hE.out] at A3 A4 A5 S1 C6
  obtain ⟨sm, hsa⟩ : ∃ s, Hid (Tn.same E t = s) := ⟨_, Lib.hid rfl⟩
  rw [hsa.out] at A3 A4 A5 S1
  obtain ⟨rt, hrt⟩ : ∃ s, Hid (right M = s) := ⟨_, Lib.hid rfl⟩
  rw [hrt.out] at A4 A5 C7
  have K1 := Lib.hid (fun W => rkind_any X.s W)
  obtain ⟨kd, hkd⟩ : ∃ s, Hid (kindOf X.s = s) := ⟨_, Lib.hid rfl⟩
  rw [hkd.out] at A2 A3 A4 A5 K1
  obtain ⟨Ak0, ck0, rfl, hAk⟩ := HT.out.tv.keys
  obtain ⟨At0, ct0, rfl, hc1, hc2, _⟩ := HT.out.tv.kids
  have hkl := hAk.2.1
  have hkm := hAk.2.2.1
  unfold maxLen at hkm hc2
  obtain ⟨nk, hnk⟩ : ∃ n, Hid (t.keys.length = n) := ⟨_, Lib.hid rfl⟩
  obtain ⟨nq, hnq⟩ : ∃ n, Hid (t.kids.length = n) := ⟨_, Lib.hid rfl⟩
  unfold tval at G1 C5 S1 ⊢
  unfold tcells at hal
  have HCt := Lib.hid (fun W (h : Below w2.heap.size w2 W) => (HTk.out W h).cells)
  rw [hnk.out] at G1 C5 S1 hal F1 F2 hkl HCt ⊢
  rw [hnq.out] at G1 C5 S1 hal F1 F2 hc1 HCt ⊢
  obtain ⟨t0, t1, t2, t3, t4⟩ := HCt.out w2 (Below.refl _ _)
  clear hT hR hb1 hb2 hb1' hb2' hs2 H hAk hfq hpl hql
  by_cases e0 : t.kind = 4
  case neg =>
    have hp := A1.out (fun h => e0 (F2.out h).1)
    subst hp
    have k1 : (t.kind != 4) = true := by simpa using e0
    have k2 : (t.kind == 4) = false := by simpa using e0
    go_enter Tryz.func7, Tryz.ntmps7
    go_wp2_with (refine wpList_store_whole rfl rfl rfl rfl rfl HR.out (msgI rfl) rfl (by simp [Value.oneCell']) ?_)
    refine bodyPost_ret (v := .tuple #[.agg #[.int .i64 0, .int .u32 0, .int .u8 0, .bool false, .int .u64 0, .string ⟨#[]⟩, .string ⟨#[]⟩, .int .u64 0, .int .u16 0, .slice none 0 0, .slice none 0 0], .int .i64 3]) ?_ rfl ⟨_, rfl, Mo.none13 _ _, below_row HB.out (by omega) _⟩
    exact results_msg2 rfl rfl rfl (HR.out.row _) rfl
  by_cases e1 : nk = nq
  case neg =>
    have hp := A1.out (fun h => e1 (F2.out h).2)
    subst hp
    have k1 : ((nk : Int) != (nq : Int)) = true := by simp; omega
    have k2 : ((nk : Int) == (nq : Int)) = false := by simp; omega
    rw [e0] at t0 hal ⊢
    go_enter Tryz.func7, Tryz.ntmps7
    go_wp2_with (refine wpList_store_whole rfl rfl rfl rfl rfl HR.out (msgI rfl) rfl (by simp [Value.oneCell']) ?_)
    refine bodyPost_ret (v := .tuple #[.agg #[.int .i64 0, .int .u32 0, .int .u8 0, .bool false, .int .u64 0, .string ⟨#[]⟩, .string ⟨#[]⟩, .int .u64 0, .int .u16 0, .slice none 0 0, .slice none 0 0], .int .i64 3]) ?_ rfl ⟨_, rfl, Mo.none13 _ _, below_row HB.out (by omega) _⟩
    exact results_msg2 rfl rfl rfl (HR.out.row _) rfl
  have hf := F1.out e0 e1
  subst e1
  rw [e0] at t0 hal G1 C5 S1 HCt ⊢
  clear e0 F1 F2 A1
  cases sq
  case' false =>
    have hx0 := hsm.out rfl
    have hp := A2.out hf (Or.inl (by rw [hx0]; decide))
    clear hx0
    subst hp
    go_enter Tryz.func7, Tryz.ntmps7
    go_wp2_with fail
    refine (G1.out).mono ?_
    rintro e w3 ⟨yk, yq, rfl, hv, hb3⟩
    obtain ⟨Ak, ck, rfl, _⟩ := hv.keys
    obtain ⟨At, ct, rfl, _⟩ := hv.kids
    obtain ⟨gq, w4, hgq, hal4, hQ, hb4, hs4⟩ := var_tree w3
    obtain ⟨w5, hw5⟩ : ∃ W, w4.setRow gq #[.int .i64 X.kind, .int .i64 X.n, .string X.s, .slice Ak X.keys.length ck, .slice At X.kids.length ct] = W := ⟨_, rfl⟩
    have hb45 : Below w3.heap.size w3 w5 := by rw [hgq, ← hw5]; exact below_row hb4 (Nat.le_refl _) _
    have HC5 := Lib.hid (hb3.trans (hb45.mono hb3.size))
    have HR5 := Lib.hid (HR.out.below HC5.out HR.out.lt)
    have HB5 := Lib.hid (HB.out.trans (HC5.out.mono HB.out.size))
    have hq5 : Whole w5 gq 25 #[.int .i64 X.kind, .int .i64 X.n, .string X.s, .slice Ak X.keys.length ck, .slice At X.kids.length ct] := by rw [← hw5]; exact hQ.row _
    have HQ := Lib.hid hQ
    have q0 := hq5.at_ 0
    have q2 := hq5.at_ 2
    simp at q0 q2
    try unfold tval
    clear hv hb3 hb4 hb45 hQ hq5 hs4 t0 t1 t2 t3 t4 hb hal hr hal2
    go_upto_region 4 with (refine wpList_store_whole rfl rfl rfl rfl rfl HQ.out (treeI rfl) rfl (by simp [Value.oneCell']) ?_; rw [hw5])
    clear hgq hal4 hw5 HQ
    go_wp2_with (refine wpList_store_whole rfl rfl rfl rfl rfl HR5.out (msgI rfl) rfl (by simp [Value.oneCell']) ?_)
    refine bodyPost_ret (v := .tuple #[.agg #[.int .i64 0, .int .u32 0, .int .u8 0, .bool false, .int .u64 0, .string ⟨#[]⟩, .string ⟨#[]⟩, .int .u64 0, .int .u16 0, .slice none 0 0, .slice none 0 0], .int .i64 9]) ?_ rfl ⟨_, rfl, Mo.none13 _ _, below_row HB5.out (by omega) _⟩
    exact results_msg2 rfl rfl rfl (HR5.out.row _) rfl
  by_cases e2 : X.kind = 2
  case neg =>
    have hp := A2.out hf (Or.inl e2)
    subst hp
    have k1 : (X.kind != 2) = true := by simpa using e2
    have k2 : (X.kind == 2) = false := by simpa using e2
    go_enter Tryz.func7, Tryz.ntmps7
    go_wp2_with fail
    refine (G1.out).mono ?_
    rintro e w3 ⟨yk, yq, rfl, hv, hb3⟩
    obtain ⟨Ak, ck, rfl, _⟩ := hv.keys
    obtain ⟨At, ct, rfl, _⟩ := hv.kids
    obtain ⟨gq, w4, hgq, hal4, hQ, hb4, hs4⟩ := var_tree w3
    obtain ⟨w5, hw5⟩ : ∃ W, w4.setRow gq #[.int .i64 X.kind, .int .i64 X.n, .string X.s, .slice Ak X.keys.length ck, .slice At X.kids.length ct] = W := ⟨_, rfl⟩
    have hb45 : Below w3.heap.size w3 w5 := by rw [hgq, ← hw5]; exact below_row hb4 (Nat.le_refl _) _
    have HC5 := Lib.hid (hb3.trans (hb45.mono hb3.size))
    have HR5 := Lib.hid (HR.out.below HC5.out HR.out.lt)
    have HB5 := Lib.hid (HB.out.trans (HC5.out.mono HB.out.size))
    have hq5 : Whole w5 gq 25 #[.int .i64 X.kind, .int .i64 X.n, .string X.s, .slice Ak X.keys.length ck, .slice At X.kids.length ct] := by rw [← hw5]; exact hQ.row _
    have HQ := Lib.hid hQ
    have q0 := hq5.at_ 0
    have q2 := hq5.at_ 2
    simp at q0 q2
    try unfold tval
    clear hv hb3 hb4 hb45 hQ hq5 hs4 t0 t1 t2 t3 t4 hb hal hr hal2
    go_upto_region 4 with (refine wpList_store_whole rfl rfl rfl rfl rfl HQ.out (treeI rfl) rfl (by simp [Value.oneCell']) ?_; rw [hw5])
    clear hgq hal4 hw5 HQ
    go_wp2_with (refine wpList_store_whole rfl rfl rfl rfl rfl HR5.out (msgI rfl) rfl (by simp [Value.oneCell']) ?_)
    refine bodyPost_ret (v := .tuple #[.agg #[.int .i64 0, .int .u32 0, .int .u8 0, .bool false, .int .u64 0, .string ⟨#[]⟩, .string ⟨#[]⟩, .int .u64 0, .int .u16 0, .slice none 0 0, .slice none 0 0], .int .i64 9]) ?_ rfl ⟨_, rfl, Mo.none13 _ _, below_row HB5.out (by omega) _⟩
    exact results_msg2 rfl rfl rfl (HR5.out.row _) rfl
  rw [e2] at G1
  by_cases e3 : kd = 0
  case pos =>
    have hp := A2.out hf (Or.inr e3)
    subst hp e3
    go_enter Tryz.func7, Tryz.ntmps7
    go_wp2_with fail
    refine (G1.out).mono ?_
    rintro e w3 ⟨yk, yq, rfl, hv, hb3⟩
    obtain ⟨Ak, ck, rfl, _⟩ := hv.keys
    obtain ⟨At, ct, rfl, _⟩ := hv.kids
    obtain ⟨gq, w4, hgq, hal4, hQ, hb4, hs4⟩ := var_tree w3
    obtain ⟨w5, hw5⟩ : ∃ W, w4.setRow gq #[.int .i64 2, .int .i64 X.n, .string X.s, .slice Ak X.keys.length ck, .slice At X.kids.length ct] = W := ⟨_, rfl⟩
    have hb45 : Below w3.heap.size w3 w5 := by rw [hgq, ← hw5]; exact below_row hb4 (Nat.le_refl _) _
    have HC5 := Lib.hid (hb3.trans (hb45.mono hb3.size))
    have HR5 := Lib.hid (HR.out.below HC5.out HR.out.lt)
    have HB5 := Lib.hid (HB.out.trans (HC5.out.mono HB.out.size))
    have hq5 : Whole w5 gq 25 #[.int .i64 2, .int .i64 X.n, .string X.s, .slice Ak X.keys.length ck, .slice At X.kids.length ct] := by rw [← hw5]; exact hQ.row _
    have HQ := Lib.hid hQ
    have q0 := hq5.at_ 0
    have q2 := hq5.at_ 2
    simp at q0 q2
    try unfold tval
    clear hv hb3 hb4 hb45 hQ hq5 hs4 t0 t1 t2 t3 t4 hb hal hr hal2
    go_upto_region 4 with (refine wpList_store_whole rfl rfl rfl rfl rfl HQ.out (treeI rfl) rfl (by simp [Value.oneCell']) ?_; rw [hw5])
    clear hgq hal4 hw5 HQ
    go_wp2_with fail
    refine (K1.out _).mono ?_
    rintro e w6 ⟨rfl, hb6⟩
    have HC6 := Lib.hid (HC5.out.trans (hb6.mono HC5.out.size))
    have HR6 := Lib.hid (HR5.out.below hb6 HR5.out.lt)
    have HB6 := Lib.hid (HB5.out.trans (hb6.mono HB5.out.size))
    clear hb6 q0 q2
    go_wp2_with (refine wpList_store_whole rfl rfl rfl rfl rfl HR6.out (msgI rfl) rfl (by simp [Value.oneCell']) ?_)
    refine bodyPost_ret (v := .tuple #[.agg #[.int .i64 0, .int .u32 0, .int .u8 0, .bool false, .int .u64 0, .string ⟨#[]⟩, .string ⟨#[]⟩, .int .u64 0, .int .u16 0, .slice none 0 0, .slice none 0 0], .int .i64 9]) ?_ rfl ⟨_, rfl, Mo.none13 _ _, below_row HB6.out (by omega) _⟩
    exact results_msg2 rfl rfl rfl (HR6.out.row _) rfl
  have hnq2 : ¬ (X.kind ≠ 2 ∨ kd = 0) := by rintro (h | h); exact h e2; exact e3 h
  have k3 : ((kd : Int) == 0) = false := by simp; omega
  have k4 : ((kd : Int) != 0) = true := by simp; omega
  cases sm
  case' false =>
    have hp := A3.out hf hnq2 rfl
    subst hp
    go_enter Tryz.func7, Tryz.ntmps7
    go_wp2_with fail
    refine (G1.out).mono ?_
    rintro e w3 ⟨yk, yq, rfl, hv, hb3⟩
    obtain ⟨Ak, ck, rfl, _⟩ := hv.keys
    obtain ⟨At, ct, rfl, _⟩ := hv.kids
    obtain ⟨gq, w4, hgq, hal4, hQ, hb4, hs4⟩ := var_tree w3
    obtain ⟨w5, hw5⟩ : ∃ W, w4.setRow gq #[.int .i64 2, .int .i64 X.n, .string X.s, .slice Ak X.keys.length ck, .slice At X.kids.length ct] = W := ⟨_, rfl⟩
    have hb45 : Below w3.heap.size w3 w5 := by rw [hgq, ← hw5]; exact below_row hb4 (Nat.le_refl _) _
    have HC5 := Lib.hid (hb3.trans (hb45.mono hb3.size))
    have HR5 := Lib.hid (HR.out.below HC5.out HR.out.lt)
    have HB5 := Lib.hid (HB.out.trans (HC5.out.mono HB.out.size))
    have hq5 : Whole w5 gq 25 #[.int .i64 2, .int .i64 X.n, .string X.s, .slice Ak X.keys.length ck, .slice At X.kids.length ct] := by rw [← hw5]; exact hQ.row _
    have HQ := Lib.hid hQ
    have q0 := hq5.at_ 0
    have q2 := hq5.at_ 2
    simp at q0 q2
    try unfold tval
    clear hv hb3 hb4 hb45 hQ hq5 hs4 t0 t1 t2 t3 t4 hb hal hr hal2
    go_upto_region 4 with (refine wpList_store_whole rfl rfl rfl rfl rfl HQ.out (treeI rfl) rfl (by simp [Value.oneCell']) ?_; rw [hw5])
    clear hgq hal4 hw5 HQ
    go_wp2_with fail
    refine (K1.out _).mono ?_
    rintro e w6 ⟨rfl, hb6⟩
    have HC6 := Lib.hid (HC5.out.trans (hb6.mono HC5.out.size))
    have HR6 := Lib.hid (HR5.out.below hb6 HR5.out.lt)
    have HB6 := Lib.hid (HB5.out.trans (hb6.mono HB5.out.size))
    clear hb6 q0 q2
    obtain ⟨t0, t1, t2, t3, t4⟩ := HCt.out w6 HC6.out
    go_wp2_with fail
    refine (C5.out _ HC6.out).mono ?_
    rintro e w7 ⟨v7, rfl, ⟨⟨vp, vq, rfl, hop, hoq⟩, hok⟩, hb7⟩
    obtain ⟨Ap, cp, rfl, _, _, _, _⟩ := own_look hop
    obtain ⟨Aq, cq, rfl, _, _, _, _⟩ := own_look hoq
    obtain ⟨gm, w8, hgm, hal8, hs8, hM8, hb8⟩ := msg_box w7
    obtain ⟨w9, hst9⟩ : ∃ W, w8.setRow gm #[.int .i64 M.kind, .int .u32 (M.rid : Int), .int .u8 (M.code : Int), .bool M.has, .int .u64 (M.id : Int), .string M.key, .string M.val, .int .u64 (M.pid : Int), .int .u16 (M.pad : Int), .slice Ap M.peers.length cp, .slice Aq M.pairs.length cq] = W := ⟨_, rfl⟩
    have hb9 : Below w7.heap.size w7 w9 := by rw [hgm, ← hst9]; exact below_row hb8 (Nat.le_refl _) _
    have HBx : Hid (Box w9 gm M (.slice Ap M.peers.length cp) (.slice Aq M.pairs.length cq)) := Lib.hid ⟨by rw [← hst9]; exact hM8.row _, by rw [← hgm]; exact (Sl.of_own hop).below hb9, by rw [← hgm]; exact (Sl.of_own hoq).below hb9, hok⟩
    have HOp := Lib.hid (own2_below hop hb9)
    have HOq := Lib.hid (own2_below hoq hb9)
    have HOK := Lib.hid hok
    have z6 := HC6.out.size
    have z7 := hb7.size
    have hb69 : Below w6.heap.size w6 w9 := hb7.trans (hb9.mono z7)
    have HC9 := Lib.hid (HC6.out.trans (hb69.mono z6))
    have HR9 := Lib.hid (HR6.out.below hb69 HR6.out.lt)
    have HB9 := Lib.hid (HB6.out.trans (hb69.mono HB6.out.size))
    have hr6 : r < w6.heap.size := HR6.out.lt
    have hwl := HB6.out.size
    have HM8 := Lib.hid hM8
    clear hop hoq hok hb7 hb8 hb9 hs8 hM8 t0 t1 t2 t3 t4 hb69 z6 z7
    go_upto_region 7 with (refine wpList_store_whole rfl rfl rfl rfl rfl HM8.out (msgI rfl) rfl (by simp [Value.oneCell']) ?_; rw [hst9])
    clear hgm hal8 hst9 HM8
    refine wp_region_plan (S := fun W => Below w9.heap.size w9 W) [(0, true), (2, true), (1, false), (3, false), (4, true)] (by kernel_rfl) (by kernel_rfl) rfl (by kernel_rfl) (fun _ _ _ _ _ h => h) (Below.refl _ _).drew ?_
    iterate 2
      refine along_take (v := ?_) rfl (by rfl) ?_ ?_
      rotate_left
      · intro W hW; obtain ⟨t0, t1, t2, t3, t4⟩ := HCt.out W (HC9.out.trans (Below.mono hW HC9.out.size)); obtain ⟨c0, c1, c2, c3, c4, c5, c6, c7, c8, c9, c10⟩ := (HBx.out.kept hW).cells; clear hW; go_simp; try with_reducible rfl
      simp only [Act.put, List.setIfInBounds_toArray, List.set_cons_zero, List.set_cons_succ]
    have HD : Hid (Below w9.heap.size w9 w9.drew) := Lib.hid (Below.refl _ _).drew
    refine along_step rfl (fun K hK => ?_)
    go_simp
    refine (C6.out _ _ _ (HBx.out.kept HD.out).mv).mono ?_
    rintro e wa ⟨yk, yq, rfl, ht, hba⟩
    have HDa := Lib.hid (HD.out.trans (hba.mono HD.out.size))
    have HTa := Lib.hid ht.tv
    obtain ⟨Ek, ek, rfl, _⟩ := ht.tv.keys
    obtain ⟨Et, et, rfl, _⟩ := ht.tv.kids
    try unfold tval
    refine hK.out _ _ HDa.out ?_
    clear hK K ht hba
    try simp only [Act.put, List.setIfInBounds_toArray, List.set_cons_zero, List.set_cons_succ]
    refine along_step rfl (fun K hK => ?_)
    go_simp
    refine (S1.out _ _ _ _ HTa.out (HC9.out.trans (HDa.out.mono HC9.out.size))).mono ?_
    rintro e wb ⟨rfl, hbb⟩
    have HDb := Lib.hid (HDa.out.trans (hbb.mono HDa.out.size))
    refine hK.out _ _ HDb.out ?_
    clear hK K hbb
    try simp only [Act.put, List.setIfInBounds_toArray, List.set_cons_zero, List.set_cons_succ]
    refine along_take (v := ?_) rfl (by rfl) ?_ ?_
    rotate_left
    · intro W hW; clear hW; go_simp; try with_reducible rfl
    simp only [Act.put, List.setIfInBounds_toArray, List.set_cons_zero, List.set_cons_succ]
    refine along_done ?_
    have HRb := Lib.hid (HR9.out.below HDb.out HR9.out.lt)
    have HBb := Lib.hid (HB9.out.trans (HDb.out.mono HB9.out.size))
    go_wp2_with (refine wpList_store_whole rfl rfl rfl rfl rfl HRb.out (msgI rfl) rfl (by simp [Value.oneCell']) ?_)
    refine bodyPost_ret (v := .tuple #[.agg #[.int .i64 0, .int .u32 0, .int .u8 0, .bool false, .int .u64 0, .string ⟨#[]⟩, .string ⟨#[]⟩, .int .u64 0, .int .u16 0, .slice none 0 0, .slice none 0 0], .int .i64 3]) ?_ rfl ⟨_, rfl, Mo.none13 _ _, below_row HBb.out (by omega) _⟩
    exact results_msg2 rfl rfl rfl (HRb.out.row _) rfl
  by_cases e4 : rt = 0
  case neg =>
    have hp := A4.out hf hnq2 rfl e4
    subst hp
    have k5 : ((rt : Int) != 0) = true := by simp; omega
    have k6 : ((rt : Int) == 0) = false := by simp; omega
    go_enter Tryz.func7, Tryz.ntmps7
    go_wp2_with fail
    refine (G1.out).mono ?_
    rintro e w3 ⟨yk, yq, rfl, hv, hb3⟩
    obtain ⟨Ak, ck, rfl, _⟩ := hv.keys
    obtain ⟨At, ct, rfl, _⟩ := hv.kids
    obtain ⟨gq, w4, hgq, hal4, hQ, hb4, hs4⟩ := var_tree w3
    obtain ⟨w5, hw5⟩ : ∃ W, w4.setRow gq #[.int .i64 2, .int .i64 X.n, .string X.s, .slice Ak X.keys.length ck, .slice At X.kids.length ct] = W := ⟨_, rfl⟩
    have hb45 : Below w3.heap.size w3 w5 := by rw [hgq, ← hw5]; exact below_row hb4 (Nat.le_refl _) _
    have HC5 := Lib.hid (hb3.trans (hb45.mono hb3.size))
    have HR5 := Lib.hid (HR.out.below HC5.out HR.out.lt)
    have HB5 := Lib.hid (HB.out.trans (HC5.out.mono HB.out.size))
    have hq5 : Whole w5 gq 25 #[.int .i64 2, .int .i64 X.n, .string X.s, .slice Ak X.keys.length ck, .slice At X.kids.length ct] := by rw [← hw5]; exact hQ.row _
    have HQ := Lib.hid hQ
    have q0 := hq5.at_ 0
    have q2 := hq5.at_ 2
    simp at q0 q2
    try unfold tval
    clear hv hb3 hb4 hb45 hQ hq5 hs4 t0 t1 t2 t3 t4 hb hal hr hal2
    go_upto_region 4 with (refine wpList_store_whole rfl rfl rfl rfl rfl HQ.out (treeI rfl) rfl (by simp [Value.oneCell']) ?_; rw [hw5])
    clear hgq hal4 hw5 HQ
    go_wp2_with fail
    refine (K1.out _).mono ?_
    rintro e w6 ⟨rfl, hb6⟩
    have HC6 := Lib.hid (HC5.out.trans (hb6.mono HC5.out.size))
    have HR6 := Lib.hid (HR5.out.below hb6 HR5.out.lt)
    have HB6 := Lib.hid (HB5.out.trans (hb6.mono HB5.out.size))
    clear hb6 q0 q2
    obtain ⟨t0, t1, t2, t3, t4⟩ := HCt.out w6 HC6.out
    go_wp2_with fail
    refine (C5.out _ HC6.out).mono ?_
    rintro e w7 ⟨v7, rfl, ⟨⟨vp, vq, rfl, hop, hoq⟩, hok⟩, hb7⟩
    obtain ⟨Ap, cp, rfl, _, _, _, _⟩ := own_look hop
    obtain ⟨Aq, cq, rfl, _, _, _, _⟩ := own_look hoq
    obtain ⟨gm, w8, hgm, hal8, hs8, hM8, hb8⟩ := msg_box w7
    obtain ⟨w9, hst9⟩ : ∃ W, w8.setRow gm #[.int .i64 M.kind, .int .u32 (M.rid : Int), .int .u8 (M.code : Int), .bool M.has, .int .u64 (M.id : Int), .string M.key, .string M.val, .int .u64 (M.pid : Int), .int .u16 (M.pad : Int), .slice Ap M.peers.length cp, .slice Aq M.pairs.length cq] = W := ⟨_, rfl⟩
    have hb9 : Below w7.heap.size w7 w9 := by rw [hgm, ← hst9]; exact below_row hb8 (Nat.le_refl _) _
    have HBx : Hid (Box w9 gm M (.slice Ap M.peers.length cp) (.slice Aq M.pairs.length cq)) := Lib.hid ⟨by rw [← hst9]; exact hM8.row _, by rw [← hgm]; exact (Sl.of_own hop).below hb9, by rw [← hgm]; exact (Sl.of_own hoq).below hb9, hok⟩
    have HOp := Lib.hid (own2_below hop hb9)
    have HOq := Lib.hid (own2_below hoq hb9)
    have HOK := Lib.hid hok
    have z6 := HC6.out.size
    have z7 := hb7.size
    have hb69 : Below w6.heap.size w6 w9 := hb7.trans (hb9.mono z7)
    have HC9 := Lib.hid (HC6.out.trans (hb69.mono z6))
    have HR9 := Lib.hid (HR6.out.below hb69 HR6.out.lt)
    have HB9 := Lib.hid (HB6.out.trans (hb69.mono HB6.out.size))
    have hr6 : r < w6.heap.size := HR6.out.lt
    have hwl := HB6.out.size
    have HM8 := Lib.hid hM8
    clear hop hoq hok hb7 hb8 hb9 hs8 hM8 t0 t1 t2 t3 t4 hb69 z6 z7
    go_upto_region 7 with (refine wpList_store_whole rfl rfl rfl rfl rfl HM8.out (msgI rfl) rfl (by simp [Value.oneCell']) ?_; rw [hst9])
    clear hgm hal8 hst9 HM8
    refine wp_region_plan (S := fun W => Below w9.heap.size w9 W) [(0, true), (2, true), (1, false), (3, false), (4, true)] (by kernel_rfl) (by kernel_rfl) rfl (by kernel_rfl) (fun _ _ _ _ _ h => h) (Below.refl _ _).drew ?_
    iterate 2
      refine along_take (v := ?_) rfl (by rfl) ?_ ?_
      rotate_left
      · intro W hW; obtain ⟨t0, t1, t2, t3, t4⟩ := HCt.out W (HC9.out.trans (Below.mono hW HC9.out.size)); obtain ⟨c0, c1, c2, c3, c4, c5, c6, c7, c8, c9, c10⟩ := (HBx.out.kept hW).cells; clear hW; go_simp; try with_reducible rfl
      simp only [Act.put, List.setIfInBounds_toArray, List.set_cons_zero, List.set_cons_succ]
    have HD : Hid (Below w9.heap.size w9 w9.drew) := Lib.hid (Below.refl _ _).drew
    refine along_step rfl (fun K hK => ?_)
    go_simp
    refine (C6.out _ _ _ (HBx.out.kept HD.out).mv).mono ?_
    rintro e wa ⟨yk, yq, rfl, ht, hba⟩
    have HDa := Lib.hid (HD.out.trans (hba.mono HD.out.size))
    have HTa := Lib.hid ht.tv
    obtain ⟨Ek, ek, rfl, _⟩ := ht.tv.keys
    obtain ⟨Et, et, rfl, _⟩ := ht.tv.kids
    try unfold tval
    refine hK.out _ _ HDa.out ?_
    clear hK K ht hba
    try simp only [Act.put, List.setIfInBounds_toArray, List.set_cons_zero, List.set_cons_succ]
    refine along_step rfl (fun K hK => ?_)
    go_simp
    refine (S1.out _ _ _ _ HTa.out (HC9.out.trans (HDa.out.mono HC9.out.size))).mono ?_
    rintro e wb ⟨rfl, hbb⟩
    have HDb := Lib.hid (HDa.out.trans (hbb.mono HDa.out.size))
    refine hK.out _ _ HDb.out ?_
    clear hK K hbb
    try simp only [Act.put, List.setIfInBounds_toArray, List.set_cons_zero, List.set_cons_succ]
    refine along_take (v := ?_) rfl (by rfl) ?_ ?_
    rotate_left
    · intro W hW; clear hW; go_simp; try with_reducible rfl
    simp only [Act.put, List.setIfInBounds_toArray, List.set_cons_zero, List.set_cons_succ]
    refine along_done ?_
    have HRb := Lib.hid (HR9.out.below HDb.out HR9.out.lt)
    have HBb := Lib.hid (HB9.out.trans (HDb.out.mono HB9.out.size))
    obtain ⟨c0, c1, c2, c3, c4, c5, c6, c7, c8, c9, c10⟩ := (HBx.out.kept HDb.out).cells
    go_wp2_with fail
    refine (C7.out _ _ _ (HBx.out.kept HDb.out).mv).mono ?_
    rintro e wc ⟨rfl, hbc⟩
    have HDc := Lib.hid (HDb.out.trans (hbc.mono HDb.out.size))
    have HRc := Lib.hid (HRb.out.below hbc HRb.out.lt)
    have HBc := Lib.hid (HBb.out.trans (hbc.mono HBb.out.size))
    clear hbc c0 c1 c2 c3 c4 c5 c6 c7 c8 c9 c10
    go_wp2_with (refine wpList_store_whole rfl rfl rfl rfl rfl HRc.out (msgI rfl) rfl (by simp [Value.oneCell']) ?_)
    refine bodyPost_ret (v := .tuple #[.agg #[.int .i64 0, .int .u32 0, .int .u8 0, .bool false, .int .u64 0, .string ⟨#[]⟩, .string ⟨#[]⟩, .int .u64 0, .int .u16 0, .slice none 0 0, .slice none 0 0], .int .i64 (rt : Int)]) ?_ rfl ⟨_, rfl, Mo.none13 _ _, below_row HBc.out (by omega) _⟩
    exact results_msg2 rfl rfl rfl (HRc.out.row _) rfl
  have hp := A5.out hf hnq2 rfl e4
  subst hp e4
  go_enter Tryz.func7, Tryz.ntmps7
  go_wp2_with fail
  refine (G1.out).mono ?_
  rintro e w3 ⟨yk, yq, rfl, hv, hb3⟩
  obtain ⟨Ak, ck, rfl, _⟩ := hv.keys
  obtain ⟨At, ct, rfl, _⟩ := hv.kids
  obtain ⟨gq, w4, hgq, hal4, hQ, hb4, hs4⟩ := var_tree w3
  obtain ⟨w5, hw5⟩ : ∃ W, w4.setRow gq #[.int .i64 2, .int .i64 X.n, .string X.s, .slice Ak X.keys.length ck, .slice At X.kids.length ct] = W := ⟨_, rfl⟩
  have hb45 : Below w3.heap.size w3 w5 := by rw [hgq, ← hw5]; exact below_row hb4 (Nat.le_refl _) _
  have HC5 := Lib.hid (hb3.trans (hb45.mono hb3.size))
  have HR5 := Lib.hid (HR.out.below HC5.out HR.out.lt)
  have HB5 := Lib.hid (HB.out.trans (HC5.out.mono HB.out.size))
  have hq5 : Whole w5 gq 25 #[.int .i64 2, .int .i64 X.n, .string X.s, .slice Ak X.keys.length ck, .slice At X.kids.length ct] := by rw [← hw5]; exact hQ.row _
  have HQ := Lib.hid hQ
  have q0 := hq5.at_ 0
  have q2 := hq5.at_ 2
  simp at q0 q2
  try unfold tval
  clear hv hb3 hb4 hb45 hQ hq5 hs4 t0 t1 t2 t3 t4 hb hal hr hal2
  go_upto_region 4 with (refine wpList_store_whole rfl rfl rfl rfl rfl HQ.out (treeI rfl) rfl (by simp [Value.oneCell']) ?_; rw [hw5])
  clear hgq hal4 hw5 HQ
  go_wp2_with fail
  refine (K1.out _).mono ?_
  rintro e w6 ⟨rfl, hb6⟩
  have HC6 := Lib.hid (HC5.out.trans (hb6.mono HC5.out.size))
  have HR6 := Lib.hid (HR5.out.below hb6 HR5.out.lt)
  have HB6 := Lib.hid (HB5.out.trans (hb6.mono HB5.out.size))
  clear hb6 q0 q2
  obtain ⟨t0, t1, t2, t3, t4⟩ := HCt.out w6 HC6.out
  go_wp2_with fail
  refine (C5.out _ HC6.out).mono ?_
  rintro e w7 ⟨v7, rfl, ⟨⟨vp, vq, rfl, hop, hoq⟩, hok⟩, hb7⟩
  obtain ⟨Ap, cp, rfl, _, _, _, _⟩ := own_look hop
  obtain ⟨Aq, cq, rfl, _, _, _, _⟩ := own_look hoq
  obtain ⟨gm, w8, hgm, hal8, hs8, hM8, hb8⟩ := msg_box w7
  obtain ⟨w9, hst9⟩ : ∃ W, w8.setRow gm #[.int .i64 M.kind, .int .u32 (M.rid : Int), .int .u8 (M.code : Int), .bool M.has, .int .u64 (M.id : Int), .string M.key, .string M.val, .int .u64 (M.pid : Int), .int .u16 (M.pad : Int), .slice Ap M.peers.length cp, .slice Aq M.pairs.length cq] = W := ⟨_, rfl⟩
  have hb9 : Below w7.heap.size w7 w9 := by rw [hgm, ← hst9]; exact below_row hb8 (Nat.le_refl _) _
  have HBx : Hid (Box w9 gm M (.slice Ap M.peers.length cp) (.slice Aq M.pairs.length cq)) := Lib.hid ⟨by rw [← hst9]; exact hM8.row _, by rw [← hgm]; exact (Sl.of_own hop).below hb9, by rw [← hgm]; exact (Sl.of_own hoq).below hb9, hok⟩
  have HOp := Lib.hid (own2_below hop hb9)
  have HOq := Lib.hid (own2_below hoq hb9)
  have HOK := Lib.hid hok
  have z6 := HC6.out.size
  have z7 := hb7.size
  have hb69 : Below w6.heap.size w6 w9 := hb7.trans (hb9.mono z7)
  have HC9 := Lib.hid (HC6.out.trans (hb69.mono z6))
  have HR9 := Lib.hid (HR6.out.below hb69 HR6.out.lt)
  have HB9 := Lib.hid (HB6.out.trans (hb69.mono HB6.out.size))
  have hr6 : r < w6.heap.size := HR6.out.lt
  have hwl := HB6.out.size
  have HM8 := Lib.hid hM8
  clear hop hoq hok hb7 hb8 hb9 hs8 hM8 t0 t1 t2 t3 t4 hb69 z6 z7
  go_upto_region 7 with (refine wpList_store_whole rfl rfl rfl rfl rfl HM8.out (msgI rfl) rfl (by simp [Value.oneCell']) ?_; rw [hst9])
  clear hgm hal8 hst9 HM8
  refine wp_region_plan (S := fun W => Below w9.heap.size w9 W) [(0, true), (2, true), (1, false), (3, false), (4, true)] (by kernel_rfl) (by kernel_rfl) rfl (by kernel_rfl) (fun _ _ _ _ _ h => h) (Below.refl _ _).drew ?_
  iterate 2
    refine along_take (v := ?_) rfl (by rfl) ?_ ?_
    rotate_left
    · intro W hW; obtain ⟨t0, t1, t2, t3, t4⟩ := HCt.out W (HC9.out.trans (Below.mono hW HC9.out.size)); obtain ⟨c0, c1, c2, c3, c4, c5, c6, c7, c8, c9, c10⟩ := (HBx.out.kept hW).cells; clear hW; go_simp; try with_reducible rfl
    simp only [Act.put, List.setIfInBounds_toArray, List.set_cons_zero, List.set_cons_succ]
  have HD : Hid (Below w9.heap.size w9 w9.drew) := Lib.hid (Below.refl _ _).drew
  refine along_step rfl (fun K hK => ?_)
  go_simp
  refine (C6.out _ _ _ (HBx.out.kept HD.out).mv).mono ?_
  rintro e wa ⟨yk, yq, rfl, ht, hba⟩
  have HDa := Lib.hid (HD.out.trans (hba.mono HD.out.size))
  have HTa := Lib.hid ht.tv
  obtain ⟨Ek, ek, rfl, _⟩ := ht.tv.keys
  obtain ⟨Et, et, rfl, _⟩ := ht.tv.kids
  try unfold tval
  refine hK.out _ _ HDa.out ?_
  clear hK K ht hba
  try simp only [Act.put, List.setIfInBounds_toArray, List.set_cons_zero, List.set_cons_succ]
  refine along_step rfl (fun K hK => ?_)
  go_simp
  refine (S1.out _ _ _ _ HTa.out (HC9.out.trans (HDa.out.mono HC9.out.size))).mono ?_
  rintro e wb ⟨rfl, hbb⟩
  have HDb := Lib.hid (HDa.out.trans (hbb.mono HDa.out.size))
  refine hK.out _ _ HDb.out ?_
  clear hK K hbb
  try simp only [Act.put, List.setIfInBounds_toArray, List.set_cons_zero, List.set_cons_succ]
  refine along_take (v := ?_) rfl (by rfl) ?_ ?_
  rotate_left
  · intro W hW; clear hW; go_simp; try with_reducible rfl
  simp only [Act.put, List.setIfInBounds_toArray, List.set_cons_zero, List.set_cons_succ]
  refine along_done ?_
  have HRb := Lib.hid (HR9.out.below HDb.out HR9.out.lt)
  have HBb := Lib.hid (HB9.out.trans (HDb.out.mono HB9.out.size))
  obtain ⟨c0, c1, c2, c3, c4, c5, c6, c7, c8, c9, c10⟩ := (HBx.out.kept HDb.out).cells
  go_wp2_with fail
  refine (C7.out _ _ _ (HBx.out.kept HDb.out).mv).mono ?_
  rintro e wc ⟨rfl, hbc⟩
  have HDc := Lib.hid (HDb.out.trans (hbc.mono HDb.out.size))
  have HRc := Lib.hid (HRb.out.below hbc HRb.out.lt)
  have HBc := Lib.hid (HBb.out.trans (hbc.mono HBb.out.size))
  clear hbc c0 c1 c2 c3 c4 c5 c6 c7 c8 c9 c10
  obtain ⟨c0, c1, c2, c3, c4, c5, c6, c7, c8, c9, c10⟩ := (HBx.out.kept HDc.out).cells
  go_wp2_with (refine wpList_store_whole rfl rfl rfl rfl rfl HRc.out (msgI rfl) rfl (by simp [Value.oneCell']) ?_)
  refine bodyPost_ret (v := .tuple #[.agg #[.int .i64 M.kind, .int .u32 (M.rid : Int), .int .u8 (M.code : Int), .bool M.has, .int .u64 (M.id : Int), .string M.key, .string M.val, .int .u64 (M.pid : Int), .int .u16 (M.pad : Int), .slice Ap M.peers.length cp, .slice Aq M.pairs.length cq], .int .i64 0]) ?_ rfl ⟨_, rfl, ⟨⟨_, _, rfl, ?_, ?_⟩, HOK.out⟩, below_row HBc.out (by omega) _⟩
  · exact results_msg2 rfl rfl rfl (HRc.out.row _) rfl
  · exact own_low (own_same12 (own2_below HOp.out HDc.out) (fun q e _ => setRow_other wc r q _ (by have := (HOp.out.lt q e).1; omega))) (by omega)
  · exact own_low (own_same12 (own2_below HOq.out HDc.out) (fun q e _ => setRow_other wc r q _ (by have := (HOq.out.lt q e).1; omega))) (by omega)
end Go.Proofs.YtldjdoebappkoaaGreatDoor
