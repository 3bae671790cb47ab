/- Contracts of dict.To and dict.From. -/
import Derived.Test.YtldjdoebappkoaaGreatDoorDt13
import Derived.Test.YtldjdoebappkoaaGreatDoorDf13
import Derived.Test.YtldjdoebappkoaaGreatDoorSame11
import Derived.Test.YtldjdoebappkoaaGreatDoorPF
namespace Go.Proofs.YtldjdoebappkoaaGreatDoor
open Go.RowKit
set_option linter.unusedVariables false
set_option maxRecDepth 100000
set_option linter.unusedSimpArgs false
open Gm
namespace Dx
open Dm
theorem told_fits {t : Tn} (h : t.fits = false) : told t = (zero, 3) := by rw [← toldC_told]; unfold toldC; rw [if_pos h]
theorem told_kind {t : Tn} (h : t.fits = true) (h2 : kindC t = 0) : told t = (zero, 9) := by rw [← toldC_told]; unfold toldC; rw [if_neg (by rw [h]; decide), if_pos h2]
theorem told_form {t : Tn} (h : t.fits = true) (h2 : ¬ kindC t = 0) (h3 : Tn.same (tree (readK t (kindC t))) t = false) : told t = (zero, 3) := by
  rw [← toldC_told]
  unfold toldC
  rw [if_neg (by rw [h]; decide), if_neg h2]
  show (if Tn.same (tree (readK t (kindC t))) t = false then _ else _) = _
  rw [if_pos h3]
theorem told_right {t : Tn} (h : t.fits = true) (h2 : ¬ kindC t = 0) (h3 : Tn.same (tree (readK t (kindC t))) t = true) (h4 : ¬ right (readK t (kindC t)) = 0) : told t = (zero, right (readK t (kindC t))) := by
  rw [← toldC_told]
  unfold toldC
  rw [if_neg (by rw [h]; decide), if_neg h2, if_neg (by show ¬ Tn.same (tree (readK t (kindC t))) t = false; rw [h3]; decide), if_neg h4]
theorem told_good {t : Tn} (h : t.fits = true) (h2 : ¬ kindC t = 0) (h3 : Tn.same (tree (readK t (kindC t))) t = true) (h4 : right (readK t (kindC t)) = 0) : told t = (readK t (kindC t), 0) := by
  rw [← toldC_told]
  unfold toldC
  rw [if_neg (by rw [h]; decide), if_neg h2, if_neg (by show ¬ Tn.same (tree (readK t (kindC t))) t = false; rw [h3]; decide), if_pos h4]
end Dx
theorem readK_ok {w : World} {B : Nat} {t : Tn} {vk vq : Value} (H : Tv w B t vk vq) {kd : Nat} (hk : kd ≤ 12) : Ok (Dx.readK t (kd : Int)) := by
  have str : ∀ k, (Dm.field t k).s.size ≤ maxLen := fun k => by obtain ⟨K, Q, h⟩ := H.field k; exact h.str
  refine ⟨?_, ?_, ?_, Dx.idC_lt _, str _, str _, (Dx.oneC_lt _).1, (Dx.oneC_lt _).2, ?_, ?_⟩
  · show -9223372036854775808 ≤ (kd : Int) ∧ (kd : Int) ≤ 9223372036854775807
    omega
  · show ((Dm.field t Dm.kR).n % 4294967296).toNat < _; omega
  · show ((Dm.field t Dm.kC).n % 256).toNat < _; omega
  · intro p hp
    obtain ⟨u, _, rfl⟩ := List.mem_map.1 (show p ∈ (Dm.field t Dm.kP).kids.map (fun x => Dx.oneC x.s) from hp)
    exact Dx.oneC_lt _
  · intro p hp
    obtain ⟨u, hu, rfl⟩ := List.mem_map.1 (show p ∈ (Dm.field t Dm.kT).kids.map Dm.pairOf from hp)
    obtain ⟨K, Q, h⟩ := H.field Dm.kT
    obtain ⟨K', Q', h'⟩ := h.mem hu
    by_cases h2 : u.kids.length = 2
    · rw [pairOf_two h2]
      obtain ⟨_, _, g1⟩ := h'.mem (List.getElem_mem (show 0 < u.kids.length by omega))
      obtain ⟨_, _, g2⟩ := h'.mem (List.getElem_mem (show 1 < u.kids.length by omega))
      exact ⟨g1.str, g2.str⟩
    · rw [pairOf_not h2]; exact ⟨Nat.zero_le _, Nat.zero_le _⟩
theorem results_msg2d {fn : Func} {p u : Tmp} {x : Value} {tmps : Array Value} {w : World} {g : Nat} {cs : Array Value} (h : fn.results = #[.cell p 36, .tmp u])
    (hp : tmps.getD p undef = .pointer (some ⟨g, 0, none⟩)) (hx : tmps.getD u undef = x) (hg : Whole w g 36 cs) (hc : cs.size = 11) :
    (results fn tmps).run Tryz.prog w = .ok (.tuple #[.agg cs, x]) w := by
  subst hx
  have hp' : tmps[p]?.getD undef = .pointer (some ⟨g, 0, none⟩) := by simpa using hp
  simp [results, h, hp', asAddr, run_loadVar_row w g 36 36 cs (0, 0) _ hg Tryz.underlying36 rfl (msgI hc)]
theorem Mv.none13 (w : World) (B : Nat) : Mv w B Dm.zero (.agg #[.int .i64 0, .int .u32 0, .int .u8 0, .bool false, .int .u64 0, .string ⟨#[]⟩, .string ⟨#[]⟩, .int .u64 0, .int .u16 0, .slice none 0 0, .slice none 0 0]) :=
  ⟨⟨_, _, rfl, Sl.empty _ _, Sl.empty _ _⟩, ⟨by show (-9223372036854775808 : Int) ≤ 0 ∧ (0 : Int) ≤ 9223372036854775807; omega, by decide, by decide, by decide, Nat.zero_le _, Nat.zero_le _, by decide, by decide, (fun p hp => by cases hp), (fun p hp => by cases hp)⟩⟩

set_option maxHeartbeats 2000000 in
theorem dto13_any {w : World} {B : Nat} {m : Ms} {v : Value} (H : Mv w B m v) (T : Tab w) (hlp : m.peers.length ≤ 1000000) (hlq : m.pairs.length ≤ 1000000) :
    Calls Tryz.prog 10 #[v] w fun e w' => ∃ vk vq, e = .returned (.tuple #[tval (Dm.to m).1 vk vq, .int .i64 ((Dm.to m).2 : Int)]) ∧ Tv w' w'.heap.size (Dm.to m).1 vk vq ∧ Below w.heap.size w w' := by
  obtain ⟨b, vp, vq, w1, rfl, hb, hal, hsz, hx, hb1⟩ := boxed H
  obtain ⟨r, w2, hr, hal2, hR, hb2, hs2⟩ := var_tree w1
  have hbr : b < r := by rw [← hr]; exact hx.lt
  have HBx := Lib.hid (hx.below hb2 hbr)
  have HR := Lib.hid hR
  have HBW : Hid (Below b w w2) := Lib.hid (hb1.trans (hb2.mono (by omega)))
  have HTb := Lib.hid (fun W (h : Below w.heap.size w W) => T.below h T.lt)
  obtain ⟨Ap, cp, rfl, _⟩ := hx.peers.ex
  obtain ⟨Aq, cq, rfl, _⟩ := hx.pairs.ex
  have C1 := Lib.hid (right_any HBx.out.mv (HTb.out _ (by rw [hb]; exact HBW.out)))
  obtain ⟨rg, hrg⟩ : ∃ n, Hid (right m = n) := ⟨_, Lib.hid rfl⟩
  rw [hrg.out] at C1
  obtain ⟨c0, c1, c2, c3, c4, c5, c6, c7, c8, c9, c10⟩ := HBx.out.cells
  clear hx hR hb1 hb2 H hsz T hs2
  by_cases h0 : rg = 0
  · have HE : Hid (Dm.to m = (Dm.tree m, 0)) := Lib.hid (by unfold Dm.to; rw [if_pos (by rw [hrg.out]; exact h0)])
    subst h0
    rw [HE.out]
    go_enter Tryz.func10, Tryz.ntmps10
    go_wp2_with fail
    refine (C1.out).mono ?_
    rintro e w3 ⟨rfl, hb3⟩
    have HBx3 := Lib.hid (HBx.out.kept hb3)
    have HR3 := Lib.hid (HR.out.below hb3 HR.out.lt)
    have HB3 := Lib.hid (HBW.out.trans (hb3.mono (by have := HR.out.lt; omega)))
    have C2 := Lib.hid (treeof13_any HBx3.out.mv (HTb.out _ (by rw [hb]; exact HB3.out)) hlp hlq)
    clear hb3 c0 c1 c2 c3 c4 c5 c6 c7 c8 c9 c10
    obtain ⟨c0, c1, c2, c3, c4, c5, c6, c7, c8, c9, c10⟩ := HBx3.out.cells
    go_wp2_with fail
    refine (C2.out).mono ?_
    rintro e w4 ⟨yk, yq, rfl, hv, hb4⟩
    obtain ⟨X, hX⟩ : ∃ X, Hid (Dm.tree m = X) := ⟨_, Lib.hid rfl⟩
    rw [hX.out] at hv ⊢
    obtain ⟨A1, e1, rfl, _⟩ := hv.tv.keys
    obtain ⟨A2, e2, rfl, _⟩ := hv.tv.kids
    have HR4 := Lib.hid (HR3.out.below hb4 HR3.out.lt)
    have HB4 := Lib.hid (HB3.out.trans (hb4.mono (by have := HR3.out.lt; omega)))
    have HV : Hid (∀ cs, Tv (w4.setRow r cs) (w4.setRow r cs).heap.size X (.slice A1 X.keys.length e1) (.slice A2 X.kids.length e2)) := Lib.hid (fun cs => (hv.from_ ((From.refl w3.heap.size w4).setRow HR3.out.lt cs)).tv)
    clear hb4 hv c0 c1 c2 c3 c4 c5 c6 c7 c8 c9 c10
    unfold tval
    go_wp2_with (refine wpList_store_whole rfl rfl rfl rfl rfl HR4.out (treeI rfl) rfl (by simp [Value.oneCell']) ?_)
    refine bodyPost_ret (v := .tuple #[tval X (.slice A1 X.keys.length e1) (.slice A2 X.kids.length e2), .int .i64 0]) ?_ rfl ⟨.slice A1 X.keys.length e1, .slice A2 X.kids.length e2, by rw [hX.out]; rfl, by rw [hX.out]; exact HV.out _, by rw [hb]; exact below_row HB4.out (by omega) _⟩
    exact results_tree2 rfl rfl rfl (HR4.out.row _) rfl
  · have HE : Hid (Dm.to m = (Dm.none_, rg)) := Lib.hid (by unfold Dm.to; rw [if_neg (by rw [hrg.out]; exact h0), hrg.out])
    rw [HE.out]
    have q : ((rg : Int) == 0) = false := by simp; omega
    have q1 : ((rg : Int) != 0) = true := by simp; omega
    clear h0
    go_enter Tryz.func10, Tryz.ntmps10
    go_wp2_with fail
    refine (C1.out).mono ?_
    rintro e w3 ⟨rfl, hb3⟩
    have HR3 := Lib.hid (HR.out.below hb3 HR.out.lt)
    have HB3 := Lib.hid (HBW.out.trans (hb3.mono (by have := HR.out.lt; omega)))
    clear hb3 c0 c1 c2 c3 c4 c5 c6 c7 c8 c9 c10
    go_wp2_with (refine wpList_store_whole rfl rfl rfl rfl rfl HR3.out (treeI rfl) rfl (by simp [Value.oneCell']) ?_)
    refine bodyPost_ret (v := .tuple #[tval Dm.none_ (.slice none 0 0) (.slice none 0 0), .int .i64 (rg : Int)]) ?_ rfl ⟨.slice none 0 0, .slice none 0 0, rfl, Tv.zero _ _, by rw [hb]; exact below_row HB3.out (by omega) _⟩
    exact results_tree2 rfl rfl rfl (HR3.out.row _) rfl


set_option maxHeartbeats 4000000 in
theorem dfrom13_any {w : World} {B : Nat} {t : Tn} {tk tq : Value} (H : Tv w B t tk tq) (T : Tab w) (fw : t.Fw) :
    Calls Tryz.prog 6 #[tval t tk tq] w fun e w' => ∃ v, e = .returned (.tuple #[v, .int .i64 ((Dm.told t).2 : Int)]) ∧ Mv w' w'.heap.size (Dm.told t).1 v ∧ Below w.heap.size w w' := by
  obtain ⟨Ak, ck, ek, _⟩ := H.keys
  obtain ⟨Aq, cq, eq, _⟩ := H.kids
  obtain ⟨nk, hnk⟩ : ∃ n, Hid (t.keys.length = n) := ⟨_, Lib.hid rfl⟩
  obtain ⟨n, hn⟩ : ∃ n, Hid (t.kids.length = n) := ⟨_, Lib.hid rfl⟩
  rw [hnk.out] at ek
  rw [hn.out] at eq
  subst ek eq
  obtain ⟨b, w1, hb, hal, hT, hb1⟩ := boxedT H
  obtain ⟨r, w2, hr, hal2, hs2, hR, hb2⟩ := msg_box w1
  have hbr : b < r := by rw [← hr]; exact hT.lt
  have HT2 := Lib.hid (hT.below hb2 hbr)
  have HR := Lib.hid hR
  have HB2 : Hid (Below b w w2) := Lib.hid (hb1.trans (hb2.mono (by omega)))
  have HTb := Lib.hid (fun W (h : Below b w W) => T.below (by rw [hb]; exact h) T.lt)
  have HF := Lib.hid (fun W (h : Below w2.heap.size w2 W) => HT2.out.keep h)
  have hrw : r < w2.heap.size := by omega
  have FW := Lib.hid fw
  have HH := Lib.hid H
  obtain ⟨c0, c1, c2, c3, c4⟩ := HT2.out.cells
  unfold tcells at hal
  unfold tval
  clear hT hR hb1 hb2 H T hs2 fw
  by_cases e0 : t.kind = 4
  case neg =>
    have HE := Lib.hid (Dx.told_fits (t := t) (by unfold Tn.fits; simp [e0]))
    have q : (t.kind == 4) = false := by simpa using e0
    have q1 : (t.kind != 4) = true := by simpa using e0
    clear e0
    go_enter Tryz.func6, Tryz.ntmps6
    go_wp2_with (refine wpList_store_whole rfl rfl rfl rfl rfl HR.out (msgI rfl) rfl (by simp [Value.oneCell']) ?_)
    refine bodyPost_ret (v := .tuple #[.agg #[.int .i64 0, .int .u32 0, .int .u8 0, .bool false, .int .u64 0, .string ⟨#[]⟩, .string ⟨#[]⟩, .int .u64 0, .int .u16 0, .slice none 0 0, .slice none 0 0], .int .i64 3]) ?_ rfl ⟨_, by first | (rw [HE.out]; done) | (rw [HE.out]; rfl), by rw [HE.out]; exact Mv.none13 _ _, by first | exact below_row HB2.out (by omega) _ | (rw [hb]; exact below_row HB2.out (by omega) _)⟩
    exact results_msg2d rfl rfl rfl (HR.out.row _) rfl
  by_cases e1 : nk = n
  case neg =>
    have HE := Lib.hid (Dx.told_fits (t := t) (by unfold Tn.fits; rw [hnk.out, hn.out]; simp [e1]))
    have q : (t.kind == 4) = true := by simpa using e0
    have q1 : (t.kind != 4) = false := by simpa using e0
    have q2 : ((n : Int) == (nk : Int)) = false := by simp; omega
    have q3 : ((n : Int) != (nk : Int)) = true := by simp; omega
    clear e0
    go_enter Tryz.func6, Tryz.ntmps6
    go_wp2_with (refine wpList_store_whole rfl rfl rfl rfl rfl HR.out (msgI rfl) rfl (by simp [Value.oneCell']) ?_)
    refine bodyPost_ret (v := .tuple #[.agg #[.int .i64 0, .int .u32 0, .int .u8 0, .bool false, .int .u64 0, .string ⟨#[]⟩, .string ⟨#[]⟩, .int .u64 0, .int .u16 0, .slice none 0 0, .slice none 0 0], .int .i64 3]) ?_ rfl ⟨_, by first | (rw [HE.out]; done) | (rw [HE.out]; rfl), by rw [HE.out]; exact Mv.none13 _ _, by first | exact below_row HB2.out (by omega) _ | (rw [hb]; exact below_row HB2.out (by omega) _)⟩
    exact results_msg2d rfl rfl rfl (HR.out.row _) rfl
  subst e1
  have q : (t.kind == 4) = true := by simpa using e0
  have q1 : (t.kind != 4) = false := by simpa using e0
  have HK4 := Lib.hid e0
  have HKL : Hid (t.keys.length = t.kids.length) := Lib.hid (by rw [hnk.out, hn.out])
  have HFit : Hid (t.fits = true) := Lib.hid (Dm.fits_of e0 HKL.out)
  clear e0
  obtain ⟨X, hX⟩ : ∃ X, Hid (Dm.field t Dm.kQ = X) := ⟨_, Lib.hid rfl⟩
  have C1 := Lib.hid (HT2.out.value13 HK4.out HKL.out hX.out)
  obtain ⟨kd, hkd⟩ : ∃ k, Hid (Dx.kindC t = k) := ⟨_, Lib.hid rfl⟩
  have hkx : Hid ((if X.kind ≠ 2 then 0 else kindOf X.s) = kd) := Lib.hid (by rw [← hkd.out]; unfold Dx.kindC; rw [hX.out])
  have hk12 : kd ≤ 12 := by
    rw [← hkx.out]
    split
    · omega
    · exact Dx.kind_le _
  by_cases hk0 : kd = 0
  case pos =>
    have HE := Lib.hid (Dx.told_kind HFit.out (by rw [hkd.out]; exact hk0))
    subst hk0
    go_enter Tryz.func6, Tryz.ntmps6
    go_wp2_with fail
    refine (C1.out).mono ?_
    rintro e w3 ⟨A1, d1, A2, d2, rfl, hv3, hb3⟩
    have HX3 := Lib.hid hv3.all
    have HC3 := Lib.hid hb3
    have C2 := Lib.hid (getkind13_any HX3.out (HTb.out _ (HB2.out.trans (hb3.mono (by omega)))))
    rw [hkx.out] at C2
    unfold tval at C2
    clear hv3 hb3 c0 c1 c2 c3 c4
    go_wp2_with fail
    refine (C2.out).mono ?_
    rintro e w4 ⟨rfl, hb4⟩
    have HC4 := Lib.hid (HC3.out.trans (hb4.mono HC3.out.size))
    clear hb4
    have HR4 := Lib.hid (HR.out.below HC4.out hrw)
    have HB4 := Lib.hid (HB2.out.trans (HC4.out.mono (by omega)))
    go_wp2_with (refine wpList_store_whole rfl rfl rfl rfl rfl HR4.out (msgI rfl) rfl (by simp [Value.oneCell']) ?_)
    refine bodyPost_ret (v := .tuple #[.agg #[.int .i64 0, .int .u32 0, .int .u8 0, .bool false, .int .u64 0, .string ⟨#[]⟩, .string ⟨#[]⟩, .int .u64 0, .int .u16 0, .slice none 0 0, .slice none 0 0], .int .i64 9]) ?_ rfl ⟨_, by first | (rw [HE.out]; done) | (rw [HE.out]; rfl), by rw [HE.out]; exact Mv.none13 _ _, by first | exact below_row HB4.out (by omega) _ | (rw [hb]; exact below_row HB4.out (by omega) _)⟩
    exact results_msg2d rfl rfl rfl (HR4.out.row _) rfl
  have q2 : ((kd : Int) == 0) = false := by simp; omega
  have q3 : ((kd : Int) != 0) = true := by simp; omega
  have HK0 := Lib.hid hk0
  clear hk0
  obtain ⟨M, hM⟩ : ∃ M, Hid (Dx.readK t (kd : Int) = M) := ⟨_, Lib.hid rfl⟩
  have CF := Lib.hid (fun W (h : Below w2.heap.size w2 W) => fields13_any FW.out HK4.out HKL.out (kd : Int) (HF.out W h).tv)
  have HMk : Hid (M.kind = (kd : Int)) := Lib.hid (by rw [← hM.out]; rfl)
  have HMo : Hid (Ok M) := Lib.hid (by rw [← hM.out]; exact readK_ok HH.out hk12)
  have HMp : Hid (M.peers.length ≤ 1000000) := Lib.hid (by rw [← hM.out]; show ((Dm.field t Dm.kP).kids.map _).length ≤ _; rw [List.length_map]; have := (FW.out.field Dm.kP).kids; omega)
  have HMq : Hid (M.pairs.length ≤ 1000000) := Lib.hid (by rw [← hM.out]; show ((Dm.field t Dm.kT).kids.map _).length ≤ _; rw [List.length_map]; have := (FW.out.field Dm.kT).kids; omega)
  rw [hM.out] at CF
  obtain ⟨sb, hsb⟩ : ∃ s, Hid (Tn.same (Dm.tree M) t = s) := ⟨_, Lib.hid rfl⟩
  obtain ⟨rg, hrg⟩ : ∃ s, Hid (right M = s) := ⟨_, Lib.hid rfl⟩
  have E3 : Hid (sb = false → Dm.told t = (Dm.zero, 3)) := Lib.hid (fun h => Dx.told_form HFit.out (by rw [hkd.out]; exact HK0.out) (by rw [hkd.out, hM.out, hsb.out]; exact h))
  have E4 : Hid (sb = true → ¬ rg = 0 → Dm.told t = (Dm.zero, rg)) := Lib.hid (fun h h' => by
    have e := Dx.told_right (t := t) HFit.out (by rw [hkd.out]; exact HK0.out) (by rw [hkd.out, hM.out, hsb.out]; exact h) (by rw [hkd.out, hM.out, hrg.out]; exact h')
    rw [hkd.out, hM.out, hrg.out] at e
    exact e)
  have E5 : Hid (sb = true → rg = 0 → Dm.told t = (M, 0)) := Lib.hid (fun h h' => by
    have e := Dx.told_good (t := t) HFit.out (by rw [hkd.out]; exact HK0.out) (by rw [hkd.out, hM.out, hsb.out]; exact h) (by rw [hkd.out, hM.out, hrg.out]; exact h')
    rw [hkd.out, hM.out] at e
    exact e)
  go_enter Tryz.func6, Tryz.ntmps6
  go_wp2_with fail
  refine (C1.out).mono ?_
  rintro e w3 ⟨A1, d1, A2, d2, rfl, hv3, hb3⟩
  have HX3 := Lib.hid hv3.all
  have HC3 := Lib.hid hb3
  have C2 := Lib.hid (getkind13_any HX3.out (HTb.out _ (HB2.out.trans (hb3.mono (by omega)))))
  rw [hkx.out] at C2
  unfold tval at C2
  clear hv3 hb3 c0 c1 c2 c3 c4
  go_wp2_with fail
  refine (C2.out).mono ?_
  rintro e w4 ⟨rfl, hb4⟩
  have HC4 := Lib.hid (HC3.out.trans (hb4.mono HC3.out.size))
  clear hb4
  obtain ⟨c0, c1, c2, c3, c4⟩ := (HF.out _ HC4.out).cells
  have CG := Lib.hid (CF.out _ HC4.out)
  unfold tval at CG
  go_wp2_with fail
  refine (CG.out).mono ?_
  rintro e w5 ⟨vp, vq, rfl, hop, hoq, hb5⟩
  obtain ⟨A5, d5, rfl, _, _, _, _⟩ := own_look hop
  obtain ⟨A6, d6, rfl, _, _, _, _⟩ := own_look hoq
  have hz4 : w2.heap.size ≤ w4.heap.size := HC4.out.size
  have HC5 := Lib.hid (HC4.out.trans (hb5.mono hz4))
  have HOp := Lib.hid hop
  have HOq := Lib.hid hoq
  obtain ⟨gm, w6, hgm, hal6, hs6, hG, hb6⟩ := msg_box w5
  obtain ⟨w7, hw7⟩ : ∃ W, w6.setRow gm #[.int .i64 0, .int .u32 (M.rid : Int), .int .u8 (M.code : Int), .bool M.has, .int .u64 (M.id : Int), .string M.key, .string M.val, .int .u64 (M.pid : Int), .int .u16 (M.pad : Int), .slice A5 M.peers.length d5, .slice A6 M.pairs.length d6] = W := ⟨_, rfl⟩
  have hG7 : Whole w7 gm 36 #[.int .i64 0, .int .u32 (M.rid : Int), .int .u8 (M.code : Int), .bool M.has, .int .u64 (M.id : Int), .string M.key, .string M.val, .int .u64 (M.pid : Int), .int .u16 (M.pad : Int), .slice A5 M.peers.length d5, .slice A6 M.pairs.length d6] := by rw [← hw7]; exact hG.row _
  obtain ⟨w8, hw8⟩ : ∃ W, w7.setCell ⟨gm, 0, none⟩ (.int .i64 (kd : Int)) = W := ⟨_, rfl⟩
  have hG8 : Whole w8 gm 36 #[.int .i64 (kd : Int), .int .u32 (M.rid : Int), .int .u8 (M.code : Int), .bool M.has, .int .u64 (M.id : Int), .string M.key, .string M.val, .int .u64 (M.pid : Int), .int .u16 (M.pad : Int), .slice A5 M.peers.length d5, .slice A6 M.pairs.length d6] := by rw [← hw8]; exact hG7.put 0 _
  have hb7 : Below w5.heap.size w5 w7 := by rw [← hw7, hgm]; exact below_row hb6 (Nat.le_refl _) _
  have hb8 : Below w5.heap.size w5 w8 := by rw [← hw8]; exact hb7.setCell (p := ⟨gm, 0, none⟩) (by show w5.heap.size ≤ gm; omega) _
  have HC8 := Lib.hid (HC5.out.trans (hb8.mono HC5.out.size))
  have HOp8 := Lib.hid (own2_below hop hb8)
  have HOq8 := Lib.hid (own2_below hoq hb8)
  have HG := Lib.hid hG
  have HG8 := Lib.hid hG8
  have m0 := hG7.at_ 0
  have f0 := hG7.free 0
  simp at m0
  clear hop hoq hb5 hb6 hb7 hb8 hG hG7 hG8 c0 c1 c2 c3 c4 hs6
  go_upto_region 6 with (refine wpList_store_whole rfl rfl rfl rfl rfl HG.out (msgI rfl) rfl (by simp [Value.oneCell']) ?_; rw [hw7])
  clear hgm hal6 hw7
  go_upto_region 7 with fail
  try rw [hw8]
  clear hw8 m0 f0
  have HGm : Hid (∀ W, Below w8.heap.size w8 W → Whole W gm 36 #[.int .i64 (kd : Int), .int .u32 (M.rid : Int), .int .u8 (M.code : Int), .bool M.has, .int .u64 (M.id : Int), .string M.key, .string M.val, .int .u64 (M.pid : Int), .int .u16 (M.pad : Int), .slice A5 M.peers.length d5, .slice A6 M.pairs.length d6]) := Lib.hid (fun W h => HG8.out.below h HG8.out.lt)
  have HF8 := Lib.hid (fun W (h : Below w8.heap.size w8 W) => HF.out W (HC8.out.trans (h.mono HC8.out.size)))
  have HB8 : Hid (∀ W, Below w8.heap.size w8 W → Below b w W) := Lib.hid (fun W h => (HB2.out.trans (HC8.out.mono (by omega))).trans (h.mono (by have := HC8.out.size; omega)))
  have HMv : Hid (∀ W, Below w8.heap.size w8 W → Mv W W.heap.size M (.agg #[.int .i64 (kd : Int), .int .u32 (M.rid : Int), .int .u8 (M.code : Int), .bool M.has, .int .u64 (M.id : Int), .string M.key, .string M.val, .int .u64 (M.pid : Int), .int .u16 (M.pad : Int), .slice A5 M.peers.length d5, .slice A6 M.pairs.length d6])) := Lib.hid (fun W h => ⟨⟨_, _, by rw [HMk.out], Sl.of_own (own2_below HOp8.out h), Sl.of_own (own2_below HOq8.out h)⟩, HMo.out⟩)
  go_wp2_with fail
  refine wp_region_plan (S := fun W => Below w8.heap.size w8 W) [(0, true), (2, true), (1, false), (3, false), (4, true)] (by kernel_rfl) (by kernel_rfl) rfl (by kernel_rfl) (fun _ _ _ _ _ h => h) (Below.refl _ _).drew ?_
  iterate 2
    refine along_take (v := ?_) rfl (by rfl) ?_ ?_
    rotate_left
    · intro W hW; obtain ⟨k0, k1, k2, k3, k4⟩ := (HF8.out W hW).cells; have g := HGm.out W hW; have g0 := g.at_ 0; have g1 := g.at_ 1; have g2 := g.at_ 2; have g3 := g.at_ 3; have g4 := g.at_ 4; have g5 := g.at_ 5; have g6 := g.at_ 6; have g7 := g.at_ 7; have g8 := g.at_ 8; have g9 := g.at_ 9; have g10 := g.at_ 10; simp at g0 g1 g2 g3 g4 g5 g6 g7 g8 g9 g10; clear hW g; go_simp; try with_reducible rfl
    simp only [Act.put, List.setIfInBounds_toArray, List.set_cons_zero, List.set_cons_succ]
  have HY0 : Hid (Below w8.heap.size w8 w8.drew) := Lib.hid (Below.refl _ _).drew
  refine along_step rfl (fun K hK => ?_)
  go_simp
  refine (treeof13_any (HMv.out _ HY0.out) (HTb.out _ (HB8.out _ HY0.out)) HMp.out HMq.out).mono ?_
  rintro e y1 ⟨uk, uq, rfl, hu, hb9⟩
  have HY1 := Lib.hid (HY0.out.trans (hb9.mono HY0.out.size))
  have HU := Lib.hid hu.tv
  refine hK.out _ _ HY1.out ?_
  clear hK K hb9 hu
  try simp only [Act.put, List.setIfInBounds_toArray, List.set_cons_zero, List.set_cons_succ]
  have CS := Lib.hid (same11_any (SizeOf.sizeOf (Dm.tree M) + 1) (Dm.tree M) (Nat.lt_succ_self _) t HU.out (HF8.out _ HY1.out).tv)
  rw [hsb.out] at CS
  unfold tval at CS
  refine along_step rfl (fun K hK => ?_)
  unfold tval
  go_simp
  refine (CS.out).mono ?_
  rintro e y2 ⟨rfl, hb9⟩
  have HY2 := Lib.hid (HY1.out.trans (hb9.mono HY1.out.size))
  refine hK.out _ _ HY2.out ?_
  clear hK K hb9 CS
  try simp only [Act.put, List.setIfInBounds_toArray, List.set_cons_zero, List.set_cons_succ]
  refine along_take (v := ?_) rfl (by rfl) ?_ ?_
  rotate_left
  · intro W hW; clear hW; go_simp; try with_reducible rfl
  simp only [Act.put, List.setIfInBounds_toArray, List.set_cons_zero, List.set_cons_succ]
  refine along_done ?_
  cases sb
  case' false =>
    have HE := Lib.hid (E3.out (by first | rfl | trivial))
    have HRy := Lib.hid (HR.out.below (HC8.out.trans (HY2.out.mono HC8.out.size)) hrw)
    have HBy := Lib.hid (HB8.out _ HY2.out)
    go_wp2_with (refine wpList_store_whole rfl rfl rfl rfl rfl HRy.out (msgI rfl) rfl (by simp [Value.oneCell']) ?_)
    refine bodyPost_ret (v := .tuple #[.agg #[.int .i64 0, .int .u32 0, .int .u8 0, .bool false, .int .u64 0, .string ⟨#[]⟩, .string ⟨#[]⟩, .int .u64 0, .int .u16 0, .slice none 0 0, .slice none 0 0], .int .i64 3]) ?_ rfl ⟨_, by first | (rw [HE.out]; done) | (rw [HE.out]; rfl), by rw [HE.out]; exact Mv.none13 _ _, by first | exact below_row HBy.out (by omega) _ | (rw [hb]; exact below_row HBy.out (by omega) _)⟩
    exact results_msg2d rfl rfl rfl (HRy.out.row _) rfl
  have CR := Lib.hid (right_any (HMv.out _ HY2.out) (HTb.out _ (HB8.out _ HY2.out)))
  rw [hrg.out] at CR
  have g := HGm.out _ HY2.out
  have g0 := g.at_ 0; have g1 := g.at_ 1; have g2 := g.at_ 2; have g3 := g.at_ 3; have g4 := g.at_ 4; have g5 := g.at_ 5; have g6 := g.at_ 6; have g7 := g.at_ 7; have g8 := g.at_ 8; have g9 := g.at_ 9; have g10 := g.at_ 10
  simp at g0 g1 g2 g3 g4 g5 g6 g7 g8 g9 g10
  clear g
  go_wp2_with fail
  refine (CR.out).mono ?_
  rintro e y3 ⟨rfl, hb9⟩
  have HY3 := Lib.hid (HY2.out.trans (hb9.mono HY2.out.size))
  clear hb9 g0 g1 g2 g3 g4 g5 g6 g7 g8 g9 g10
  have HRy := Lib.hid (HR.out.below (HC8.out.trans (HY3.out.mono HC8.out.size)) hrw)
  have HBy := Lib.hid (HB8.out _ HY3.out)
  by_cases h0 : rg = 0
  · have HE := Lib.hid (E5.out (by first | rfl | trivial) h0)
    subst h0
    have g := HGm.out _ HY3.out
    have g0 := g.at_ 0; have g1 := g.at_ 1; have g2 := g.at_ 2; have g3 := g.at_ 3; have g4 := g.at_ 4; have g5 := g.at_ 5; have g6 := g.at_ 6; have g7 := g.at_ 7; have g8 := g.at_ 8; have g9 := g.at_ 9; have g10 := g.at_ 10
    simp at g0 g1 g2 g3 g4 g5 g6 g7 g8 g9 g10
    clear g
    go_wp2_with (refine wpList_store_whole rfl rfl rfl rfl rfl HRy.out (msgI rfl) rfl (by simp [Value.oneCell']) ?_)
    have hq : ∀ (cs : Array Value) (q : Nat), w2.heap.size ≤ q → (y3.setRow r cs).heap[q]? = y3.heap[q]? := fun cs q hq => setRow_other y3 r q cs (by omega)
    refine bodyPost_ret (v := .tuple #[.agg #[.int .i64 (kd : Int), .int .u32 (M.rid : Int), .int .u8 (M.code : Int), .bool M.has, .int .u64 (M.id : Int), .string M.key, .string M.val, .int .u64 (M.pid : Int), .int .u16 (M.pad : Int), .slice A5 M.peers.length d5, .slice A6 M.pairs.length d6], .int .i64 0]) ?_ rfl ⟨_, by rw [HE.out]; rfl, by rw [HE.out]; exact ⟨⟨_, _, by rw [HMk.out], Sl.of_own (own_same12 (own2_below HOp8.out HY3.out) (fun q eq _ => hq _ q (by have := (HOp8.out.lt q eq).1; omega))), Sl.of_own (own_same12 (own2_below HOq8.out HY3.out) (fun q eq _ => hq _ q (by have := (HOq8.out.lt q eq).1; omega)))⟩, HMo.out⟩, by first | exact below_row HBy.out (by omega) _ | (rw [hb]; exact below_row HBy.out (by omega) _)⟩
    exact results_msg2d rfl rfl rfl (HRy.out.row _) rfl
  · have HE := Lib.hid (E4.out (by first | rfl | trivial) h0)
    have q4 : ((rg : Int) == 0) = false := by simp; omega
    have q5 : ((rg : Int) != 0) = true := by simp; omega
    clear h0
    go_wp2_with (refine wpList_store_whole rfl rfl rfl rfl rfl HRy.out (msgI rfl) rfl (by simp [Value.oneCell']) ?_)
    refine bodyPost_ret (v := .tuple #[.agg #[.int .i64 0, .int .u32 0, .int .u8 0, .bool false, .int .u64 0, .string ⟨#[]⟩, .string ⟨#[]⟩, .int .u64 0, .int .u16 0, .slice none 0 0, .slice none 0 0], .int .i64 (rg : Int)]) ?_ rfl ⟨_, by first | (rw [HE.out]; done) | (rw [HE.out]; rfl), by rw [HE.out]; exact Mv.none13 _ _, by first | exact below_row HBy.out (by omega) _ | (rw [hb]; exact below_row HBy.out (by omega) _)⟩
    exact results_msg2d rfl rfl rfl (HRy.out.row _) rfl

end Go.Proofs.YtldjdoebappkoaaGreatDoor
