/- Contract of dict.getFields. -/
import Derived.Test.YtldjdoebappkoaaGreatDoorDg13
import Derived.Test.YtldjdoebappkoaaGreatDoorLast
namespace Go.Proofs.YtldjdoebappkoaaGreatDoor
open Go.RowKit
set_option linter.unusedVariables false
set_option maxRecDepth 100000
set_option linter.unusedSimpArgs false
open Gm
/-- valueOf, asked of the tree in block b -/
theorem Tb.value13 {w : World} {b : Nat} {t : Tn} {tk tq : Value} (H : Tb w b t tk tq) (hk4 : t.kind = 4) (hkl : t.keys.length = t.kids.length) {k : ByteArray} {X : Tn} (hX : Dm.field t k = X) :
    Calls Tryz.prog 12 #[.agg #[.int .i64 t.kind, .int .i64 t.n, .string t.s, tk, tq], .string k] w fun e w' => ∃ Ak ck At ct, e = .returned (.agg #[.int .i64 X.kind, .int .i64 X.n, .string X.s, .slice Ak X.keys.length ck, .slice At X.kids.length ct]) ∧ Tv w' w.heap.size X (.slice Ak X.keys.length ck) (.slice At X.kids.length ct) ∧ Below w.heap.size w w' := by
  refine (valueof13_any hk4 hkl H.tv k).mono ?_
  rintro e w' ⟨xk, xq, rfl, hv, hb⟩
  rw [hX] at hv ⊢
  obtain ⟨Ak, ck, rfl, _⟩ := hv.keys
  obtain ⟨At, ct, rfl, _⟩ := hv.kids
  exact ⟨Ak, ck, At, ct, rfl, hv, hb⟩
theorem tree_part13 (k n : Int) (s : ByteArray) (vk vq : Value) (w : World) : (Instr.field 25 (.agg #[.int .i64 k, .int .i64 n, .string s, vk, vq]) 1).run Tryz.prog w = .ok (.int .i64 n) w ∧ (Instr.field 25 (.agg #[.int .i64 k, .int .i64 n, .string s, vk, vq]) 2).run Tryz.prog w = .ok (.string s) w := ⟨by kernel_rfl, by kernel_rfl⟩
theorem Dx.idC_def (s : ByteArray) : Dx.idC s = (Bm.rfix (nums s) 0 8).1 := rfl
theorem results_msg13 {fn : Func} {p : Tmp} {tmps : Array Value} {w : World} {g : Nat} {cs : Array Value} (h : fn.results = #[.cell p 36])
    (hp : tmps.getD p undef = .pointer (some ⟨g, 0, none⟩)) (hg : Whole w g 36 cs) (hc : cs.size = 11) :
    (results fn tmps).run Tryz.prog w = .ok (.agg cs) w := by
  have hp' : tmps[p]?.getD undef = .pointer (some ⟨g, 0, none⟩) := by simpa using hp
  simp [results, h, hp', asAddr, run_loadVar_row w g 36 36 cs (0, 0) _ hg Tryz.underlying36 rfl (msgI hc)]

set_option maxHeartbeats 8000000 in
theorem fields13_any {t : Tn} (fw : t.Fw) (hk4 : t.kind = 4) (hkl : t.keys.length = t.kids.length) (kd : Int) {w : World} {B : Nat} {tk tq : Value} (H : Tv w B t tk tq) :
    Calls Tryz.prog 13 #[tval t tk tq] w fun e w' => ∃ vp vq, e = .returned (.agg #[.int .i64 0, .int .u32 ((Dx.readK t kd).rid : Int), .int .u8 ((Dx.readK t kd).code : Int), .bool (Dx.readK t kd).has, .int .u64 ((Dx.readK t kd).id : Int), .string (Dx.readK t kd).key, .string (Dx.readK t kd).val, .int .u64 ((Dx.readK t kd).pid : Int), .int .u16 ((Dx.readK t kd).pad : Int), vp, vq]) ∧
      w'.ownsRow w.heap.size 32 2 vp (Dx.readK t kd).peers.length (two fPeer (Dx.readK t kd).peers) ∧ w'.ownsRow w.heap.size 65 2 vq (Dx.readK t kd).pairs.length (two fPair (Dx.readK t kd).pairs) ∧ Below w.heap.size w w' := by
  obtain ⟨Ak, ck, rfl, _⟩ := H.keys
  obtain ⟨Aq, cq, rfl, _⟩ := H.kids
  obtain ⟨b, w1, hb, hal, hT, hb1⟩ := boxedT H
  obtain ⟨r, w2, hr, hal2, hs2, hR, hb2⟩ := msg_box w1
  have hbr : b < r := by rw [← hr]; exact hT.lt
  have HR := Lib.hid hR
  have HBW : Hid (Below b w w2) := Lib.hid (hb1.trans (hb2.mono (by omega)))
  have HT2 := Lib.hid (hT.below hb2 hbr)
  have HF := Lib.hid (fun W (h : Below w2.heap.size w2 W) => HT2.out.keep h)
  have HK4 := Lib.hid hk4
  have HKL := Lib.hid hkl

  obtain ⟨XR, hXR⟩ : ∃ X, Hid (Dm.field t Dm.kR = X) := ⟨_, Lib.hid rfl⟩
  have FR : Hid (XR.Fw) := Lib.hid (by rw [← hXR.out]; exact fw.field _)
  obtain ⟨XC, hXC⟩ : ∃ X, Hid (Dm.field t Dm.kC = X) := ⟨_, Lib.hid rfl⟩
  have FC : Hid (XC.Fw) := Lib.hid (by rw [← hXC.out]; exact fw.field _)
  obtain ⟨XH, hXH⟩ : ∃ X, Hid (Dm.field t Dm.kH = X) := ⟨_, Lib.hid rfl⟩
  have FH : Hid (XH.Fw) := Lib.hid (by rw [← hXH.out]; exact fw.field _)
  obtain ⟨XI, hXI⟩ : ∃ X, Hid (Dm.field t Dm.kI = X) := ⟨_, Lib.hid rfl⟩
  have FI : Hid (XI.Fw) := Lib.hid (by rw [← hXI.out]; exact fw.field _)
  obtain ⟨XK, hXK⟩ : ∃ X, Hid (Dm.field t Dm.kK = X) := ⟨_, Lib.hid rfl⟩
  have FK : Hid (XK.Fw) := Lib.hid (by rw [← hXK.out]; exact fw.field _)
  obtain ⟨XV, hXV⟩ : ∃ X, Hid (Dm.field t Dm.kV = X) := ⟨_, Lib.hid rfl⟩
  have FV : Hid (XV.Fw) := Lib.hid (by rw [← hXV.out]; exact fw.field _)
  obtain ⟨XO, hXO⟩ : ∃ X, Hid (Dm.field t Dm.kO = X) := ⟨_, Lib.hid rfl⟩
  have FO : Hid (XO.Fw) := Lib.hid (by rw [← hXO.out]; exact fw.field _)
  obtain ⟨XP, hXP⟩ : ∃ X, Hid (Dm.field t Dm.kP = X) := ⟨_, Lib.hid rfl⟩
  have FP : Hid (XP.Fw) := Lib.hid (by rw [← hXP.out]; exact fw.field _)
  obtain ⟨XT, hXT⟩ : ∃ X, Hid (Dm.field t Dm.kT = X) := ⟨_, Lib.hid rfl⟩
  have FT : Hid (XT.Fw) := Lib.hid (by rw [← hXT.out]; exact fw.field _)
  obtain ⟨rid, hrid⟩ : ∃ n, Hid ((XR.n % 4294967296).toNat = n) := ⟨_, Lib.hid rfl⟩
  obtain ⟨code, hcode⟩ : ∃ n, Hid ((XC.n % 256).toNat = n) := ⟨_, Lib.hid rfl⟩
  obtain ⟨has, hhas⟩ : ∃ n, Hid (decide (XH.n = 1) = n) := ⟨_, Lib.hid rfl⟩
  obtain ⟨id, hid⟩ : ∃ n, Hid (Dx.idC XI.s = n) := ⟨_, Lib.hid rfl⟩
  obtain ⟨p1, p2, hpp⟩ : ∃ x y, Hid (Dx.peerC XO = (x, y)) := ⟨_, _, Lib.hid rfl⟩
  obtain ⟨L, hL⟩ : ∃ L, Hid (XP.kids.map Dx.peerC = L) := ⟨_, Lib.hid rfl⟩
  obtain ⟨M, hM⟩ : ∃ L, Hid (XT.kids.map Dm.pairOf = L) := ⟨_, Lib.hid rfl⟩
  have hz : Dx.readK t kd = ⟨kd, rid, code, has, id, XK.s, XV.s, p1, p2, L, M⟩ := by
    unfold Dx.readK
    rw [hXR.out, hXC.out, hXH.out, hXI.out, hXK.out, hXV.out, hXO.out, hXP.out, hXT.out, hrid.out, hcode.out, hhas.out, hid.out, hM.out, show Dx.oneC XO.s = (p1, p2) from hpp.out, show XP.kids.map (fun x => Dx.oneC x.s) = L from hL.out]
  rw [hz]
  have hwr : IntKind.u32.wrap XR.n = (rid : Int) := by rw [wrap13_u32, hrid.out]
  have hwc : IntKind.u8.wrap XC.n = (code : Int) := by rw [wrap13_u8, hcode.out]
  have hwh : (XH.n == 1) = has := by rw [← hhas.out, Bool.eq_iff_iff]; simp
  unfold tcells at hal
  unfold tval
  have hrw : r < w2.heap.size := by omega
  clear hT hb1 hb2 H hR hz hk4 hkl fw
  go_enter Tryz.func13, Tryz.ntmps13
  go_upto_region 1 with fail
  clear hal hr hal2 hs2
  go_wp2_with fail
  refine wp_region_last (S := fun W => Below w2.heap.size w2 W) 34 [(0, true), (4, true), (8, true), (12, true), (18, true), (21, true), (24, true), (27, true), (30, true), (1, false), (2, true), (3, true), (5, false), (6, true), (7, true), (9, false), (10, true), (11, true), (13, false), (14, true), (15, false), (16, false), (17, false), (19, false), (20, true), (22, false), (23, true), (25, false), (26, false), (28, false), (29, false), (31, false), (32, false), (33, true), (34, false)] (by kernel_rfl) (by kernel_rfl) rfl (by kernel_rfl) (by rfl) (fun _ _ _ _ _ h => h) (Below.refl _ _).drew ?_
  have HB0 : Hid (Below w2.heap.size w2 w2.drew) := Lib.hid (Below.refl _ _).drew
  obtain ⟨x0, hx0⟩ : ∃ W, w2.drew = W := ⟨_, rfl⟩
  rw [hx0] at HB0 ⊢
  clear hx0
  iterate 9
    refine alongL_take (v := ?_) rfl (by rfl) ?_ ?_
    rotate_left
    · intro W hW; obtain ⟨c0, c1, c2, c3, c4⟩ := (HF.out W hW).cells; clear hW; go_simp; try with_reducible rfl
    simp only [Act.put, List.setIfInBounds_toArray, List.set_cons_zero, List.set_cons_succ]
  refine alongL_step rfl (fun K hK => ?_)
  go_simp
  refine ((HF.out _ HB0.out).value13 HK4.out HKL.out hXR.out).mono ?_
  rintro e x1 ⟨AR, cR, BR, dR, rfl, hvR, hb⟩
  have HB1 := Lib.hid (HB0.out.trans (hb.mono HB0.out.size))
  clear hvR
  refine hK.out _ _ HB1.out ?_
  clear hK K hb
  try simp only [Act.put, List.setIfInBounds_toArray, List.set_cons_zero, List.set_cons_succ]
  iterate 2
    refine alongL_take (v := ?_) rfl (by rfl) ?_ ?_
    rotate_left
    · intro W hW; clear hW; have hp1 := fun k n s vk vq => (tree_part13 k n s vk vq W).1; have hp2 := fun k n s vk vq => (tree_part13 k n s vk vq W).2; go_simp; try with_reducible rfl
    simp only [Act.put, List.setIfInBounds_toArray, List.set_cons_zero, List.set_cons_succ]
  refine alongL_step rfl (fun K hK => ?_)
  go_simp
  refine ((HF.out _ HB1.out).value13 HK4.out HKL.out hXC.out).mono ?_
  rintro e x2 ⟨AC, cC, BC, dC, rfl, hvC, hb⟩
  have HB2 := Lib.hid (HB1.out.trans (hb.mono HB1.out.size))
  clear hvC
  refine hK.out _ _ HB2.out ?_
  clear hK K hb
  try simp only [Act.put, List.setIfInBounds_toArray, List.set_cons_zero, List.set_cons_succ]
  iterate 2
    refine alongL_take (v := ?_) rfl (by rfl) ?_ ?_
    rotate_left
    · intro W hW; clear hW; have hp1 := fun k n s vk vq => (tree_part13 k n s vk vq W).1; have hp2 := fun k n s vk vq => (tree_part13 k n s vk vq W).2; go_simp; try with_reducible rfl
    simp only [Act.put, List.setIfInBounds_toArray, List.set_cons_zero, List.set_cons_succ]
  refine alongL_step rfl (fun K hK => ?_)
  go_simp
  refine ((HF.out _ HB2.out).value13 HK4.out HKL.out hXH.out).mono ?_
  rintro e x3 ⟨AH, cH, BH, dH, rfl, hvH, hb⟩
  have HB3 := Lib.hid (HB2.out.trans (hb.mono HB2.out.size))
  clear hvH
  refine hK.out _ _ HB3.out ?_
  clear hK K hb
  try simp only [Act.put, List.setIfInBounds_toArray, List.set_cons_zero, List.set_cons_succ]
  iterate 2
    refine alongL_take (v := ?_) rfl (by rfl) ?_ ?_
    rotate_left
    · intro W hW; clear hW; have hp1 := fun k n s vk vq => (tree_part13 k n s vk vq W).1; have hp2 := fun k n s vk vq => (tree_part13 k n s vk vq W).2; go_simp; try with_reducible rfl
    simp only [Act.put, List.setIfInBounds_toArray, List.set_cons_zero, List.set_cons_succ]
  refine alongL_step rfl (fun K hK => ?_)
  go_simp
  refine ((HF.out _ HB3.out).value13 HK4.out HKL.out hXI.out).mono ?_
  rintro e x4 ⟨AI, cI, BI, dI, rfl, hvI, hb⟩
  have HB4 := Lib.hid (HB3.out.trans (hb.mono HB3.out.size))
  clear hvI
  refine hK.out _ _ HB4.out ?_
  clear hK K hb
  try simp only [Act.put, List.setIfInBounds_toArray, List.set_cons_zero, List.set_cons_succ]
  iterate 1
    refine alongL_take (v := ?_) rfl (by rfl) ?_ ?_
    rotate_left
    · intro W hW; clear hW; have hp1 := fun k n s vk vq => (tree_part13 k n s vk vq W).1; have hp2 := fun k n s vk vq => (tree_part13 k n s vk vq W).2; go_simp; try with_reducible rfl
    simp only [Act.put, List.setIfInBounds_toArray, List.set_cons_zero, List.set_cons_succ]
  obtain ⟨li, hli⟩ : ∃ l, Hid (nums XI.s = l) := ⟨_, Lib.hid rfl⟩
  have TI := Txt.nums XI.s
  rw [hli.out] at TI
  have hill : li.length ≤ 1000000 := by rw [← TI.size]; exact FI.out.str
  obtain ⟨cc, x5, hcv, hpc, hb⟩ := conv_piece13 (w := x4) TI (by omega)
  have HPc := Lib.hid hpc
  have HBy := Lib.hid TI.byte
  have HB5 := Lib.hid (HB4.out.trans (hb.mono HB4.out.size))
  clear hpc TI
  refine alongL_step rfl (fun K hK => ?_)
  go_simp
  refine hK.out _ _ HB5.out ?_
  clear hK K hb hcv
  try simp only [Act.put, List.setIfInBounds_toArray, List.set_cons_zero, List.set_cons_succ]
  refine alongL_step rfl (fun K hK => ?_)
  go_simp
  refine (open_any HPc.out (by omega) HBy.out).mono ?_
  rintro e x6 ⟨gr, rfl, hgr, hrd, hb⟩
  have HB6 := Lib.hid (HB5.out.trans (hb.mono HB5.out.size))
  have HRd := Lib.hid hrd
  clear hrd
  refine hK.out _ _ HB6.out ?_
  clear hK K hb
  try simp only [Act.put, List.setIfInBounds_toArray, List.set_cons_zero, List.set_cons_succ]
  refine alongL_step rfl (fun K hK => ?_)
  go_simp
  refine (rfix_any 8 (by omega) (by omega) HRd.out).mono ?_
  rintro e x7 ⟨rfl, hr5, ho5⟩
  rw [show ((Bm.rfix li 0 8).1 : Int) = (id : Int) by rw [← hid.out, Dx.idC_def, hli.out]]
  have HB7 := Lib.hid (HB6.out.trans (ho5.below (by have := HB5.out.size; omega) (by have := HB6.out.size; omega)))
  refine hK.out _ _ HB7.out ?_
  clear hK K hr5 ho5
  try simp only [Act.put, List.setIfInBounds_toArray, List.set_cons_zero, List.set_cons_succ]
  refine alongL_step rfl (fun K hK => ?_)
  go_simp
  refine ((HF.out _ HB7.out).value13 HK4.out HKL.out hXK.out).mono ?_
  rintro e x8 ⟨AK, cK, BK, dK, rfl, hvK, hb⟩
  have HB8 := Lib.hid (HB7.out.trans (hb.mono HB7.out.size))
  clear hvK
  refine hK.out _ _ HB8.out ?_
  clear hK K hb
  try simp only [Act.put, List.setIfInBounds_toArray, List.set_cons_zero, List.set_cons_succ]
  iterate 1
    refine alongL_take (v := ?_) rfl (by rfl) ?_ ?_
    rotate_left
    · intro W hW; clear hW; have hp1 := fun k n s vk vq => (tree_part13 k n s vk vq W).1; have hp2 := fun k n s vk vq => (tree_part13 k n s vk vq W).2; go_simp; try with_reducible rfl
    simp only [Act.put, List.setIfInBounds_toArray, List.set_cons_zero, List.set_cons_succ]
  refine alongL_step rfl (fun K hK => ?_)
  go_simp
  refine ((HF.out _ HB8.out).value13 HK4.out HKL.out hXV.out).mono ?_
  rintro e x9 ⟨AV, cV, BV, dV, rfl, hvV, hb⟩
  have HB9 := Lib.hid (HB8.out.trans (hb.mono HB8.out.size))
  clear hvV
  refine hK.out _ _ HB9.out ?_
  clear hK K hb
  try simp only [Act.put, List.setIfInBounds_toArray, List.set_cons_zero, List.set_cons_succ]
  iterate 1
    refine alongL_take (v := ?_) rfl (by rfl) ?_ ?_
    rotate_left
    · intro W hW; clear hW; have hp1 := fun k n s vk vq => (tree_part13 k n s vk vq W).1; have hp2 := fun k n s vk vq => (tree_part13 k n s vk vq W).2; go_simp; try with_reducible rfl
    simp only [Act.put, List.setIfInBounds_toArray, List.set_cons_zero, List.set_cons_succ]
  refine alongL_step rfl (fun K hK => ?_)
  go_simp
  refine ((HF.out _ HB9.out).value13 HK4.out HKL.out hXO.out).mono ?_
  rintro e x10 ⟨AO, cO, BO, dO, rfl, hvO, hb⟩
  have HB10 := Lib.hid (HB9.out.trans (hb.mono HB9.out.size))
  have HVO := Lib.hid hvO.all
  clear hvO
  refine hK.out _ _ HB10.out ?_
  clear hK K hb
  try simp only [Act.put, List.setIfInBounds_toArray, List.set_cons_zero, List.set_cons_succ]
  refine alongL_step rfl (fun K hK => ?_)
  go_simp
  refine ((getpeer13_any FO.out.str HVO.out)).mono ?_
  rintro e x11 ⟨rfl, hb⟩
  have HB11 := Lib.hid (HB10.out.trans (hb.mono HB10.out.size))
  rw [hpp.out]
  refine hK.out _ _ HB11.out ?_
  clear hK K hb
  try simp only [Act.put, List.setIfInBounds_toArray, List.set_cons_zero, List.set_cons_succ]
  refine alongL_step rfl (fun K hK => ?_)
  go_simp
  refine ((HF.out _ HB11.out).value13 HK4.out HKL.out hXP.out).mono ?_
  rintro e x12 ⟨AP, cP, BP, dP, rfl, hvP, hb⟩
  have HB12 := Lib.hid (HB11.out.trans (hb.mono HB11.out.size))
  have HVP := Lib.hid hvP.all
  clear hvP
  refine hK.out _ _ HB12.out ?_
  clear hK K hb
  try simp only [Act.put, List.setIfInBounds_toArray, List.set_cons_zero, List.set_cons_succ]
  refine alongL_step rfl (fun K hK => ?_)
  go_simp
  refine ((slicepeer13_any (by have := FP.out.kids; omega) (fun u hu => (FP.out.kid u hu).str) HVP.out)).mono ?_
  rintro e x13 ⟨vp, rfl, hop, hb⟩
  have HB13 := Lib.hid (HB12.out.trans (hb.mono HB12.out.size))
  rw [hL.out] at hop
  have RP13 := Lib.hid (own2_lower hop (show w2.heap.size ≤ x12.heap.size from HB12.out.size))
  clear hop
  refine hK.out _ _ HB13.out ?_
  clear hK K hb
  try simp only [Act.put, List.setIfInBounds_toArray, List.set_cons_zero, List.set_cons_succ]
  refine alongL_step rfl (fun K hK => ?_)
  go_simp
  refine ((HF.out _ HB13.out).value13 HK4.out HKL.out hXT.out).mono ?_
  rintro e x14 ⟨AT, cT, BT, dT, rfl, hvT, hb⟩
  have HB14 := Lib.hid (HB13.out.trans (hb.mono HB13.out.size))
  have HVT := Lib.hid hvT.all
  clear hvT
  have RP14 := Lib.hid (own2_below RP13.out hb)
  refine hK.out _ _ HB14.out ?_
  clear hK K hb
  try simp only [Act.put, List.setIfInBounds_toArray, List.set_cons_zero, List.set_cons_succ]
  refine alongL_step rfl (fun K hK => ?_)
  go_simp
  refine ((slicepair13_any (by have := FT.out.kids; omega) HVT.out)).mono ?_
  rintro e x15 ⟨vq, rfl, hoq, hb⟩
  have HB15 := Lib.hid (HB14.out.trans (hb.mono HB14.out.size))
  rw [hM.out] at hoq
  have RQ15 := Lib.hid (own2_lower hoq (show w2.heap.size ≤ x14.heap.size from HB14.out.size))
  clear hoq
  have RP15 := Lib.hid (own2_below RP14.out hb)
  refine hK.out _ _ HB15.out ?_
  clear hK K hb
  try simp only [Act.put, List.setIfInBounds_toArray, List.set_cons_zero, List.set_cons_succ]
  obtain ⟨A9, c9, rfl, _, _, _, _⟩ := own_look RP15.out
  obtain ⟨A8, c8, rfl, _, _, _, _⟩ := own_look RQ15.out
  iterate 1
    refine alongL_take (v := ?_) rfl (by rfl) ?_ ?_
    rotate_left
    · intro W hW; clear hW; have hp1 := fun k n s vk vq => (tree_part13 k n s vk vq W).1; have hp2 := fun k n s vk vq => (tree_part13 k n s vk vq W).2; go_simp; try with_reducible rfl
    simp only [Act.put, List.setIfInBounds_toArray, List.set_cons_zero, List.set_cons_succ]
  have HRj := Lib.hid (HR.out.below HB15.out hrw)
  refine alongL_last rfl (fun K hK => ?_)
  refine step_store_whole rfl rfl rfl rfl rfl HRj.out (msgI rfl) rfl (by simp [Value.oneCell']) ?_
  refine hK.out _ _ ?_
  clear hK K
  go_wp2_with fail
  have hbel : Below b w x15 := HBW.out.trans (HB15.out.mono (by omega))
  have HMsg : Hid (∀ cs, (x15.setRow r cs).ownsRow w.heap.size 32 2 (.slice A9 L.length c9) L.length (two fPeer L) ∧ (x15.setRow r cs).ownsRow w.heap.size 65 2 (.slice A8 M.length c8) M.length (two fPair M)) := Lib.hid (fun cs => ⟨own2_lower (own_same12 RP15.out (fun q eq _ => setRow_other x15 r q cs (by have := (RP15.out.lt q eq).1; omega))) (by omega), own2_lower (own_same12 RQ15.out (fun q eq _ => setRow_other x15 r q cs (by have := (RQ15.out.lt q eq).1; omega))) (by omega)⟩)
  refine bodyPost_ret (v := .agg #[.int .i64 0, .int .u32 (rid : Int), .int .u8 (code : Int), .bool has, .int .u64 (id : Int), .string XK.s, .string XV.s, .int .u64 (p1 : Int), .int .u16 (p2 : Int), .slice A9 L.length c9, .slice A8 M.length c8]) ?_ rfl ⟨_, _, rfl, (HMsg.out _).1, (HMsg.out _).2, by rw [hb]; exact below_row hbel (by omega) _⟩
  exact results_msg13 rfl rfl (HRj.out.row _) rfl
end Go.Proofs.YtldjdoebappkoaaGreatDoor
