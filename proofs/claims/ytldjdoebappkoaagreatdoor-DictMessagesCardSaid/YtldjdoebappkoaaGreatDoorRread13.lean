/- Contract of layer 13's reference's Read. -/
import Derived.Test.YtldjdoebappkoaaGreatDoorRs13
import Derived.Deep.CutRange
namespace Go.Proofs.YtldjdoebappkoaaGreatDoor
open Go.RowKit
set_option linter.unusedVariables false
set_option maxRecDepth 100000
set_option linter.unusedSimpArgs false
open Gm

set_option maxHeartbeats 8000000 in
theorem rread13_any {w : World} {B : Nat} {t : Tn} {tk tq : Value} (H : Tv w B t tk tq) (hk1 : (Dm.field t Dm.kP).kids.length ≤ 100000) (hk2 : (Dm.field t Dm.kT).kids.length ≤ 100000) :
    Calls Tryz.prog 19 #[tval t tk tq] w fun e w' => ∃ v, e = .returned v ∧ Mo w' w.heap.size (Dm.read t) v ∧ Below w.heap.size w w' := by
  obtain ⟨b, w1, hb, hal, hT, hb1⟩ := boxedT H
  obtain ⟨r, w2, hr, hal2, hs2, hR, hb2⟩ := msg_box w1
  obtain ⟨gm, w3, hgm, hal3, hs3, hM, hb3⟩ := msg_box w2
  have hwb : w.heap.size ≤ b := by omega
  have hbr : b < r := by rw [← hr]; exact hT.lt
  have hrm : r < gm := by omega
  obtain ⟨w4, hst4⟩ : ∃ W, w3.setRow gm #[.int .i64 0, .int .u32 0, .int .u8 0, .bool false, .int .u64 0, .string ⟨#[]⟩, .string ⟨#[]⟩, .int .u64 0, .int .u16 0, .slice none 0 0, .slice none 0 0] = W := ⟨_, rfl⟩
  have hM3 := Lib.hid hM
  have hB4 : Hid (Below gm w2 w4) := Lib.hid (by rw [← hst4]; exact below_row hb3 (Nat.le_refl _) _)
  have hT4 : Hid (Tb w4 b t tk tq) := Lib.hid (((hT.below hb2 hbr).below hB4.out (by omega)))
  have hR4 : Hid (Whole w4 r 36 #[.int .i64 0, .int .u32 0, .int .u8 0, .bool false, .int .u64 0, .string ⟨#[]⟩, .string ⟨#[]⟩, .int .u64 0, .int .u16 0, .slice none 0 0, .slice none 0 0]) := Lib.hid (hR.below hB4.out hrm)
  have hM4 : Hid (Whole w4 gm 36 #[.int .i64 0, .int .u32 0, .int .u8 0, .bool false, .int .u64 0, .string ⟨#[]⟩, .string ⟨#[]⟩, .int .u64 0, .int .u16 0, .slice none 0 0, .slice none 0 0]) := Lib.hid (by rw [← hst4]; exact hM.row _)
  have hL4 : Hid (Below w.heap.size w w4) := Lib.hid (by rw [hb]; exact hb1.trans ((hb2.mono (by omega)).trans (hB4.out.mono (by omega))))
  obtain ⟨Ak0, ck0, rfl, _⟩ := hT4.out.tv.keys
  obtain ⟨At0, ct0, rfl, _⟩ := hT4.out.tv.kids
  obtain ⟨XC, hXC⟩ : ∃ X, Hid (Dm.field t Dm.kC = X) := ⟨_, Lib.hid rfl⟩
  obtain ⟨sC, hsC⟩ : ∃ s, Hid ((t.get Dm.kC).isSome = s) := ⟨_, Lib.hid rfl⟩
  obtain ⟨XH, hXH⟩ : ∃ X, Hid (Dm.field t Dm.kH = X) := ⟨_, Lib.hid rfl⟩
  obtain ⟨sH, hsH⟩ : ∃ s, Hid ((t.get Dm.kH).isSome = s) := ⟨_, Lib.hid rfl⟩
  obtain ⟨XI, hXI⟩ : ∃ X, Hid (Dm.field t Dm.kI = X) := ⟨_, Lib.hid rfl⟩
  obtain ⟨sI, hsI⟩ : ∃ s, Hid ((t.get Dm.kI).isSome = s) := ⟨_, Lib.hid rfl⟩
  obtain ⟨XK, hXK⟩ : ∃ X, Hid (Dm.field t Dm.kK = X) := ⟨_, Lib.hid rfl⟩
  obtain ⟨sK, hsK⟩ : ∃ s, Hid ((t.get Dm.kK).isSome = s) := ⟨_, Lib.hid rfl⟩
  obtain ⟨XO, hXO⟩ : ∃ X, Hid (Dm.field t Dm.kO = X) := ⟨_, Lib.hid rfl⟩
  obtain ⟨sO, hsO⟩ : ∃ s, Hid ((t.get Dm.kO).isSome = s) := ⟨_, Lib.hid rfl⟩
  obtain ⟨XP, hXP⟩ : ∃ X, Hid (Dm.field t Dm.kP = X) := ⟨_, Lib.hid rfl⟩
  obtain ⟨sP, hsP⟩ : ∃ s, Hid ((t.get Dm.kP).isSome = s) := ⟨_, Lib.hid rfl⟩
  obtain ⟨XQ, hXQ⟩ : ∃ X, Hid (Dm.field t Dm.kQ = X) := ⟨_, Lib.hid rfl⟩
  obtain ⟨sQ, hsQ⟩ : ∃ s, Hid ((t.get Dm.kQ).isSome = s) := ⟨_, Lib.hid rfl⟩
  obtain ⟨XR, hXR⟩ : ∃ X, Hid (Dm.field t Dm.kR = X) := ⟨_, Lib.hid rfl⟩
  obtain ⟨sR, hsR⟩ : ∃ s, Hid ((t.get Dm.kR).isSome = s) := ⟨_, Lib.hid rfl⟩
  obtain ⟨XT, hXT⟩ : ∃ X, Hid (Dm.field t Dm.kT = X) := ⟨_, Lib.hid rfl⟩
  obtain ⟨sT, hsT⟩ : ∃ s, Hid ((t.get Dm.kT).isSome = s) := ⟨_, Lib.hid rfl⟩
  obtain ⟨XV, hXV⟩ : ∃ X, Hid (Dm.field t Dm.kV = X) := ⟨_, Lib.hid rfl⟩
  obtain ⟨sV, hsV⟩ : ∃ s, Hid ((t.get Dm.kV).isSome = s) := ⟨_, Lib.hid rfl⟩
  rw [hXP.out] at hk1
  rw [hXT.out] at hk2
  obtain ⟨c, hc⟩ : ∃ c, Hid ((XC.n % 256).toNat = c) := ⟨_, Lib.hid rfl⟩
  obtain ⟨rd, hrd⟩ : ∃ c, Hid ((XR.n % 4294967296).toNat = c) := ⟨_, Lib.hid rfl⟩
  obtain ⟨ii, hii⟩ : ∃ c, Hid (Dm.word XI.s 0 8 = c) := ⟨_, Lib.hid rfl⟩
  obtain ⟨o1, o2, ho⟩ : ∃ x y, Hid (Dm.one XO.s = (x, y)) := ⟨_, _, Lib.hid rfl⟩
  obtain ⟨kd, hkd⟩ : ∃ c, Hid (kindOf XQ.s = c) := ⟨_, Lib.hid rfl⟩
  obtain ⟨Z, hZ⟩ : ∃ Z, Hid (Dm.read t = Z) := ⟨_, Lib.hid rfl⟩
  rw [hZ.out]
  clear hT hR hM hb1 hb2 hb3 H hs2 hs3
  unfold tval
  unfold tcells at hal
  obtain ⟨t0, t1, t2, t3, t4⟩ := hT4.out.cells
  go_enter Tryz.func19, Tryz.ntmps19
  go_upto_region 2 with (refine wpList_store_whole rfl rfl rfl rfl rfl hM3.out (msgI rfl) rfl (by simp [Value.oneCell']) ?_; rw [hst4])
  clear hb hal hr hal2 hgm hal3 hst4
  go_wp2_with fail
  refine (rget11_at hT4.out.tv (Nat.le_of_lt hT4.out.lt) Dm.kC).mono ?_
  rintro e w5 ⟨yk, yq, rfl, hv, hb5⟩
  have e1 : (t.get Dm.kC).getD Tn.zero = XC := hXC.out
  rw [e1] at hv ⊢
  rw [hsC.out]
  obtain ⟨Ak, ck, rfl, _⟩ := hv.keys
  obtain ⟨At, ct, rfl, _⟩ := hv.kids
  obtain ⟨gx, w6, hgx, hal6, hX6, hb6, hs6⟩ := var_tree w5
  obtain ⟨W, hW⟩ : ∃ W, w6.setRow gx #[.int .i64 XC.kind, .int .i64 XC.n, .string XC.s, .slice Ak XC.keys.length ck, .slice At XC.kids.length ct] = W := ⟨_, rfl⟩
  have hgl : gm < gx := by have := hM4.out.lt; have := hb5.size; omega
  have HR : Hid (Rs w b r gm gx t (.slice Ak0 t.keys.length ck0) (.slice At0 t.kids.length ct0) #[.int .i64 0, .int .u32 0, .int .u8 0, .bool false, .int .u64 0, .string ⟨#[]⟩, .string ⟨#[]⟩, .int .u64 0, .int .u16 0, .slice none 0 0, .slice none 0 0] XC (.slice Ak XC.keys.length ck) (.slice At XC.kids.length ct) W) := Lib.hid (by
    have z5 := hb5.size
    have a1 : Below w4.heap.size w5 w6 := hb6.mono (by omega)
    have hB : Below w4.heap.size w4 W := by rw [← hW]; exact below_row (hb5.trans a1) (by omega) _
    have hB5 : Below gx w5 W := by rw [← hW]; exact below_row hb6 (Nat.le_refl _) _
    exact ⟨hT4.out.keep hB, hR4.out.below hB hR4.out.lt, hM4.out.below hB hM4.out.lt, by rw [← hW]; exact hX6.row _, hv.keep (hB5.mono (by omega)), hL4.out.trans (hB.mono hL4.out.size), ⟨hwb, hbr, hrm, hgl⟩⟩)
  have HX6 := Lib.hid hX6
  clear hv hb5 hb6 hs6 hX6 e1 t0 t1 t2 t3 t4
  unfold tval
  go_upto_region 3 with (refine wpList_store_whole rfl rfl rfl rfl rfl HX6.out (treeI rfl) rfl (by simp [Value.oneCell']) ?_; rw [hW])
  clear hgx hal6 hW HX6 hM3 hM4 hT4 hR4 hL4 hB4
  obtain ⟨d0, d1, d2, d3, d4⟩ := HR.out.cells
  have mi := HR.out.msg.at_ 2
  have fi := HR.out.msg.free 2
  simp at mi
  have hwr : IntKind.u8.wrap XC.n = (c : Int) := by rw [wrap13_u8, hc.out]
  obtain ⟨V, hV⟩ : ∃ V, W.setCell ⟨gm, 2, none⟩ (.int .u8 (c : Int)) = V := ⟨_, rfl⟩
  go_upto_region 4 with fail
  try rw [hV]
  have HR1 := Lib.hid (HR.out.putm 2 (.int .u8 (c : Int)))
  rw [hV] at HR1
  clear HR hV mi fi
  clear d0 d1 d2 d3 d4
  have HR : Hid (Rs w b r gm gx t (.slice Ak0 t.keys.length ck0) (.slice At0 t.kids.length ct0) #[.int .i64 0, .int .u32 0, .int .u8 (c : Int), .bool false, .int .u64 0, .string ⟨#[]⟩, .string ⟨#[]⟩, .int .u64 0, .int .u16 0, .slice none 0 0, .slice none 0 0] XC (.slice Ak XC.keys.length ck) (.slice At XC.kids.length ct) V) := HR1
  clear HR1
  clear hwr
  obtain ⟨t0, t1, t2, t3, t4⟩ := HR.out.box.cells
  go_wp2_with fail
  refine (HR.out.get hXH.out hsH.out).mono ?_
  rintro e w1 ⟨Ak, ck, At, ct, rfl, h1, hx1, _⟩
  obtain ⟨W1, hW1⟩ : ∃ W, w1.setRow gx #[.int .i64 XH.kind, .int .i64 XH.n, .string XH.s, .slice Ak XH.keys.length ck, .slice At XH.kids.length ct] = W := ⟨_, rfl⟩
  have HS := Lib.hid h1
  clear HR
  have HR := Lib.hid (h1.putx hx1)
  rw [hW1] at HR
  have m3 := HR.out.msg.at_ 3
  have f3 := HR.out.msg.free 3
  simp at m3
  obtain ⟨W, hW⟩ : ∃ W, W1.setCell ⟨gm, 3, none⟩ (.bool sH) = W := ⟨_, rfl⟩
  clear h1 hx1 t0 t1 t2 t3 t4
  go_upto_region 5 with (refine wpList_store_whole rfl rfl rfl rfl rfl HS.out.var (treeI rfl) rfl (by simp [Value.oneCell']) ?_; rw [hW1])
  try rw [hW]
  have HR1 := Lib.hid (HR.out.putm 3 (.bool sH))
  rw [hW] at HR1
  clear HR HS hW1 hW m3 f3
  have HR : Hid (Rs w b r gm gx t (.slice Ak0 t.keys.length ck0) (.slice At0 t.kids.length ct0) #[.int .i64 0, .int .u32 0, .int .u8 (c : Int), .bool sH, .int .u64 0, .string ⟨#[]⟩, .string ⟨#[]⟩, .int .u64 0, .int .u16 0, .slice none 0 0, .slice none 0 0] XH (.slice Ak XH.keys.length ck) (.slice At XH.kids.length ct) W) := HR1
  clear HR1
  obtain ⟨t0, t1, t2, t3, t4⟩ := HR.out.box.cells
  go_wp2_with fail
  refine (HR.out.get hXI.out hsI.out).mono ?_
  rintro e w1 ⟨Ak, ck, At, ct, rfl, h1, hx1, _⟩
  obtain ⟨W, hW⟩ : ∃ W, w1.setRow gx #[.int .i64 XI.kind, .int .i64 XI.n, .string XI.s, .slice Ak XI.keys.length ck, .slice At XI.kids.length ct] = W := ⟨_, rfl⟩
  have HS := Lib.hid h1
  clear HR
  have HR := Lib.hid (h1.putx hx1)
  rw [hW] at HR
  clear h1 hx1 t0 t1 t2 t3 t4
  go_upto_region 6 with (refine wpList_store_whole rfl rfl rfl rfl rfl HS.out.var (treeI rfl) rfl (by simp [Value.oneCell']) ?_; rw [hW])
  clear hW HS
  obtain ⟨d0, d1, d2, d3, d4⟩ := HR.out.cells
  have mi := HR.out.msg.at_ 4
  have fi := HR.out.msg.free 4
  simp at mi
  go_wp2_with fail
  refine (rword13_any XI.s 0 8 (by omega) (by omega) _).mono ?_
  rintro e w2 ⟨rfl, rfl⟩
  rw [hii.out]
  obtain ⟨V, hV⟩ : ∃ V, w2.setCell ⟨gm, 4, none⟩ (.int .u64 (ii : Int)) = V := ⟨_, rfl⟩
  go_upto_region 7 with fail
  try rw [hV]
  have HR1 := Lib.hid (HR.out.putm 4 (.int .u64 (ii : Int)))
  rw [hV] at HR1
  clear HR hV mi fi
  clear d0 d1 d2 d3 d4
  have HR : Hid (Rs w b r gm gx t (.slice Ak0 t.keys.length ck0) (.slice At0 t.kids.length ct0) #[.int .i64 0, .int .u32 0, .int .u8 (c : Int), .bool sH, .int .u64 (ii : Int), .string ⟨#[]⟩, .string ⟨#[]⟩, .int .u64 0, .int .u16 0, .slice none 0 0, .slice none 0 0] XI (.slice Ak XI.keys.length ck) (.slice At XI.kids.length ct) V) := HR1
  clear HR1
  obtain ⟨t0, t1, t2, t3, t4⟩ := HR.out.box.cells
  go_wp2_with fail
  refine (HR.out.get hXK.out hsK.out).mono ?_
  rintro e w1 ⟨Ak, ck, At, ct, rfl, h1, hx1, _⟩
  obtain ⟨W, hW⟩ : ∃ W, w1.setRow gx #[.int .i64 XK.kind, .int .i64 XK.n, .string XK.s, .slice Ak XK.keys.length ck, .slice At XK.kids.length ct] = W := ⟨_, rfl⟩
  have HS := Lib.hid h1
  clear HR
  have HR := Lib.hid (h1.putx hx1)
  rw [hW] at HR
  clear h1 hx1 t0 t1 t2 t3 t4
  go_upto_region 8 with (refine wpList_store_whole rfl rfl rfl rfl rfl HS.out.var (treeI rfl) rfl (by simp [Value.oneCell']) ?_; rw [hW])
  clear hW HS
  obtain ⟨d0, d1, d2, d3, d4⟩ := HR.out.cells
  have mi := HR.out.msg.at_ 5
  have fi := HR.out.msg.free 5
  simp at mi
  obtain ⟨V, hV⟩ : ∃ V, W.setCell ⟨gm, 5, none⟩ (.string XK.s) = V := ⟨_, rfl⟩
  go_upto_region 9 with fail
  try rw [hV]
  have HR1 := Lib.hid (HR.out.putm 5 (.string XK.s))
  rw [hV] at HR1
  clear HR hV mi fi
  clear d0 d1 d2 d3 d4
  have HR : Hid (Rs w b r gm gx t (.slice Ak0 t.keys.length ck0) (.slice At0 t.kids.length ct0) #[.int .i64 0, .int .u32 0, .int .u8 (c : Int), .bool sH, .int .u64 (ii : Int), .string XK.s, .string ⟨#[]⟩, .int .u64 0, .int .u16 0, .slice none 0 0, .slice none 0 0] XK (.slice Ak XK.keys.length ck) (.slice At XK.kids.length ct) V) := HR1
  clear HR1
  obtain ⟨t0, t1, t2, t3, t4⟩ := HR.out.box.cells
  go_wp2_with fail
  refine (HR.out.get hXO.out hsO.out).mono ?_
  rintro e w1 ⟨Ak, ck, At, ct, rfl, h1, hx1, _⟩
  obtain ⟨W, hW⟩ : ∃ W, w1.setRow gx #[.int .i64 XO.kind, .int .i64 XO.n, .string XO.s, .slice Ak XO.keys.length ck, .slice At XO.kids.length ct] = W := ⟨_, rfl⟩
  have HS := Lib.hid h1
  clear HR
  have HR := Lib.hid (h1.putx hx1)
  rw [hW] at HR
  clear h1 hx1 t0 t1 t2 t3 t4
  go_upto_region 10 with (refine wpList_store_whole rfl rfl rfl rfl rfl HS.out.var (treeI rfl) rfl (by simp [Value.oneCell']) ?_; rw [hW])
  clear hW HS
  obtain ⟨d0, d1, d2, d3, d4⟩ := HR.out.cells
  go_wp2_with fail
  refine (rone13_any XO.s _).mono ?_
  rintro e w2 ⟨rfl, hb2⟩
  rw [ho.out]
  have HR2 := Lib.hid (HR.out.behind hb2)
  clear HR hb2 d0 d1 d2 d3 d4
  have HR := HR2
  clear HR2
  have hth := Lib.hid (whole_there HR.out.msg (o := 7) (n := 2) (by simp))
  obtain ⟨V, hV⟩ : ∃ V, (w2.setCell ⟨gm, 7, none⟩ (.int .u64 (o1 : Int))).setCell ⟨gm, 8, none⟩ (.int .u16 (o2 : Int)) = V := ⟨_, rfl⟩
  go_upto_region 11 with (refine wpList_store_mid rfl 32 _ _ rfl gm 7 #[.int .u64 (o1 : Int), .int .u16 (o2 : Int)] rfl rfl hth.out (peerI rfl) (by simp [Value.oneCell']) ?_)
  have hV' : w2.setCells gm 7 (#[Value.int .u64 (o1 : Int), .int .u16 (o2 : Int)] : Array Value).toList = V := hV
  rw [hV']
  have HR1 := Lib.hid ((HR.out.putm 7 (.int .u64 (o1 : Int))).putm 8 (.int .u16 (o2 : Int)))
  rw [hV] at HR1
  clear HR hV hV' hth
  have HR : Hid (Rs w b r gm gx t (.slice Ak0 t.keys.length ck0) (.slice At0 t.kids.length ct0) #[.int .i64 0, .int .u32 0, .int .u8 (c : Int), .bool sH, .int .u64 (ii : Int), .string XK.s, .string ⟨#[]⟩, .int .u64 (o1 : Int), .int .u16 (o2 : Int), .slice none 0 0, .slice none 0 0] XO (.slice Ak XO.keys.length ck) (.slice At XO.kids.length ct) V) := HR1
  clear HR1
  obtain ⟨t0, t1, t2, t3, t4⟩ := HR.out.box.cells
  go_wp2_with fail
  refine (HR.out.get hXP.out hsP.out).mono ?_
  rintro e w1 ⟨Ak, ck, At, ct, rfl, h1, hx1, _⟩
  obtain ⟨W, hW⟩ : ∃ W, w1.setRow gx #[.int .i64 XP.kind, .int .i64 XP.n, .string XP.s, .slice Ak XP.keys.length ck, .slice At XP.kids.length ct] = W := ⟨_, rfl⟩
  have HS := Lib.hid h1
  clear HR
  have HR := Lib.hid (h1.putx hx1)
  rw [hW] at HR
  clear h1 hx1 t0 t1 t2 t3 t4
  go_upto_region 12 with (refine wpList_store_whole rfl rfl rfl rfl rfl HS.out.var (treeI rfl) rfl (by simp [Value.oneCell']) ?_; rw [hW])
  clear hW HS
  have HOw : Hid (W.ownsRow (gx + 1) 32 2 (.slice none 0 0) 0 (two fPeer ([] : List (Nat × Nat)))) := Lib.hid (World.ownsRow_nil _ _ 32 2)
  go_wp2_with fail
  go_loopw [6] (fun i wr => ∃ (j : Nat) (L : List (Nat × Nat)) (vp : Value), i = .int .i64 (j : Int) ∧ j ≤ XP.kids.length ∧ Hid (L.length = j) ∧ Hid (Rs w b r gm gx t (.slice Ak0 t.keys.length ck0) (.slice At0 t.kids.length ct0) #[.int .i64 0, .int .u32 0, .int .u8 (c : Int), .bool sH, .int .u64 (ii : Int), .string XK.s, .string ⟨#[]⟩, .int .u64 (o1 : Int), .int .u16 (o2 : Int), vp, .slice none 0 0] XP (.slice Ak XP.keys.length ck) (.slice At XP.kids.length ct) wr) ∧ Hid (wr.ownsRow (gx + 1) 32 2 vp L.length (two fPeer L)) ∧ Hid (L = (XP.kids.take j).map (fun x => Dm.one x.s))) (fun i _ => XP.kids.length - (intOf i).toNat)
  case atStart => exact ⟨0, [], .slice none 0 0, rfl, Nat.zero_le _, Lib.hid rfl, HR, HOw, Lib.hid rfl⟩
  case round =>
    obtain ⟨j, L, vp, rfl, hj, hLj, HQ, HO, HM⟩ := hrel
    clear HR HOw
    obtain ⟨d0, d1, d2, d3, d4⟩ := HQ.out.cells
    clear d0 d1 d2 d3
    by_cases hlt : j < XP.kids.length
    · have hlt' : (j : Int) < (XP.kids.length : Int) := by omega
      obtain ⟨bk, ok, K, Q, hAt, hbk, h5, _⟩ := Tv.kid_at HQ.out.xt hlt
      obtain ⟨ks, hks⟩ : ∃ s, XP.kids[j].s = s := ⟨_, rfl⟩
      have hc2 := h5.c2
      rw [hks] at hc2
      obtain ⟨A, c0, rfl, _, _, _, _⟩ := own_look HO.out
      have hgx := HQ.out.lt
      have HF : Hid (∀ W, Below (gx + 1) wr W → W.cell? ⟨gm, 9, none⟩ = some (.slice A L.length c0) ∧ W.cell? ⟨gx, 4, none⟩ = some (.slice (some ⟨bk, ok, none⟩) XP.kids.length ct) ∧ W.cell? ⟨bk, ok + j * 5 + 2, none⟩ = some (.string ks)) := Lib.hid (fun W hW => by
        have hR := HQ.out.under hW
        refine ⟨hR.msg.at_ 9, ?_, (World.cell?_of_block (hW.block bk (by omega))).trans hc2⟩
        have := hR.cells.2.2.2.2
        rw [hAt] at this
        exact this)
      rw [hAt] at d4
      have HMn : Hid (L ++ [Dm.one ks] = (XP.kids.take (j + 1)).map (fun x => Dm.one x.s)) := Lib.hid (by
        rw [List.take_succ_eq_append_getElem hlt, List.map_append, ← HM.out, ← hks]; rfl)
      obtain ⟨y1, y2, hy⟩ : ∃ x y, Hid (Dm.one ks = (x, y)) := ⟨_, _, Lib.hid rfl⟩
      rw [hy.out] at HMn
      clear h5 hks hc2 hAt hbk hgx
      go_wp2_with fail
      refine wp_region_last (S := fun W => Below (gx + 1) wr W) 12 [(0, true), (1, true), (2, true), (3, true), (4, true), (5, true), (6, true), (7, true), (8, false), (9, false), (10, false), (11, true), (12, false)] (by kernel_rfl) (by kernel_rfl) rfl (by kernel_rfl) (by rfl) (fun _ _ _ _ _ h => h) (Below.refl _ _).drew ?_
      iterate 8
        refine alongL_take (v := ?_) rfl (by rfl) ?_ ?_
        rotate_left
        · intro W hW; obtain ⟨e0, e1, e2⟩ := HF.out W hW; clear hW; go_simp; try with_reducible rfl
        simp only [Act.put, List.setIfInBounds_toArray, List.set_cons_zero, List.set_cons_succ]
      have HB0 : Hid (Below (gx + 1) wr wr.drew) := Lib.hid (Below.refl _ _).drew
      have hz0 := HQ.out.var.lt
      refine alongL_step rfl (fun K hK => ?_)
      go_simp
      refine (rone13_any ks _).mono ?_
      rintro e x1 ⟨rfl, hb⟩
      rw [hy.out]
      have HB1 := Lib.hid (HB0.out.trans (hb.mono (by have := HB0.out.size; omega)))
      have HO1 := Lib.hid (own2_below (own2_below HO.out (Below.refl _ _).drew) hb)
      refine hK.out _ _ HB1.out ?_
      clear hK K hb
      try simp only [Act.put, List.setIfInBounds_toArray, List.set_cons_zero, List.set_cons_succ]
      refine alongL_step rfl (fun K hK => ?_)
      go_simp
      obtain ⟨z, hz⟩ : ∃ z, x1.heap.size = z := ⟨_, rfl⟩
      obtain ⟨wa, hala⟩ : ∃ wa, x1.alloc (.cells #[.int .u64 (y1 : Int), .int .u16 (y2 : Int)] 32) = wa := ⟨_, rfl⟩
      have hBa : Below x1.heap.size x1 wa := by rw [hz, ← hala]; exact below_lit _ hz _
      have HSa : Hid (Src wa (some ⟨z, 0, none⟩) (two fPeer [(y1, y2)])) := Lib.hid (by rw [← hala]; exact src_lit _ hz _)
      have HB2 := Lib.hid (HB1.out.trans (hBa.mono (by have := HB1.out.size; omega)))
      have HO2 := Lib.hid (own2_below HO1.out hBa)
      rw [hala]
      try rw [hz]
      refine hK.out _ _ HB2.out ?_
      clear hK K hBa hala
      try simp only [Act.put, List.setIfInBounds_toArray, List.set_cons_zero, List.set_cons_succ]
      refine alongL_step rfl (fun K hK => ?_)
      refine step_append_cells Tryz.underlying33 peerZ13 rfl (by decide) (by decide) _ _ rfl rfl (gx + 1) (.slice A L.length c0) L.length _ rfl HO2.out 1 1 (two fPeer [(y1, y2)]) rfl rfl (fun h => by cases h) (Nat.le_refl _) HSa.out (by simp [two, fPeer, Value.oneCell']) (by have := hLj.out; omega) (by have := HB2.out.size; omega) ?_
      intro v7 w7 ho7 hg7 hv7
      obtain ⟨g7, c7, rfl, hg7a, hg7b⟩ := ho7.form (by omega)
      have hB7 : Below (gx + 1) wr w7 := HB2.out.grown hg7 (by have := HB2.out.size; omega) (fun q e => (HO2.out.lt q e).1)
      have HQ7 := Lib.hid (HQ.out.under hB7)
      have d9 := HQ7.out.msg.at_ 9
      have f9 := HQ7.out.msg.free 9
      simp at d9
      refine hK.out _ _ hB7 ?_
      clear hK K
      try simp only [Act.put, List.setIfInBounds_toArray, List.set_cons_zero, List.set_cons_succ]
      refine alongL_take (v := ?_) rfl (by rfl) ?_ ?_
      rotate_left
      · intro W hW; clear hW; go_simp; try with_reducible rfl
      simp only [Act.put, List.setIfInBounds_toArray, List.set_cons_zero, List.set_cons_succ]
      refine alongL_last rfl (fun K hK => ?_)
      go_simp
      refine hK.out _ _ ?_
      clear hK K
      have HQn := Lib.hid (HQ7.out.putm 9 (.slice (some ⟨g7, 0, none⟩) (L.length + 1) c7))
      have HOn : Hid ((w7.setCell ⟨gm, 9, none⟩ (.slice (some ⟨g7, 0, none⟩) (L.length + 1) c7)).ownsRow (gx + 1) 32 2 (.slice (some ⟨g7, 0, none⟩) (L.length + 1) c7) (L ++ [(y1, y2)]).length (two fPeer (L ++ [(y1, y2)]))) := Lib.hid (by
        rw [two_more, List.length_append]
        exact own_same12 ho7 (fun q e _ => heap_setCell_other w7 ⟨gm, 9, none⟩ q _ (by have := (ho7.lt q e).1; have := HQ.out.lt; show q ≠ gm; omega)))
      clear d9 f9 ho7 hg7 hv7 hB7 hg7a hg7b hz hz0
      go_wp2_with fail
      go_roundw
      case rel => exact ⟨j + 1, L ++ [(y1, y2)], _, by go_num, by omega, Lib.hid (by rw [List.length_append, List.length_singleton, hLj.out]), HQn, HOn, HMn⟩
      case measure => simp [intOf]; omega
    · have hjn : j = XP.kids.length := by omega
      subst hjn
      rw [List.take_length] at HM
      have HR := HQ
      clear HQ hj
      obtain ⟨A9, c9, rfl, _, _, _, _⟩ := own_look HO.out
      have HW : Hid (Ro gx (.slice A9 L.length c9) L (.slice none 0 0) [] wr) := Lib.hid ⟨HO.out, World.ownsRow_nil _ _ 65 2, fun q _ e => by cases e⟩
      have HLn := hLj
      clear HO hLj
      have hlt3 := Lib.hid HR.out.lt
      obtain ⟨t0, t1, t2, t3, t4⟩ := HR.out.box.cells
      go_wp2_with fail
      refine (HR.out.get hXQ.out hsQ.out).mono ?_
      rintro e w1 ⟨Ak, ck, At, ct, rfl, h1, hx1, hbw⟩
      have HW1 := Lib.hid ((HW.out.behind hbw).row (Nat.le_refl gx) #[.int .i64 XQ.kind, .int .i64 XQ.n, .string XQ.s, .slice Ak XQ.keys.length ck, .slice At XQ.kids.length ct])
      clear hbw HW
      obtain ⟨W, hW⟩ : ∃ W, w1.setRow gx #[.int .i64 XQ.kind, .int .i64 XQ.n, .string XQ.s, .slice Ak XQ.keys.length ck, .slice At XQ.kids.length ct] = W := ⟨_, rfl⟩
      have HS := Lib.hid h1
      clear HR
      have HR := Lib.hid (h1.putx hx1)
      rw [hW] at HR HW1
      have HW := HW1
      clear HW1
      clear h1 hx1 t0 t1 t2 t3 t4
      go_upto_region 17 with (refine wpList_store_whole rfl rfl rfl rfl rfl HS.out.var (treeI rfl) rfl (by simp [Value.oneCell']) ?_; rw [hW])
      clear hW HS
      clear d4 hlt
      obtain ⟨d0, d1, d2, d3, d4⟩ := HR.out.cells
      have mi := HR.out.msg.at_ 0
      have fi := HR.out.msg.free 0
      simp at mi
      go_wp2_with fail
      refine (rkind_any XQ.s _).mono ?_
      rintro e w2 ⟨rfl, hb2⟩
      rw [hkd.out]
      have HR2 := Lib.hid (HR.out.behind hb2)
      have HW2 := Lib.hid (HW.out.behind hb2)
      clear HR HW hb2 mi fi d0 d1 d2 d3 d4
      have HR := HR2
      clear HR2
      have HW := HW2
      clear HW2
      have mi := HR.out.msg.at_ 0
      have fi := HR.out.msg.free 0
      simp at mi
      obtain ⟨V, hV⟩ : ∃ V, w2.setCell ⟨gm, 0, none⟩ (.int .i64 (kd : Int)) = V := ⟨_, rfl⟩
      go_upto_region 18 with fail
      try rw [hV]
      have HR1 := Lib.hid (HR.out.putm 0 (.int .i64 (kd : Int)))
      have HW1 := Lib.hid (HW.out.cell (g := gm) (i := 0) (by have := hlt3.out; omega) (.int .i64 (kd : Int)))
      rw [hV] at HR1 HW1
      clear HW
      have HW := HW1
      clear HW1
      clear HR hV mi fi
      have HR : Hid (Rs w b r gm gx t (.slice Ak0 t.keys.length ck0) (.slice At0 t.kids.length ct0) #[.int .i64 (kd : Int), .int .u32 0, .int .u8 (c : Int), .bool sH, .int .u64 (ii : Int), .string XK.s, .string ⟨#[]⟩, .int .u64 (o1 : Int), .int .u16 (o2 : Int), (.slice A9 L.length c9), .slice none 0 0] XQ (.slice Ak XQ.keys.length ck) (.slice At XQ.kids.length ct) V) := HR1
      clear HR1
      obtain ⟨t0, t1, t2, t3, t4⟩ := HR.out.box.cells
      go_wp2_with fail
      refine (HR.out.get hXR.out hsR.out).mono ?_
      rintro e w1 ⟨Ak, ck, At, ct, rfl, h1, hx1, hbw⟩
      have HW1 := Lib.hid ((HW.out.behind hbw).row (Nat.le_refl gx) #[.int .i64 XR.kind, .int .i64 XR.n, .string XR.s, .slice Ak XR.keys.length ck, .slice At XR.kids.length ct])
      clear hbw HW
      obtain ⟨W, hW⟩ : ∃ W, w1.setRow gx #[.int .i64 XR.kind, .int .i64 XR.n, .string XR.s, .slice Ak XR.keys.length ck, .slice At XR.kids.length ct] = W := ⟨_, rfl⟩
      have HS := Lib.hid h1
      clear HR
      have HR := Lib.hid (h1.putx hx1)
      rw [hW] at HR HW1
      have HW := HW1
      clear HW1
      clear h1 hx1 t0 t1 t2 t3 t4
      go_upto_region 19 with (refine wpList_store_whole rfl rfl rfl rfl rfl HS.out.var (treeI rfl) rfl (by simp [Value.oneCell']) ?_; rw [hW])
      clear hW HS
      obtain ⟨d0, d1, d2, d3, d4⟩ := HR.out.cells
      have mi := HR.out.msg.at_ 1
      have fi := HR.out.msg.free 1
      simp at mi
      have hwr : IntKind.u32.wrap XR.n = (rd : Int) := by rw [wrap13_u32, hrd.out]
      obtain ⟨V, hV⟩ : ∃ V, W.setCell ⟨gm, 1, none⟩ (.int .u32 (rd : Int)) = V := ⟨_, rfl⟩
      go_upto_region 20 with fail
      try rw [hV]
      have HR1 := Lib.hid (HR.out.putm 1 (.int .u32 (rd : Int)))
      have HW1 := Lib.hid (HW.out.cell (g := gm) (i := 1) (by have := hlt3.out; omega) (.int .u32 (rd : Int)))
      rw [hV] at HR1 HW1
      clear HW
      have HW := HW1
      clear HW1
      clear HR hV mi fi
      clear d0 d1 d2 d3 d4
      have HR : Hid (Rs w b r gm gx t (.slice Ak0 t.keys.length ck0) (.slice At0 t.kids.length ct0) #[.int .i64 (kd : Int), .int .u32 (rd : Int), .int .u8 (c : Int), .bool sH, .int .u64 (ii : Int), .string XK.s, .string ⟨#[]⟩, .int .u64 (o1 : Int), .int .u16 (o2 : Int), (.slice A9 L.length c9), .slice none 0 0] XR (.slice Ak XR.keys.length ck) (.slice At XR.kids.length ct) V) := HR1
      clear HR1
      clear hwr
      obtain ⟨t0, t1, t2, t3, t4⟩ := HR.out.box.cells
      go_wp2_with fail
      refine (HR.out.get hXT.out hsT.out).mono ?_
      rintro e w1 ⟨Ak, ck, At, ct, rfl, h1, hx1, hbw⟩
      have HW1 := Lib.hid ((HW.out.behind hbw).row (Nat.le_refl gx) #[.int .i64 XT.kind, .int .i64 XT.n, .string XT.s, .slice Ak XT.keys.length ck, .slice At XT.kids.length ct])
      clear hbw HW
      obtain ⟨W, hW⟩ : ∃ W, w1.setRow gx #[.int .i64 XT.kind, .int .i64 XT.n, .string XT.s, .slice Ak XT.keys.length ck, .slice At XT.kids.length ct] = W := ⟨_, rfl⟩
      have HS := Lib.hid h1
      clear HR
      have HR := Lib.hid (h1.putx hx1)
      rw [hW] at HR HW1
      have HW := HW1
      clear HW1
      clear h1 hx1 t0 t1 t2 t3 t4
      go_upto_region 21 with (refine wpList_store_whole rfl rfl rfl rfl rfl HS.out.var (treeI rfl) rfl (by simp [Value.oneCell']) ?_; rw [hW])
      clear hW HS
      go_wp2_with fail
      go_loopw [7, 8] (fun i p8 wr => ∃ (j : Nat) (M : List (ByteArray × ByteArray)) (vq : Value), i = .int .i64 (j : Int) ∧ j ≤ XT.kids.length ∧ Hid (M.length = j) ∧ Hid (Rs w b r gm gx t (.slice Ak0 t.keys.length ck0) (.slice At0 t.kids.length ct0) #[.int .i64 (kd : Int), .int .u32 (rd : Int), .int .u8 (c : Int), .bool sH, .int .u64 (ii : Int), .string XK.s, .string ⟨#[]⟩, .int .u64 (o1 : Int), .int .u16 (o2 : Int), (.slice A9 L.length c9), vq] XT (.slice Ak XT.keys.length ck) (.slice At XT.kids.length ct) wr) ∧ Hid (Ro gx (.slice A9 L.length c9) L vq M wr) ∧ Hid (M = (XT.kids.take j).map Dm.pairOf)) (fun i _ _ => XT.kids.length - (intOf i).toNat)
      case atStart => exact ⟨0, [], .slice none 0 0, rfl, Nat.zero_le _, Lib.hid rfl, HR, HW, Lib.hid rfl⟩
      case round =>
        obtain ⟨j, M, vq, rfl, hj, hMj, HQ, HO, HM2⟩ := hrel
        clear HR HW
        obtain ⟨d0, d1, d2, d3, d4⟩ := HQ.out.cells
        clear d0 d1 d2 d3
        by_cases hlt : j < XT.kids.length
        · have hlt' : (j : Int) < (XT.kids.length : Int) := by omega
          obtain ⟨bk, ok, K, Q, hAt, hbk, h5, h6⟩ := Tv.kid_at HQ.out.xt hlt
          have HMn := Lib.hid (show M ++ [Dm.pairOf XT.kids[j]] = (XT.kids.take (j + 1)).map Dm.pairOf by
            rw [List.take_succ_eq_append_getElem hlt, List.map_append, ← HM2.out]; rfl)
          obtain ⟨u, hu⟩ : ∃ u, XT.kids[j] = u := ⟨_, rfl⟩
          rw [hu] at h5 h6 HMn
          clear hu
          have hgx := HQ.out.lt
          obtain ⟨A2, c2, rfl, hc2a, hc2b, hc2n, _⟩ := h6.kids
          obtain ⟨A, c0, rfl, _, _, _, _⟩ := own_look HO.out.pairs
          have hc4 := h5.c4
          obtain ⟨gp, V0, hgp, halp, hP0, hBp0, hsp⟩ : ∃ gp V0, wr.heap.size = gp ∧ wr.alloc (.cells #[.string ⟨#[]⟩, .string ⟨#[]⟩] 65) = V0 ∧ Whole V0 gp 65 #[.string ⟨#[]⟩, .string ⟨#[]⟩] ∧ Below gp wr V0 ∧ V0.heap.size = gp + 1 := ⟨_, _, rfl, rfl, Whole.made _ _ _, (Below.refl _ _).alloc (Nat.le_refl _) _, by simp⟩
          obtain ⟨V1, hV1⟩ : ∃ V, V0.setRow gp #[.string ⟨#[]⟩, .string ⟨#[]⟩] = V := ⟨_, rfl⟩
          have hggp : gx + 1 ≤ gp := by rw [← hgp]; exact HQ.out.var.lt
          have HB1 : Hid (Below gp wr V1) := Lib.hid (by rw [← hV1]; exact below_row hBp0 (Nat.le_refl _) _)
          have HP1 : Hid (Whole V1 gp 65 #[.string ⟨#[]⟩, .string ⟨#[]⟩]) := Lib.hid (by rw [← hV1]; exact hP0.row _)
          have HP0 := Lib.hid hP0
          have hz1 : V1.heap.size = gp + 1 := by rw [← hV1, size_setRow]; exact hsp
          have HF : Hid (∀ W, Below gp wr W → W.cell? ⟨gm, 10, none⟩ = some (.slice A M.length c0) ∧ W.cell? ⟨gx, 4, none⟩ = some (.slice (some ⟨bk, ok, none⟩) XT.kids.length ct) ∧ W.cell? ⟨bk, ok + j * 5 + 4, none⟩ = some (.slice A2 u.kids.length c2)) := Lib.hid (fun W hW => by
            have hR := HQ.out.under (hW.mono hggp)
            refine ⟨hR.msg.at_ 10, ?_, (World.cell?_of_block (hW.block bk (by omega))).trans hc4⟩
            have := hR.cells.2.2.2.2
            rw [hAt] at this
            exact this)
          have H6 := Lib.hid h6
          have HBk := Lib.hid hbk
          unfold maxLen at hc2b
          rw [hAt] at d4
          clear h5 h6 hc2n hbk hP0 hBp0 hsp hAt
          go_upto_region 25 with (refine wpList_store_whole rfl rfl rfl rfl rfl HP0.out (pairI13 rfl) rfl (by simp [Value.oneCell']) ?_; rw [hV1])
          have hgpw := Lib.hid hgp
          clear hgp halp hV1 HP0 d4 hz1
          obtain ⟨e0, e1, e2⟩ := HF.out V1 HB1.out
          by_cases h2 : u.kids.length = 2
          · have k0 : 0 < u.kids.length := by omega
            have k1 : 1 < u.kids.length := by omega
            rw [pairOf_two h2] at HMn
            obtain ⟨b2, o2, _, _, hA2, hb2, g5, _⟩ := Tv.kid_at H6.out k0
            obtain ⟨b2', o2', _, _, hA2', _, g5', _⟩ := Tv.kid_at H6.out k1
            rw [hA2] at hA2'
            cases hA2'
            obtain ⟨y1, hy1⟩ : ∃ y, u.kids[0].s = y := ⟨_, rfl⟩
            obtain ⟨y2, hy2⟩ : ∃ y, u.kids[1].s = y := ⟨_, rfl⟩
            have s0 := g5.c2
            have s1 := g5'.c2
            rw [hy1] at s0 HMn
            rw [hy2] at s1 HMn
            have HG : Hid (∀ W, Below gp wr W → W.cell? ⟨gx, 4, none⟩ = some (.slice (some ⟨bk, ok, none⟩) XT.kids.length ct) ∧ W.cell? ⟨bk, ok + j * 5 + 4, none⟩ = some (.slice (some ⟨b2, o2, none⟩) 2 c2) ∧ W.cell? ⟨b2, o2 + 2, none⟩ = some (.string y1) ∧ W.cell? ⟨b2, o2 + 5 + 2, none⟩ = some (.string y2)) := Lib.hid (fun W hW => by
              obtain ⟨_, f1, f2⟩ := HF.out W hW
              rw [hA2, h2] at f2
              refine ⟨f1, f2, ?_, ?_⟩
              · exact (World.cell?_of_block (hW.block b2 (by have := HQ.out.lt; omega))).trans (by simpa using s0)
              · exact (World.cell?_of_block (hW.block b2 (by have := HQ.out.lt; omega))).trans (by simpa using s1))
            have h2' : ((u.kids.length : Int) == 2) = true := by simp; omega
            clear g5 g5' s0 s1 hy1 hy2 hb2
            go_wp2_with fail
            refine wp_region_last (S := fun W => Below gp wr W) 19 [(0, true), (1, true), (2, true), (3, true), (4, true), (5, true), (6, true), (7, true), (8, true), (9, true), (10, true), (11, true), (12, true), (13, true), (14, true), (15, true), (16, true), (17, true), (18, true), (19, false)] (by kernel_rfl) (by kernel_rfl) rfl (by kernel_rfl) (by rfl) (fun _ _ _ _ _ h => h) HB1.out.drew ?_
            clear e0 e1 e2 h2' h2 hA2 HF
            iterate 19
              refine alongL_take (v := ?_) rfl (by rfl) ?_ ?_
              rotate_left
              · intro W hW; obtain ⟨f1, f2, f3, f4⟩ := HG.out W hW; clear hW; go_simp; try with_reducible rfl
              simp only [Act.put, List.setIfInBounds_toArray, List.set_cons_zero, List.set_cons_succ]
            refine alongL_last rfl (fun K hK => ?_)
            refine step_store_whole rfl rfl rfl rfl rfl (HP1.out.drew) (pairI13 rfl) rfl (by simp [Value.oneCell']) ?_
            obtain ⟨V2, hV2⟩ : ∃ V, (V1.drew).setRow gp #[.string y1, .string y2] = V := ⟨_, rfl⟩
            have HBV2 : Hid (Below gp wr V2) := Lib.hid (by rw [← hV2]; exact below_row HB1.out.drew (Nat.le_refl _) _)
            have HPV2 : Hid (Whole V2 gp 65 #[.string y1, .string y2]) := Lib.hid (by rw [← hV2]; exact (HP1.out.drew).row _)
            rw [hV2]
            refine hK.out _ _ ?_
            clear hK K hV2
            have e0 := (HQ.out.under (HBV2.out.mono hggp)).msg.at_ 10
            simp at e0
            have e1 : True := trivial
            have e2 : True := trivial
            go_upto_region 27 with fail
            have HBv := Lib.hid (HBV2.out.mono (show gx + 1 ≤ gp from hggp))
            obtain ⟨p0, p1⟩ : V2.cell? ⟨gp, 0, none⟩ = some (.string y1) ∧ V2.cell? ⟨gp, 1, none⟩ = some (.string y2) := ⟨HPV2.out.at_ 0, HPV2.out.at_ 1⟩
            have HOv : Hid (Ro gx (.slice A9 L.length c9) L (.slice A M.length c0) M V2) := Lib.hid (HO.out.behind (by rw [hgpw.out]; exact HBV2.out))
            obtain ⟨z, hz⟩ : ∃ z, V2.heap.size = z := ⟨_, rfl⟩
            obtain ⟨wa, hala⟩ : ∃ wa, V2.alloc (.cells #[.string y1, .string y2] 65) = wa := ⟨_, rfl⟩
            have hBa : Below V2.heap.size V2 wa := by rw [hz, ← hala]; exact below_lit _ hz _
            have hzz : gx + 1 ≤ z := by have := HBV2.out.size; have := hgpw.out; omega
            have HSa : Hid (Src wa (some ⟨z, 0, none⟩) (two fPair [(y1, y2)])) := Lib.hid (by rw [← hala]; exact src_lit _ hz _)
            have HOa := Lib.hid (HOv.out.behind hBa)
            have HBa := Lib.hid (HBv.out.trans (hBa.mono (by omega)))
            have hsa : gx + 1 ≤ wa.heap.size := by have := hBa.size; omega
            clear hBa
            go_upto_region 23 with (at_builtin; refine wpList_append_cells Tryz.underlying34 pairZ13 rfl (by decide) (by decide) _ _ rfl rfl (gx + 1) (.slice A M.length c0) M.length _ rfl HOa.out.pairs 1 1 (two fPair [(y1, y2)]) rfl rfl (fun h => by cases h) (Nat.le_refl _) HSa.out (by simp [two, fPair, Value.oneCell']) (by have := hMj.out; omega) hsa ?_; intro v7 w7 ho7 hg7 hv7; obtain ⟨g7, c7, rfl, hg7a, hg7b⟩ := ho7.form (by omega); have hB7 := HBa.out.grown hg7 hsa (fun q e => (HOa.out.pairs.lt q e).1); have d10 := (HQ.out.under hB7).msg.at_ 10; have f10 := (HQ.out.under hB7).msg.free 10; simp at d10)
            have HQ7 := Lib.hid (HQ.out.under hB7)
            have HQn := Lib.hid (HQ7.out.putm 10 (.slice (some ⟨g7, 0, none⟩) (M.length + 1) c7))
            have HOn := Lib.hid ((HOa.out.pair ho7 hg7 hv7).cell (g := gm) (i := 10) (by have := hlt3.out; omega) (.slice (some ⟨g7, 0, none⟩) (M.length + 1) c7))
            clear hz hala p0 p1 d10 f10 ho7 hg7 hv7 hg7a hg7b hB7 e0 e1 e2
            go_wp2_with fail
            go_roundw
            case rel => exact ⟨j + 1, M ++ [(y1, y2)], _, by go_num, by omega, Lib.hid (by rw [List.length_append, List.length_singleton, hMj.out]), HQn, HOn, HMn⟩
            case measure => simp [intOf]; omega
          · have h2' : ((u.kids.length : Int) == 2) = false := by simp; omega
            rw [pairOf_not h2] at HMn
            have HBV1 := HB1
            have HPV1 := HP1
            go_upto_region 27 with fail
            have HBv := Lib.hid (HBV1.out.mono (show gx + 1 ≤ gp from hggp))
            obtain ⟨p0, p1⟩ : V1.cell? ⟨gp, 0, none⟩ = some (.string ⟨#[]⟩) ∧ V1.cell? ⟨gp, 1, none⟩ = some (.string ⟨#[]⟩) := ⟨HPV1.out.at_ 0, HPV1.out.at_ 1⟩
            have HOv : Hid (Ro gx (.slice A9 L.length c9) L (.slice A M.length c0) M V1) := Lib.hid (HO.out.behind (by rw [hgpw.out]; exact HBV1.out))
            obtain ⟨z, hz⟩ : ∃ z, V1.heap.size = z := ⟨_, rfl⟩
            obtain ⟨wa, hala⟩ : ∃ wa, V1.alloc (.cells #[.string ⟨#[]⟩, .string ⟨#[]⟩] 65) = wa := ⟨_, rfl⟩
            have hBa : Below V1.heap.size V1 wa := by rw [hz, ← hala]; exact below_lit _ hz _
            have hzz : gx + 1 ≤ z := by have := HBV1.out.size; have := hgpw.out; omega
            have HSa : Hid (Src wa (some ⟨z, 0, none⟩) (two fPair [(⟨#[]⟩, ⟨#[]⟩)])) := Lib.hid (by rw [← hala]; exact src_lit _ hz _)
            have HOa := Lib.hid (HOv.out.behind hBa)
            have HBa := Lib.hid (HBv.out.trans (hBa.mono (by omega)))
            have hsa : gx + 1 ≤ wa.heap.size := by have := hBa.size; omega
            clear hBa
            go_upto_region 23 with (at_builtin; refine wpList_append_cells Tryz.underlying34 pairZ13 rfl (by decide) (by decide) _ _ rfl rfl (gx + 1) (.slice A M.length c0) M.length _ rfl HOa.out.pairs 1 1 (two fPair [(⟨#[]⟩, ⟨#[]⟩)]) rfl rfl (fun h => by cases h) (Nat.le_refl _) HSa.out (by simp [two, fPair, Value.oneCell']) (by have := hMj.out; omega) hsa ?_; intro v7 w7 ho7 hg7 hv7; obtain ⟨g7, c7, rfl, hg7a, hg7b⟩ := ho7.form (by omega); have hB7 := HBa.out.grown hg7 hsa (fun q e => (HOa.out.pairs.lt q e).1); have d10 := (HQ.out.under hB7).msg.at_ 10; have f10 := (HQ.out.under hB7).msg.free 10; simp at d10)
            have HQ7 := Lib.hid (HQ.out.under hB7)
            have HQn := Lib.hid (HQ7.out.putm 10 (.slice (some ⟨g7, 0, none⟩) (M.length + 1) c7))
            have HOn := Lib.hid ((HOa.out.pair ho7 hg7 hv7).cell (g := gm) (i := 10) (by have := hlt3.out; omega) (.slice (some ⟨g7, 0, none⟩) (M.length + 1) c7))
            clear hz hala p0 p1 d10 f10 ho7 hg7 hv7 hg7a hg7b hB7 e0 e1 e2
            go_wp2_with fail
            go_roundw
            case rel => exact ⟨j + 1, M ++ [(⟨#[]⟩, ⟨#[]⟩)], _, by go_num, by omega, Lib.hid (by rw [List.length_append, List.length_singleton, hMj.out]), HQn, HOn, HMn⟩
            case measure => simp [intOf]; omega
        · have hjn : j = XT.kids.length := by omega
          subst hjn
          rw [List.take_length] at HM2
          have HR := HQ
          have HW := HO
          clear HQ HO hj
          obtain ⟨A10, c10, rfl, _, _, _, _⟩ := own_look HW.out.pairs
          obtain ⟨t0, t1, t2, t3, t4⟩ := HR.out.box.cells
          go_wp2_with fail
          refine (HR.out.get hXV.out hsV.out).mono ?_
          rintro e w1 ⟨Ak, ck, At, ct, rfl, h1, hx1, hbw⟩
          have HW1 := Lib.hid ((HW.out.behind hbw).row (Nat.le_refl gx) #[.int .i64 XV.kind, .int .i64 XV.n, .string XV.s, .slice Ak XV.keys.length ck, .slice At XV.kids.length ct])
          clear hbw HW
          obtain ⟨W, hW⟩ : ∃ W, w1.setRow gx #[.int .i64 XV.kind, .int .i64 XV.n, .string XV.s, .slice Ak XV.keys.length ck, .slice At XV.kids.length ct] = W := ⟨_, rfl⟩
          have HS := Lib.hid h1
          clear HR
          have HR := Lib.hid (h1.putx hx1)
          rw [hW] at HR HW1
          have HW := HW1
          clear HW1
          clear h1 hx1 t0 t1 t2 t3 t4
          go_upto_region 29 with (refine wpList_store_whole rfl rfl rfl rfl rfl HS.out.var (treeI rfl) rfl (by simp [Value.oneCell']) ?_; rw [hW])
          clear hW HS
          clear d4 hlt
          obtain ⟨d0, d1, d2, d3, d4⟩ := HR.out.cells
          have mi := HR.out.msg.at_ 6
          have fi := HR.out.msg.free 6
          simp at mi
          obtain ⟨V, hV⟩ : ∃ V, W.setCell ⟨gm, 6, none⟩ (.string XV.s) = V := ⟨_, rfl⟩
          go_upto_region 30 with fail
          try rw [hV]
          have HR1 := Lib.hid (HR.out.putm 6 (.string XV.s))
          have HW1 := Lib.hid (HW.out.cell (g := gm) (i := 6) (by have := hlt3.out; omega) (.string XV.s))
          rw [hV] at HR1 HW1
          clear HW
          have HW := HW1
          clear HW1
          clear HR hV mi fi
          clear d0 d1 d2 d3 d4
          have HR : Hid (Rs w b r gm gx t (.slice Ak0 t.keys.length ck0) (.slice At0 t.kids.length ct0) #[.int .i64 (kd : Int), .int .u32 (rd : Int), .int .u8 (c : Int), .bool sH, .int .u64 (ii : Int), .string XK.s, .string XV.s, .int .u64 (o1 : Int), .int .u16 (o2 : Int), (.slice A9 L.length c9), (.slice A10 M.length c10)] XV (.slice Ak XV.keys.length ck) (.slice At XV.kids.length ct) V) := HR1
          clear HR1
          have HW9 := Lib.hid (HW.out.row (g := r) (by have := hlt3.out; omega) #[.int .i64 (kd : Int), .int .u32 (rd : Int), .int .u8 (c : Int), .bool sH, .int .u64 (ii : Int), .string XK.s, .string XV.s, .int .u64 (o1 : Int), .int .u16 (o2 : Int), (.slice A9 L.length c9), (.slice A10 M.length c10)])
          have hmc := HR.out.msg
          have q0 := hmc.at_ 0
          have q1 := hmc.at_ 1
          have q2 := hmc.at_ 2
          have q3 := hmc.at_ 3
          have q4 := hmc.at_ 4
          have q5 := hmc.at_ 5
          have q6 := hmc.at_ 6
          have q7 := hmc.at_ 7
          have q8 := hmc.at_ 8
          have q9 := hmc.at_ 9
          have q10 := hmc.at_ 10
          simp at q0 q1 q2 q3 q4 q5 q6 q7 q8 q9 q10
          clear hmc
          have HRs := Lib.hid HR.out.res
          go_wp2_with (refine wpList_store_whole rfl rfl rfl rfl rfl HRs.out (msgI rfl) rfl (by simp [Value.oneCell']) ?_)
          have hZe : Z = ⟨(kd : Int), rd, c, sH, ii, XK.s, XV.s, o1, o2, L, M⟩ := by
            rw [← hZ.out]
            unfold Dm.read
            rw [hXQ.out, hXR.out, hXC.out, hsH.out, hXI.out, hXK.out, hXV.out, hXO.out, hXP.out, hXT.out, hkd.out, hrd.out, hc.out, hii.out, ho.out, ← HM.out, ← HM2.out]
          have hok := read_ok HR.out.box.tv
          rw [hZ.out] at hok
          subst hZe
          refine bodyPost_ret (v := .agg #[.int .i64 (kd : Int), .int .u32 (rd : Int), .int .u8 (c : Int), .bool sH, .int .u64 (ii : Int), .string XK.s, .string XV.s, .int .u64 (o1 : Int), .int .u16 (o2 : Int), (.slice A9 L.length c9), (.slice A10 M.length c10)]) ?_ rfl ⟨_, rfl, ⟨⟨_, _, rfl, own_low HW9.out.peers (by have := hlt3.out; omega), own_low HW9.out.pairs (by have := hlt3.out; omega)⟩, hok⟩, below_row HR.out.low (by have := hlt3.out; omega) _⟩
          exact results_cell_row rfl _ _ _ _ _ (0, 0) _ rfl (HRs.out.row _) Tryz.underlying36 rfl (msgI rfl)
end Go.Proofs.YtldjdoebappkoaaGreatDoor
