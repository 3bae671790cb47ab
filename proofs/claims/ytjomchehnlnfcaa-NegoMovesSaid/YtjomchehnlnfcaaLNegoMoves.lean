/- The walk of the law NegoMoves. -/
import Derived.Test.YtjomchehnlnfcaaAwake25
namespace Go.Proofs.Ytjomchehnlnfcaa
open Go.RowKit
open Gm
set_option linter.unusedVariables false
set_option maxRecDepth 100000
set_option linter.unusedSimpArgs false

theorem Ng.hear_waits (t : Tk) (own th : Nat) (rp : Bool) : (Ng.hear t own th rp).1.waits = t.waits := rfl
theorem rask25_post {w : World} {t : Tk} {A : Option Addr} {n c : Nat} (ok : t.Ok) (H : Ml w w.heap.size (.slice A n c) t.waits) :
    Calls Try.prog 10 #[.agg #[.int .u16 (t.addr : Int), .int .i64 t.state, .int .u16 (t.theirs : Int), .int .i64 t.version, .int .i64 t.since, .int .u32 (t.epoch : Int), .int .u32 (t.next : Int), .slice A n c]] w (TalkPost (Ng.ask t) w) := by
  obtain ⟨A', c', e, _, _⟩ := H.shape
  cases e
  refine (rask25_any (w := w) (A := A) (n := t.waits.length) (c := c) t.waits).mono ?_
  rintro e w' ⟨rfl, hb⟩
  refine ⟨A, c, ?_, ?_, hb⟩
  · rw [Ng.ask_waits]; rfl
  · rw [Ng.ask_waits]; exact H.kept hb
theorem rtick25_post {w : World} {t : Tk} {A : Option Addr} {n c : Nat} (ok : t.Ok) (H : Ml w w.heap.size (.slice A n c) t.waits) :
    Calls Try.prog 14 #[.agg #[.int .u16 (t.addr : Int), .int .i64 t.state, .int .u16 (t.theirs : Int), .int .i64 t.version, .int .i64 t.since, .int .u32 (t.epoch : Int), .int .u32 (t.next : Int), .slice A n c]] w (TalkPost (Ng.tick t) w) := by
  obtain ⟨A', c', e, _, _⟩ := H.shape
  cases e
  refine (rtick25_any (w := w) (A := A) (n := t.waits.length) (c := c) t.waits ok.since.1 ok.since.2).mono ?_
  rintro e w' ⟨rfl, hb⟩
  refine ⟨A, c, ?_, ?_, hb⟩
  · rw [Ng.tick_waits]; rfl
  · rw [Ng.tick_waits]; exact H.kept hb
theorem rhear25_post {w : World} {t : Tk} {A : Option Addr} {n c : Nat} (ok : t.Ok) (H : Ml w w.heap.size (.slice A n c) t.waits) {own th : Nat} (hown : own < 65536) (hth : th < 65536) (rp : Bool) :
    Calls Try.prog 12 #[.agg #[.int .u16 (t.addr : Int), .int .i64 t.state, .int .u16 (t.theirs : Int), .int .i64 t.version, .int .i64 t.since, .int .u32 (t.epoch : Int), .int .u32 (t.next : Int), .slice A n c], .int .u16 (own : Int), .int .u16 (th : Int), .bool rp] w (TalkPost (Ng.hear t own th rp) w) := by
  obtain ⟨A', c', e, _, _⟩ := H.shape
  cases e
  refine (rhear25_any (w := w) (A := A) (n := t.waits.length) (c := c) t.waits hown hth rp).mono ?_
  rintro e w' ⟨rfl, hb⟩
  refine ⟨A, c, ?_, ?_, hb⟩
  · rw [Ng.hear_waits]; rfl
  · rw [Ng.hear_waits]; exact H.kept hb
set_option maxHeartbeats 8000000 in
theorem negoMoves_big (t : Tk) (V : Value) (a1 a2 : Int) (rp : Bool) (w : World) (H : Ml w w.heap.size V t.waits ∧ t.Ok ∧ ∀ m ∈ t.waits, m.peers.length ≤ 8796093022208 ∧ m.pairs.length ≤ 4398046511104) (w1 : (Lit.int .u16 a1).wf = true) (w2 : (Lit.int .u16 a2).wf = true) (hbg : Hid (40 < t.waits.length)) :
    Calls Try.prog 3 #[.agg (Tk.row t V), .int .u16 a1, .int .u16 a2, .bool rp] w fun e w' => e = .returned (.bool true) ∧ Below w.heap.size w w' := by
  obtain ⟨p1, q1⟩ := bounds_u16 w1
  obtain ⟨p2, q2⟩ := bounds_u16 w2
  obtain ⟨own, rfl⟩ := Int.eq_ofNat_of_zero_le p1
  obtain ⟨th, rfl⟩ := Int.eq_ofNat_of_zero_le p2
  have hown : own < 65536 := by omega
  have hth : th < 65536 := by omega
  obtain ⟨H, ok, _⟩ := H
  obtain ⟨A, c, rfl, _, _⟩ := H.shape
  obtain ⟨g, w9, hg, hal, hsz, hx, hb1⟩ := boxedT25 w (Tk.row t (.slice A t.waits.length c))
  have HB1 : Hid (Below w.heap.size w w9) := Lib.hid hb1
  have HH := Lib.hid (fun W (h : Below w9.heap.size w9 W) => (H.kept hb1).kept h)
  have HX := Lib.hid (fun W (h : Below w9.heap.size w9 W) => (hx.below h hx.lt : Whole W g 26 (Tk.row t (.slice A t.waits.length c))))
  obtain ⟨xa, xs, xt, xv, xi, xe, xn, ms⟩ := t
  unfold Tk.row at HX hal hx ⊢
  simp only at HX hal hx ⊢
  have HC1 : Hid (Below w9.heap.size w9 w9) := Lib.hid (Below.refl _ _)
  obtain ⟨n, hnn⟩ : ∃ n, Hid (ms.length = n) := ⟨_, Lib.hid rfl⟩
  rw [hnn.out] at HX hal hx ⊢
  obtain ⟨z0, z1, z2, z3, z4, z5, z6, z7⟩ := cellsT hx
  clear hb1 hsz hx H HH ok w1 w2 p1 q1 p2 q2
  have hbd : decide (40 < (n : Int)) = true := decide_eq_true (by have := hnn.out; have := hbg.out; simp only at this; omega)
  go_enter Try.func3, Try.ntmps3
  go_wp2_with fail
  refine (llarge25_any).mono ?_
  rintro e u1 ⟨rfl, hb⟩
  have H1 := Lib.hid hb
  clear hb
  rw [hbd]
  go_wp2_with fail
  refine (awake25 _).mono ?_
  rintro e u2 ⟨rfl, hb⟩
  have H2 := Lib.hid (HB1.out.trans ((H1.out.trans (hb.mono H1.out.size)).mono HB1.out.size))
  clear hb
  go_wp2_with fail
  go_ret
  exact ⟨rfl, H2.out⟩
set_option maxHeartbeats 8000000 in
theorem negoMoves_small (t : Tk) (V : Value) (a1 a2 : Int) (rp : Bool) (w : World) (H : Ml w w.heap.size V t.waits ∧ t.Ok ∧ ∀ m ∈ t.waits, m.peers.length ≤ 8796093022208 ∧ m.pairs.length ≤ 4398046511104) (w1 : (Lit.int .u16 a1).wf = true) (w2 : (Lit.int .u16 a2).wf = true) (hbg : Hid (¬ 40 < t.waits.length)) :
    Calls Try.prog 3 #[.agg (Tk.row t V), .int .u16 a1, .int .u16 a2, .bool rp] w fun e w' => e = .returned (.bool true) ∧ Below w.heap.size w w' := by
  obtain ⟨p1, q1⟩ := bounds_u16 w1
  obtain ⟨p2, q2⟩ := bounds_u16 w2
  obtain ⟨own, rfl⟩ := Int.eq_ofNat_of_zero_le p1
  obtain ⟨th, rfl⟩ := Int.eq_ofNat_of_zero_le p2
  have hown : own < 65536 := by omega
  have hth : th < 65536 := by omega
  obtain ⟨H, ok, hzz⟩ := H
  have hz : Sz t.waits := ⟨by have := hbg.out; omega, hzz⟩
  obtain ⟨A, c, rfl, _, _⟩ := H.shape
  obtain ⟨g, w9, hg, hal, hsz, hx, hb1⟩ := boxedT25 w (Tk.row t (.slice A t.waits.length c))
  have HB1 : Hid (Below w.heap.size w w9) := Lib.hid hb1
  have HH := Lib.hid (fun W (h : Below w9.heap.size w9 W) => (H.kept hb1).kept h)
  have HX := Lib.hid (fun W (h : Below w9.heap.size w9 W) => (hx.below h hx.lt : Whole W g 26 (Tk.row t (.slice A t.waits.length c))))
  have CA := Lib.hid (fun W (h : Below w9.heap.size w9 W) => cask25_any ok (HH.out W h) hz)
  have RA := Lib.hid (fun W (h : Below w9.heap.size w9 W) => rask25_post ok (HH.out W h))
  have CH := Lib.hid (fun W (h : Below w9.heap.size w9 W) => chear25_any ok (HH.out W h) hz hown hth rp)
  have RH := Lib.hid (fun W (h : Below w9.heap.size w9 W) => rhear25_post ok (HH.out W h) hown hth rp)
  have CT := Lib.hid (fun W (h : Below w9.heap.size w9 W) => ctick25_any ok (HH.out W h) hz)
  have RT := Lib.hid (fun W (h : Below w9.heap.size w9 W) => rtick25_post ok (HH.out W h))
  obtain ⟨Ra, hRa⟩ : ∃ R, Hid (Ng.ask t = R) := ⟨_, Lib.hid rfl⟩
  obtain ⟨Rh, hRh⟩ : ∃ R, Hid (Ng.hear t own th rp = R) := ⟨_, Lib.hid rfl⟩
  obtain ⟨Rt, hRt⟩ : ∃ R, Hid (Ng.tick t = R) := ⟨_, Lib.hid rfl⟩
  rw [hRa.out] at CA RA
  rw [hRh.out] at CH RH
  rw [hRt.out] at CT RT
  obtain ⟨⟨raa, ras, rat, rav, rai, rae, ran, raw⟩, rab⟩ := Ra
  obtain ⟨⟨rha, rhs, rht, rhv, rhi, rhe, rhn, rhw⟩, rhb⟩ := Rh
  obtain ⟨⟨rta, rts, rtt, rtv, rti, rte, rtn, rtw⟩, rtb⟩ := Rt
  unfold TalkPost at CA RA CH RH CT RT
  simp only at CA RA CH RH CT RT
  obtain ⟨xa, xs, xt, xv, xi, xe, xn, ms⟩ := t
  unfold Tk.row at HX hal hx ⊢
  simp only at CA RA CH RH CT RT HX hal hx ⊢
  have HC1 : Hid (Below w9.heap.size w9 w9) := Lib.hid (Below.refl _ _)
  obtain ⟨n, hnn⟩ : ∃ n, Hid (ms.length = n) := ⟨_, Lib.hid rfl⟩
  rw [hnn.out] at CA RA CH RH CT RT HX hal hx ⊢
  obtain ⟨z0, z1, z2, z3, z4, z5, z6, z7⟩ := cellsT hx
  have eab : (rab == rab) = true := by cases rab <;> rfl
  have ehb : (rhb == rhb) = true := by cases rhb <;> rfl
  have etb : (rtb == rtb) = true := by cases rtb <;> rfl
  clear hb1 hsz hx H HH ok hz hzz w1 w2 p1 q1 p2 q2
  have hbd : decide (40 < (n : Int)) = false := decide_eq_false (by have := hnn.out; have := hbg.out; simp only at this; omega)
  go_enter Try.func3, Try.ntmps3
  go_wp2_with fail
  refine (llarge25_any).mono ?_
  rintro e u0 ⟨rfl, hb0⟩
  have HC0 := Lib.hid hb0
  rw [hbd]
  clear hb0 z0 z1 z2 z3 z4 z5 z6 z7
  obtain ⟨z0, z1, z2, z3, z4, z5, z6, z7⟩ := cellsT (HX.out u0 HC0.out)
  go_wp2_with fail
  refine (CA.out u0 HC0.out).mono ?_
  rintro e u1 ⟨A1, c1, rfl, hm1, hb1⟩
  obtain ⟨g1, p1, q1, hg1, hal1, hW1, hst1, hx1, hbq1, hlt1⟩ := var_tk u1 #[.int .u16 (raa : Int), .int .i64 ras, .int .u16 (rat : Int), .int .i64 rav, .int .i64 rai, .int .u32 (rae : Int), .int .u32 (ran : Int), .slice A1 raw.length c1]
  have HW1 := Lib.hid hW1
  have hq1 := hb1.trans (hbq1.mono hb1.size)
  have HB_1 := Lib.hid (HC0.out.trans (hq1.mono HC0.out.size))
  have HX1 := Lib.hid hx1
  have HM1 := Lib.hid (hm1.kept hbq1)
  obtain ⟨k0, k1, k2, k3, k4, k5, k6, k7⟩ := cellsT (HX.out q1 HB_1.out)
  clear hm1 hb1 hW1 hx1 hbq1 hq1 hlt1 z0 z1 z2 z3 z4 z5 z6 z7
  have j0 := k0
  have j1 := k1
  have j2 := k2
  have j3 := k3
  have j4 := k4
  have j5 := k5
  have j6 := k6
  have j7 := k7
  clear k0 k1 k2 k3 k4 k5 k6 k7
  go_wp2_with (refine wpList_store_whole rfl rfl rfl rfl rfl HW1.out (talkI rfl) rfl (by simp [Value.oneCell']) ?_; rw [hst1])
  refine (RA.out q1 HB_1.out).mono ?_
  rintro e u2 ⟨A2, c2, rfl, hm2, hb2⟩
  obtain ⟨g2, p2, q2, hg2, hal2, hW2, hst2, hx2, hbq2, hlt2⟩ := var_tk u2 #[.int .u16 (raa : Int), .int .i64 ras, .int .u16 (rat : Int), .int .i64 rav, .int .i64 rai, .int .u32 (rae : Int), .int .u32 (ran : Int), .slice A2 raw.length c2]
  have HW2 := Lib.hid hW2
  have hq2 := hb2.trans (hbq2.mono hb2.size)
  have HB_2 := Lib.hid (HB_1.out.trans (hq2.mono HB_1.out.size))
  have HX1_2 := Lib.hid (HX1.out.below hq2 HX1.out.lt)
  have HM1_2 := Lib.hid (HM1.out.kept hq2)
  have HX2 := Lib.hid hx2
  have HM2 := Lib.hid (hm2.kept hbq2)
  obtain ⟨k0, k1, k2, k3, k4, k5, k6, k7⟩ := cellsT (HX.out q2 HB_2.out)
  clear hm2 hb2 hW2 hx2 hbq2 hq2 hlt2 j0 j1 j2 j3 j4 j5 j6 j7
  have j0 := k0
  have j1 := k1
  have j2 := k2
  have j3 := k3
  have j4 := k4
  have j5 := k5
  have j6 := k6
  have j7 := k7
  clear k0 k1 k2 k3 k4 k5 k6 k7
  go_wp2_with (refine wpList_store_whole rfl rfl rfl rfl rfl HW2.out (talkI rfl) rfl (by simp [Value.oneCell']) ?_; rw [hst2])
  refine (CH.out q2 HB_2.out).mono ?_
  rintro e u3 ⟨A3, c3, rfl, hm3, hb3⟩
  obtain ⟨g3, p3, q3, hg3, hal3, hW3, hst3, hx3, hbq3, hlt3⟩ := var_tk u3 #[.int .u16 (rha : Int), .int .i64 rhs, .int .u16 (rht : Int), .int .i64 rhv, .int .i64 rhi, .int .u32 (rhe : Int), .int .u32 (rhn : Int), .slice A3 rhw.length c3]
  have HW3 := Lib.hid hW3
  have hq3 := hb3.trans (hbq3.mono hb3.size)
  have HB_3 := Lib.hid (HB_2.out.trans (hq3.mono HB_2.out.size))
  have HX1_3 := Lib.hid (HX1_2.out.below hq3 HX1_2.out.lt)
  have HM1_3 := Lib.hid (HM1_2.out.kept hq3)
  have HX2_3 := Lib.hid (HX2.out.below hq3 HX2.out.lt)
  have HM2_3 := Lib.hid (HM2.out.kept hq3)
  have HX3 := Lib.hid hx3
  have HM3 := Lib.hid (hm3.kept hbq3)
  obtain ⟨k0, k1, k2, k3, k4, k5, k6, k7⟩ := cellsT (HX.out q3 HB_3.out)
  clear hm3 hb3 hW3 hx3 hbq3 hq3 hlt3 j0 j1 j2 j3 j4 j5 j6 j7
  have j0 := k0
  have j1 := k1
  have j2 := k2
  have j3 := k3
  have j4 := k4
  have j5 := k5
  have j6 := k6
  have j7 := k7
  clear k0 k1 k2 k3 k4 k5 k6 k7
  go_wp2_with (refine wpList_store_whole rfl rfl rfl rfl rfl HW3.out (talkI rfl) rfl (by simp [Value.oneCell']) ?_; rw [hst3])
  refine (RH.out q3 HB_3.out).mono ?_
  rintro e u4 ⟨A4, c4, rfl, hm4, hb4⟩
  obtain ⟨g4, p4, q4, hg4, hal4, hW4, hst4, hx4, hbq4, hlt4⟩ := var_tk u4 #[.int .u16 (rha : Int), .int .i64 rhs, .int .u16 (rht : Int), .int .i64 rhv, .int .i64 rhi, .int .u32 (rhe : Int), .int .u32 (rhn : Int), .slice A4 rhw.length c4]
  have HW4 := Lib.hid hW4
  have hq4 := hb4.trans (hbq4.mono hb4.size)
  have HB_4 := Lib.hid (HB_3.out.trans (hq4.mono HB_3.out.size))
  have HX1_4 := Lib.hid (HX1_3.out.below hq4 HX1_3.out.lt)
  have HM1_4 := Lib.hid (HM1_3.out.kept hq4)
  have HX2_4 := Lib.hid (HX2_3.out.below hq4 HX2_3.out.lt)
  have HM2_4 := Lib.hid (HM2_3.out.kept hq4)
  have HX3_4 := Lib.hid (HX3.out.below hq4 HX3.out.lt)
  have HM3_4 := Lib.hid (HM3.out.kept hq4)
  have HX4 := Lib.hid hx4
  have HM4 := Lib.hid (hm4.kept hbq4)
  obtain ⟨k0, k1, k2, k3, k4, k5, k6, k7⟩ := cellsT (HX.out q4 HB_4.out)
  clear hm4 hb4 hW4 hx4 hbq4 hq4 hlt4 j0 j1 j2 j3 j4 j5 j6 j7
  have j0 := k0
  have j1 := k1
  have j2 := k2
  have j3 := k3
  have j4 := k4
  have j5 := k5
  have j6 := k6
  have j7 := k7
  clear k0 k1 k2 k3 k4 k5 k6 k7
  go_wp2_with (refine wpList_store_whole rfl rfl rfl rfl rfl HW4.out (talkI rfl) rfl (by simp [Value.oneCell']) ?_; rw [hst4])
  refine (CT.out q4 HB_4.out).mono ?_
  rintro e u5 ⟨A5, c5, rfl, hm5, hb5⟩
  obtain ⟨g5, p5, q5, hg5, hal5, hW5, hst5, hx5, hbq5, hlt5⟩ := var_tk u5 #[.int .u16 (rta : Int), .int .i64 rts, .int .u16 (rtt : Int), .int .i64 rtv, .int .i64 rti, .int .u32 (rte : Int), .int .u32 (rtn : Int), .slice A5 rtw.length c5]
  have HW5 := Lib.hid hW5
  have hq5 := hb5.trans (hbq5.mono hb5.size)
  have HB_5 := Lib.hid (HB_4.out.trans (hq5.mono HB_4.out.size))
  have HX1_5 := Lib.hid (HX1_4.out.below hq5 HX1_4.out.lt)
  have HM1_5 := Lib.hid (HM1_4.out.kept hq5)
  have HX2_5 := Lib.hid (HX2_4.out.below hq5 HX2_4.out.lt)
  have HM2_5 := Lib.hid (HM2_4.out.kept hq5)
  have HX3_5 := Lib.hid (HX3_4.out.below hq5 HX3_4.out.lt)
  have HM3_5 := Lib.hid (HM3_4.out.kept hq5)
  have HX4_5 := Lib.hid (HX4.out.below hq5 HX4.out.lt)
  have HM4_5 := Lib.hid (HM4.out.kept hq5)
  have HX5 := Lib.hid hx5
  have HM5 := Lib.hid (hm5.kept hbq5)
  obtain ⟨k0, k1, k2, k3, k4, k5, k6, k7⟩ := cellsT (HX.out q5 HB_5.out)
  clear hm5 hb5 hW5 hx5 hbq5 hq5 hlt5 j0 j1 j2 j3 j4 j5 j6 j7
  have j0 := k0
  have j1 := k1
  have j2 := k2
  have j3 := k3
  have j4 := k4
  have j5 := k5
  have j6 := k6
  have j7 := k7
  clear k0 k1 k2 k3 k4 k5 k6 k7
  go_wp2_with (refine wpList_store_whole rfl rfl rfl rfl rfl HW5.out (talkI rfl) rfl (by simp [Value.oneCell']) ?_; rw [hst5])
  refine (RT.out q5 HB_5.out).mono ?_
  rintro e u6 ⟨A6, c6, rfl, hm6, hb6⟩
  obtain ⟨g6, p6, q6, hg6, hal6, hW6, hst6, hx6, hbq6, hlt6⟩ := var_tk u6 #[.int .u16 (rta : Int), .int .i64 rts, .int .u16 (rtt : Int), .int .i64 rtv, .int .i64 rti, .int .u32 (rte : Int), .int .u32 (rtn : Int), .slice A6 rtw.length c6]
  have HW6 := Lib.hid hW6
  have hq6 := hb6.trans (hbq6.mono hb6.size)
  have HB_6 := Lib.hid (HB_5.out.trans (hq6.mono HB_5.out.size))
  have HX1_6 := Lib.hid (HX1_5.out.below hq6 HX1_5.out.lt)
  have HM1_6 := Lib.hid (HM1_5.out.kept hq6)
  have HX2_6 := Lib.hid (HX2_5.out.below hq6 HX2_5.out.lt)
  have HM2_6 := Lib.hid (HM2_5.out.kept hq6)
  have HX3_6 := Lib.hid (HX3_5.out.below hq6 HX3_5.out.lt)
  have HM3_6 := Lib.hid (HM3_5.out.kept hq6)
  have HX4_6 := Lib.hid (HX4_5.out.below hq6 HX4_5.out.lt)
  have HM4_6 := Lib.hid (HM4_5.out.kept hq6)
  have HX5_6 := Lib.hid (HX5.out.below hq6 HX5.out.lt)
  have HM5_6 := Lib.hid (HM5.out.kept hq6)
  have HX6 := Lib.hid hx6
  have HM6 := Lib.hid (hm6.kept hbq6)
  obtain ⟨k0, k1, k2, k3, k4, k5, k6, k7⟩ := cellsT (HX.out q6 HB_6.out)
  clear hm6 hb6 hW6 hx6 hbq6 hq6 hlt6 j0 j1 j2 j3 j4 j5 j6 j7
  obtain ⟨x0, x1, x2, x3, x4, x5, x6, x7⟩ := cellsT HX1_6.out
  obtain ⟨y0, y1, y2, y3, y4, y5, y6, y7⟩ := cellsT HX2_6.out
  go_wp2_with (refine wpList_store_whole rfl rfl rfl rfl rfl HW6.out (talkI rfl) rfl (by simp [Value.oneCell']) ?_; rw [hst6])
  refine (lsame25_any HM1_6.out HM2_6.out).mono ?_
  rintro e v0 ⟨rfl, hb⟩
  have HS0 := Lib.hid (HB_6.out.trans (hb.mono HB_6.out.size))
  have HX1_s0 := Lib.hid (HX1_6.out.below hb HX1_6.out.lt)
  have HM1_s0 := Lib.hid (HM1_6.out.kept hb)
  have HX2_s0 := Lib.hid (HX2_6.out.below hb HX2_6.out.lt)
  have HM2_s0 := Lib.hid (HM2_6.out.kept hb)
  have HX3_s0 := Lib.hid (HX3_6.out.below hb HX3_6.out.lt)
  have HM3_s0 := Lib.hid (HM3_6.out.kept hb)
  have HX4_s0 := Lib.hid (HX4_6.out.below hb HX4_6.out.lt)
  have HM4_s0 := Lib.hid (HM4_6.out.kept hb)
  have HX5_s0 := Lib.hid (HX5_6.out.below hb HX5_6.out.lt)
  have HM5_s0 := Lib.hid (HM5_6.out.kept hb)
  have HX6_s0 := Lib.hid (HX6.out.below hb HX6.out.lt)
  have HM6_s0 := Lib.hid (HM6.out.kept hb)
  clear hb x0 x1 x2 x3 x4 x5 x6 x7 y0 y1 y2 y3 y4 y5 y6 y7 k0 k1 k2 k3 k4 k5 k6 k7
  obtain ⟨x0, x1, x2, x3, x4, x5, x6, x7⟩ := cellsT HX3_s0.out
  obtain ⟨y0, y1, y2, y3, y4, y5, y6, y7⟩ := cellsT HX4_s0.out
  go_wp2_with fail
  refine (lsame25_any HM3_s0.out HM4_s0.out).mono ?_
  rintro e v1 ⟨rfl, hb⟩
  have HS1 := Lib.hid (HS0.out.trans (hb.mono HS0.out.size))
  have HX1_s1 := Lib.hid (HX1_s0.out.below hb HX1_s0.out.lt)
  have HM1_s1 := Lib.hid (HM1_s0.out.kept hb)
  have HX2_s1 := Lib.hid (HX2_s0.out.below hb HX2_s0.out.lt)
  have HM2_s1 := Lib.hid (HM2_s0.out.kept hb)
  have HX3_s1 := Lib.hid (HX3_s0.out.below hb HX3_s0.out.lt)
  have HM3_s1 := Lib.hid (HM3_s0.out.kept hb)
  have HX4_s1 := Lib.hid (HX4_s0.out.below hb HX4_s0.out.lt)
  have HM4_s1 := Lib.hid (HM4_s0.out.kept hb)
  have HX5_s1 := Lib.hid (HX5_s0.out.below hb HX5_s0.out.lt)
  have HM5_s1 := Lib.hid (HM5_s0.out.kept hb)
  have HX6_s1 := Lib.hid (HX6_s0.out.below hb HX6_s0.out.lt)
  have HM6_s1 := Lib.hid (HM6_s0.out.kept hb)
  clear hb x0 x1 x2 x3 x4 x5 x6 x7 y0 y1 y2 y3 y4 y5 y6 y7
  obtain ⟨x0, x1, x2, x3, x4, x5, x6, x7⟩ := cellsT HX5_s1.out
  obtain ⟨y0, y1, y2, y3, y4, y5, y6, y7⟩ := cellsT HX6_s1.out
  go_wp2_with fail
  refine (lsame25_any HM5_s1.out HM6_s1.out).mono ?_
  rintro e v2 ⟨rfl, hb⟩
  have HS2 := Lib.hid (HS1.out.trans (hb.mono HS1.out.size))
  have HX1_s2 := Lib.hid (HX1_s1.out.below hb HX1_s1.out.lt)
  have HM1_s2 := Lib.hid (HM1_s1.out.kept hb)
  have HX2_s2 := Lib.hid (HX2_s1.out.below hb HX2_s1.out.lt)
  have HM2_s2 := Lib.hid (HM2_s1.out.kept hb)
  have HX3_s2 := Lib.hid (HX3_s1.out.below hb HX3_s1.out.lt)
  have HM3_s2 := Lib.hid (HM3_s1.out.kept hb)
  have HX4_s2 := Lib.hid (HX4_s1.out.below hb HX4_s1.out.lt)
  have HM4_s2 := Lib.hid (HM4_s1.out.kept hb)
  have HX5_s2 := Lib.hid (HX5_s1.out.below hb HX5_s1.out.lt)
  have HM5_s2 := Lib.hid (HM5_s1.out.kept hb)
  have HX6_s2 := Lib.hid (HX6_s1.out.below hb HX6_s1.out.lt)
  have HM6_s2 := Lib.hid (HM6_s1.out.kept hb)
  clear hb x0 x1 x2 x3 x4 x5 x6 x7 y0 y1 y2 y3 y4 y5 y6 y7
  go_wp2_with fail
  refine (awake25 _).mono ?_
  rintro e v9 ⟨rfl, hb⟩
  have HE := Lib.hid (HS2.out.trans (hb.mono HS2.out.size))
  clear hb
  go_wp2_with fail
  go_ret
  exact ⟨rfl, HB1.out.trans (HE.out.mono HB1.out.size)⟩
theorem negoMoves_walk (t : Tk) (V : Value) (a1 a2 : Int) (rp : Bool) (w : World) (H : Ml w w.heap.size V t.waits ∧ t.Ok ∧ ∀ m ∈ t.waits, m.peers.length ≤ 8796093022208 ∧ m.pairs.length ≤ 4398046511104) (w1 : (Lit.int .u16 a1).wf = true) (w2 : (Lit.int .u16 a2).wf = true) :
    Calls Try.prog 3 #[.agg (Tk.row t V), .int .u16 a1, .int .u16 a2, .bool rp] w fun e w' => e = .returned (.bool true) ∧ Below w.heap.size w w' := by
  by_cases hbg : 40 < t.waits.length
  · exact negoMoves_big t V a1 a2 rp w H w1 w2 (Lib.hid hbg)
  · exact negoMoves_small t V a1 a2 rp w H w1 w2 (Lib.hid hbg)
end Go.Proofs.Ytjomchehnlnfcaa
