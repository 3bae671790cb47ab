/- The walk of the law NegoAgrees. -/
import Derived.Test.YtjomchehnlnfcaaAg25
import Derived.Deep.CutBlock
namespace Go.Proofs.Ytjomchehnlnfcaa
open Go.RowKit
open Gm
set_option linter.unusedVariables false
set_option maxRecDepth 100000
set_option linter.unusedSimpArgs false

theorem below_n25 (B : Nat) (w : World) (n : Nat) : Below B w (w.drewN n) := ⟨rfl, rfl, rfl, Nat.le_refl _, fun _ _ => rfl⟩
set_option maxHeartbeats 8000000 in
theorem negoAgrees_walk (a0 b0 : Int) (V : Value) (l : List (Int × Int)) (w : World) (wa : (Lit.int .u16 a0).wf = true) (wb : (Lit.int .u16 b0).wf = true) (D : Sl fDe w w.heap.size V l ∧ ∀ x ∈ l, (-9223372036854775808 ≤ x.1 ∧ x.1 ≤ 9223372036854775807) ∧ (-9223372036854775808 ≤ x.2 ∧ x.2 ≤ 9223372036854775807)) :
    Calls Try.prog 5 #[.int .u16 a0, .int .u16 b0, V] w fun e w' => e = .returned (.bool true) ∧ Below w.heap.size w w' := by
  obtain ⟨p1, q1⟩ := bounds_u16 wa
  obtain ⟨p2, q2⟩ := bounds_u16 wb
  obtain ⟨a, rfl⟩ := Int.eq_ofNat_of_zero_le p1
  obtain ⟨b, rfl⟩ := Int.eq_ofNat_of_zero_le p2
  have ha : a < 65536 := by omega
  have hb : b < 65536 := by omega
  obtain ⟨D, hD⟩ := D
  obtain ⟨A, c, rfl, hs, hlc, hcm, hnull⟩ := D.ex
  unfold maxLen at hcm
  obtain ⟨n, hn⟩ : ∃ n, Hid (l.length = n) := ⟨_, Lib.hid rfl⟩
  have HD := Lib.hid D
  have HS := Lib.hid hs
  have HDb := Lib.hid hD
  rw [hn.out] at hlc HD ⊢
  clear D hD hs hnull wa wb p1 q1 p2 q2
  by_cases hbig : 100 < n
  · have hbd : decide ((100 : Int) < (n : Int)) = true := decide_eq_true (by omega)
    clear hbig
    go_enter Try.func5, Try.ntmps5
    go_wp2_with fail
    refine (awake25 _).mono ?_
    rintro e u2 ⟨rfl, hbw⟩
    have H2 := Lib.hid hbw
    clear hbw
    go_wp2_with fail
    go_ret
    exact ⟨rfl, H2.out⟩
  · have hbd : decide ((100 : Int) < (n : Int)) = false := decide_eq_false (by omega)
    have hn100 : n ≤ 100 := by omega
    clear hbig
    have CB := Lib.hid (fun W => rbest24_any (w := W) ha hb)
    obtain ⟨best, hbest⟩ : ∃ x, Hid (Vs.best a b = x) := ⟨_, Lib.hid rfl⟩
    rw [hbest.out] at CB
    obtain ⟨g, w1, hg, hal, hx⟩ : ∃ g w1, w.heap.size = g ∧ w.alloc (.cells (Ag.cells2 Ag.Ta.zero Ag.Ta.zero) 41) = w1 ∧ Whole w1 g 41 (Ag.cells2 Ag.Ta.zero Ag.Ta.zero) ∧ Below w.heap.size w w1 ∧ w1.heap.size = g + 1 := ⟨_, _, rfl, rfl, Whole.made _ _ _, (Below.refl _ _).alloc (Nat.le_refl _) _, by simp⟩
    obtain ⟨h, w2, hh, hal2, hy⟩ : ∃ h w2, w1.heap.size = h ∧ w1.alloc (.cells #[.int .u16 (a : Int), .int .u16 (b : Int)] 42) = w2 ∧ Whole w2 h 42 #[.int .u16 (a : Int), .int .u16 (b : Int)] ∧ Below w1.heap.size w1 w2 := ⟨_, _, rfl, rfl, Whole.made _ _ _, (Below.refl _ _).alloc (Nat.le_refl _) _⟩
    obtain ⟨hx, hb1, hs1⟩ := hx
    obtain ⟨hy, hb2⟩ := hy
    have HG : Hid (w.heap.size = g ∧ h = g + 1) := Lib.hid ⟨hg, by omega⟩
    have HS2 : Hid (Ag.St w g h a b best 0 (.slice none 0 0) w2) := Lib.hid ⟨⟨_, _, Ag.Good.zero _, Ag.Good.zero _, hx.below hb2 (by omega)⟩, hy, ⟨[], by simp, (fun x hx => by cases hx), World.ownsRow_nil _ _ _ _⟩, hb1.trans (hb2.mono hb1.size), by omega, by omega⟩
    unfold Ag.cells2 Ag.Ta.zero at hal
    simp only [Int.ofNat_zero, Int.natCast_zero, Int.cast_ofNat_Int] at hal
    clear hx hb1 hs1 hy hb2
    go_enter Try.func5, Try.ntmps5
    go_wp2_with fail
    refine (CB.out _).mono ?_
    rintro e u1 ⟨rfl, rfl⟩
    go_wp2_with fail
    go_loopw [9, 11] (fun V x wr => ∃ i : Nat, i ≤ n ∧ x = .int .i64 (i : Int) ∧ Hid (Ag.St w g h a b best (2 * i) V wr)) (fun _ x _ => n - (intOf x).toNat)
    case atStart => exact ⟨0, by omega, rfl, HS2⟩
    case round =>
      obtain ⟨i, hi, rfl, HW⟩ := hrel
      by_cases hlt : i < n
      · obtain ⟨bl, off, eA, hbl, hat⟩ := HS.out (by rw [hn.out]; omega)
        obtain ⟨hc0, hc1⟩ := hat i (by rw [hn.out]; exact hlt)
        obtain ⟨⟨kd, pl⟩, hkp⟩ : ∃ d, Hid (l[i]'(by rw [hn.out]; exact hlt) = d) := ⟨_, Lib.hid rfl⟩
        have hbd := HDb.out _ (List.getElem_mem (by rw [hn.out]; exact hlt : i < l.length))
        rw [hkp.out] at hc0 hc1 hbd
        have hwr := HW.out.below
        have hd0 : wr.cell? ⟨bl, off + i * 2, none⟩ = some (.int .i64 kd) := (hwr.cell (p := ⟨bl, off + i * 2, none⟩) hbl).trans hc0
        have hd1 : wr.cell? ⟨bl, off + i * 2 + 1, none⟩ = some (.int .i64 pl) := (hwr.cell (p := ⟨bl, off + i * 2 + 1, none⟩) hbl).trans hc1
        subst eA
        have HD0 : Hid (∀ q, (wr.drewN q).cell? ⟨bl, off + i * 2, none⟩ = some (.int .i64 kd)) := Lib.hid (fun _ => hd0)
        obtain ⟨L, hL, hLx, hLo⟩ := HW.out.way
        obtain ⟨Aw, cw, rfl⟩ := own_shape hLo
        obtain ⟨m, hm⟩ : ∃ m, Hid (L.length = m) := ⟨_, Lib.hid rfl⟩
        rw [hm.out] at HW hL hLo ⊢
        have HST := Lib.hid (fun q => HW.out.later (w' := wr.drewN q) (below_n25 _ _ q))
        have HL := Lib.hid hL
        have HLx := Lib.hid hLx
        have HLo := Lib.hid (fun q => (own2_below hLo (below_n25 _ _ q) : (wr.drewN q).ownsRow (h + 1) 48 3 (.slice Aw m cw) m (rowsOf fTo L)))
        have hi0 : 0 ≤ (i : Int) := by omega
        obtain ⟨⟨hk1, hk2⟩, hp1, hp2⟩ := hbd
        simp only at hd0 hd1 hk1 hk2 hp1 hp2
        clear hc0 hc1 hat hbl hwr hL hLx hLo
        obtain ⟨kv, hkv⟩ : ∃ kv : Int, bits .and .i64 kd 1 = kv := ⟨_, rfl⟩
        have HKV : Hid ((kd = 0 → kv = 0) ∧ (kd = 1 → kv = 1) ∧ (kd = 2 → kv = 0) ∧ (kd = 3 → kv = 1)) := Lib.hid (by
          rw [← hkv]
          refine ⟨?_, ?_, ?_, ?_⟩ <;> (rintro rfl; decide))
        go_upto_region 11 with fail
        go_quiet (fail)
        have HS3 := Lib.hid (HST.out nq)
        have d0 := HD0.out nq
        have hLo := HLo.out nq
        generalize wr.drewN nq = w3 at *
        have HO3 := Lib.hid hLo
        clear hLo HST HD0 HLo hd0 hd1 hkv
        obtain ⟨x, y, hgx, hgy, hwh⟩ := HS3.out.two
        have HGx := Lib.hid hgx
        have HGy := Lib.hid hgy
        have HWh := Lib.hid hwh
        clear hgx hgy hwh
        go_upto_block 2 with fail
        go_cut [9, 13, 15, 16, 17] from 29 to 194 (fun s9 s13 s15 s16 s17 wx => ∃ V, s9 = V ∧ (∃ sb : Bool, s13 = .bool sb ∧ (sb = true → kd = 0 ∨ kd = 1 ∨ kd = 2 ∨ kd = 3)) ∧ Hid (Ag.St w g h a b best (2 * i + 1) V wx))
        case first =>
          by_cases hk03 : kd = 0 ∨ kd = 1 ∨ kd = 2 ∨ kd = 3
          · rcases hk03 with hkd | hkd | hkd | hkd
            · as_aux_lemma =>
                obtain rfl := HKV.out.1 hkd
                subst hkd
                have cs : ∀ k, w3.cell? ⟨g, k, none⟩ = (Ag.cells2 x y)[k]? := fun k => HWh.out.at_ k
                have k0 := cs 0
                have k1 := cs 1
                have k2 := cs 2
                have k3 := cs 3
                have k4 := cs 4
                have k5 := cs 5
                have k6 := cs 6
                have k7 := cs 7
                unfold Ag.cells2 at k0 k1 k2 k3 k4 k5 k6 k7
                simp only [List.getElem?_toArray, List.getElem?_cons_zero, List.getElem?_cons_succ] at k0 k1 k2 k3 k4 k5 k6 k7
                clear cs
                go_wp2_with fail
                refine (Ag.ask_post HGx.out w3).mono ?_
                rintro e w4 ⟨z, sb, rfl, hz, hb4⟩
                have ht := Ag.whole_there (o := 0) (n := 8) (HWh.out.below hb4 HWh.out.lt) (by unfold Ag.cells2; simp)
                obtain ⟨w5, hw5⟩ : ∃ W, w4.setCells g 0 (#[.int .u16 0, .int .i64 z.s, .int .u16 (z.th : Int), .int .i64 z.v, .int .i64 z.i, .int .u32 0, .int .u32 0, .slice z.A 0 z.c] : Array Value).toList = W := ⟨_, rfl⟩
                have HSp : Hid (Ag.St w g h a b best (2 * i) (.slice Aw m cw) w5) := Lib.hid (by rw [← hw5]; exact (HS3.out.later hb4).put0 hz)
                clear hb4 k0 k1 k2 k3 k4 k5 k6 k7
                go_wp2_with (refine wpList_store_mid rfl 26 _ _ rfl g 0 #[.int .u16 0, .int .i64 z.s, .int .u16 (z.th : Int), .int .i64 z.v, .int .i64 z.i, .int .u32 0, .int .u32 0, .slice z.A 0 z.c] rfl rfl ht (talkI rfl) (by simp [Value.oneCell']) ?_; rw [hw5])
                go_meet
                exact ⟨_, rfl, ⟨sb, rfl, fun _ => by simp⟩, Lib.hid (HSp.out.more (by omega))⟩
            · as_aux_lemma =>
                obtain rfl := HKV.out.2.1 hkd
                subst hkd
                have cs : ∀ k, w3.cell? ⟨g, k, none⟩ = (Ag.cells2 x y)[k]? := fun k => HWh.out.at_ k
                have k0 := cs 8
                have k1 := cs 9
                have k2 := cs 10
                have k3 := cs 11
                have k4 := cs 12
                have k5 := cs 13
                have k6 := cs 14
                have k7 := cs 15
                unfold Ag.cells2 at k0 k1 k2 k3 k4 k5 k6 k7
                simp only [List.getElem?_toArray, List.getElem?_cons_zero, List.getElem?_cons_succ] at k0 k1 k2 k3 k4 k5 k6 k7
                clear cs
                go_wp2_with fail
                refine (Ag.ask_post HGy.out w3).mono ?_
                rintro e w4 ⟨z, sb, rfl, hz, hb4⟩
                have ht := Ag.whole_there (o := 8) (n := 8) (HWh.out.below hb4 HWh.out.lt) (by unfold Ag.cells2; simp)
                obtain ⟨w5, hw5⟩ : ∃ W, w4.setCells g 8 (#[.int .u16 0, .int .i64 z.s, .int .u16 (z.th : Int), .int .i64 z.v, .int .i64 z.i, .int .u32 0, .int .u32 0, .slice z.A 0 z.c] : Array Value).toList = W := ⟨_, rfl⟩
                have HSp : Hid (Ag.St w g h a b best (2 * i) (.slice Aw m cw) w5) := Lib.hid (by rw [← hw5]; exact (HS3.out.later hb4).put1 hz)
                clear hb4 k0 k1 k2 k3 k4 k5 k6 k7
                go_wp2_with (refine wpList_store_mid rfl 26 _ _ rfl g 8 #[.int .u16 0, .int .i64 z.s, .int .u16 (z.th : Int), .int .i64 z.v, .int .i64 z.i, .int .u32 0, .int .u32 0, .slice z.A 0 z.c] rfl rfl ht (talkI rfl) (by simp [Value.oneCell']) ?_; rw [hw5])
                go_meet
                exact ⟨_, rfl, ⟨sb, rfl, fun _ => by simp⟩, Lib.hid (HSp.out.more (by omega))⟩
            · as_aux_lemma =>
                obtain rfl := HKV.out.2.2.1 hkd
                subst hkd
                have cs : ∀ k, w3.cell? ⟨g, k, none⟩ = (Ag.cells2 x y)[k]? := fun k => HWh.out.at_ k
                have k0 := cs 0
                have k1 := cs 1
                have k2 := cs 2
                have k3 := cs 3
                have k4 := cs 4
                have k5 := cs 5
                have k6 := cs 6
                have k7 := cs 7
                unfold Ag.cells2 at k0 k1 k2 k3 k4 k5 k6 k7
                simp only [List.getElem?_toArray, List.getElem?_cons_zero, List.getElem?_cons_succ] at k0 k1 k2 k3 k4 k5 k6 k7
                clear cs
                go_wp2_with fail
                refine (Ag.tick_post HGx.out w3).mono ?_
                rintro e w4 ⟨z, sb, rfl, hz, hb4⟩
                have ht := Ag.whole_there (o := 0) (n := 8) (HWh.out.below hb4 HWh.out.lt) (by unfold Ag.cells2; simp)
                obtain ⟨w5, hw5⟩ : ∃ W, w4.setCells g 0 (#[.int .u16 0, .int .i64 z.s, .int .u16 (z.th : Int), .int .i64 z.v, .int .i64 z.i, .int .u32 0, .int .u32 0, .slice z.A 0 z.c] : Array Value).toList = W := ⟨_, rfl⟩
                have HSp : Hid (Ag.St w g h a b best (2 * i) (.slice Aw m cw) w5) := Lib.hid (by rw [← hw5]; exact (HS3.out.later hb4).put0 hz)
                clear hb4 k0 k1 k2 k3 k4 k5 k6 k7
                go_wp2_with (refine wpList_store_mid rfl 26 _ _ rfl g 0 #[.int .u16 0, .int .i64 z.s, .int .u16 (z.th : Int), .int .i64 z.v, .int .i64 z.i, .int .u32 0, .int .u32 0, .slice z.A 0 z.c] rfl rfl ht (talkI rfl) (by simp [Value.oneCell']) ?_; rw [hw5])
                go_meet
                exact ⟨_, rfl, ⟨sb, rfl, fun _ => by simp⟩, Lib.hid (HSp.out.more (by omega))⟩
            · as_aux_lemma =>
                obtain rfl := HKV.out.2.2.2 hkd
                subst hkd
                have cs : ∀ k, w3.cell? ⟨g, k, none⟩ = (Ag.cells2 x y)[k]? := fun k => HWh.out.at_ k
                have k0 := cs 8
                have k1 := cs 9
                have k2 := cs 10
                have k3 := cs 11
                have k4 := cs 12
                have k5 := cs 13
                have k6 := cs 14
                have k7 := cs 15
                unfold Ag.cells2 at k0 k1 k2 k3 k4 k5 k6 k7
                simp only [List.getElem?_toArray, List.getElem?_cons_zero, List.getElem?_cons_succ] at k0 k1 k2 k3 k4 k5 k6 k7
                clear cs
                go_wp2_with fail
                refine (Ag.tick_post HGy.out w3).mono ?_
                rintro e w4 ⟨z, sb, rfl, hz, hb4⟩
                have ht := Ag.whole_there (o := 8) (n := 8) (HWh.out.below hb4 HWh.out.lt) (by unfold Ag.cells2; simp)
                obtain ⟨w5, hw5⟩ : ∃ W, w4.setCells g 8 (#[.int .u16 0, .int .i64 z.s, .int .u16 (z.th : Int), .int .i64 z.v, .int .i64 z.i, .int .u32 0, .int .u32 0, .slice z.A 0 z.c] : Array Value).toList = W := ⟨_, rfl⟩
                have HSp : Hid (Ag.St w g h a b best (2 * i) (.slice Aw m cw) w5) := Lib.hid (by rw [← hw5]; exact (HS3.out.later hb4).put1 hz)
                clear hb4 k0 k1 k2 k3 k4 k5 k6 k7
                go_wp2_with (refine wpList_store_mid rfl 26 _ _ rfl g 8 #[.int .u16 0, .int .i64 z.s, .int .u16 (z.th : Int), .int .i64 z.v, .int .i64 z.i, .int .u32 0, .int .u32 0, .slice z.A 0 z.c] rfl rfl ht (talkI rfl) (by simp [Value.oneCell']) ?_; rw [hw5])
                go_meet
                exact ⟨_, rfl, ⟨sb, rfl, fun _ => by simp⟩, Lib.hid (HSp.out.more (by omega))⟩
          · have e0 : (kd == 0) = false := by simp; omega
            have e1 : (kd == 1) = false := by simp; omega
            have e2 : (kd == 2) = false := by simp; omega
            have e3 : (kd == 3) = false := by simp; omega
            by_cases hin : 0 ≤ pl ∧ pl < (m : Int)
            · by_cases hkd : kd = 4
              · obtain ⟨p, rfl⟩ : ∃ p : Nat, pl = (p : Int) := ⟨pl.toNat, by omega⟩
                have hpm : p < m := by omega
                have d1 : decide ((p : Int) < 0) = false := decide_eq_false (by omega)
                have d2 : decide ((m : Int) ≤ (p : Int)) = false := decide_eq_false (by omega)
                obtain ⟨q0, eq0, hq1, hq2⟩ : ∃ q0, Aw = some ⟨q0, 0, none⟩ ∧ h + 1 ≤ q0 ∧ q0 < w3.heap.size := by
                  rcases HO3.out.2 with ⟨_, h0⟩ | ⟨q0, cap, cur, hv, hg1, hh1, _⟩
                  · omega
                  · injection hv with e1 _ _
                    exact ⟨q0, e1, hg1, (Array.getElem?_eq_some_iff.1 hh1).1⟩
                subst eq0
                have hmc : m ≤ cw := by
                  rcases HO3.out.2 with ⟨_, h0⟩ | ⟨q1, cap, cur, hv, hg1, hh1, hc1, _⟩
                  · omega
                  · injection hv with _ _ e3
                    rw [e3]; exact hc1
                have hcmx : cw ≤ 9223372036854775807 := by
                  rcases HO3.out.2 with ⟨_, h0⟩ | ⟨q1, cap, cur, hv, hg1, hh1, hc1, hc2, _⟩
                  · omega
                  · injection hv with _ _ e3
                    rw [e3]; unfold maxLen at hc2; omega
                have HQ0 : Hid (h + 1 ≤ q0 ∧ q0 < w3.heap.size) := Lib.hid ⟨hq1, hq2⟩
                clear hin hq1 hq2
                have hp0 : 0 ≤ (p : Int) := by omega
                subst hkd
                have hpL : p < L.length := by rw [hm.out]; exact hpm
                obtain ⟨⟨sx, rx, tx⟩, hxx⟩ : ∃ d, L[p]'hpL = d := ⟨_, rfl⟩
                obtain ⟨f0, f1, f2⟩ := Ag.way_cell HO3.out hpL hm.out hxx
                have hmemx : tx = if sx = true then a else b := by have := HLx.out _ (List.getElem_mem hpL); rw [hxx] at this; exact this
                have HTX : Hid (tx < 65536) := Lib.hid (by rw [hmemx]; split <;> assumption)
                clear hxx
                cases sx
                · have HBE : Hid (Vs.best a b = best) := hbest
                  cases rx
                  · as_aux_lemma =>
                      obtain rfl : b = tx := by simpa using hmemx.symm
                      clear hmemx
                      obtain ⟨qb, w4, hqb, hal4, hx4, hb4⟩ : ∃ qb W, w3.heap.size = qb ∧ w3.alloc (.cells #[.bool false, .bool false, .int .u16 (b : Int)] 48) = W ∧ Whole W qb 48 #[.bool false, .bool false, .int .u16 (b : Int)] ∧ Below w3.heap.size w3 W := ⟨_, _, rfl, rfl, Whole.made _ _ _, (Below.refl _ _).alloc (Nat.le_refl _) _⟩
                      have HS4 := Lib.hid (HS3.out.later hb4)
                      have HWh4 := Lib.hid (HWh.out.below hb4 HWh.out.lt)
                      have HO4 := Lib.hid (own2_below HO3.out hb4)
                      have HX4 := Lib.hid hx4
                      have HQ : Hid (h + 1 ≤ qb ∧ w3.heap.size = qb ∧ qb < w4.heap.size ∧ q0 < qb) := Lib.hid ⟨by have := HQ0.out; omega, hqb, hx4.lt, by have := HQ0.out; omega⟩
                      have b0 : w4.cell? ⟨qb, 0, none⟩ = some (.bool false) := hx4.at_ 0
                      clear hb4 hx4
                      go_upto_region 24 with fail
                      have sh : w4.cell? ⟨h, 0, none⟩ = some (.int .u16 (a : Int)) := HS4.out.sets.at_ 0
                      have b1 : w4.cell? ⟨qb, 1, none⟩ = some (.bool false) := HX4.out.at_ 1
                      have b2 : w4.cell? ⟨qb, 2, none⟩ = some (.int .u16 (b : Int)) := HX4.out.at_ 2
                      have cs : ∀ k, w4.cell? ⟨g, k, none⟩ = (Ag.cells2 x y)[k]? := fun k => HWh4.out.at_ k
                      have k0 := cs 0
                      have k1 := cs 1
                      have k2 := cs 2
                      have k3 := cs 3
                      have k4 := cs 4
                      have k5 := cs 5
                      have k6 := cs 6
                      have k7 := cs 7
                      unfold Ag.cells2 at k0 k1 k2 k3 k4 k5 k6 k7
                      simp only [List.getElem?_toArray, List.getElem?_cons_zero, List.getElem?_cons_succ] at k0 k1 k2 k3 k4 k5 k6 k7
                      clear cs
                      refine wp_region_plan (S := fun W => W.cell? ⟨h, 0, none⟩ = some (.int .u16 (a : Int)) ∧ W.cell? ⟨qb, 1, none⟩ = some (.bool false) ∧ W.cell? ⟨qb, 2, none⟩ = some (.int .u16 (b : Int))) [(0, true), (1, true), (2, true), (4, true), (5, true), (6, true), (7, true), (8, true), (9, true), (10, true), (3, false), (11, false), (12, true), (13, true), (14, true), (15, true), (16, false), (17, true)] (by kernel_rfl) (by kernel_rfl) rfl (by kernel_rfl) (fun _ _ _ _ _ h => h) ⟨sh, b1, b2⟩ ?_
                      iterate 10
                        refine along_take (v := ?_) rfl (by rfl) ?_ ?_
                        rotate_left
                        · intro W hW; obtain ⟨s1, s2, s3⟩ := hW; go_simp; try with_reducible rfl
                        simp only [Act.put, List.setIfInBounds_toArray, List.set_cons_zero, List.set_cons_succ]
                      have kd0 : w4.drew.cell? ⟨g, 0, none⟩ = _ := k0
                      have kd1 : w4.drew.cell? ⟨g, 1, none⟩ = _ := k1
                      have kd2 : w4.drew.cell? ⟨g, 2, none⟩ = _ := k2
                      have kd3 : w4.drew.cell? ⟨g, 3, none⟩ = _ := k3
                      have kd4 : w4.drew.cell? ⟨g, 4, none⟩ = _ := k4
                      have kd5 : w4.drew.cell? ⟨g, 5, none⟩ = _ := k5
                      have kd6 : w4.drew.cell? ⟨g, 6, none⟩ = _ := k6
                      have kd7 : w4.drew.cell? ⟨g, 7, none⟩ = _ := k7
                      refine along_step rfl (fun K hK => ?_)
                      go_simp
                      refine hK.out _ _ ⟨sh, b1, b2⟩ ?_
                      clear hK K
                      try simp only [Act.put, List.setIfInBounds_toArray, List.set_cons_zero, List.set_cons_succ]
                      refine along_step rfl (fun K hK => ?_)
                      go_simp
                      refine (Ag.hear_post HGx.out ha HTX.out HBE.out false _).mono ?_
                      rintro e w5 ⟨z, rfl, hz, hb5'⟩
                      have hb5 : Below w4.heap.size w4 w5 := (below_n25 _ _ 1).trans hb5'
                      have sh5 : w5.cell? ⟨h, 0, none⟩ = some (.int .u16 (a : Int)) := (hb5.cell (p := ⟨h, 0, none⟩) HS4.out.sets.lt).trans sh
                      have b15 : w5.cell? ⟨qb, 1, none⟩ = some (.bool false) := (hb5.cell (p := ⟨qb, 1, none⟩) HX4.out.lt).trans b1
                      have b25 : w5.cell? ⟨qb, 2, none⟩ = some (.int .u16 (b : Int)) := (hb5.cell (p := ⟨qb, 2, none⟩) HX4.out.lt).trans b2
                      refine hK.out _ _ ⟨sh5, b15, b25⟩ ?_
                      have ht := Ag.whole_there (o := 0) (n := 8) (HWh4.out.below hb5 HWh4.out.lt) (by unfold Ag.cells2; simp)
                      obtain ⟨w6, hw6⟩ : ∃ W, w5.setCells g 0 (#[.int .u16 0, .int .i64 z.s, .int .u16 (z.th : Int), .int .i64 z.v, .int .i64 z.i, .int .u32 0, .int .u32 0, .slice z.A 0 z.c] : Array Value).toList = W := ⟨_, rfl⟩
                      have HS6 : Hid (Ag.St w g h a b best (2 * i) (.slice (some ⟨q0, 0, none⟩) m cw) w6) := Lib.hid (by rw [← hw6]; exact (HS4.out.later hb5).put0 hz)
                      have HO6 : Hid (w6.ownsRow (h + 1) 48 3 (.slice (some ⟨q0, 0, none⟩) m cw) m (rowsOf fTo L)) := Lib.hid (by rw [← hw6]; exact own2_keep (own2_below HO4.out hb5) (fun k hk _ => Ag.setCells_other g _ _ _ k (by have := HS4.out.gh; omega)))
                      have HX6 : Hid (Whole w6 qb 48 #[.bool false, .bool false, .int .u16 (b : Int)]) := Lib.hid (by rw [← hw6]; exact (Ag.setCells_other g _ _ _ qb (by have := HS4.out.gh; have := HQ.out; omega)).trans (HX4.out.below hb5 HX4.out.lt))
                      have sh6 : w6.cell? ⟨h, 0, none⟩ = some (.int .u16 (a : Int)) := HS6.out.sets.at_ 0
                      have b06 : w6.cell? ⟨qb, 0, none⟩ = some (.bool false) := HX6.out.at_ 0
                      have b16 : w6.cell? ⟨qb, 1, none⟩ = some (.bool false) := HX6.out.at_ 1
                      have b26 : w6.cell? ⟨qb, 2, none⟩ = some (.int .u16 (b : Int)) := HX6.out.at_ 2
                      clear hK K hb5' hb5 kd0 kd1 kd2 kd3 kd4 kd5 kd6 kd7 k0 k1 k2 k3 k4 k5 k6 k7
                      try simp only [Act.put, List.setIfInBounds_toArray, List.set_cons_zero, List.set_cons_succ]
                      iterate 4
                        refine along_take (v := ?_) rfl (by rfl) ?_ ?_
                        rotate_left
                        · intro W hW; obtain ⟨s1, s2, s3⟩ := hW; go_simp; try with_reducible rfl
                        simp only [Act.put, List.setIfInBounds_toArray, List.set_cons_zero, List.set_cons_succ]
                      refine along_step rfl (fun K hK => ?_)
                      refine step_store_mid25 26 _ _ rfl rfl g 0 #[.int .u16 0, .int .i64 z.s, .int .u16 (z.th : Int), .int .i64 z.v, .int .i64 z.i, .int .u32 0, .int .u32 0, .slice z.A 0 z.c] rfl rfl ht (talkI rfl) (by simp [Value.oneCell']) ?_
                      rw [hw6]
                      refine hK.out _ _ ⟨sh6, b16, b26⟩ ?_
                      clear hK K
                      try simp only [Act.put, List.setIfInBounds_toArray, List.set_cons_zero, List.set_cons_succ]
                      refine along_take (v := ?_) rfl (by rfl) ?_ ?_
                      rotate_left
                      · intro W hW; obtain ⟨s1, s2, s3⟩ := hW; go_simp; try with_reducible rfl
                      simp only [Act.put, List.setIfInBounds_toArray, List.set_cons_zero, List.set_cons_succ]
                      refine along_done ?_
                      go_upto_region 26 with fail
                      have HSc := Lib.hid (src_cells w6.drew #[.bool true, .bool true, .int .u16 (a : Int)] 48 (0, 0))
                      obtain ⟨w7, hw7⟩ : ∃ W, w6.drew.alloc (.cells #[.bool true, .bool true, .int .u16 (a : Int)] 48) = W := ⟨_, rfl⟩
                      have hb7 : Below w6.heap.size w6 w7 := by rw [← hw7]; exact (Below.refl _ _).drew.alloc (Nat.le_refl _) _
                      rw [hw7] at HSc
                      have HO7 := Lib.hid (own2_below HO6.out hb7)
                      have sh7 : w7.cell? ⟨h, 0, none⟩ = some (.int .u16 (a : Int)) := (hb7.cell (p := ⟨h, 0, none⟩) HS6.out.sets.lt).trans sh6
                      have b07 : w7.cell? ⟨qb, 0, none⟩ = some (.bool false) := (hb7.cell (p := ⟨qb, 0, none⟩) HX6.out.lt).trans b06
                      refine wp_region_plan (S := fun W => W.cell? ⟨h, 0, none⟩ = some (.int .u16 (a : Int)) ∧ W.cell? ⟨qb, 0, none⟩ = some (.bool false)) [(0, true), (1, true), (2, true), (3, true), (4, true), (5, true), (6, true), (7, true), (8, false), (9, false), (10, true)] (by kernel_rfl) (by kernel_rfl) rfl (by kernel_rfl) (fun _ _ _ _ _ h => h) ⟨sh6, b06⟩ ?_
                      iterate 8
                        refine along_take (v := ?_) rfl (by rfl) ?_ ?_
                        rotate_left
                        · intro W hW; obtain ⟨s1, s2⟩ := hW; go_simp; try with_reducible rfl
                        simp only [Act.put, List.setIfInBounds_toArray, List.set_cons_zero, List.set_cons_succ]
                      refine along_step rfl (fun K hK => ?_)
                      go_simp
                      try rw [hw7]
                      refine hK.out _ _ ⟨sh7, b07⟩ ?_
                      clear hK K
                      try simp only [Act.put, List.setIfInBounds_toArray, List.set_cons_zero, List.set_cons_succ]
                      refine along_step rfl (fun K hK => ?_)
                      refine step_append_cells Try.underlying43 toI rfl (by decide) (by decide) _ _ rfl rfl (h + 1) _ m (rowsOf fTo L) rfl HO7.out 1 1 [.bool true, .bool true, .int .u16 (a : Int)] rfl rfl (fun h => by cases h) (Nat.le_refl _) HSc.out (by intro u hu; simp at hu; rcases hu with rfl | rfl | rfl <;> rfl) (by have := HL.out; omega) (by have := HQ.out; have := hb7.size; have := HX6.out.lt; omega) (fun v8 w8 ho8 hg8 _ => ?_)
                      have hb8 : Below (h + 1) w6 w8 := (hb7.mono (by have := HQ.out; have := HX6.out.lt; omega)).grown hg8 (by have := HQ.out; have := hb7.size; have := HX6.out.lt; omega) (fun k hk => (HO7.out.lt k hk).1)
                      have sh8 : w8.cell? ⟨h, 0, none⟩ = some (.int .u16 (a : Int)) := (hb8.cell (p := ⟨h, 0, none⟩) (by show h < h + 1; omega)).trans sh6
                      have b08 : w8.cell? ⟨qb, 0, none⟩ = some (.bool false) := (World.cell?_of_block (a := ⟨qb, 0, none⟩) (hg8.block qb (by have := hb7.size; have := HX6.out.lt; omega) (by have hq9 := HQ.out.2.2.2; intro e; have e' : some qb = some q0 := e; injection e' with e''; omega))).trans b07
                      obtain ⟨A8, c8, rfl⟩ := own_shape ho8
                      refine hK.out _ _ ⟨sh8, b08⟩ ?_
                      have HSt : Hid (Ag.St w g h a b best (2 * i + 1) (.slice A8 (m + 1) c8) w8) := Lib.hid (HS6.out.turn (by have := HG.out; omega) (l' := L ++ [(true, true, a)]) (by rw [List.length_append]; have := HL.out; have := hm.out; simp; omega) (fun x hx => by
                        rcases List.mem_append.1 hx with hx | hx
                        · exact HLx.out x hx
                        · simp at hx; subst hx; simp) (by rw [List.length_append, hm.out, rowsOf_append, rowsOf_one]; exact ho8) hb8)
                      clear hK K ho8 hg8 hb8 hb7
                      try simp only [Act.put, List.setIfInBounds_toArray, List.set_cons_zero, List.set_cons_succ]
                      refine along_take (v := ?_) rfl (by rfl) ?_ ?_
                      rotate_left
                      · intro W hW; obtain ⟨s1, s2⟩ := hW; go_simp; try with_reducible rfl
                      simp only [Act.put, List.setIfInBounds_toArray, List.set_cons_zero, List.set_cons_succ]
                      refine along_done ?_
                      go_wp2_with fail
                      go_meet
                      exact ⟨_, rfl, ⟨false, rfl, fun h => by cases h⟩, HSt⟩
                  · as_aux_lemma =>
                      obtain rfl : b = tx := by simpa using hmemx.symm
                      clear hmemx
                      obtain ⟨qb, w4, hqb, hal4, hx4, hb4⟩ : ∃ qb W, w3.heap.size = qb ∧ w3.alloc (.cells #[.bool false, .bool true, .int .u16 (b : Int)] 48) = W ∧ Whole W qb 48 #[.bool false, .bool true, .int .u16 (b : Int)] ∧ Below w3.heap.size w3 W := ⟨_, _, rfl, rfl, Whole.made _ _ _, (Below.refl _ _).alloc (Nat.le_refl _) _⟩
                      have HS4 := Lib.hid (HS3.out.later hb4)
                      have HWh4 := Lib.hid (HWh.out.below hb4 HWh.out.lt)
                      have HO4 := Lib.hid (own2_below HO3.out hb4)
                      have HX4 := Lib.hid hx4
                      have HQ : Hid (h + 1 ≤ qb ∧ w3.heap.size = qb ∧ qb < w4.heap.size ∧ q0 < qb) := Lib.hid ⟨by have := HQ0.out; omega, hqb, hx4.lt, by have := HQ0.out; omega⟩
                      have b0 : w4.cell? ⟨qb, 0, none⟩ = some (.bool false) := hx4.at_ 0
                      clear hb4 hx4
                      go_upto_region 24 with fail
                      have sh : w4.cell? ⟨h, 0, none⟩ = some (.int .u16 (a : Int)) := HS4.out.sets.at_ 0
                      have b1 : w4.cell? ⟨qb, 1, none⟩ = some (.bool true) := HX4.out.at_ 1
                      have b2 : w4.cell? ⟨qb, 2, none⟩ = some (.int .u16 (b : Int)) := HX4.out.at_ 2
                      have cs : ∀ k, w4.cell? ⟨g, k, none⟩ = (Ag.cells2 x y)[k]? := fun k => HWh4.out.at_ k
                      have k0 := cs 0
                      have k1 := cs 1
                      have k2 := cs 2
                      have k3 := cs 3
                      have k4 := cs 4
                      have k5 := cs 5
                      have k6 := cs 6
                      have k7 := cs 7
                      unfold Ag.cells2 at k0 k1 k2 k3 k4 k5 k6 k7
                      simp only [List.getElem?_toArray, List.getElem?_cons_zero, List.getElem?_cons_succ] at k0 k1 k2 k3 k4 k5 k6 k7
                      clear cs
                      refine wp_region_plan (S := fun W => W.cell? ⟨h, 0, none⟩ = some (.int .u16 (a : Int)) ∧ W.cell? ⟨qb, 1, none⟩ = some (.bool true) ∧ W.cell? ⟨qb, 2, none⟩ = some (.int .u16 (b : Int))) [(0, true), (1, true), (2, true), (4, true), (5, true), (6, true), (7, true), (8, true), (9, true), (10, true), (3, false), (11, false), (12, true), (13, true), (14, true), (15, true), (16, false), (17, true)] (by kernel_rfl) (by kernel_rfl) rfl (by kernel_rfl) (fun _ _ _ _ _ h => h) ⟨sh, b1, b2⟩ ?_
                      iterate 10
                        refine along_take (v := ?_) rfl (by rfl) ?_ ?_
                        rotate_left
                        · intro W hW; obtain ⟨s1, s2, s3⟩ := hW; go_simp; try with_reducible rfl
                        simp only [Act.put, List.setIfInBounds_toArray, List.set_cons_zero, List.set_cons_succ]
                      have kd0 : w4.drew.cell? ⟨g, 0, none⟩ = _ := k0
                      have kd1 : w4.drew.cell? ⟨g, 1, none⟩ = _ := k1
                      have kd2 : w4.drew.cell? ⟨g, 2, none⟩ = _ := k2
                      have kd3 : w4.drew.cell? ⟨g, 3, none⟩ = _ := k3
                      have kd4 : w4.drew.cell? ⟨g, 4, none⟩ = _ := k4
                      have kd5 : w4.drew.cell? ⟨g, 5, none⟩ = _ := k5
                      have kd6 : w4.drew.cell? ⟨g, 6, none⟩ = _ := k6
                      have kd7 : w4.drew.cell? ⟨g, 7, none⟩ = _ := k7
                      refine along_step rfl (fun K hK => ?_)
                      go_simp
                      refine hK.out _ _ ⟨sh, b1, b2⟩ ?_
                      clear hK K
                      try simp only [Act.put, List.setIfInBounds_toArray, List.set_cons_zero, List.set_cons_succ]
                      refine along_step rfl (fun K hK => ?_)
                      go_simp
                      refine (Ag.hear_post HGx.out ha HTX.out HBE.out true _).mono ?_
                      rintro e w5 ⟨z, rfl, hz, hb5'⟩
                      have hb5 : Below w4.heap.size w4 w5 := (below_n25 _ _ 1).trans hb5'
                      have sh5 : w5.cell? ⟨h, 0, none⟩ = some (.int .u16 (a : Int)) := (hb5.cell (p := ⟨h, 0, none⟩) HS4.out.sets.lt).trans sh
                      have b15 : w5.cell? ⟨qb, 1, none⟩ = some (.bool true) := (hb5.cell (p := ⟨qb, 1, none⟩) HX4.out.lt).trans b1
                      have b25 : w5.cell? ⟨qb, 2, none⟩ = some (.int .u16 (b : Int)) := (hb5.cell (p := ⟨qb, 2, none⟩) HX4.out.lt).trans b2
                      refine hK.out _ _ ⟨sh5, b15, b25⟩ ?_
                      have ht := Ag.whole_there (o := 0) (n := 8) (HWh4.out.below hb5 HWh4.out.lt) (by unfold Ag.cells2; simp)
                      obtain ⟨w6, hw6⟩ : ∃ W, w5.setCells g 0 (#[.int .u16 0, .int .i64 z.s, .int .u16 (z.th : Int), .int .i64 z.v, .int .i64 z.i, .int .u32 0, .int .u32 0, .slice z.A 0 z.c] : Array Value).toList = W := ⟨_, rfl⟩
                      have HS6 : Hid (Ag.St w g h a b best (2 * i) (.slice (some ⟨q0, 0, none⟩) m cw) w6) := Lib.hid (by rw [← hw6]; exact (HS4.out.later hb5).put0 hz)
                      have HO6 : Hid (w6.ownsRow (h + 1) 48 3 (.slice (some ⟨q0, 0, none⟩) m cw) m (rowsOf fTo L)) := Lib.hid (by rw [← hw6]; exact own2_keep (own2_below HO4.out hb5) (fun k hk _ => Ag.setCells_other g _ _ _ k (by have := HS4.out.gh; omega)))
                      have HX6 : Hid (Whole w6 qb 48 #[.bool false, .bool true, .int .u16 (b : Int)]) := Lib.hid (by rw [← hw6]; exact (Ag.setCells_other g _ _ _ qb (by have := HS4.out.gh; have := HQ.out; omega)).trans (HX4.out.below hb5 HX4.out.lt))
                      have sh6 : w6.cell? ⟨h, 0, none⟩ = some (.int .u16 (a : Int)) := HS6.out.sets.at_ 0
                      have b06 : w6.cell? ⟨qb, 0, none⟩ = some (.bool false) := HX6.out.at_ 0
                      have b16 : w6.cell? ⟨qb, 1, none⟩ = some (.bool true) := HX6.out.at_ 1
                      have b26 : w6.cell? ⟨qb, 2, none⟩ = some (.int .u16 (b : Int)) := HX6.out.at_ 2
                      clear hK K hb5' hb5 kd0 kd1 kd2 kd3 kd4 kd5 kd6 kd7 k0 k1 k2 k3 k4 k5 k6 k7
                      try simp only [Act.put, List.setIfInBounds_toArray, List.set_cons_zero, List.set_cons_succ]
                      iterate 4
                        refine along_take (v := ?_) rfl (by rfl) ?_ ?_
                        rotate_left
                        · intro W hW; obtain ⟨s1, s2, s3⟩ := hW; go_simp; try with_reducible rfl
                        simp only [Act.put, List.setIfInBounds_toArray, List.set_cons_zero, List.set_cons_succ]
                      refine along_step rfl (fun K hK => ?_)
                      refine step_store_mid25 26 _ _ rfl rfl g 0 #[.int .u16 0, .int .i64 z.s, .int .u16 (z.th : Int), .int .i64 z.v, .int .i64 z.i, .int .u32 0, .int .u32 0, .slice z.A 0 z.c] rfl rfl ht (talkI rfl) (by simp [Value.oneCell']) ?_
                      rw [hw6]
                      refine hK.out _ _ ⟨sh6, b16, b26⟩ ?_
                      clear hK K
                      try simp only [Act.put, List.setIfInBounds_toArray, List.set_cons_zero, List.set_cons_succ]
                      refine along_take (v := ?_) rfl (by rfl) ?_ ?_
                      rotate_left
                      · intro W hW; obtain ⟨s1, s2, s3⟩ := hW; go_simp; try with_reducible rfl
                      simp only [Act.put, List.setIfInBounds_toArray, List.set_cons_zero, List.set_cons_succ]
                      refine along_done ?_
                      go_wp2_with fail
                      go_meet
                      exact ⟨_, rfl, ⟨false, rfl, fun h => by cases h⟩, Lib.hid (HS6.out.more (by omega))⟩
                · have HBE : Hid (Vs.best b a = best) := Lib.hid (by rw [Vs.best_comm]; exact hbest.out)
                  cases rx
                  · as_aux_lemma =>
                      obtain rfl : a = tx := by simpa using hmemx.symm
                      clear hmemx
                      obtain ⟨qb, w4, hqb, hal4, hx4, hb4⟩ : ∃ qb W, w3.heap.size = qb ∧ w3.alloc (.cells #[.bool true, .bool false, .int .u16 (a : Int)] 48) = W ∧ Whole W qb 48 #[.bool true, .bool false, .int .u16 (a : Int)] ∧ Below w3.heap.size w3 W := ⟨_, _, rfl, rfl, Whole.made _ _ _, (Below.refl _ _).alloc (Nat.le_refl _) _⟩
                      have HS4 := Lib.hid (HS3.out.later hb4)
                      have HWh4 := Lib.hid (HWh.out.below hb4 HWh.out.lt)
                      have HO4 := Lib.hid (own2_below HO3.out hb4)
                      have HX4 := Lib.hid hx4
                      have HQ : Hid (h + 1 ≤ qb ∧ w3.heap.size = qb ∧ qb < w4.heap.size ∧ q0 < qb) := Lib.hid ⟨by have := HQ0.out; omega, hqb, hx4.lt, by have := HQ0.out; omega⟩
                      have b0 : w4.cell? ⟨qb, 0, none⟩ = some (.bool true) := hx4.at_ 0
                      clear hb4 hx4
                      go_upto_region 24 with fail
                      have sh : w4.cell? ⟨h, 1, none⟩ = some (.int .u16 (b : Int)) := HS4.out.sets.at_ 1
                      have b1 : w4.cell? ⟨qb, 1, none⟩ = some (.bool false) := HX4.out.at_ 1
                      have b2 : w4.cell? ⟨qb, 2, none⟩ = some (.int .u16 (a : Int)) := HX4.out.at_ 2
                      have cs : ∀ k, w4.cell? ⟨g, k, none⟩ = (Ag.cells2 x y)[k]? := fun k => HWh4.out.at_ k
                      have k0 := cs 8
                      have k1 := cs 9
                      have k2 := cs 10
                      have k3 := cs 11
                      have k4 := cs 12
                      have k5 := cs 13
                      have k6 := cs 14
                      have k7 := cs 15
                      unfold Ag.cells2 at k0 k1 k2 k3 k4 k5 k6 k7
                      simp only [List.getElem?_toArray, List.getElem?_cons_zero, List.getElem?_cons_succ] at k0 k1 k2 k3 k4 k5 k6 k7
                      clear cs
                      refine wp_region_plan (S := fun W => W.cell? ⟨h, 1, none⟩ = some (.int .u16 (b : Int)) ∧ W.cell? ⟨qb, 1, none⟩ = some (.bool false) ∧ W.cell? ⟨qb, 2, none⟩ = some (.int .u16 (a : Int))) [(0, true), (1, true), (2, true), (4, true), (5, true), (6, true), (7, true), (8, true), (9, true), (10, true), (3, false), (11, false), (12, true), (13, true), (14, true), (15, true), (16, false), (17, true)] (by kernel_rfl) (by kernel_rfl) rfl (by kernel_rfl) (fun _ _ _ _ _ h => h) ⟨sh, b1, b2⟩ ?_
                      iterate 10
                        refine along_take (v := ?_) rfl (by rfl) ?_ ?_
                        rotate_left
                        · intro W hW; obtain ⟨s1, s2, s3⟩ := hW; go_simp; try with_reducible rfl
                        simp only [Act.put, List.setIfInBounds_toArray, List.set_cons_zero, List.set_cons_succ]
                      have kd0 : w4.drew.cell? ⟨g, 8, none⟩ = _ := k0
                      have kd1 : w4.drew.cell? ⟨g, 9, none⟩ = _ := k1
                      have kd2 : w4.drew.cell? ⟨g, 10, none⟩ = _ := k2
                      have kd3 : w4.drew.cell? ⟨g, 11, none⟩ = _ := k3
                      have kd4 : w4.drew.cell? ⟨g, 12, none⟩ = _ := k4
                      have kd5 : w4.drew.cell? ⟨g, 13, none⟩ = _ := k5
                      have kd6 : w4.drew.cell? ⟨g, 14, none⟩ = _ := k6
                      have kd7 : w4.drew.cell? ⟨g, 15, none⟩ = _ := k7
                      refine along_step rfl (fun K hK => ?_)
                      go_simp
                      refine hK.out _ _ ⟨sh, b1, b2⟩ ?_
                      clear hK K
                      try simp only [Act.put, List.setIfInBounds_toArray, List.set_cons_zero, List.set_cons_succ]
                      refine along_step rfl (fun K hK => ?_)
                      go_simp
                      refine (Ag.hear_post HGy.out hb HTX.out HBE.out false _).mono ?_
                      rintro e w5 ⟨z, rfl, hz, hb5'⟩
                      have hb5 : Below w4.heap.size w4 w5 := (below_n25 _ _ 1).trans hb5'
                      have sh5 : w5.cell? ⟨h, 1, none⟩ = some (.int .u16 (b : Int)) := (hb5.cell (p := ⟨h, 1, none⟩) HS4.out.sets.lt).trans sh
                      have b15 : w5.cell? ⟨qb, 1, none⟩ = some (.bool false) := (hb5.cell (p := ⟨qb, 1, none⟩) HX4.out.lt).trans b1
                      have b25 : w5.cell? ⟨qb, 2, none⟩ = some (.int .u16 (a : Int)) := (hb5.cell (p := ⟨qb, 2, none⟩) HX4.out.lt).trans b2
                      refine hK.out _ _ ⟨sh5, b15, b25⟩ ?_
                      have ht := Ag.whole_there (o := 8) (n := 8) (HWh4.out.below hb5 HWh4.out.lt) (by unfold Ag.cells2; simp)
                      obtain ⟨w6, hw6⟩ : ∃ W, w5.setCells g 8 (#[.int .u16 0, .int .i64 z.s, .int .u16 (z.th : Int), .int .i64 z.v, .int .i64 z.i, .int .u32 0, .int .u32 0, .slice z.A 0 z.c] : Array Value).toList = W := ⟨_, rfl⟩
                      have HS6 : Hid (Ag.St w g h a b best (2 * i) (.slice (some ⟨q0, 0, none⟩) m cw) w6) := Lib.hid (by rw [← hw6]; exact (HS4.out.later hb5).put1 hz)
                      have HO6 : Hid (w6.ownsRow (h + 1) 48 3 (.slice (some ⟨q0, 0, none⟩) m cw) m (rowsOf fTo L)) := Lib.hid (by rw [← hw6]; exact own2_keep (own2_below HO4.out hb5) (fun k hk _ => Ag.setCells_other g _ _ _ k (by have := HS4.out.gh; omega)))
                      have HX6 : Hid (Whole w6 qb 48 #[.bool true, .bool false, .int .u16 (a : Int)]) := Lib.hid (by rw [← hw6]; exact (Ag.setCells_other g _ _ _ qb (by have := HS4.out.gh; have := HQ.out; omega)).trans (HX4.out.below hb5 HX4.out.lt))
                      have sh6 : w6.cell? ⟨h, 1, none⟩ = some (.int .u16 (b : Int)) := HS6.out.sets.at_ 1
                      have b06 : w6.cell? ⟨qb, 0, none⟩ = some (.bool true) := HX6.out.at_ 0
                      have b16 : w6.cell? ⟨qb, 1, none⟩ = some (.bool false) := HX6.out.at_ 1
                      have b26 : w6.cell? ⟨qb, 2, none⟩ = some (.int .u16 (a : Int)) := HX6.out.at_ 2
                      clear hK K hb5' hb5 kd0 kd1 kd2 kd3 kd4 kd5 kd6 kd7 k0 k1 k2 k3 k4 k5 k6 k7
                      try simp only [Act.put, List.setIfInBounds_toArray, List.set_cons_zero, List.set_cons_succ]
                      iterate 4
                        refine along_take (v := ?_) rfl (by rfl) ?_ ?_
                        rotate_left
                        · intro W hW; obtain ⟨s1, s2, s3⟩ := hW; go_simp; try with_reducible rfl
                        simp only [Act.put, List.setIfInBounds_toArray, List.set_cons_zero, List.set_cons_succ]
                      refine along_step rfl (fun K hK => ?_)
                      refine step_store_mid25 26 _ _ rfl rfl g 8 #[.int .u16 0, .int .i64 z.s, .int .u16 (z.th : Int), .int .i64 z.v, .int .i64 z.i, .int .u32 0, .int .u32 0, .slice z.A 0 z.c] rfl rfl ht (talkI rfl) (by simp [Value.oneCell']) ?_
                      rw [hw6]
                      refine hK.out _ _ ⟨sh6, b16, b26⟩ ?_
                      clear hK K
                      try simp only [Act.put, List.setIfInBounds_toArray, List.set_cons_zero, List.set_cons_succ]
                      refine along_take (v := ?_) rfl (by rfl) ?_ ?_
                      rotate_left
                      · intro W hW; obtain ⟨s1, s2, s3⟩ := hW; go_simp; try with_reducible rfl
                      simp only [Act.put, List.setIfInBounds_toArray, List.set_cons_zero, List.set_cons_succ]
                      refine along_done ?_
                      go_upto_region 26 with fail
                      have HSc := Lib.hid (src_cells w6.drew #[.bool false, .bool true, .int .u16 (b : Int)] 48 (0, 0))
                      obtain ⟨w7, hw7⟩ : ∃ W, w6.drew.alloc (.cells #[.bool false, .bool true, .int .u16 (b : Int)] 48) = W := ⟨_, rfl⟩
                      have hb7 : Below w6.heap.size w6 w7 := by rw [← hw7]; exact (Below.refl _ _).drew.alloc (Nat.le_refl _) _
                      rw [hw7] at HSc
                      have HO7 := Lib.hid (own2_below HO6.out hb7)
                      have sh7 : w7.cell? ⟨h, 1, none⟩ = some (.int .u16 (b : Int)) := (hb7.cell (p := ⟨h, 1, none⟩) HS6.out.sets.lt).trans sh6
                      have b07 : w7.cell? ⟨qb, 0, none⟩ = some (.bool true) := (hb7.cell (p := ⟨qb, 0, none⟩) HX6.out.lt).trans b06
                      refine wp_region_plan (S := fun W => W.cell? ⟨h, 1, none⟩ = some (.int .u16 (b : Int)) ∧ W.cell? ⟨qb, 0, none⟩ = some (.bool true)) [(0, true), (1, true), (2, true), (3, true), (4, true), (5, true), (6, true), (7, true), (8, false), (9, false), (10, true)] (by kernel_rfl) (by kernel_rfl) rfl (by kernel_rfl) (fun _ _ _ _ _ h => h) ⟨sh6, b06⟩ ?_
                      iterate 8
                        refine along_take (v := ?_) rfl (by rfl) ?_ ?_
                        rotate_left
                        · intro W hW; obtain ⟨s1, s2⟩ := hW; go_simp; try with_reducible rfl
                        simp only [Act.put, List.setIfInBounds_toArray, List.set_cons_zero, List.set_cons_succ]
                      refine along_step rfl (fun K hK => ?_)
                      go_simp
                      try rw [hw7]
                      refine hK.out _ _ ⟨sh7, b07⟩ ?_
                      clear hK K
                      try simp only [Act.put, List.setIfInBounds_toArray, List.set_cons_zero, List.set_cons_succ]
                      refine along_step rfl (fun K hK => ?_)
                      refine step_append_cells Try.underlying43 toI rfl (by decide) (by decide) _ _ rfl rfl (h + 1) _ m (rowsOf fTo L) rfl HO7.out 1 1 [.bool false, .bool true, .int .u16 (b : Int)] rfl rfl (fun h => by cases h) (Nat.le_refl _) HSc.out (by intro u hu; simp at hu; rcases hu with rfl | rfl | rfl <;> rfl) (by have := HL.out; omega) (by have := HQ.out; have := hb7.size; have := HX6.out.lt; omega) (fun v8 w8 ho8 hg8 _ => ?_)
                      have hb8 : Below (h + 1) w6 w8 := (hb7.mono (by have := HQ.out; have := HX6.out.lt; omega)).grown hg8 (by have := HQ.out; have := hb7.size; have := HX6.out.lt; omega) (fun k hk => (HO7.out.lt k hk).1)
                      have sh8 : w8.cell? ⟨h, 1, none⟩ = some (.int .u16 (b : Int)) := (hb8.cell (p := ⟨h, 1, none⟩) (by show h < h + 1; omega)).trans sh6
                      have b08 : w8.cell? ⟨qb, 0, none⟩ = some (.bool true) := (World.cell?_of_block (a := ⟨qb, 0, none⟩) (hg8.block qb (by have := hb7.size; have := HX6.out.lt; omega) (by have hq9 := HQ.out.2.2.2; intro e; have e' : some qb = some q0 := e; injection e' with e''; omega))).trans b07
                      obtain ⟨A8, c8, rfl⟩ := own_shape ho8
                      refine hK.out _ _ ⟨sh8, b08⟩ ?_
                      have HSt : Hid (Ag.St w g h a b best (2 * i + 1) (.slice A8 (m + 1) c8) w8) := Lib.hid (HS6.out.turn (by have := HG.out; omega) (l' := L ++ [(false, true, b)]) (by rw [List.length_append]; have := HL.out; have := hm.out; simp; omega) (fun x hx => by
                        rcases List.mem_append.1 hx with hx | hx
                        · exact HLx.out x hx
                        · simp at hx; subst hx; simp) (by rw [List.length_append, hm.out, rowsOf_append, rowsOf_one]; exact ho8) hb8)
                      clear hK K ho8 hg8 hb8 hb7
                      try simp only [Act.put, List.setIfInBounds_toArray, List.set_cons_zero, List.set_cons_succ]
                      refine along_take (v := ?_) rfl (by rfl) ?_ ?_
                      rotate_left
                      · intro W hW; obtain ⟨s1, s2⟩ := hW; go_simp; try with_reducible rfl
                      simp only [Act.put, List.setIfInBounds_toArray, List.set_cons_zero, List.set_cons_succ]
                      refine along_done ?_
                      go_wp2_with fail
                      go_meet
                      exact ⟨_, rfl, ⟨false, rfl, fun h => by cases h⟩, HSt⟩
                  · as_aux_lemma =>
                      obtain rfl : a = tx := by simpa using hmemx.symm
                      clear hmemx
                      obtain ⟨qb, w4, hqb, hal4, hx4, hb4⟩ : ∃ qb W, w3.heap.size = qb ∧ w3.alloc (.cells #[.bool true, .bool true, .int .u16 (a : Int)] 48) = W ∧ Whole W qb 48 #[.bool true, .bool true, .int .u16 (a : Int)] ∧ Below w3.heap.size w3 W := ⟨_, _, rfl, rfl, Whole.made _ _ _, (Below.refl _ _).alloc (Nat.le_refl _) _⟩
                      have HS4 := Lib.hid (HS3.out.later hb4)
                      have HWh4 := Lib.hid (HWh.out.below hb4 HWh.out.lt)
                      have HO4 := Lib.hid (own2_below HO3.out hb4)
                      have HX4 := Lib.hid hx4
                      have HQ : Hid (h + 1 ≤ qb ∧ w3.heap.size = qb ∧ qb < w4.heap.size ∧ q0 < qb) := Lib.hid ⟨by have := HQ0.out; omega, hqb, hx4.lt, by have := HQ0.out; omega⟩
                      have b0 : w4.cell? ⟨qb, 0, none⟩ = some (.bool true) := hx4.at_ 0
                      clear hb4 hx4
                      go_upto_region 24 with fail
                      have sh : w4.cell? ⟨h, 1, none⟩ = some (.int .u16 (b : Int)) := HS4.out.sets.at_ 1
                      have b1 : w4.cell? ⟨qb, 1, none⟩ = some (.bool true) := HX4.out.at_ 1
                      have b2 : w4.cell? ⟨qb, 2, none⟩ = some (.int .u16 (a : Int)) := HX4.out.at_ 2
                      have cs : ∀ k, w4.cell? ⟨g, k, none⟩ = (Ag.cells2 x y)[k]? := fun k => HWh4.out.at_ k
                      have k0 := cs 8
                      have k1 := cs 9
                      have k2 := cs 10
                      have k3 := cs 11
                      have k4 := cs 12
                      have k5 := cs 13
                      have k6 := cs 14
                      have k7 := cs 15
                      unfold Ag.cells2 at k0 k1 k2 k3 k4 k5 k6 k7
                      simp only [List.getElem?_toArray, List.getElem?_cons_zero, List.getElem?_cons_succ] at k0 k1 k2 k3 k4 k5 k6 k7
                      clear cs
                      refine wp_region_plan (S := fun W => W.cell? ⟨h, 1, none⟩ = some (.int .u16 (b : Int)) ∧ W.cell? ⟨qb, 1, none⟩ = some (.bool true) ∧ W.cell? ⟨qb, 2, none⟩ = some (.int .u16 (a : Int))) [(0, true), (1, true), (2, true), (4, true), (5, true), (6, true), (7, true), (8, true), (9, true), (10, true), (3, false), (11, false), (12, true), (13, true), (14, true), (15, true), (16, false), (17, true)] (by kernel_rfl) (by kernel_rfl) rfl (by kernel_rfl) (fun _ _ _ _ _ h => h) ⟨sh, b1, b2⟩ ?_
                      iterate 10
                        refine along_take (v := ?_) rfl (by rfl) ?_ ?_
                        rotate_left
                        · intro W hW; obtain ⟨s1, s2, s3⟩ := hW; go_simp; try with_reducible rfl
                        simp only [Act.put, List.setIfInBounds_toArray, List.set_cons_zero, List.set_cons_succ]
                      have kd0 : w4.drew.cell? ⟨g, 8, none⟩ = _ := k0
                      have kd1 : w4.drew.cell? ⟨g, 9, none⟩ = _ := k1
                      have kd2 : w4.drew.cell? ⟨g, 10, none⟩ = _ := k2
                      have kd3 : w4.drew.cell? ⟨g, 11, none⟩ = _ := k3
                      have kd4 : w4.drew.cell? ⟨g, 12, none⟩ = _ := k4
                      have kd5 : w4.drew.cell? ⟨g, 13, none⟩ = _ := k5
                      have kd6 : w4.drew.cell? ⟨g, 14, none⟩ = _ := k6
                      have kd7 : w4.drew.cell? ⟨g, 15, none⟩ = _ := k7
                      refine along_step rfl (fun K hK => ?_)
                      go_simp
                      refine hK.out _ _ ⟨sh, b1, b2⟩ ?_
                      clear hK K
                      try simp only [Act.put, List.setIfInBounds_toArray, List.set_cons_zero, List.set_cons_succ]
                      refine along_step rfl (fun K hK => ?_)
                      go_simp
                      refine (Ag.hear_post HGy.out hb HTX.out HBE.out true _).mono ?_
                      rintro e w5 ⟨z, rfl, hz, hb5'⟩
                      have hb5 : Below w4.heap.size w4 w5 := (below_n25 _ _ 1).trans hb5'
                      have sh5 : w5.cell? ⟨h, 1, none⟩ = some (.int .u16 (b : Int)) := (hb5.cell (p := ⟨h, 1, none⟩) HS4.out.sets.lt).trans sh
                      have b15 : w5.cell? ⟨qb, 1, none⟩ = some (.bool true) := (hb5.cell (p := ⟨qb, 1, none⟩) HX4.out.lt).trans b1
                      have b25 : w5.cell? ⟨qb, 2, none⟩ = some (.int .u16 (a : Int)) := (hb5.cell (p := ⟨qb, 2, none⟩) HX4.out.lt).trans b2
                      refine hK.out _ _ ⟨sh5, b15, b25⟩ ?_
                      have ht := Ag.whole_there (o := 8) (n := 8) (HWh4.out.below hb5 HWh4.out.lt) (by unfold Ag.cells2; simp)
                      obtain ⟨w6, hw6⟩ : ∃ W, w5.setCells g 8 (#[.int .u16 0, .int .i64 z.s, .int .u16 (z.th : Int), .int .i64 z.v, .int .i64 z.i, .int .u32 0, .int .u32 0, .slice z.A 0 z.c] : Array Value).toList = W := ⟨_, rfl⟩
                      have HS6 : Hid (Ag.St w g h a b best (2 * i) (.slice (some ⟨q0, 0, none⟩) m cw) w6) := Lib.hid (by rw [← hw6]; exact (HS4.out.later hb5).put1 hz)
                      have HO6 : Hid (w6.ownsRow (h + 1) 48 3 (.slice (some ⟨q0, 0, none⟩) m cw) m (rowsOf fTo L)) := Lib.hid (by rw [← hw6]; exact own2_keep (own2_below HO4.out hb5) (fun k hk _ => Ag.setCells_other g _ _ _ k (by have := HS4.out.gh; omega)))
                      have HX6 : Hid (Whole w6 qb 48 #[.bool true, .bool true, .int .u16 (a : Int)]) := Lib.hid (by rw [← hw6]; exact (Ag.setCells_other g _ _ _ qb (by have := HS4.out.gh; have := HQ.out; omega)).trans (HX4.out.below hb5 HX4.out.lt))
                      have sh6 : w6.cell? ⟨h, 1, none⟩ = some (.int .u16 (b : Int)) := HS6.out.sets.at_ 1
                      have b06 : w6.cell? ⟨qb, 0, none⟩ = some (.bool true) := HX6.out.at_ 0
                      have b16 : w6.cell? ⟨qb, 1, none⟩ = some (.bool true) := HX6.out.at_ 1
                      have b26 : w6.cell? ⟨qb, 2, none⟩ = some (.int .u16 (a : Int)) := HX6.out.at_ 2
                      clear hK K hb5' hb5 kd0 kd1 kd2 kd3 kd4 kd5 kd6 kd7 k0 k1 k2 k3 k4 k5 k6 k7
                      try simp only [Act.put, List.setIfInBounds_toArray, List.set_cons_zero, List.set_cons_succ]
                      iterate 4
                        refine along_take (v := ?_) rfl (by rfl) ?_ ?_
                        rotate_left
                        · intro W hW; obtain ⟨s1, s2, s3⟩ := hW; go_simp; try with_reducible rfl
                        simp only [Act.put, List.setIfInBounds_toArray, List.set_cons_zero, List.set_cons_succ]
                      refine along_step rfl (fun K hK => ?_)
                      refine step_store_mid25 26 _ _ rfl rfl g 8 #[.int .u16 0, .int .i64 z.s, .int .u16 (z.th : Int), .int .i64 z.v, .int .i64 z.i, .int .u32 0, .int .u32 0, .slice z.A 0 z.c] rfl rfl ht (talkI rfl) (by simp [Value.oneCell']) ?_
                      rw [hw6]
                      refine hK.out _ _ ⟨sh6, b16, b26⟩ ?_
                      clear hK K
                      try simp only [Act.put, List.setIfInBounds_toArray, List.set_cons_zero, List.set_cons_succ]
                      refine along_take (v := ?_) rfl (by rfl) ?_ ?_
                      rotate_left
                      · intro W hW; obtain ⟨s1, s2, s3⟩ := hW; go_simp; try with_reducible rfl
                      simp only [Act.put, List.setIfInBounds_toArray, List.set_cons_zero, List.set_cons_succ]
                      refine along_done ?_
                      go_wp2_with fail
                      go_meet
                      exact ⟨_, rfl, ⟨false, rfl, fun h => by cases h⟩, Lib.hid (HS6.out.more (by omega))⟩
              · as_aux_lemma =>
                  obtain ⟨p, rfl⟩ : ∃ p : Nat, pl = (p : Int) := ⟨pl.toNat, by omega⟩
                  have hpm : p < m := by omega
                  have d1 : decide ((p : Int) < 0) = false := decide_eq_false (by omega)
                  have d2 : decide ((m : Int) ≤ (p : Int)) = false := decide_eq_false (by omega)
                  obtain ⟨q0, eq0, hq1, hq2⟩ : ∃ q0, Aw = some ⟨q0, 0, none⟩ ∧ h + 1 ≤ q0 ∧ q0 < w3.heap.size := by
                    rcases HO3.out.2 with ⟨_, h0⟩ | ⟨q0, cap, cur, hv, hg1, hh1, _⟩
                    · omega
                    · injection hv with e1 _ _
                      exact ⟨q0, e1, hg1, (Array.getElem?_eq_some_iff.1 hh1).1⟩
                  subst eq0
                  have hmc : m ≤ cw := by
                    rcases HO3.out.2 with ⟨_, h0⟩ | ⟨q1, cap, cur, hv, hg1, hh1, hc1, _⟩
                    · omega
                    · injection hv with _ _ e3
                      rw [e3]; exact hc1
                  have hcmx : cw ≤ 9223372036854775807 := by
                    rcases HO3.out.2 with ⟨_, h0⟩ | ⟨q1, cap, cur, hv, hg1, hh1, hc1, hc2, _⟩
                    · omega
                    · injection hv with _ _ e3
                      rw [e3]; unfold maxLen at hc2; omega
                  have HQ0 : Hid (h + 1 ≤ q0 ∧ q0 < w3.heap.size) := Lib.hid ⟨hq1, hq2⟩
                  clear hin hq1 hq2
                  have hp0 : 0 ≤ (p : Int) := by omega
                  have e4 : (kd == 4) = false := by simp; omega
                  have hpL : p < L.length := by rw [hm.out]; exact hpm
                  obtain ⟨p1, hp1'⟩ : ∃ p1, p + 1 = p1 := ⟨_, rfl⟩
                  have hif : ∀ X Y : Option Addr, (if cw = p1 then X else Y) = Ag.pickIf cw p1 X Y := fun _ _ => rfl
                  have HA := Lib.hid (Ag.src_ahead HO3.out (Nat.le_of_lt hpL))
                  have hB := Ag.src_behind HO3.out hpL hm.out hmc
                  have hlB := (show (rowsOf fTo (L.drop (p + 1))).length = (m - (p + 1)) * 3 by rw [rowsOf_length fTo_len, List.length_drop, hm.out])
                  have hw1 : IntKind.i64.wrap ((p : Int) + 1) = (p1 : Int) := by rw [IntKind.wrap_i64]; omega
                  rw [hp1'] at hB hlB
                  have HB := Lib.hid hB
                  have HlB := Lib.hid hlB
                  have HlA := Lib.hid (show (rowsOf fTo (L.take p)).length = p * 3 by rw [rowsOf_length fTo_len, List.length_take, Nat.min_eq_left (Nat.le_of_lt hpL)])
                  have hpc : p ≤ cw := by omega
                  have hp1m : p1 ≤ m := by omega
                  have hp1c : p1 ≤ cw := by omega
                  have hp10 : 0 ≤ (p1 : Int) := by omega
                  have HP1 := Lib.hid hp1'
                  have HPm := Lib.hid hpm
                  clear hB hlB hp1'
                  go_upto_region 12 with fail
                  have Ho0 : Hid ((w3.drew.alloc (.cells #[] 48)).ownsRow w3.heap.size 48 3 (.slice (some ⟨w3.heap.size, 0, none⟩) 0 0) 0 []) := Lib.hid (World.ownsRow_lit w3.drew #[] 0 (Nat.le_refl _) (by decide) rfl)
                  obtain ⟨qn, hqn⟩ : ∃ q, w3.heap.size = q := ⟨_, rfl⟩
                  obtain ⟨w4, hw4⟩ : ∃ W, w3.drew.alloc (.cells #[] 48) = W := ⟨_, rfl⟩
                  have hb4 : Below w3.heap.size w3 w4 := by rw [← hw4]; exact (Below.refl _ _).drew.alloc (Nat.le_refl _) _
                  have hs4 : w4.heap.size = w3.heap.size + 1 := by rw [← hw4]; simp
                  rw [hw4] at Ho0
                  have HA4 := Lib.hid (Src.below HA.out hb4)
                  have HB4 := Lib.hid hb4
                  have HSz4 := Lib.hid hs4
                  have HQn := Lib.hid hqn
                  rw [hqn] at Ho0
                  clear hb4 hs4
                  refine wp_region_plan (S := fun _ => True) [(1, true), (2, true), (3, true), (5, true), (6, true), (7, true), (8, true), (0, false), (4, false), (9, false), (10, true)] (by kernel_rfl) (by kernel_rfl) rfl (by kernel_rfl) (fun _ _ _ _ _ h => h) trivial ?_
                  iterate 7
                    refine along_take (v := ?_) rfl (by rfl) ?_ ?_
                    rotate_left
                    · intro W hW; clear hW; go_simp; try with_reducible rfl
                    simp only [Act.put, List.setIfInBounds_toArray, List.set_cons_zero, List.set_cons_succ]
                  refine along_step rfl (fun K hK => ?_)
                  go_simp
                  try rw [hw4]
                  refine hK.out _ _ trivial ?_
                  clear hK K
                  try simp only [Act.put, List.setIfInBounds_toArray, List.set_cons_zero, List.set_cons_succ]
                  refine along_step rfl (fun K hK => ?_)
                  refine step_append_cells Try.underlying43 toI rfl (by decide) (by decide) _ _ rfl rfl qn _ 0 [] rfl Ho0.out p cw (rowsOf fTo (L.take p)) rfl HlA.out (fun h => by cases h) hpc HA4.out (fTo_one _) (by have := HL.out; omega) (by have := HSz4.out; have := HQn.out; omega) (fun v5 w5 ho5 hg5 _ => ?_)
                  have hb5 : Below qn w4 w5 := (Below.refl _ _).grown hg5 (by have := HSz4.out; have := HQn.out; omega) (fun k hk => (Ho0.out.lt k hk).1)
                  have hb35 : Below w3.heap.size w3 w5 := HB4.out.trans (by rw [HQn.out]; exact hb5)
                  have HB35 := Lib.hid hb35
                  have HB5 := Lib.hid (Src.below HB.out hb35)
                  have hs5 : w4.heap.size ≤ w5.heap.size := hg5.size
                  have HSz5 : Hid (qn ≤ w5.heap.size) := Lib.hid (by have := HSz4.out; have := HQn.out; omega)
                  have HO5 := Lib.hid ho5
                  obtain ⟨A5, c5, rfl⟩ := own_shape ho5
                  refine hK.out _ _ trivial ?_
                  clear hK K ho5 hg5 hb5 hb35 hs5
                  try simp only [Act.put, List.setIfInBounds_toArray, List.set_cons_zero, List.set_cons_succ]
                  refine along_step rfl (fun K hK => ?_)
                  refine step_append_cells Try.underlying43 toI rfl (by decide) (by decide) _ _ rfl rfl qn _ (0 + p) _ rfl HO5.out (m - p1) (cw - p1) (rowsOf fTo (L.drop p1)) rfl HlB.out (fun h => by unfold Ag.pickIf at h; split at h <;> cases h) (by omega) HB5.out (fTo_one _) (by have := HL.out; omega) HSz5.out (fun v6 w6 ho6 hg6 _ => ?_)
                  have hb6 : Below qn w5 w6 := (Below.refl _ _).grown hg6 HSz5.out (fun k hk => (HO5.out.lt k hk).1)
                  have hb36 : Below w3.heap.size w3 w6 := HB35.out.trans (by rw [HQn.out]; exact hb6)
                  have hgh := HS3.out.gh
                  have hq0 := HQ0.out
                  have hlen : (L.take p ++ L.drop p1).length = 0 + p + (m - p1) := by
                    rw [List.length_append, List.length_take, List.length_drop, Nat.min_eq_left (Nat.le_of_lt hpL), hm.out]; omega
                  have HSt : Hid (Ag.St w g h a b best (2 * i + 1) v6 w6) := Lib.hid (HS3.out.turn (by have := HG.out; omega) (l' := L.take p ++ L.drop p1) (by rw [hlen]; have := HL.out; have := HP1.out; have := HPm.out; omega) (fun x hx => by
                    rcases List.mem_append.1 hx with hx | hx
                    · exact HLx.out x (List.mem_of_mem_take hx)
                    · exact HLx.out x (List.mem_of_mem_drop hx)) (by
                    rw [hlen, rowsOf_append]
                    rw [List.nil_append] at ho6
                    exact own2_lower ho6 (by have := HQn.out; omega)) (hb36.mono (by have := HQn.out; omega)))
                  obtain ⟨A6, c6, rfl⟩ := own_shape ho6
                  refine hK.out _ _ trivial ?_
                  clear hK K ho6 hg6 hb6 hb36 hgh hq0 hlen
                  try simp only [Act.put, List.setIfInBounds_toArray, List.set_cons_zero, List.set_cons_succ]
                  refine along_take (v := ?_) rfl (by rfl) ?_ ?_
                  rotate_left
                  · intro W hW; clear hW; go_simp; try with_reducible rfl
                  simp only [Act.put, List.setIfInBounds_toArray, List.set_cons_zero, List.set_cons_succ]
                  refine along_done ?_
                  go_wp2_with fail
                  go_meet
                  exact ⟨_, rfl, ⟨false, rfl, fun h => by cases h⟩, Lib.hid (by have hst := HSt.out; rw [Nat.zero_add] at hst; exact hst)⟩
            · as_aux_lemma =>
                by_cases hneg : pl < 0
                · have d1 : decide (pl < 0) = true := decide_eq_true hneg
                  clear hneg hin
                  go_wp2_with fail
                  go_meet
                  exact ⟨_, rfl, ⟨false, rfl, fun h => by cases h⟩, Lib.hid (HS3.out.more (by omega))⟩
                · have d1 : decide (pl < 0) = false := decide_eq_false hneg
                  have d2 : decide ((m : Int) ≤ pl) = true := decide_eq_true (by omega)
                  clear hneg hin
                  go_wp2_with fail
                  go_meet
                  exact ⟨_, rfl, ⟨false, rfl, fun h => by cases h⟩, Lib.hid (HS3.out.more (by omega))⟩
        case rest =>
          obtain ⟨V1, rfl, ⟨sb, rfl, hsb⟩, HSa⟩ := hcut
          obtain ⟨wk, rfl⟩ : ∃ W, W = wc := ⟨_, rfl⟩
          obtain ⟨L1, hL1, hL1x, hL1o⟩ := HSa.out.way
          obtain ⟨A1, c1, rfl⟩ := own_shape hL1o
          obtain ⟨m1, hm1⟩ : ∃ m, Hid (L1.length = m) := ⟨_, Lib.hid rfl⟩
          rw [hm1.out] at HSa hL1 hL1o ⊢
          have HL1 := Lib.hid hL1
          have HL1x := Lib.hid hL1x
          have HL1o := Lib.hid hL1o
          have HSB := Lib.hid hsb
          clear hL1 hL1x hL1o hsb d0
          go_upto_if 153 with fail
          go_cut [9] from 29 to 194 (fun s9 wx => ∃ V, s9 = V ∧ Hid (Ag.St w g h a b best (2 * i + 2) V wx))
          case first =>
            cases sb
            · go_wp2_with fail
              go_meet
              exact ⟨_, rfl, Lib.hid (HSa.out.more (by omega))⟩
            · have hkv : kv = 0 ∨ kv = 1 := by
                have h1 := HKV.out
                rcases HSB.out rfl with h | h | h | h
                · exact .inl (h1.1 h)
                · exact .inr (h1.2.1 h)
                · exact .inl (h1.2.2.1 h)
                · exact .inr (h1.2.2.2 h)
              rcases hkv with rfl | rfl
              · as_aux_lemma =>
                  have sh : wk.cell? ⟨h, 0, none⟩ = some (.int .u16 (a : Int)) := HSa.out.sets.at_ 0
                  have HSc := Lib.hid (src_cells wk #[.bool true, .bool false, .int .u16 (a : Int)] 48 (0, 0))
                  obtain ⟨w7, hw7⟩ : ∃ W, wk.alloc (.cells #[.bool true, .bool false, .int .u16 (a : Int)] 48) = W := ⟨_, rfl⟩
                  have hb7 : Below wk.heap.size wk w7 := by rw [← hw7]; exact (Below.refl _ _).alloc (Nat.le_refl _) _
                  rw [hw7] at HSc
                  have HO7 := Lib.hid (own2_below HL1o.out hb7)
                  have hhs := HSa.out.sets.lt
                  have HBS : Hid (Below wk.heap.size wk w7 ∧ h < wk.heap.size) := Lib.hid ⟨hb7, hhs⟩
                  clear hb7 hhs
                  go_wp2_with (at_builtin; refine wpList_append_cells Try.underlying43 toI rfl (by decide) (by decide) _ _ rfl rfl (h + 1) _ m1 (rowsOf fTo L1) rfl HO7.out 1 1 [.bool true, .bool false, .int .u16 (a : Int)] rfl rfl (fun h => by cases h) (Nat.le_refl _) HSc.out (by intro u hu; simp at hu; rcases hu with rfl | rfl | rfl <;> rfl) (by have := HL1.out; omega) (by have := HBS.out.1.size; have := HBS.out.2; omega) ?_; intro v8 w8 ho8 hg8 _; obtain ⟨A8, c8, rfl⟩ := own_shape ho8)
                  have hb8 : Below (h + 1) wk w8 := (HBS.out.1.mono (by have := HBS.out.2; omega)).grown hg8 (by have := HBS.out.1.size; have := HBS.out.2; omega) (fun k hk => (HO7.out.lt k hk).1)
                  go_meet
                  exact ⟨_, rfl, Lib.hid (HSa.out.turn (by have := HG.out; omega) (l' := L1 ++ [(true, false, a)]) (by rw [List.length_append]; have := HL1.out; have := hm1.out; simp; omega) (fun x hx => by
                    rcases List.mem_append.1 hx with hx | hx
                    · exact HL1x.out x hx
                    · simp at hx; subst hx; simp) (by rw [List.length_append, hm1.out, rowsOf_append, rowsOf_one]; exact ho8) hb8)⟩
              · as_aux_lemma =>
                  have sh : wk.cell? ⟨h, 1, none⟩ = some (.int .u16 (b : Int)) := HSa.out.sets.at_ 1
                  have HSc := Lib.hid (src_cells wk #[.bool false, .bool false, .int .u16 (b : Int)] 48 (0, 0))
                  obtain ⟨w7, hw7⟩ : ∃ W, wk.alloc (.cells #[.bool false, .bool false, .int .u16 (b : Int)] 48) = W := ⟨_, rfl⟩
                  have hb7 : Below wk.heap.size wk w7 := by rw [← hw7]; exact (Below.refl _ _).alloc (Nat.le_refl _) _
                  rw [hw7] at HSc
                  have HO7 := Lib.hid (own2_below HL1o.out hb7)
                  have hhs := HSa.out.sets.lt
                  have HBS : Hid (Below wk.heap.size wk w7 ∧ h < wk.heap.size) := Lib.hid ⟨hb7, hhs⟩
                  clear hb7 hhs
                  go_wp2_with (at_builtin; refine wpList_append_cells Try.underlying43 toI rfl (by decide) (by decide) _ _ rfl rfl (h + 1) _ m1 (rowsOf fTo L1) rfl HO7.out 1 1 [.bool false, .bool false, .int .u16 (b : Int)] rfl rfl (fun h => by cases h) (Nat.le_refl _) HSc.out (by intro u hu; simp at hu; rcases hu with rfl | rfl | rfl <;> rfl) (by have := HL1.out; omega) (by have := HBS.out.1.size; have := HBS.out.2; omega) ?_; intro v8 w8 ho8 hg8 _; obtain ⟨A8, c8, rfl⟩ := own_shape ho8)
                  have hb8 : Below (h + 1) wk w8 := (HBS.out.1.mono (by have := HBS.out.2; omega)).grown hg8 (by have := HBS.out.1.size; have := HBS.out.2; omega) (fun k hk => (HO7.out.lt k hk).1)
                  go_meet
                  exact ⟨_, rfl, Lib.hid (HSa.out.turn (by have := HG.out; omega) (l' := L1 ++ [(false, false, b)]) (by rw [List.length_append]; have := HL1.out; have := hm1.out; simp; omega) (fun x hx => by
                    rcases List.mem_append.1 hx with hx | hx
                    · exact HL1x.out x hx
                    · simp at hx; subst hx; simp) (by rw [List.length_append, hm1.out, rowsOf_append, rowsOf_one]; exact ho8) hb8)⟩
          case rest =>
            obtain ⟨V2, hV2, HSb⟩ := hcut
            obtain ⟨wj, rfl⟩ : ∃ W, W = wc := ⟨_, rfl⟩
            obtain ⟨x2, y2, hgx2, hgy2, hwh2⟩ := HSb.out.two
            obtain ⟨L9, _, _, ho9⟩ := HSb.out.way
            obtain ⟨A2, c2, rfl⟩ := own_shape ho9
            obtain ⟨n2, hn2⟩ : ∃ n2, L9.length = n2 := ⟨_, rfl⟩
            rw [hn2] at HSb hV2
            subst hV2
            clear ho9 hn2
            have HX2 := Lib.hid hgx2.way
            have HY2 := Lib.hid hgy2.way
            have HW2 := Lib.hid hwh2
            clear hgx2 hgy2 hwh2
            obtain ⟨wo, rfl⟩ : ∃ W, W = wr := ⟨_, rfl⟩
            go_wp2_with fail
            go_loopw [18] (fun z wr => ∃ j : Nat, j ≤ 2 ∧ z = .int .i64 (j : Int) ∧ wr = wj) (fun z _ => 2 - (intOf z).toNat)
            case atStart => exact ⟨0, by omega, rfl, rfl⟩
            case round =>
              obtain ⟨j, hj, rfl, rfl⟩ := hrel
              rcases (by omega : j = 0 ∨ j = 1 ∨ j = 2) with hjj | hjj | hjj
              · subst hjj
                have cs : ∀ k, wr.cell? ⟨g, k, none⟩ = (Ag.cells2 x2 y2)[k]? := fun k => HW2.out.at_ k
                have k1 := cs 1
                have k3 := cs 3
                unfold Ag.cells2 at k1 k3
                simp only [List.getElem?_toArray, List.getElem?_cons_zero, List.getElem?_cons_succ] at k1 k3
                clear cs
                rcases HX2.out with q | q | ⟨q, q2, q3⟩ | ⟨q, q2⟩
                · as_aux_lemma =>
                    have e2 : (x2.s == 2) = false := by rw [q]; rfl
                    have e3 : (x2.s == 3) = false := by rw [q]; rfl
                    clear q
                    go_wp2_with fail
                    go_roundw
                    case rel => exact ⟨1, by omega, rfl, trivial⟩
                    case measure => simp [intOf]
                · as_aux_lemma =>
                    have e2 : (x2.s == 2) = false := by rw [q]; rfl
                    have e3 : (x2.s == 3) = false := by rw [q]; rfl
                    clear q
                    go_wp2_with fail
                    go_roundw
                    case rel => exact ⟨1, by omega, rfl, trivial⟩
                    case measure => simp [intOf]
                · as_aux_lemma =>
                    have e2 : (x2.s == 2) = true := by rw [q]; rfl
                    have e3 : (x2.s == 3) = false := by rw [q]; rfl
                    have bz : ((best : Int) == 0) = false := by simp; omega
                    have bv : (x2.v != (best : Int)) = false := by rw [q2]; simp
                    clear q q2 q3
                    go_wp2_with fail
                    go_roundw
                    case rel => exact ⟨1, by omega, rfl, trivial⟩
                    case measure => simp [intOf]
                · as_aux_lemma =>
                    have e2 : (x2.s == 2) = false := by rw [q]; rfl
                    have e3 : (x2.s == 3) = true := by rw [q]; rfl
                    have bz : ((best : Int) != 0) = false := by rw [q2]; rfl
                    clear q q2
                    go_wp2_with fail
                    go_roundw
                    case rel => exact ⟨1, by omega, rfl, trivial⟩
                    case measure => simp [intOf]
              · subst hjj
                have cs : ∀ k, wr.cell? ⟨g, k, none⟩ = (Ag.cells2 x2 y2)[k]? := fun k => HW2.out.at_ k
                have k1 := cs 9
                have k3 := cs 11
                unfold Ag.cells2 at k1 k3
                simp only [List.getElem?_toArray, List.getElem?_cons_zero, List.getElem?_cons_succ] at k1 k3
                clear cs
                rcases HY2.out with q | q | ⟨q, q2, q3⟩ | ⟨q, q2⟩
                · as_aux_lemma =>
                    have e2 : (y2.s == 2) = false := by rw [q]; rfl
                    have e3 : (y2.s == 3) = false := by rw [q]; rfl
                    clear q
                    go_wp2_with fail
                    go_roundw
                    case rel => exact ⟨2, by omega, rfl, trivial⟩
                    case measure => simp [intOf]
                · as_aux_lemma =>
                    have e2 : (y2.s == 2) = false := by rw [q]; rfl
                    have e3 : (y2.s == 3) = false := by rw [q]; rfl
                    clear q
                    go_wp2_with fail
                    go_roundw
                    case rel => exact ⟨2, by omega, rfl, trivial⟩
                    case measure => simp [intOf]
                · as_aux_lemma =>
                    have e2 : (y2.s == 2) = true := by rw [q]; rfl
                    have e3 : (y2.s == 3) = false := by rw [q]; rfl
                    have bz : ((best : Int) == 0) = false := by simp; omega
                    have bv : (y2.v != (best : Int)) = false := by rw [q2]; simp
                    clear q q2 q3
                    go_wp2_with fail
                    go_roundw
                    case rel => exact ⟨2, by omega, rfl, trivial⟩
                    case measure => simp [intOf]
                · as_aux_lemma =>
                    have e2 : (y2.s == 2) = false := by rw [q]; rfl
                    have e3 : (y2.s == 3) = true := by rw [q]; rfl
                    have bz : ((best : Int) != 0) = false := by rw [q2]; rfl
                    clear q q2
                    go_wp2_with fail
                    go_roundw
                    case rel => exact ⟨2, by omega, rfl, trivial⟩
                    case measure => simp [intOf]
              · subst hjj
                go_wp2_with fail
                go_roundw
                case rel => (first | exact ⟨i + 1, by omega, by go_num, Lib.hid (HSb.out.more (by omega))⟩ | ((repeat apply Exists.intro); exact ⟨⟨i + 1, by omega, by go_num, Lib.hid (HSb.out.more (by omega))⟩, rfl⟩))
                case measure => simp [intOf]; omega
      · obtain rfl : i = n := by omega
        have HBw := Lib.hid HW.out.below
        obtain ⟨L9, _, _, ho9⟩ := HW.out.way
        obtain ⟨A2, c2, rfl⟩ := own_shape ho9
        clear ho9
        go_wp2_with fail
        refine (awake25 _).mono ?_
        rintro e u2 ⟨rfl, hbw⟩
        have H2 := Lib.hid (HBw.out.trans (hbw.mono HBw.out.size))
        clear hbw
        go_wp2_with fail
        go_ret
        exact ⟨rfl, H2.out⟩
end Go.Proofs.Ytjomchehnlnfcaa
