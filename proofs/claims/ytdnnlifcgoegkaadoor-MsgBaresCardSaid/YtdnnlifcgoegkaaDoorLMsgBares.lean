/- The walk of the law MsgBares. -/
import Derived.Test.YtdnnlifcgoegkaaDoorChg8
import Derived.Test.YtdnnlifcgoegkaaDoorRbare8
import Derived.Test.YtdnnlifcgoegkaaDoorAwake8
import Derived.Test.YtdnnlifcgoegkaaDoorSame8
import Derived.Test.YtdnnlifcgoegkaaDoorLarge8
namespace Go.Proofs.YtdnnlifcgoegkaaDoor
open Go.RowKit
set_option linter.unusedVariables false
open Gm

set_option maxRecDepth 100000 in
set_option maxHeartbeats 2000000 in
theorem msgBares_walk (x : Ms) (vx : Value) (y : Ms) (vy : Value) (w : World) (Hx : Mv w w.heap.size x vx) (Hy : Mv w w.heap.size y vy) (T : Tab w) :
    Calls Tryd.prog 4 #[vx, vy] w fun e w' => e = .returned (.bool true) ∧ Below w.heap.size w w' := by
  obtain ⟨b, vp, vq, w0, rfl, hb, hal, hsz, hx, hb0⟩ := boxed Hx
  obtain ⟨b2, wp, wq, w00, rfl, hb2, hal2, hsz2, hy, hb1⟩ := boxed (Hy.kept (by rw [hb]; exact hb0))
  have hbb : Below b w w00 := hb0.trans (hb1.mono (by omega))
  have e2 : b2 = b + 1 := by omega
  subst e2
  have hT0 := T.below hbb (by rw [← hb]; exact T.lt)
  have HX00 := Lib.hid (hx.below hb1 (by omega))
  have HY00 := Lib.hid hy
  have HB0 := Lib.hid hbb
  have HT0 := Lib.hid hT0
  obtain ⟨Ap, cp, rfl, _⟩ := hx.peers.ex
  obtain ⟨Aq, cq, rfl, _⟩ := hx.pairs.ex
  obtain ⟨Bp, dp, rfl, _⟩ := hy.peers.ex
  obtain ⟨Bq, dq, rfl, _⟩ := hy.pairs.ex
  obtain ⟨c0, c1, c2, c3, c4, c5, c6, c7, c8, c9, c10⟩ := HX00.out.cells
  clear hx hy hb0 hb1 hbb Hx Hy T hT0 hb2
  go_enter Tryd.func4, Tryd.ntmps4
  go_wp2_with fail
  refine (large_any HX00.out.mv).mono ?_
  rintro e w1 ⟨rfl, hb1⟩
  have HB1 : Hid (Below b w w1) := Lib.hid (HB0.out.trans (hb1.mono (by omega)))
  have HX1 := Lib.hid (HX00.out.kept hb1)
  have HY1 := Lib.hid (HY00.out.kept hb1)
  have HT1 := Lib.hid (HT0.out.kept hb1)
  clear hb1 c0 c1 c2 c3 c4 c5 c6 c7 c8 c9 c10
  cases hLx : large x
  case true =>
    go_wp2_with fail
    refine (awake8 _ HT1.out).mono ?_
    rintro e w2 ⟨rfl, hb2⟩
    have HB2 := Lib.hid (HB1.out.trans (hb2.mono (by have := HX1.out.lt; omega)))
    clear hb2
    go_wp2_with fail
    go_ret
    exact ⟨rfl, by first | exact HB2.out | (rw [hb]; exact HB2.out)⟩
  obtain ⟨d0, d1, d2, d3, d4, d5, d6, d7, d8, d9, d10⟩ := HY1.out.cells
  go_wp2_with fail
  refine (large_any HY1.out.mv).mono ?_
  rintro e wA ⟨rfl, hb2⟩
  have HBA : Hid (Below b w wA) := Lib.hid (HB1.out.trans (hb2.mono (by have := HX1.out.lt; omega)))
  have HXA := Lib.hid (HX1.out.kept hb2)
  have HYA := Lib.hid (HY1.out.kept hb2)
  have HTA := Lib.hid (HT1.out.kept hb2)
  clear hb2 d0 d1 d2 d3 d4 d5 d6 d7 d8 d9 d10
  cases hLy : large y
  case true =>
    go_wp2_with fail
    refine (awake8 _ HTA.out).mono ?_
    rintro e w2 ⟨rfl, hb2⟩
    have HB2 := Lib.hid (HBA.out.trans (hb2.mono (by have := HXA.out.lt; omega)))
    clear hb2
    go_wp2_with fail
    go_ret
    exact ⟨rfl, by first | exact HB2.out | (rw [hb]; exact HB2.out)⟩
  obtain ⟨_, hvx, hlp, hlq, hpx⟩ := large_off hLx
  have HPX := Lib.hid hpx
  clear hpx
  obtain ⟨c0, c1, c2, c3, c4, c5, c6, c7, c8, c9, c10⟩ := HXA.out.cells
  have HltA := Lib.hid HYA.out.lt
  go_wp2_with fail
  refine (copy2_any HXA.out.mv (by omega) (by omega)).mono ?_
  rintro e wB ⟨vc, rfl, hmo, hbB⟩
  have hmv := hmo.mv
  obtain ⟨⟨up, uq, rfl, ho1, ho2, hap⟩, hokc⟩ := hmo
  obtain ⟨g, up', uq', w1', wC, ev, hg, hal3, hW, hwC, hxC, hbC, hszC, ou, ov⟩ := var_msg hmv
  have eup : up = up' := by injection ev with ev; have := congrArg (fun a => a[9]?) ev; simpa using this
  have euq : uq = uq' := by injection ev with ev; have := congrArg (fun a => a[10]?) ev; simpa using this
  subst eup euq
  have hgA : wA.heap.size ≤ g := by rw [← hg]; exact hbB.size
  have hbAC : Below wA.heap.size wA wC := hbB.trans (hbC.mono hgA)
  have HC : Hid (Cst wA wC wA.heap.size g x up uq x.peers x.pairs) := Lib.hid ⟨hbAC, hxC.bx, own2_below ho1 (by rw [hg]; exact hbC), own2_below ho2 (by rw [hg]; exact hbC), fun k hk => by have := (ho1.lt k hk).2; omega, fun k hk => by have := (ho2.lt k hk).2; omega, hap⟩
  have HW := Lib.hid hW
  have Hok := Lib.hid hokc
  have HgA := Lib.hid hgA
  have HXC := Lib.hid (HXA.out.kept hbAC)
  have HYC := Lib.hid (HYA.out.kept hbAC)
  have HMC := Lib.hid hxC.mv
  obtain ⟨A1, n1, rfl⟩ := own_shape ho1
  obtain ⟨A2, n2, rfl⟩ := own_shape ho2
  obtain ⟨k0, k1, k2, k3, k4, k5, k6, k7, k8, k9, k10⟩ := hxC.cells
  clear hmv ev hW hxC hbC hap ho1 ho2 hbB ou ov hokc hbAC c0 c1 c2 c3 c4 c5 c6 c7 c8 c9 c10
  obtain ⟨c0, c1, c2, c3, c4, c5, c6, c7, c8, c9, c10⟩ := HXC.out.cells
  go_wp2_with (refine wpList_store_whole rfl rfl rfl rfl rfl HW.out (msgI rfl) rfl (by simp [Value.oneCell']) ?_)
  refine (rmsame_any HMC.out HXC.out.mv).mono ?_
  rintro e wD ⟨rfl, hbD⟩
  rw [same_refl]
  have hCD := HC.out.kept (by have := HgA.out; omega) hbD
  have HD := Lib.hid hCD
  clear hbD hCD k0 k1 k2 k3 k4 k5 k6 k7 k8 k9 k10 c0 c1 c2 c3 c4 c5 c6 c7 c8 c9 c10
  obtain ⟨n, hn⟩ : ∃ n, n = x.peers.length := ⟨_, rfl⟩
  obtain ⟨q, hq⟩ : ∃ q, q = x.pairs.length := ⟨_, rfl⟩
  have HN := Lib.hid hn.symm
  have HQ := Lib.hid hq.symm
  have HUL := Lib.hid (fun i => (upd_length inc1 i x.peers).trans hn.symm)
  have HVL := Lib.hid (fun i => (upd_length app1 i x.pairs).trans hq.symm)
  rw [← hn] at HD HC HMC hlp hwC
  rw [← hq] at HD HC HMC hlq hwC
  simp only [← hn, ← hq]
  clear hn hq
  go_wp2_with fail
  go_loopw [7] (fun v wr => ∃ (i : Nat), i ≤ n ∧ v = .int .i64 i ∧ Hid (Cst wA wr wA.heap.size g x (.slice A1 n n1) (.slice A2 q n2) (upd inc1 i x.peers) x.pairs)) (fun v _ => n - (intOf v).toNat)
  case atStart => exact ⟨0, by omega, rfl, HD⟩
  case round =>
    obtain ⟨i, hi, rfl, HR⟩ := hrel
    have k9 : wr.cell? ⟨g, 9, none⟩ = some (.slice A1 n n1) := HR.out.var.at_ 9
    by_cases hlt : i < n
    · have hip : i < (upd inc1 i x.peers).length := by rw [HUL.out]; exact hlt
      obtain ⟨k, c, eup, hlc, hcm, hcell, hfr, hst⟩ := HR.out.peer hip
      injection eup with e1 e2 e3
      subst e1 e3
      have hix : i < x.peers.length := by rw [HN.out]; exact hlt
      have hg1 := upd_get inc1 hix
      rw [hg1] at hcell hst
      have HST := Lib.hid hst
      have HSU := Lib.hid (upd_succ inc1 hix)
      have hokp := Hok.out.peers _ (List.getElem_mem hix)
      obtain ⟨p, hp⟩ : ∃ p : Nat × Nat, Hid (x.peers[i] = p) := ⟨x.peers[i], Lib.hid rfl⟩
      rw [hp.out] at hcell HST HSU hokp
      obtain ⟨p1, p2⟩ := p
      simp only at hcell hokp
      obtain ⟨z, hz⟩ : ∃ z, Hid ((p1 + 1) % 18446744073709551616 = z) := ⟨_, rfl⟩
      have hw : IntKind.u64.wrap ((p1 : Int) + 1) = (z : Int) := by rw [IntKind.wrap_u64]; have := hz.out; omega
      rw [HUL.out] at hlc
      unfold maxLen at hcm
      clear hst hg1 e2
      go_wp2_with fail
      go_roundw
      case rel => exact ⟨i + 1, by omega, by go_num, Lib.hid (by
        have h := HST.out (inc1 (p1, p2)) rfl
        rw [show (inc1 (p1, p2)).1 = z from hz.out] at h
        rw [HSU.out]
        exact h)⟩
      case measure => simp [intOf]; omega
    · have HR2 : Hid (Cst wA wr wA.heap.size g x (.slice A1 n n1) (.slice A2 q n2) (x.peers.map inc1) (upd app1 0 x.pairs)) := Lib.hid (by
        have h := HR.out
        rw [upd_all inc1 (by have := HN.out; omega)] at h
        exact h)
      clear HR
      go_wp2_with fail
      clear k9
      obtain ⟨wo, rfl⟩ : ∃ wo, wo = wr := ⟨_, rfl⟩
      go_loopw [8] (fun v wr => ∃ (i : Nat), i ≤ q ∧ v = .int .i64 i ∧ Hid (Cst wA wr wA.heap.size g x (.slice A1 n n1) (.slice A2 q n2) (x.peers.map inc1) (upd app1 i x.pairs))) (fun v _ => q - (intOf v).toNat)
      case atStart => exact ⟨0, by omega, rfl, HR2⟩
      case round =>
        clear HR2
        obtain ⟨j, hj, rfl, HR⟩ := hrel
        have k10 : wr.cell? ⟨g, 10, none⟩ = some (.slice A2 q n2) := HR.out.var.at_ 10
        by_cases hltj : j < q
        · have hip : j < (upd app1 j x.pairs).length := by rw [HVL.out]; exact hltj
          obtain ⟨k, c, eup, hlc, hcm, hcell, hfr, hst⟩ := HR.out.pair hip
          injection eup with e1 e2 e3
          subst e1 e3
          have hix : j < x.pairs.length := by rw [HQ.out]; exact hltj
          have hg1 := upd_get app1 hix
          rw [hg1] at hcell hst
          have HST := Lib.hid hst
          have HSU := Lib.hid (upd_succ app1 hix)
          have hsz7 := (HPX.out _ (List.getElem_mem hix)).2
          obtain ⟨p, hp⟩ : ∃ p : ByteArray × ByteArray, Hid (x.pairs[j] = p) := ⟨x.pairs[j], Lib.hid rfl⟩
          rw [hp.out] at hcell HST HSU hsz7
          obtain ⟨p1, p2⟩ := p
          simp only at hcell hsz7
          have hcat : ¬ 9223372036854775807 < p2.size + 1 := by omega
          rw [HVL.out] at hlc
          unfold maxLen at hcm
          clear hst hg1 e2
          go_wp2_with fail
          go_region
          go_wp2_with fail
          go_roundw
          case rel => exact ⟨j + 1, by omega, by go_num, Lib.hid (by
            have h := (HST.out (app1 (p1, p2)) rfl).drew
            rw [HSU.out]
            exact h)⟩
          case measure => simp [intOf]; omega
        · have HR3 : Hid (Cst wA wr wA.heap.size g x (.slice A1 n n1) (.slice A2 q n2) (x.peers.map inc1) (x.pairs.map app1)) := Lib.hid (by
            have h := HR.out
            rw [upd_all app1 (by have := HQ.out; omega)] at h
            exact h)
          have hokc : Ok { x with peers := x.peers.map inc1, pairs := x.pairs.map app1 } := by
            have h := Hok.out
            have e7 : maxLen = 9223372036854775807 := rfl
            have a1 : ∀ p ∈ x.peers.map inc1, p.1 < 18446744073709551616 ∧ p.2 < 65536 := fun p hp => by
              obtain ⟨p0, hp0, rfl⟩ := List.mem_map.1 hp
              have := h.peers p0 hp0
              exact ⟨Nat.mod_lt _ (by decide), this.2⟩
            have a2 : ∀ p ∈ x.pairs.map app1, p.1.size ≤ maxLen ∧ p.2.size ≤ maxLen := fun p hp => by
              obtain ⟨p0, hp0, rfl⟩ := List.mem_map.1 hp
              have h0 := HPX.out p0 hp0
              have h1 := h.pairs p0 hp0
              have h2 : (⟨#[120]⟩ : ByteArray).size = 1 := rfl
              refine ⟨h1.1, ?_⟩
              show (p0.2 ++ ⟨#[120]⟩).size ≤ _
              rw [ByteArray.size_append]
              omega
            exact ⟨h.kind, h.rid, h.code, h.id, h.key, h.val, h.pid, h.pad, a1, a2⟩
          have HXw := Lib.hid (HXA.out.below HR3.out.below (by have := HltA.out; omega))
          have HYw := Lib.hid (HYA.out.below HR3.out.below HltA.out)
          have HTw := Lib.hid (HTA.out.below HR3.out.below HTA.out.lt)
          have HBw : Hid (Below b w wr) := Lib.hid (HBA.out.trans (HR3.out.below.mono (by have := HltA.out; omega)))
          have HCk := Lib.hid (fun W (h : Below wr.heap.size wr W) => HR3.out.kept HgA.out h)
          have hltw := HXw.out.lt
          have hlp' := HN.out
          have hlq' := HQ.out
          have C1 := Lib.hid (fun W (h : Below wr.heap.size wr W) => bare_any (HXw.out.kept h).mv (HTw.out.kept h) (by omega) (by omega))
          have C2 := Lib.hid (fun W (h : Below wr.heap.size wr W) => rbare_any (HXw.out.kept h).mv (by omega) (by omega))
          have C4 := Lib.hid (fun W (h : Below wr.heap.size wr W) => msame_any (HXw.out.kept h).mv (HYw.out.kept h).mv)
          have C5 := Lib.hid (fun W (h : Below wr.heap.size wr W) => rmsame_any (HXw.out.kept h).mv (HYw.out.kept h).mv)
          have C6 : Hid (∀ W (h : Below wr.heap.size wr W), Calls Tryd.prog 17 #[_, _] W fun e w' => e = .returned (.bool (same x (chg x))) ∧ Below W.heap.size W w') := Lib.hid (fun W h => by
            obtain ⟨B', _, hmv'⟩ := (HCk.out W h).box hokc
            exact msame_any (HXw.out.kept h).mv hmv')
          have HSC := Lib.hid (same_chg Hok.out)
          rw [HN.out, HQ.out] at HSC
          rw [HSC.out] at C6
          have HBX : Hid (∀ W (h : Below wr.heap.size wr W), Bx W g { x with peers := x.peers.map inc1, pairs := x.pairs.map app1 } (.slice A1 n n1) (.slice A2 q n2)) := Lib.hid (fun W h => ((HCk.out W h).box hokc).choose_spec.1)
          clear HR hlp' hlq' k10
          have k10 : wr.cell? ⟨g, 10, none⟩ = some (.slice A2 q n2) := HR3.out.var.at_ 10
          go_wp2_with fail
          by_cases hn0 : n = 0
          · have z1 : ((x.peers.length : Int) == 0) = true := by rw [HN.out, hn0]; rfl
            by_cases hq0 : q = 0
            · have z2 : ((x.pairs.length : Int) == 0) = true := by rw [HQ.out, hq0]; rfl
              rw [decide_eq_true hn0, decide_eq_true hq0] at C6
              clear hn0 hq0
              clear k10
              have HB11 : Hid (Below wr.heap.size wr wr.drew) := Lib.hid (Below.refl _ _).drew
              refine wp_region_plan (S := fun W => Below wr.heap.size wr W) [(0, true), (1, true), (2, true), (4, true), (3, false), (5, false), (6, false), (7, true), (8, true), (9, true), (10, true), (12, true), (13, true), (11, false), (14, false), (15, true), (16, true), (17, true), (18, true), (19, true), (21, true), (22, true), (23, true), (24, true), (20, false), (25, true), (26, true), (27, true), (28, true), (29, true), (30, true), (31, true), (32, true), (33, true), (34, false), (35, true), (36, true)] (by kernel_rfl) (by kernel_rfl) rfl (by kernel_rfl) (fun _ _ _ _ _ h => h) HB11.out ?_
              iterate 2
                refine along_take (v := ?_) rfl (by rfl) ?_ ?_
                rotate_left
                · intro W hW; clear hW; go_simp; try with_reducible rfl
                simp only [Act.put, List.setIfInBounds_toArray, List.set_cons_zero, List.set_cons_succ]
              iterate 2
                refine along_take (v := ?_) rfl (by rfl) ?_ ?_
                rotate_left
                · intro W hW; have hc := (HXw.out.kept hW).cells; have hd := (HYw.out.kept hW).cells; have hk := (HBX.out W hW).cells; obtain ⟨c0, c1, c2, c3, c4, c5, c6, c7, c8, c9, c10⟩ := hc; obtain ⟨d0, d1, d2, d3, d4, d5, d6, d7, d8, d9, d10⟩ := hd; obtain ⟨k0, k1, k2, k3, k4, k5, k6, k7, k8, k9, k10⟩ := hk; clear hW; go_simp; try with_reducible rfl
                simp only [Act.put, List.setIfInBounds_toArray, List.set_cons_zero, List.set_cons_succ]
              refine along_step rfl (fun K hK => ?_)
              go_simp
              refine (C1.out _ HB11.out).mono ?_
              rintro e w12 ⟨v1, rfl, hm1, hb12⟩
              have HB12 : Hid (Below wr.heap.size wr w12) := Lib.hid (HB11.out.trans (hb12.mono HB11.out.size))
              have HM1 := Lib.hid hm1.mv
              clear hb12 hm1
              refine hK.out _ _ HB12.out ?_
              clear hK K
              try simp only [Act.put, List.setIfInBounds_toArray, List.set_cons_zero, List.set_cons_succ]
              refine along_step rfl (fun K hK => ?_)
              go_simp
              refine (C2.out _ HB12.out).mono ?_
              rintro e w13 ⟨v2, rfl, hm2, hb13⟩
              have HB13 : Hid (Below wr.heap.size wr w13) := Lib.hid (HB12.out.trans (hb13.mono HB12.out.size))
              have HM2 := Lib.hid hm2
              have HM3 := Lib.hid (HM1.out.kept hb13)
              clear hb13 hm2
              refine hK.out _ _ HB13.out ?_
              clear hK K
              try simp only [Act.put, List.setIfInBounds_toArray, List.set_cons_zero, List.set_cons_succ]
              refine along_step rfl (fun K hK => ?_)
              go_simp
              refine (rmsame_any HM3.out HM2.out).mono ?_
              rintro e w14 ⟨rfl, hb14⟩
              rw [same_refl]
              have HB14 : Hid (Below wr.heap.size wr w14) := Lib.hid (HB13.out.trans (hb14.mono HB13.out.size))
              clear hb14
              refine hK.out _ _ HB14.out ?_
              clear hK K
              try simp only [Act.put, List.setIfInBounds_toArray, List.set_cons_zero, List.set_cons_succ]
              iterate 2
                refine along_take (v := ?_) rfl (by rfl) ?_ ?_
                rotate_left
                · intro W hW; clear hW; go_simp; try with_reducible rfl
                simp only [Act.put, List.setIfInBounds_toArray, List.set_cons_zero, List.set_cons_succ]
              iterate 4
                refine along_take (v := ?_) rfl (by rfl) ?_ ?_
                rotate_left
                · intro W hW; have hc := (HXw.out.kept hW).cells; have hd := (HYw.out.kept hW).cells; have hk := (HBX.out W hW).cells; obtain ⟨c0, c1, c2, c3, c4, c5, c6, c7, c8, c9, c10⟩ := hc; obtain ⟨d0, d1, d2, d3, d4, d5, d6, d7, d8, d9, d10⟩ := hd; obtain ⟨k0, k1, k2, k3, k4, k5, k6, k7, k8, k9, k10⟩ := hk; clear hW; go_simp; try with_reducible rfl
                simp only [Act.put, List.setIfInBounds_toArray, List.set_cons_zero, List.set_cons_succ]
              refine along_step rfl (fun K hK => ?_)
              go_simp
              refine (C4.out _ HB14.out).mono ?_
              rintro e w15 ⟨rfl, hb15⟩
              have HB15 : Hid (Below wr.heap.size wr w15) := Lib.hid (HB14.out.trans (hb15.mono HB14.out.size))
              clear hb15
              refine hK.out _ _ HB15.out ?_
              clear hK K
              try simp only [Act.put, List.setIfInBounds_toArray, List.set_cons_zero, List.set_cons_succ]
              refine along_step rfl (fun K hK => ?_)
              go_simp
              refine (C5.out _ HB15.out).mono ?_
              rintro e w16 ⟨rfl, hb16⟩
              have HB16 : Hid (Below wr.heap.size wr w16) := Lib.hid (HB15.out.trans (hb16.mono HB15.out.size))
              clear hb16
              refine hK.out _ _ HB16.out ?_
              clear hK K
              try simp only [Act.put, List.setIfInBounds_toArray, List.set_cons_zero, List.set_cons_succ]
              iterate 3
                refine along_take (v := ?_) rfl (by rfl) ?_ ?_
                rotate_left
                · intro W hW; clear hW; go_simp; try with_reducible rfl
                simp only [Act.put, List.setIfInBounds_toArray, List.set_cons_zero, List.set_cons_succ]
              iterate 4
                refine along_take (v := ?_) rfl (by rfl) ?_ ?_
                rotate_left
                · intro W hW; have hc := (HXw.out.kept hW).cells; have hd := (HYw.out.kept hW).cells; have hk := (HBX.out W hW).cells; obtain ⟨c0, c1, c2, c3, c4, c5, c6, c7, c8, c9, c10⟩ := hc; obtain ⟨d0, d1, d2, d3, d4, d5, d6, d7, d8, d9, d10⟩ := hd; obtain ⟨k0, k1, k2, k3, k4, k5, k6, k7, k8, k9, k10⟩ := hk; clear hW; go_simp; try with_reducible rfl
                simp only [Act.put, List.setIfInBounds_toArray, List.set_cons_zero, List.set_cons_succ]
              iterate 2
                refine along_take (v := ?_) rfl (by rfl) ?_ ?_
                rotate_left
                · intro W hW; clear hW; go_simp; try with_reducible rfl
                simp only [Act.put, List.setIfInBounds_toArray, List.set_cons_zero, List.set_cons_succ]
              refine along_step rfl (fun K hK => ?_)
              go_simp
              refine (C6.out _ HB16.out).mono ?_
              rintro e w17 ⟨rfl, hb17⟩
              have HB17 : Hid (Below wr.heap.size wr w17) := Lib.hid (HB16.out.trans (hb17.mono HB16.out.size))
              clear hb17
              refine hK.out _ _ HB17.out ?_
              clear hK K
              try simp only [Act.put, List.setIfInBounds_toArray, List.set_cons_zero, List.set_cons_succ]
              iterate 1
                refine along_take (v := ?_) rfl (by rfl) ?_ ?_
                rotate_left
                · intro W hW; clear hW; go_simp; try with_reducible rfl
                simp only [Act.put, List.setIfInBounds_toArray, List.set_cons_zero, List.set_cons_succ]
              iterate 2
                refine along_take (v := ?_) rfl (by rfl) ?_ ?_
                rotate_left
                · intro W hW; have hc := (HXw.out.kept hW).cells; have hd := (HYw.out.kept hW).cells; have hk := (HBX.out W hW).cells; obtain ⟨c0, c1, c2, c3, c4, c5, c6, c7, c8, c9, c10⟩ := hc; obtain ⟨d0, d1, d2, d3, d4, d5, d6, d7, d8, d9, d10⟩ := hd; obtain ⟨k0, k1, k2, k3, k4, k5, k6, k7, k8, k9, k10⟩ := hk; clear hW; go_simp; try with_reducible rfl
                simp only [Act.put, List.setIfInBounds_toArray, List.set_cons_zero, List.set_cons_succ]
              iterate 2
                refine along_take (v := ?_) rfl (by rfl) ?_ ?_
                rotate_left
                · intro W hW; clear hW; go_simp; try with_reducible rfl
                simp only [Act.put, List.setIfInBounds_toArray, List.set_cons_zero, List.set_cons_succ]
              iterate 4
                refine along_take (v := ?_) rfl (by rfl) ?_ ?_
                rotate_left
                · intro W hW; clear hW; go_simp; try with_reducible rfl
                simp only [Act.put, List.setIfInBounds_toArray, List.set_cons_zero, List.set_cons_succ]
              refine along_step rfl (fun K hK => ?_)
              go_simp
              refine (awake8 _ (HTw.out.kept HB17.out)).mono ?_
              rintro e w18 ⟨rfl, hb18⟩
              have HB18 : Hid (Below wr.heap.size wr w18) := Lib.hid (HB17.out.trans (hb18.mono HB17.out.size))
              clear hb18
              refine hK.out _ _ HB18.out ?_
              clear hK K
              try simp only [Act.put, List.setIfInBounds_toArray, List.set_cons_zero, List.set_cons_succ]
              iterate 2
                refine along_take (v := ?_) rfl (by rfl) ?_ ?_
                rotate_left
                · intro W hW; clear hW; go_simp; try with_reducible rfl
                simp only [Act.put, List.setIfInBounds_toArray, List.set_cons_zero, List.set_cons_succ]
              refine along_done ?_
              have HF : Hid (Below b w w18) := Lib.hid (HBw.out.trans (HB18.out.mono (by omega)))
              go_wp2_with fail
              go_ret
              exact ⟨rfl, by first | exact HF.out | (rw [hb]; exact HF.out)⟩
            · have z2 : ((x.pairs.length : Int) == 0) = false := by rw [beq_eq_false_iff_ne, HQ.out]; omega
              rw [decide_eq_true hn0, decide_eq_false hq0] at C6
              clear hn0 hq0
              clear k10
              have HB11 : Hid (Below wr.heap.size wr wr.drew) := Lib.hid (Below.refl _ _).drew
              refine wp_region_plan (S := fun W => Below wr.heap.size wr W) [(0, true), (1, true), (2, true), (4, true), (3, false), (5, false), (6, false), (7, true), (8, true), (9, true), (10, true), (12, true), (13, true), (11, false), (14, false), (15, true), (16, true), (17, true), (18, true), (19, true), (21, true), (22, true), (23, true), (24, true), (20, false), (25, true), (26, true), (27, true), (28, true), (29, true), (30, true), (31, true), (32, true), (33, true), (34, false), (35, true), (36, true)] (by kernel_rfl) (by kernel_rfl) rfl (by kernel_rfl) (fun _ _ _ _ _ h => h) HB11.out ?_
              iterate 2
                refine along_take (v := ?_) rfl (by rfl) ?_ ?_
                rotate_left
                · intro W hW; clear hW; go_simp; try with_reducible rfl
                simp only [Act.put, List.setIfInBounds_toArray, List.set_cons_zero, List.set_cons_succ]
              iterate 2
                refine along_take (v := ?_) rfl (by rfl) ?_ ?_
                rotate_left
                · intro W hW; have hc := (HXw.out.kept hW).cells; have hd := (HYw.out.kept hW).cells; have hk := (HBX.out W hW).cells; obtain ⟨c0, c1, c2, c3, c4, c5, c6, c7, c8, c9, c10⟩ := hc; obtain ⟨d0, d1, d2, d3, d4, d5, d6, d7, d8, d9, d10⟩ := hd; obtain ⟨k0, k1, k2, k3, k4, k5, k6, k7, k8, k9, k10⟩ := hk; clear hW; go_simp; try with_reducible rfl
                simp only [Act.put, List.setIfInBounds_toArray, List.set_cons_zero, List.set_cons_succ]
              refine along_step rfl (fun K hK => ?_)
              go_simp
              refine (C1.out _ HB11.out).mono ?_
              rintro e w12 ⟨v1, rfl, hm1, hb12⟩
              have HB12 : Hid (Below wr.heap.size wr w12) := Lib.hid (HB11.out.trans (hb12.mono HB11.out.size))
              have HM1 := Lib.hid hm1.mv
              clear hb12 hm1
              refine hK.out _ _ HB12.out ?_
              clear hK K
              try simp only [Act.put, List.setIfInBounds_toArray, List.set_cons_zero, List.set_cons_succ]
              refine along_step rfl (fun K hK => ?_)
              go_simp
              refine (C2.out _ HB12.out).mono ?_
              rintro e w13 ⟨v2, rfl, hm2, hb13⟩
              have HB13 : Hid (Below wr.heap.size wr w13) := Lib.hid (HB12.out.trans (hb13.mono HB12.out.size))
              have HM2 := Lib.hid hm2
              have HM3 := Lib.hid (HM1.out.kept hb13)
              clear hb13 hm2
              refine hK.out _ _ HB13.out ?_
              clear hK K
              try simp only [Act.put, List.setIfInBounds_toArray, List.set_cons_zero, List.set_cons_succ]
              refine along_step rfl (fun K hK => ?_)
              go_simp
              refine (rmsame_any HM3.out HM2.out).mono ?_
              rintro e w14 ⟨rfl, hb14⟩
              rw [same_refl]
              have HB14 : Hid (Below wr.heap.size wr w14) := Lib.hid (HB13.out.trans (hb14.mono HB13.out.size))
              clear hb14
              refine hK.out _ _ HB14.out ?_
              clear hK K
              try simp only [Act.put, List.setIfInBounds_toArray, List.set_cons_zero, List.set_cons_succ]
              iterate 2
                refine along_take (v := ?_) rfl (by rfl) ?_ ?_
                rotate_left
                · intro W hW; clear hW; go_simp; try with_reducible rfl
                simp only [Act.put, List.setIfInBounds_toArray, List.set_cons_zero, List.set_cons_succ]
              iterate 4
                refine along_take (v := ?_) rfl (by rfl) ?_ ?_
                rotate_left
                · intro W hW; have hc := (HXw.out.kept hW).cells; have hd := (HYw.out.kept hW).cells; have hk := (HBX.out W hW).cells; obtain ⟨c0, c1, c2, c3, c4, c5, c6, c7, c8, c9, c10⟩ := hc; obtain ⟨d0, d1, d2, d3, d4, d5, d6, d7, d8, d9, d10⟩ := hd; obtain ⟨k0, k1, k2, k3, k4, k5, k6, k7, k8, k9, k10⟩ := hk; clear hW; go_simp; try with_reducible rfl
                simp only [Act.put, List.setIfInBounds_toArray, List.set_cons_zero, List.set_cons_succ]
              refine along_step rfl (fun K hK => ?_)
              go_simp
              refine (C4.out _ HB14.out).mono ?_
              rintro e w15 ⟨rfl, hb15⟩
              have HB15 : Hid (Below wr.heap.size wr w15) := Lib.hid (HB14.out.trans (hb15.mono HB14.out.size))
              clear hb15
              refine hK.out _ _ HB15.out ?_
              clear hK K
              try simp only [Act.put, List.setIfInBounds_toArray, List.set_cons_zero, List.set_cons_succ]
              refine along_step rfl (fun K hK => ?_)
              go_simp
              refine (C5.out _ HB15.out).mono ?_
              rintro e w16 ⟨rfl, hb16⟩
              have HB16 : Hid (Below wr.heap.size wr w16) := Lib.hid (HB15.out.trans (hb16.mono HB15.out.size))
              clear hb16
              refine hK.out _ _ HB16.out ?_
              clear hK K
              try simp only [Act.put, List.setIfInBounds_toArray, List.set_cons_zero, List.set_cons_succ]
              iterate 3
                refine along_take (v := ?_) rfl (by rfl) ?_ ?_
                rotate_left
                · intro W hW; clear hW; go_simp; try with_reducible rfl
                simp only [Act.put, List.setIfInBounds_toArray, List.set_cons_zero, List.set_cons_succ]
              iterate 4
                refine along_take (v := ?_) rfl (by rfl) ?_ ?_
                rotate_left
                · intro W hW; have hc := (HXw.out.kept hW).cells; have hd := (HYw.out.kept hW).cells; have hk := (HBX.out W hW).cells; obtain ⟨c0, c1, c2, c3, c4, c5, c6, c7, c8, c9, c10⟩ := hc; obtain ⟨d0, d1, d2, d3, d4, d5, d6, d7, d8, d9, d10⟩ := hd; obtain ⟨k0, k1, k2, k3, k4, k5, k6, k7, k8, k9, k10⟩ := hk; clear hW; go_simp; try with_reducible rfl
                simp only [Act.put, List.setIfInBounds_toArray, List.set_cons_zero, List.set_cons_succ]
              iterate 2
                refine along_take (v := ?_) rfl (by rfl) ?_ ?_
                rotate_left
                · intro W hW; clear hW; go_simp; try with_reducible rfl
                simp only [Act.put, List.setIfInBounds_toArray, List.set_cons_zero, List.set_cons_succ]
              refine along_step rfl (fun K hK => ?_)
              go_simp
              refine (C6.out _ HB16.out).mono ?_
              rintro e w17 ⟨rfl, hb17⟩
              have HB17 : Hid (Below wr.heap.size wr w17) := Lib.hid (HB16.out.trans (hb17.mono HB16.out.size))
              clear hb17
              refine hK.out _ _ HB17.out ?_
              clear hK K
              try simp only [Act.put, List.setIfInBounds_toArray, List.set_cons_zero, List.set_cons_succ]
              iterate 1
                refine along_take (v := ?_) rfl (by rfl) ?_ ?_
                rotate_left
                · intro W hW; clear hW; go_simp; try with_reducible rfl
                simp only [Act.put, List.setIfInBounds_toArray, List.set_cons_zero, List.set_cons_succ]
              iterate 2
                refine along_take (v := ?_) rfl (by rfl) ?_ ?_
                rotate_left
                · intro W hW; have hc := (HXw.out.kept hW).cells; have hd := (HYw.out.kept hW).cells; have hk := (HBX.out W hW).cells; obtain ⟨c0, c1, c2, c3, c4, c5, c6, c7, c8, c9, c10⟩ := hc; obtain ⟨d0, d1, d2, d3, d4, d5, d6, d7, d8, d9, d10⟩ := hd; obtain ⟨k0, k1, k2, k3, k4, k5, k6, k7, k8, k9, k10⟩ := hk; clear hW; go_simp; try with_reducible rfl
                simp only [Act.put, List.setIfInBounds_toArray, List.set_cons_zero, List.set_cons_succ]
              iterate 2
                refine along_take (v := ?_) rfl (by rfl) ?_ ?_
                rotate_left
                · intro W hW; clear hW; go_simp; try with_reducible rfl
                simp only [Act.put, List.setIfInBounds_toArray, List.set_cons_zero, List.set_cons_succ]
              iterate 4
                refine along_take (v := ?_) rfl (by rfl) ?_ ?_
                rotate_left
                · intro W hW; clear hW; go_simp; try with_reducible rfl
                simp only [Act.put, List.setIfInBounds_toArray, List.set_cons_zero, List.set_cons_succ]
              refine along_step rfl (fun K hK => ?_)
              go_simp
              refine (awake8 _ (HTw.out.kept HB17.out)).mono ?_
              rintro e w18 ⟨rfl, hb18⟩
              have HB18 : Hid (Below wr.heap.size wr w18) := Lib.hid (HB17.out.trans (hb18.mono HB17.out.size))
              clear hb18
              refine hK.out _ _ HB18.out ?_
              clear hK K
              try simp only [Act.put, List.setIfInBounds_toArray, List.set_cons_zero, List.set_cons_succ]
              iterate 2
                refine along_take (v := ?_) rfl (by rfl) ?_ ?_
                rotate_left
                · intro W hW; clear hW; go_simp; try with_reducible rfl
                simp only [Act.put, List.setIfInBounds_toArray, List.set_cons_zero, List.set_cons_succ]
              refine along_done ?_
              have HF : Hid (Below b w w18) := Lib.hid (HBw.out.trans (HB18.out.mono (by omega)))
              go_wp2_with fail
              go_ret
              exact ⟨rfl, by first | exact HF.out | (rw [hb]; exact HF.out)⟩
          · have z1 : ((x.peers.length : Int) == 0) = false := by rw [beq_eq_false_iff_ne, HN.out]; omega
            rw [decide_eq_false hn0] at C6
            clear hn0
            clear k10
            have HB11 : Hid (Below wr.heap.size wr wr.drew) := Lib.hid (Below.refl _ _).drew
            refine wp_region_plan (S := fun W => Below wr.heap.size wr W) [(0, true), (1, true), (2, true), (4, true), (3, false), (5, false), (6, false), (7, true), (8, true), (9, true), (10, true), (12, true), (13, true), (11, false), (14, false), (15, true), (16, true), (17, true), (18, true), (19, true), (21, true), (22, true), (23, true), (24, true), (20, false), (25, true), (26, true), (27, true), (28, true), (29, true), (30, true), (31, true), (32, true), (33, true), (34, false), (35, true), (36, true)] (by kernel_rfl) (by kernel_rfl) rfl (by kernel_rfl) (fun _ _ _ _ _ h => h) HB11.out ?_
            iterate 2
              refine along_take (v := ?_) rfl (by rfl) ?_ ?_
              rotate_left
              · intro W hW; clear hW; go_simp; try with_reducible rfl
              simp only [Act.put, List.setIfInBounds_toArray, List.set_cons_zero, List.set_cons_succ]
            iterate 2
              refine along_take (v := ?_) rfl (by rfl) ?_ ?_
              rotate_left
              · intro W hW; have hc := (HXw.out.kept hW).cells; have hd := (HYw.out.kept hW).cells; have hk := (HBX.out W hW).cells; obtain ⟨c0, c1, c2, c3, c4, c5, c6, c7, c8, c9, c10⟩ := hc; obtain ⟨d0, d1, d2, d3, d4, d5, d6, d7, d8, d9, d10⟩ := hd; obtain ⟨k0, k1, k2, k3, k4, k5, k6, k7, k8, k9, k10⟩ := hk; clear hW; go_simp; try with_reducible rfl
              simp only [Act.put, List.setIfInBounds_toArray, List.set_cons_zero, List.set_cons_succ]
            refine along_step rfl (fun K hK => ?_)
            go_simp
            refine (C1.out _ HB11.out).mono ?_
            rintro e w12 ⟨v1, rfl, hm1, hb12⟩
            have HB12 : Hid (Below wr.heap.size wr w12) := Lib.hid (HB11.out.trans (hb12.mono HB11.out.size))
            have HM1 := Lib.hid hm1.mv
            clear hb12 hm1
            refine hK.out _ _ HB12.out ?_
            clear hK K
            try simp only [Act.put, List.setIfInBounds_toArray, List.set_cons_zero, List.set_cons_succ]
            refine along_step rfl (fun K hK => ?_)
            go_simp
            refine (C2.out _ HB12.out).mono ?_
            rintro e w13 ⟨v2, rfl, hm2, hb13⟩
            have HB13 : Hid (Below wr.heap.size wr w13) := Lib.hid (HB12.out.trans (hb13.mono HB12.out.size))
            have HM2 := Lib.hid hm2
            have HM3 := Lib.hid (HM1.out.kept hb13)
            clear hb13 hm2
            refine hK.out _ _ HB13.out ?_
            clear hK K
            try simp only [Act.put, List.setIfInBounds_toArray, List.set_cons_zero, List.set_cons_succ]
            refine along_step rfl (fun K hK => ?_)
            go_simp
            refine (rmsame_any HM3.out HM2.out).mono ?_
            rintro e w14 ⟨rfl, hb14⟩
            rw [same_refl]
            have HB14 : Hid (Below wr.heap.size wr w14) := Lib.hid (HB13.out.trans (hb14.mono HB13.out.size))
            clear hb14
            refine hK.out _ _ HB14.out ?_
            clear hK K
            try simp only [Act.put, List.setIfInBounds_toArray, List.set_cons_zero, List.set_cons_succ]
            iterate 2
              refine along_take (v := ?_) rfl (by rfl) ?_ ?_
              rotate_left
              · intro W hW; clear hW; go_simp; try with_reducible rfl
              simp only [Act.put, List.setIfInBounds_toArray, List.set_cons_zero, List.set_cons_succ]
            iterate 4
              refine along_take (v := ?_) rfl (by rfl) ?_ ?_
              rotate_left
              · intro W hW; have hc := (HXw.out.kept hW).cells; have hd := (HYw.out.kept hW).cells; have hk := (HBX.out W hW).cells; obtain ⟨c0, c1, c2, c3, c4, c5, c6, c7, c8, c9, c10⟩ := hc; obtain ⟨d0, d1, d2, d3, d4, d5, d6, d7, d8, d9, d10⟩ := hd; obtain ⟨k0, k1, k2, k3, k4, k5, k6, k7, k8, k9, k10⟩ := hk; clear hW; go_simp; try with_reducible rfl
              simp only [Act.put, List.setIfInBounds_toArray, List.set_cons_zero, List.set_cons_succ]
            refine along_step rfl (fun K hK => ?_)
            go_simp
            refine (C4.out _ HB14.out).mono ?_
            rintro e w15 ⟨rfl, hb15⟩
            have HB15 : Hid (Below wr.heap.size wr w15) := Lib.hid (HB14.out.trans (hb15.mono HB14.out.size))
            clear hb15
            refine hK.out _ _ HB15.out ?_
            clear hK K
            try simp only [Act.put, List.setIfInBounds_toArray, List.set_cons_zero, List.set_cons_succ]
            refine along_step rfl (fun K hK => ?_)
            go_simp
            refine (C5.out _ HB15.out).mono ?_
            rintro e w16 ⟨rfl, hb16⟩
            have HB16 : Hid (Below wr.heap.size wr w16) := Lib.hid (HB15.out.trans (hb16.mono HB15.out.size))
            clear hb16
            refine hK.out _ _ HB16.out ?_
            clear hK K
            try simp only [Act.put, List.setIfInBounds_toArray, List.set_cons_zero, List.set_cons_succ]
            iterate 3
              refine along_take (v := ?_) rfl (by rfl) ?_ ?_
              rotate_left
              · intro W hW; clear hW; go_simp; try with_reducible rfl
              simp only [Act.put, List.setIfInBounds_toArray, List.set_cons_zero, List.set_cons_succ]
            iterate 4
              refine along_take (v := ?_) rfl (by rfl) ?_ ?_
              rotate_left
              · intro W hW; have hc := (HXw.out.kept hW).cells; have hd := (HYw.out.kept hW).cells; have hk := (HBX.out W hW).cells; obtain ⟨c0, c1, c2, c3, c4, c5, c6, c7, c8, c9, c10⟩ := hc; obtain ⟨d0, d1, d2, d3, d4, d5, d6, d7, d8, d9, d10⟩ := hd; obtain ⟨k0, k1, k2, k3, k4, k5, k6, k7, k8, k9, k10⟩ := hk; clear hW; go_simp; try with_reducible rfl
              simp only [Act.put, List.setIfInBounds_toArray, List.set_cons_zero, List.set_cons_succ]
            iterate 2
              refine along_take (v := ?_) rfl (by rfl) ?_ ?_
              rotate_left
              · intro W hW; clear hW; go_simp; try with_reducible rfl
              simp only [Act.put, List.setIfInBounds_toArray, List.set_cons_zero, List.set_cons_succ]
            refine along_step rfl (fun K hK => ?_)
            go_simp
            refine (C6.out _ HB16.out).mono ?_
            rintro e w17 ⟨rfl, hb17⟩
            have HB17 : Hid (Below wr.heap.size wr w17) := Lib.hid (HB16.out.trans (hb17.mono HB16.out.size))
            clear hb17
            refine hK.out _ _ HB17.out ?_
            clear hK K
            try simp only [Act.put, List.setIfInBounds_toArray, List.set_cons_zero, List.set_cons_succ]
            iterate 1
              refine along_take (v := ?_) rfl (by rfl) ?_ ?_
              rotate_left
              · intro W hW; clear hW; go_simp; try with_reducible rfl
              simp only [Act.put, List.setIfInBounds_toArray, List.set_cons_zero, List.set_cons_succ]
            iterate 4
              refine along_skip rfl (by rfl) ?_
              simp only [Act.put, List.setIfInBounds_toArray, List.set_cons_zero, List.set_cons_succ]
            iterate 4
              refine along_take (v := ?_) rfl (by rfl) ?_ ?_
              rotate_left
              · intro W hW; clear hW; go_simp; try with_reducible rfl
              simp only [Act.put, List.setIfInBounds_toArray, List.set_cons_zero, List.set_cons_succ]
            refine along_step rfl (fun K hK => ?_)
            go_simp
            refine (awake8 _ (HTw.out.kept HB17.out)).mono ?_
            rintro e w18 ⟨rfl, hb18⟩
            have HB18 : Hid (Below wr.heap.size wr w18) := Lib.hid (HB17.out.trans (hb18.mono HB17.out.size))
            clear hb18
            refine hK.out _ _ HB18.out ?_
            clear hK K
            try simp only [Act.put, List.setIfInBounds_toArray, List.set_cons_zero, List.set_cons_succ]
            iterate 2
              refine along_take (v := ?_) rfl (by rfl) ?_ ?_
              rotate_left
              · intro W hW; clear hW; go_simp; try with_reducible rfl
              simp only [Act.put, List.setIfInBounds_toArray, List.set_cons_zero, List.set_cons_succ]
            refine along_done ?_
            have HF : Hid (Below b w w18) := Lib.hid (HBw.out.trans (HB18.out.mono (by omega)))
            go_wp2_with fail
            go_ret
            exact ⟨rfl, by first | exact HF.out | (rw [hb]; exact HF.out)⟩

end Go.Proofs.YtdnnlifcgoegkaaDoor
