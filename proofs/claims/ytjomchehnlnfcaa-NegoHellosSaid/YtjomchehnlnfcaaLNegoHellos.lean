/- The walk of the law NegoHellos. -/
import Derived.Test.YtjomchehnlnfcaaAwake25
namespace Go.Proofs.Ytjomchehnlnfcaa
open Go.RowKit
open Gm
set_option linter.unusedVariables false
set_option maxRecDepth 100000
set_option linter.unusedSimpArgs false

set_option maxHeartbeats 4000000 in
theorem negoHellos_walk (a0 : Int) (rp : Bool) (a : Option Addr) (len cap : Nat) (l : List Nat) (w : World) (w0 : (Lit.int .u16 a0).wf = true) (R : Row .u8 w a len cap l) :
    Calls Try.prog 4 #[.int .u16 a0, .bool rp, .slice a len cap] w fun e w' => e = .returned (.bool true) ∧ Below w.heap.size w w' := by
  obtain ⟨p1, q1⟩ := bounds_u16 w0
  obtain ⟨s, rfl⟩ := Int.eq_ofNat_of_zero_le p1
  have hs : s < 65536 := by omega
  obtain ⟨hP, hlen, hby⟩ := row_piece R
  have hle := R.le
  have hmx := R.max
  unfold maxLen at hmx
  clear R w0 p1 q1
  by_cases hbig : 300 < len
  · have hb2 : 300 < (len : Int) := by omega
    clear hP hlen
    go_enter Try.func4, Try.ntmps4
    go_wp2_with fail
    refine (awake25 _).mono ?_
    rintro e w6 ⟨rfl, hb⟩
    have H6 := Lib.hid hb
    clear hb
    go_wp2_with fail
    go_ret
    exact ⟨rfl, H6.out⟩
  · have hb2 : ¬ 300 < (len : Int) := by omega
    have CR := Lib.hid (fun W (h : Below w.heap.size w W) => cnread25_any (hP.below h) h.size hby (by omega))
    have RR := Lib.hid (fun W (h : Below w.heap.size w W) => rnread25_any (hP.below h) hby)
    have CH := Lib.hid (fun W => chello25_any (w := W) hs rp)
    have RH := Lib.hid (fun W => rhello25_any (w := W) hs rp)
    unfold Made at CH RH
    have hself : ((strOf (Ng.hello s rp)).toList == (strOf (Ng.hello s rp)).toList) = true := by simp
    obtain ⟨R, hR⟩ : ∃ R, Hid (Ng.read l = R) := ⟨_, Lib.hid rfl⟩
    rw [hR.out] at CR RR
    obtain ⟨x, pb, er⟩ := R
    simp only at CR RR
    obtain ⟨sx, hsx⟩ : ∃ sx, Hid (strOf (Ng.hello s rp) = sx) := ⟨_, Lib.hid rfl⟩
    have hln : Hid ((Ng.hello s rp).length = 3) := Lib.hid rfl
    rw [hsx.out] at hself
    have e1 : ((x : Int) == (x : Int)) = true := by simp
    have e2 : (pb == pb) = true := by cases pb <;> rfl
    have e3 : ((er : Int) == (er : Int)) = true := by simp
    clear hP hlen hby hbig
    go_enter Try.func4, Try.ntmps4
    go_wp2_with fail
    refine (CR.out w (Below.refl _ _)).mono ?_
    rintro e u1 ⟨rfl, hb⟩
    have H1 := Lib.hid hb
    clear hb
    go_wp2_with fail
    refine (RR.out u1 H1.out).mono ?_
    rintro e u2 ⟨rfl, hb⟩
    have H2 := Lib.hid (H1.out.trans (hb.mono H1.out.size))
    clear hb
    go_wp2_with fail
    refine wp_region_plans (fun W => Below u2.heap.size u2 W) [(0, true), (1, true), (4, true), (5, true), (2, false), (3, true), (6, false), (7, true), (8, true), (9, true), (10, true), (11, true), (12, true), (13, true), (14, true), (15, true), (16, true), (17, true), (18, true), (19, true), (20, true), (21, true), (22, true), (23, true), (24, true), (25, false), (26, true), (27, true)] (by kernel_rfl) (by kernel_rfl) rfl (by kernel_rfl) (fun _ _ _ _ _ h => h) (Below.refl _ _).drew ?_
    have h0 : Hid (Below u2.heap.size u2 u2.drew) := Lib.hid (Below.refl _ _).drew
    iterate 4
      refine alongs_take (v := ?_) rfl (by rfl) ?_ ?_
      rotate_left
      · intro W hW; clear hW; go_simp; try with_reducible rfl
      simp only [Act.put, List.setIfInBounds_toArray, List.set_cons_zero, List.set_cons_succ]
    refine alongs_step rfl (fun K hK => ?_)
    go_simp
    refine (CH.out _).mono ?_
    rintro e1 y1 ⟨v1, rfl, ho, hb⟩
    have HS1 : Hid (Below u2.heap.size u2 y1) := Lib.hid (h0.out.trans (hb.mono h0.out.size))
    have hp1 := own_piece ho
    have HV1 := Lib.hid (fun W (h : Below y1.heap.size y1 W) => (hp1.below h).conv)
    obtain ⟨A1, k1, rfl, _⟩ := own_look ho
    rw [hsx.out] at HV1
    rw [hln.out] at HV1 ⊢
    refine hK.out (fun W => Below y1.heap.size y1 W) _ _ (fun W hW => HS1.out.trans (hW.mono HS1.out.size)) (Below.refl _ _) ?_
    clear hK K hb ho hp1
    try simp only [Act.put, List.setIfInBounds_toArray, List.set_cons_zero, List.set_cons_succ]
    iterate 1
      refine alongs_take (v := ?_) rfl (by rfl) ?_ ?_
      rotate_left
      · intro W hW; have HV1x := HV1.out W hW; clear hW; go_simp; try with_reducible rfl
      simp only [Act.put, List.setIfInBounds_toArray, List.set_cons_zero, List.set_cons_succ]
    refine alongs_step rfl (fun K hK => ?_)
    go_simp
    refine (RH.out _).mono ?_
    rintro e1 y2 ⟨v2, rfl, ho, hb⟩
    have HS2 : Hid (Below y1.heap.size y1 y2) := Lib.hid (hb)
    have hp2 := own_piece ho
    have HV2 := Lib.hid (fun W (h : Below y2.heap.size y2 W) => (hp2.below h).conv)
    obtain ⟨A2, k2, rfl, _⟩ := own_look ho
    rw [hsx.out] at HV2
    rw [hln.out] at HV2 ⊢
    refine hK.out (fun W => Below y2.heap.size y2 W) _ _ (fun W hW => HS2.out.trans (hW.mono HS2.out.size)) (Below.refl _ _) ?_
    clear hK K hb ho hp2
    try simp only [Act.put, List.setIfInBounds_toArray, List.set_cons_zero, List.set_cons_succ]
    iterate 18
      refine alongs_take (v := ?_) rfl (by rfl) ?_ ?_
      rotate_left
      · intro W hW; have HV1x := HV1.out W (HS2.out.trans (hW.mono HS2.out.size)); have HV2x := HV2.out W hW; clear hW; go_simp; try with_reducible rfl
      simp only [Act.put, List.setIfInBounds_toArray, List.set_cons_zero, List.set_cons_succ]
    refine alongs_step rfl (fun K hK => ?_)
    go_simp
    refine (awake25 _).mono ?_
    rintro e1 y3 ⟨rfl, hb⟩
    have HS3 : Hid (Below y2.heap.size y2 y3) := Lib.hid hb
    refine hK.out (fun W => Below y3.heap.size y3 W) _ _ (fun W hW => HS3.out.trans (hW.mono HS3.out.size)) (Below.refl _ _) ?_
    clear hK K hb
    try simp only [Act.put, List.setIfInBounds_toArray, List.set_cons_zero, List.set_cons_succ]
    iterate 2
      refine alongs_take (v := ?_) rfl (by rfl) ?_ ?_
      rotate_left
      · intro W hW; have HV1x := HV1.out W (HS2.out.trans ((HS3.out.trans (hW.mono HS3.out.size)).mono HS2.out.size)); have HV2x := HV2.out W (HS3.out.trans (hW.mono HS3.out.size)); clear hW; go_simp; try with_reducible rfl
      simp only [Act.put, List.setIfInBounds_toArray, List.set_cons_zero, List.set_cons_succ]
    refine alongs_done ?_
    have HE := Lib.hid (H2.out.trans ((HS1.out.trans ((HS2.out.trans (HS3.out.mono HS2.out.size)).mono HS1.out.size)).mono H2.out.size))
    go_wp2_with fail
    go_ret
    exact ⟨rfl, HE.out⟩
end Go.Proofs.Ytjomchehnlnfcaa
