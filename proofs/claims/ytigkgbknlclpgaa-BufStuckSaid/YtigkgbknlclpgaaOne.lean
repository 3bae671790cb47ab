/- Contract of annuletlaw06.one. -/
import Derived.Test.YtigkgbknlclpgaaCurx
import Derived.Test.YtigkgbknlclpgaaAwake6
namespace Go.Proofs.Ytigkgbknlclpgaa
open Go.RowKit
set_option linter.unusedVariables false

theorem Rd.drewN {w : World} {g : Nat} {l : List Nat} {e : Int} (H : Rd w g l e) (n : Nat) : Rd (w.drewN n) g l e := by
  obtain ⟨A, c, H⟩ := H
  exact ⟨A, c, H.whole, H.sees, H.byte, H.le, H.max, H.null⟩
theorem Rd.drew {w : World} {g : Nat} {l : List Nat} {e : Int} (H : Rd w g l e) : Rd w.drew g l e := H.drewN 1
theorem Only.drewn {w w' : World} {g : Nat} (H : Only g w.drew w') : Only g w w' := ((Only.refl g w).drew).trans H
theorem Cu.err {w : World} {B h : Nat} {l : List Nat} {e : Int} (H : Cu w B h l e) : w.cell? ⟨h, 2, none⟩ = some (.int .i64 e) := by obtain ⟨A, c, f, p, H, hl⟩ := H; exact H.c2

/-- a deed, boxed in block b -/
def Deed (w : World) (b : Nat) (k N : Int) (U : Nat) : Prop := Whole w b 39 #[.int .i64 k, .int .i64 N, .int .u64 (U : Int)]
section
variable {w w' : World} {b : Nat} {k N : Int} {U : Nat}
theorem Deed.k0 (h : Deed w b k N U) : w.cell? ⟨b, 0, none⟩ = some (.int .i64 k) := Whole.at_ h 0
theorem Deed.k1 (h : Deed w b k N U) : w.cell? ⟨b, 1, none⟩ = some (.int .i64 N) := Whole.at_ h 1
theorem Deed.k2 (h : Deed w b k N U) : w.cell? ⟨b, 2, none⟩ = some (.int .u64 (U : Int)) := Whole.at_ h 2
theorem Deed.made (w : World) (k N : Int) (U : Nat) : Deed (w.alloc (.cells #[.int .i64 k, .int .i64 N, .int .u64 (U : Int)] 39)) w.heap.size k N U := Whole.made _ _ _
theorem Deed.only {g : Nat} (h : Deed w b k N U) (ho : Only g w w') (hg : b ≠ g) : Deed w' b k N U := Whole.only h ho hg
theorem Deed.drew (h : Deed w b k N U) : Deed w.drew b k N U := h
end

/-- how a deed ends -/
def Done (g B h : Nat) (w : World) (l l2 : List Nat) (e e2 : Int) (n n2 : List Nat × Int) (en : Ending) (w' : World) : Prop :=
  ∃ r, en = .returned (.bool r) ∧ (l = l2 → e = e2 → r = true) ∧ Rd w' g n.1 n.2 ∧ Cu w' B h n2.1 n2.2 ∧ But2 g h w w'

set_option maxRecDepth 100000 in
set_option maxHeartbeats 1000000 in
theorem one_any {w : World} {g B h : Nat} {l l2 : List Nat} {e e2 : Int} (k N : Int) (U : Nat) (hN1 : -9223372036854775808 ≤ N) (hN2 : N ≤ 9223372036854775807) (hU : U < 18446744073709551616)
    (hr : Rd w g l e) (hc : Cu w B h l2 e2) (hgh : g < h) (hB : B ≤ g) (hl : l.length ≤ 1000000000000) :
    Calls Try.prog 13 #[.pointer (some ⟨g, 0, none⟩), .pointer (some ⟨h, 0, none⟩), .agg #[.int .i64 k, .int .i64 N, .int .u64 (U : Int)]] w
      (Done g B h w l l2 e e2 (Bm.next k N U l e) (Bm.next k N U l2 e2)) := by
  have hh := hc.lt
  have hg := hr.lt
  -- the world behind the box
  have HD := Lib.hid (Deed.made w k N U)
  have hb0 : Below w.heap.size w (w.alloc (.cells #[.int .i64 k, .int .i64 N, .int .u64 (U : Int)] 39)) := (Below.refl _ _).alloc (Nat.le_refl _) _
  have HR := Lib.hid (hr.below hb0 hg)
  have HC := Lib.hid (hc.below hb0 hh)
  have HB := Lib.hid (But2.of_below (g := g) (h := h) hb0)
  have hbg : w.heap.size ≠ g := by omega
  have hbh : w.heap.size ≠ h := by omega
  have hhg : h ≠ g := by omega
  have hgh' : g ≠ h := by omega
  clear hr hc hb0
  obtain ⟨b, Hb⟩ : ∃ b, Hid (w.heap.size = b) := ⟨_, rfl⟩
  have hsz : (w.alloc (.cells #[.int .i64 k, .int .i64 N, .int .u64 (U : Int)] 39)).heap.size = b + 1 := by simp [Hb.out]
  obtain ⟨w0, Hw0⟩ : ∃ w0, Hid (w.alloc (.cells #[.int .i64 k, .int .i64 N, .int .u64 (U : Int)] 39) = w0) := ⟨_, rfl⟩
  rw [Hb.out] at HD hbg hbh
  rw [Hw0.out] at HD HR HC HB hsz
  have hal : w.alloc (.cells #[.int .i64 k, .int .i64 N, .int .u64 (U : Int)] 39) = w0 := Hw0.out
  have hbw : w.heap.size = b := Hb.out
  have k0 := HD.out.k0
  have k1 := HD.out.k1
  have k2 := HD.out.k2
  clear hg hh
  by_cases h0 : k = 0
  · subst h0
    rw [Bm.next0, Bm.next0]
    go_enter Try.func13, Try.ntmps13
    go_wp2_with fail
    refine wp_region_plans (fun W => Deed W b 0 N U) [(0, true), (1, true), (2, true), (4, true), (5, true), (6, true), (3, false), (7, false), (8, true), (9, true)] (by kernel_rfl) (by kernel_rfl) rfl (by kernel_rfl) (fun _ _ _ _ _ h => h) HD.out.drew ?_
    iterate 6
      refine alongs_take (v := ?_) rfl (by rfl) ?_ ?_
      rotate_left
      · intro W hW; have hW' : Deed W b 0 N U := hW; have d1 := hW'.k1; have d2 := hW'.k2; clear hW hW'; go_simp; try with_reducible rfl
      simp only [Act.put, List.setIfInBounds_toArray, List.set_cons_zero, List.set_cons_succ]
    refine alongs_step rfl (fun K hK => ?_)
    go_simp
    refine (rfix_any N hN1 hN2 HR.out.drew).mono ?_
    rintro en w1 ⟨rfl, hr1, ho1⟩
    have HR1 := Lib.hid hr1
    have HO1 := Lib.hid ho1.drewn
    clear hr1 ho1
    refine hK.out (fun W => Deed W b 0 N U) _ _ (fun W hW => hW) (HD.out.only HO1.out hbg) ?_
    clear hK K
    try simp only [Act.put, List.setIfInBounds_toArray, List.set_cons_zero, List.set_cons_succ]
    refine alongs_step rfl (fun K hK => ?_)
    go_simp
    refine (curfix_any N hN1 hN2 (HC.out.only HO1.out hB hhg)).mono ?_
    rintro en w2 ⟨rfl, hc2, ho2⟩
    have HC2 := Lib.hid hc2
    have HO2 := Lib.hid ho2
    clear hc2 ho2
    refine hK.out (fun W => Deed W b 0 N U) _ _ (fun W hW => hW) ((HD.out.only HO1.out hbg).only HO2.out hbh) ?_
    clear hK K
    try simp only [Act.put, List.setIfInBounds_toArray, List.set_cons_zero, List.set_cons_succ]
    iterate 2
      refine alongs_take (v := ?_) rfl (by rfl) ?_ ?_
      rotate_left
      · intro W hW; clear hW; go_simp; try with_reducible rfl
      simp only [Act.put, List.setIfInBounds_toArray, List.set_cons_zero, List.set_cons_succ]
    refine alongs_done ?_
    go_wp2_with fail
    go_ret
    exact ⟨_, rfl, fun h1 h2 => by subst h1 h2; simp, HR1.out.only HO2.out hgh, HC2.out, (HB.out.trans (HO1.out.left h)).trans (HO2.out.right g)⟩
  by_cases h1 : k = 1
  · subst h1
    rw [Bm.next1, Bm.next1]
    go_enter Try.func13, Try.ntmps13
    go_wp2_with fail
    refine wp_region_plans (fun W => Deed W b 1 N U) [(0, true), (1, true), (2, true), (4, true), (5, true), (6, true), (3, false), (7, false), (8, true), (9, true)] (by kernel_rfl) (by kernel_rfl) rfl (by kernel_rfl) (fun _ _ _ _ _ h => h) HD.out.drew ?_
    iterate 6
      refine alongs_take (v := ?_) rfl (by rfl) ?_ ?_
      rotate_left
      · intro W hW; have hW' : Deed W b 1 N U := hW; have d1 := hW'.k1; have d2 := hW'.k2; clear hW hW'; go_simp; try with_reducible rfl
      simp only [Act.put, List.setIfInBounds_toArray, List.set_cons_zero, List.set_cons_succ]
    refine alongs_step rfl (fun K hK => ?_)
    go_simp
    refine (ruvar_any U hU HR.out.drew).mono ?_
    rintro en w1 ⟨rfl, hr1, ho1⟩
    have HR1 := Lib.hid hr1
    have HO1 := Lib.hid ho1.drewn
    clear hr1 ho1
    refine hK.out (fun W => Deed W b 1 N U) _ _ (fun W hW => hW) (HD.out.only HO1.out hbg) ?_
    clear hK K
    try simp only [Act.put, List.setIfInBounds_toArray, List.set_cons_zero, List.set_cons_succ]
    refine alongs_step rfl (fun K hK => ?_)
    go_simp
    refine (curuvar_any U hU (HC.out.only HO1.out hB hhg)).mono ?_
    rintro en w2 ⟨rfl, hc2, ho2⟩
    have HC2 := Lib.hid hc2
    have HO2 := Lib.hid ho2
    clear hc2 ho2
    refine hK.out (fun W => Deed W b 1 N U) _ _ (fun W hW => hW) ((HD.out.only HO1.out hbg).only HO2.out hbh) ?_
    clear hK K
    try simp only [Act.put, List.setIfInBounds_toArray, List.set_cons_zero, List.set_cons_succ]
    iterate 2
      refine alongs_take (v := ?_) rfl (by rfl) ?_ ?_
      rotate_left
      · intro W hW; clear hW; go_simp; try with_reducible rfl
      simp only [Act.put, List.setIfInBounds_toArray, List.set_cons_zero, List.set_cons_succ]
    refine alongs_done ?_
    go_wp2_with fail
    go_ret
    exact ⟨_, rfl, fun h1 h2 => by subst h1 h2; simp, HR1.out.only HO2.out hgh, HC2.out, (HB.out.trans (HO1.out.left h)).trans (HO2.out.right g)⟩
  by_cases h4 : k = 4
  · subst h4
    rw [Bm.next4, Bm.next4]
    go_enter Try.func13, Try.ntmps13
    go_wp2_with fail
    refine wp_region_plans (fun W => Deed W b 4 N U) [(0, true), (1, true), (2, true), (4, true), (5, true), (6, true), (3, false), (7, false), (8, true), (9, true)] (by kernel_rfl) (by kernel_rfl) rfl (by kernel_rfl) (fun _ _ _ _ _ h => h) HD.out.drew ?_
    iterate 6
      refine alongs_take (v := ?_) rfl (by rfl) ?_ ?_
      rotate_left
      · intro W hW; have hW' : Deed W b 4 N U := hW; have d1 := hW'.k1; have d2 := hW'.k2; clear hW hW'; go_simp; try with_reducible rfl
      simp only [Act.put, List.setIfInBounds_toArray, List.set_cons_zero, List.set_cons_succ]
    refine alongs_step rfl (fun K hK => ?_)
    go_simp
    refine (rtext_any N hN1 hN2 HR.out.drew).mono ?_
    rintro en w1 ⟨rfl, hr1, ho1⟩
    have HR1 := Lib.hid hr1
    have HO1 := Lib.hid ho1.drewn
    clear hr1 ho1
    refine hK.out (fun W => Deed W b 4 N U) _ _ (fun W hW => hW) (HD.out.only HO1.out hbg) ?_
    clear hK K
    try simp only [Act.put, List.setIfInBounds_toArray, List.set_cons_zero, List.set_cons_succ]
    refine alongs_step rfl (fun K hK => ?_)
    go_simp
    refine (curtext_any N hN1 hN2 (HC.out.only HO1.out hB hhg)).mono ?_
    rintro en w2 ⟨rfl, hc2, ho2⟩
    have HC2 := Lib.hid hc2
    have HO2 := Lib.hid ho2
    clear hc2 ho2
    refine hK.out (fun W => Deed W b 4 N U) _ _ (fun W hW => hW) ((HD.out.only HO1.out hbg).only HO2.out hbh) ?_
    clear hK K
    try simp only [Act.put, List.setIfInBounds_toArray, List.set_cons_zero, List.set_cons_succ]
    iterate 2
      refine alongs_take (v := ?_) rfl (by rfl) ?_ ?_
      rotate_left
      · intro W hW; clear hW; go_simp; try with_reducible rfl
      simp only [Act.put, List.setIfInBounds_toArray, List.set_cons_zero, List.set_cons_succ]
    refine alongs_done ?_
    go_wp2_with fail
    go_ret
    exact ⟨_, rfl, fun h1 h2 => by subst h1 h2; simp, HR1.out.only HO2.out hgh, HC2.out, (HB.out.trans (HO1.out.left h)).trans (HO2.out.right g)⟩
  by_cases h2 : k = 2
  · subst h2
    rw [Bm.next2, Bm.next2]
    go_enter Try.func13, Try.ntmps13
    go_wp2_with fail
    refine (rflag_any HR.out).mono ?_
    rintro en w1 ⟨rfl, hr1, ho1⟩
    have HR1 := Lib.hid hr1
    have HO1 := Lib.hid ho1
    clear hr1 ho1
    go_wp2_with fail
    refine (curflag_any (HC.out.only HO1.out hB hhg)).mono ?_
    rintro en w2 ⟨rfl, hc2, ho2⟩
    have HC2 := Lib.hid hc2
    have HO2 := Lib.hid ho2
    clear hc2 ho2
    go_wp2_with fail
    go_ret
    exact ⟨_, rfl, fun h1 h2 => by subst h1 h2; simp, HR1.out.only HO2.out hgh, HC2.out, (HB.out.trans (HO1.out.left h)).trans (HO2.out.right g)⟩
  by_cases h3 : k = 3
  · subst h3
    rw [Bm.next3, Bm.next3]
    go_enter Try.func13, Try.ntmps13
    have hlt := HR.out.lt
    have hlh := HC.out.lt
    go_wp2_with fail
    refine wp_region_plans (fun W => Deed W b 3 N U) [(0, true), (1, true), (2, true), (5, true), (6, true), (7, true), (3, false), (4, true), (8, false), (9, true), (10, true), (11, true)] (by kernel_rfl) (by kernel_rfl) rfl (by kernel_rfl) (fun _ _ _ _ _ h => h) HD.out.drew ?_
    iterate 6
      refine alongs_take (v := ?_) rfl (by rfl) ?_ ?_
      rotate_left
      · intro W hW; have hW' : Deed W b 3 N U := hW; have d1 := hW'.k1; clear hW hW'; go_simp; try with_reducible rfl
      simp only [Act.put, List.setIfInBounds_toArray, List.set_cons_zero, List.set_cons_succ]
    refine alongs_step rfl (fun K hK => ?_)
    go_simp
    refine (rtake_any N hN1 hN2 hl HR.out.drew).mono ?_
    rintro en w1 ⟨v1, rfl, hv1, hr1, ho1⟩
    have HV1 := Lib.hid hv1
    have HR1 := Lib.hid hr1
    have HO1 := Lib.hid ho1.drewn
    have C1 : Hid (∀ W, Only h w1 W → (convert 22 9 v1).run Try.prog W = .ok (.string (strOf (Bm.take l e N).1)) W) := fun W hW =>
      conv_own Try.underlying22 Try.underlying5 Try.underlying9 (own_only hv1 hW hlh)
    clear hr1 ho1 hv1
    refine hK.out (fun W => Only h w1 W) _ _ (fun W hW => (HD.out.only HO1.out hbg).only hW hbh) (Only.refl _ _) ?_
    clear hK K
    try simp only [Act.put, List.setIfInBounds_toArray, List.set_cons_zero, List.set_cons_succ]
    refine alongs_take (v := ?_) rfl (by rfl) ?_ ?_
    rotate_left
    · intro W hW; have c := C1.out W hW; clear hW; go_simp; try with_reducible rfl
    simp only [Act.put, List.setIfInBounds_toArray, List.set_cons_zero, List.set_cons_succ]
    refine alongs_step rfl (fun K hK => ?_)
    go_simp
    refine (curtake_any N hN1 hN2 (HC.out.only HO1.out hB hhg)).mono ?_
    rintro en w2 ⟨v2, rfl, hv2, hc2, ho2⟩
    have C2 : Hid (∀ W, W = w2 → (convert 22 9 v2).run Try.prog W = .ok (.string (strOf (Bm.take l2 e2 N).1)) W) := fun W hW => by
      subst hW
      exact conv_own Try.underlying22 Try.underlying5 Try.underlying9 hv2
    have HC2 := Lib.hid hc2
    have HO2 := Lib.hid ho2
    clear hc2 ho2 hv2
    refine hK.out (fun W => W = w2) _ _ (fun W hW => by subst hW; exact HO2.out) rfl ?_
    clear hK K
    try simp only [Act.put, List.setIfInBounds_toArray, List.set_cons_zero, List.set_cons_succ]
    iterate 3
      refine alongs_take (v := ?_) rfl (by rfl) ?_ ?_
      rotate_left
      · intro W hW; have c := C2.out W hW; clear hW; go_simp; try with_reducible rfl
      simp only [Act.put, List.setIfInBounds_toArray, List.set_cons_zero, List.set_cons_succ]
    refine alongs_done ?_
    go_wp2_with fail
    go_ret
    exact ⟨_, rfl, fun h1 h2 => by subst h1 h2; simp, HR1.out.only HO2.out hgh, HC2.out, (HB.out.trans (HO1.out.left h)).trans (HO2.out.right g)⟩
  by_cases h6 : k = 6
  · subst h6
    rw [Bm.next6, Bm.next6]
    go_enter Try.func13, Try.ntmps13
    go_wp2_with fail
    refine (rfail_any N HR.out).mono ?_
    rintro en w1 ⟨rfl, hr1, ho1⟩
    have HR1 := Lib.hid hr1
    have HO1 := Lib.hid ho1
    have k1' := (HD.out.only ho1 hbg).k1
    clear hr1 ho1
    go_wp2_with fail
    refine (curfail_any N (HC.out.only HO1.out hB hhg)).mono ?_
    rintro en w2 ⟨rfl, hc2, ho2⟩
    have HC2 := Lib.hid hc2
    have HO2 := Lib.hid ho2
    clear hc2 ho2
    go_wp2_with fail
    go_ret
    exact ⟨_, rfl, fun h1 h2 => rfl, HR1.out.only HO2.out hgh, HC2.out, (HB.out.trans (HO1.out.left h)).trans (HO2.out.right g)⟩
  rw [Bm.next5 ⟨h0, h1, h2, h3, h4, h6⟩, Bm.next5 ⟨h0, h1, h2, h3, h4, h6⟩]
  by_cases h5 : k = 5
  · subst h5
    go_enter Try.func13, Try.ntmps13
    go_wp2_with fail
    refine (rleft_any HR.out).mono ?_
    rintro en w1 ⟨rfl, rfl⟩
    go_wp2_with fail
    refine (curLeft_any HC.out).mono ?_
    rintro en w2 ⟨rfl, q, rfl⟩
    go_wp2_with fail
    go_ret
    exact ⟨_, rfl, fun h1 h2 => by subst h1 h2; simp, HR.out.drewN q, HC.out.drewN q, HB.out.drewN q⟩
  by_cases h7 : k = 7
  · subst h7
    have c2 := HC.out.err
    have Herr : Hid (∀ q, Calls Try.prog 14 #[.pointer (some ⟨g, 0, none⟩)] (w0.drewN q) fun en w' => en = .returned (.int .i64 e) ∧ w' = w0.drewN q) := fun q => (rerr_any (HR.out.drewN q)).mono fun _ _ ⟨h1, h2⟩ => ⟨h1, h2.symm⟩
    go_enter Try.func13, Try.ntmps13
    go_wp2_with fail
    go_quiet (first | (with_reducible exact quiet_more (Herr.out _)) | (with_reducible exact Calls.quiet_of_same (Herr.out _)))
    go_wp2_with fail
    go_ret
    exact ⟨_, rfl, fun h1 h2 => by subst h1 h2; simp, HR.out.drewN _, HC.out.drewN _, HB.out.drewN _⟩
  · have e0 : (k == 0) = false := by simpa using h0
    have e1 : (k == 1) = false := by simpa using h1
    have e2' : (k == 2) = false := by simpa using h2
    have e3 : (k == 3) = false := by simpa using h3
    have e4 : (k == 4) = false := by simpa using h4
    have e5 : (k == 5) = false := by simpa using h5
    have e6 : (k == 6) = false := by simpa using h6
    have e7 : (k == 7) = false := by simpa using h7
    clear h0 h1 h2 h3 h4 h5 h6 h7
    go_enter Try.func13, Try.ntmps13
    go_wp2_with fail
    refine (rend_any HR.out).mono ?_
    rintro en w1 ⟨rfl, rfl⟩
    go_wp2_with fail
    refine (curend_any HC.out).mono ?_
    rintro en w2 ⟨rfl, q, rfl⟩
    go_wp2_with fail
    go_ret
    exact ⟨_, rfl, fun h1 h2 => by subst h1 h2; simp, HR.out.drewN q, HC.out.drewN q, HB.out.drewN q⟩
end Go.Proofs.Ytigkgbknlclpgaa
