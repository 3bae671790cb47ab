/- The walk of the law BufReads: it answers true, and nothing that was there has turned. -/
import Derived.Test.YtigkgbknlclpgaaOne
import Derived.Test.YtigkgbknlclpgaaTrip
namespace Go.Proofs.Ytigkgbknlclpgaa
open Go.RowKit
set_option linter.unusedVariables false

set_option maxRecDepth 100000 in
set_option maxHeartbeats 1000000 in
theorem bufReads_walk (a : Option Addr) (len cap : Nat) (l : List Nat) (a2 : Option Addr) (len2 cap2 : Nat) (ds : List (Int × Int × Int)) (w : World) (h : Row .u8 w a len cap l) (hd : Trip .i64 .i64 .u64 w a2 len2 cap2 ds) :
    Calls Try.prog 4 #[.slice a len cap, .slice a2 len2 cap2] w fun e w' => e = .returned (.bool true) ∧ Below w.heap.size w w' := by
  have hbyte := h.byte
  obtain ⟨hl, hs, _, hle, hm, hnull⟩ := h
  have hle2 := hd.le
  have hm2 := hd.max
  unfold maxLen at hm hm2
  have hlen : len ≤ 9223372036854775807 := by omega
  have hlen2 : len2 ≤ 9223372036854775807 := by omega
  by_cases h300 : 300 < len
  · clear hd
    go_enter Try.func4, Try.ntmps4
    go_wp2_with fail
    refine (awake6_any _).mono ?_
    rintro e w1 ⟨rfl, hb⟩
    have HB := Lib.hid hb
    clear hb
    go_wp2_with fail
    go_ret
    exact ⟨rfl, HB.out⟩
  by_cases h30 : 30 < len2
  · clear hd
    go_enter Try.func4, Try.ntmps4
    go_wp2_with fail
    refine (awake6_any _).mono ?_
    rintro e w1 ⟨rfl, hb⟩
    have HB := Lib.hid hb
    clear hb
    go_wp2_with fail
    go_ret
    exact ⟨rfl, HB.out⟩
  have Hl := Lib.hid hl
  have Hs := Lib.hid hs
  have Hb := Lib.hid hbyte
  have HT := Lib.hid hd
  have Hnull := Lib.hid hnull
  clear hl hs hbyte hd hnull
  have ho0 : (w.alloc (.cells #[] 5)).ownsRow w.heap.size 5 1 (.slice (some ⟨w.heap.size, 0, none⟩) 0 0) 0 [] := World.ownsRow_lit w #[] 0 (Nat.le_refl _) (by decide) rfl
  have Ho0 := Lib.hid ho0
  clear ho0
  go_enter Try.func4, Try.ntmps4
  go_wp2_with (at_builtin; refine wpList_append_row byteT _ _ rfl rfl w.heap.size _ 0 [] rfl Ho0.out len cap rfl Hl.out Hnull.out (Hs.out.below ((Below.refl _ _).alloc (Nat.le_refl _) _)) (by omega) (by simp) ?_; intro v2 w2 ho2 hg2)
  rw [Nat.zero_add, List.nil_append, ← Hl.out] at ho2
  have hb2 : Below w.heap.size w w2 := ((Below.refl _ _).alloc (Nat.le_refl _) _).grown hg2 (by simp) (fun k hk => (Ho0.out.lt k hk).1)
  have HP : Hid (Piece w2 w2.heap.size v2 l) := by
    obtain ⟨A, c, rfl⟩ := own_shape ho2
    refine ⟨A, c, rfl, Sees.of_own ho2, own_nil ho2, ?_⟩
    rcases ho2.2 with ⟨hv, h0⟩ | ⟨g, cap, cur, hv, _, _, hnc, hm, _, _⟩
    · injection hv with _ _ hc
      rw [h0, hc]
      exact ⟨Nat.le_refl _, by unfold maxLen; omega⟩
    · injection hv with _ _ hc
      rw [hc]
      exact ⟨hnc, hm⟩
  have HB2 := Lib.hid hb2
  clear ho2 hb2 hg2
  refine (open_any HP.out (by rw [Hl.out]; omega) Hb.out).mono ?_
  rintro e w3 ⟨g, rfl, hg, hr, hb⟩
  have hgw : w.heap.size ≤ g := Nat.le_trans HB2.out.size hg
  have HR3 := Lib.hid hr
  have HB3 := Lib.hid (below_sum HB2.out hb (Nat.le_refl _))
  clear hr hb hg
  go_wp2_with fail
  have hlt3 := HR3.out.lt
  have hAl : Below w3.heap.size w3 (w3.alloc (.cells #[.slice a len cap, .int .i64 0, .int .i64 0] 36)) := (Below.refl _ _).alloc (Nat.le_refl _) _
  have HC0 : Hid (Cu (w3.alloc (.cells #[.slice a len cap, .int .i64 0, .int .i64 0] 36)) w.heap.size w3.heap.size l 0) :=
    ⟨a, cap, l, 0, ⟨by rw [Hl.out]; exact Whole.made _ _ _, (Hs.out.below HB3.out).below (hAl.mono HB3.out.size), HB3.out.size, Hb.out, by rw [Hl.out]; exact hle, by unfold maxLen; omega, Hnull.out, by rw [Hl.out]; omega, Nat.zero_le _⟩, rfl⟩
  have HR0 := Lib.hid (HR3.out.below hAl hlt3)
  have HB0 := Lib.hid (HB3.out.trans (hAl.mono HB3.out.size))
  have hgh : g < w3.heap.size := hlt3
  clear hAl
  obtain ⟨h, Hh⟩ : ∃ h, Hid (w3.heap.size = h) := ⟨_, rfl⟩
  obtain ⟨w4, Hw4⟩ : ∃ w4, Hid (w3.alloc (.cells #[.slice a len cap, .int .i64 0, .int .i64 0] 36) = w4) := ⟨_, rfl⟩
  rw [Hh.out] at hgh HC0 ⊢
  rw [Hw4.out] at HC0 HR0 HB0 ⊢
  have hhw : w.heap.size ≤ h := by omega
  have hhg : h ≠ g := by omega
  clear hlt3 HR3 HB3 HP HB2 Ho0 hle hm hlen
  go_loopw [7] (fun i wr => ∃ (j : Nat) (l' : List Nat) (e' : Int), i = .int .i64 j ∧ j ≤ len2 ∧ l'.length ≤ 300 ∧ Hid (Rd wr g l' e') ∧ Hid (Cu wr w.heap.size h l' e') ∧ Hid (Below w.heap.size w wr)) (fun i _ => len2 - (intOf i).toNat)
  case atStart => exact ⟨0, l, 0, rfl, by omega, by rw [Hl.out]; omega, HR0, HC0, HB0⟩
  case round =>
    obtain ⟨j, l', e', rfl, hj, hl', HR, HC, HB⟩ := hrel
    by_cases hlt : j < len2
    · obtain ⟨b, off, rfl, hbw, t0, t1, t2⟩ := HT.out.at_ HB.out hlt
      obtain ⟨o0, o1, o2⟩ := HT.out.ok hlt
      obtain ⟨k, Hk⟩ : ∃ k, Hid ((ds.getD j (0, 0, 0)).1 = k) := ⟨_, rfl⟩
      obtain ⟨N, HN⟩ : ∃ N, Hid ((ds.getD j (0, 0, 0)).2.1 = N) := ⟨_, rfl⟩
      obtain ⟨U, HU⟩ : ∃ U, Hid ((ds.getD j (0, 0, 0)).2.2 = U) := ⟨_, rfl⟩
      rw [Hk.out] at t0 o0
      rw [HN.out] at t1 o1
      rw [HU.out] at t2 o2
      obtain ⟨n1, n2⟩ := bounds_i64 o1
      obtain ⟨u1, u2⟩ := bounds_u64 o2
      clear o0 o1 o2
      obtain ⟨U, rfl⟩ := Int.eq_ofNat_of_zero_le u1
      have hU : U < 18446744073709551616 := by omega
      clear u1 u2
      have S1 : Hid (∀ W, Below w.heap.size wr W → W.cell? ⟨b, off + j * 3, none⟩ = some (.int .i64 k) ∧ W.cell? ⟨b, off + j * 3 + 1, none⟩ = some (.int .i64 N) ∧ W.cell? ⟨b, off + j * 3 + 2, none⟩ = some (.int .u64 (U : Int))) := fun W hW => by
        exact ⟨by rw [hW.cell (p := ⟨b, off + j * 3, none⟩) hbw]; exact t0, by rw [hW.cell (p := ⟨b, off + j * 3 + 1, none⟩) hbw]; exact t1, by rw [hW.cell (p := ⟨b, off + j * 3 + 2, none⟩) hbw]; exact t2⟩
      clear t0 t1 t2
      go_wp2_with fail
      refine wp_region_plans (fun W => W.cell? ⟨b, off + j * 3, none⟩ = some (.int .i64 k) ∧ W.cell? ⟨b, off + j * 3 + 1, none⟩ = some (.int .i64 N) ∧ W.cell? ⟨b, off + j * 3 + 2, none⟩ = some (.int .u64 (U : Int))) [(0, true), (1, true), (2, true), (3, true), (4, true), (5, true), (6, false), (7, true), (8, true), (9, true), (11, true), (12, true), (13, true), (14, true), (10, false), (15, true), (16, true), (17, true), (18, true), (20, true), (19, false), (21, false), (22, true), (23, true)] (by kernel_rfl) (by kernel_rfl) rfl (by kernel_rfl) (fun _ _ _ _ _ h => h) (S1.out _ (Below.refl _ _).drew) ?_
      iterate 6
        refine alongs_take (v := ?_) rfl (by rfl) ?_ ?_
        rotate_left
        · intro W hW; obtain ⟨hW0, hW1, hW2⟩ := hW; go_simp; try with_reducible rfl
        simp only [Act.put, List.setIfInBounds_toArray, List.set_cons_zero, List.set_cons_succ]
      refine alongs_step rfl (fun K hK => ?_)
      go_simp
      refine (one_any k N U n1 n2 hU HR.out.drew (HC.out.drew) hgh hgw (by omega)).mono ?_
      rintro en w5 ⟨r, rfl, hr, hrd, hcu, hbt⟩
      obtain rfl : r = true := hr rfl rfl
      have HR5 := Lib.hid hrd
      have HC5 := Lib.hid hcu
      have hb5 : Below w.heap.size wr w5 := ((Below.refl _ wr).drew).trans (hbt.below hgw hhw HB.out.size)
      have HB5 := Lib.hid hb5
      have e5 := hcu.err
      obtain ⟨e6, He6⟩ : ∃ e6, Hid ((Bm.next k N U l' e').2 = e6) := ⟨_, rfl⟩
      obtain ⟨l6, Hl6⟩ : ∃ l6, Hid ((Bm.next k N U l' e').1 = l6) := ⟨_, rfl⟩
      have hl6 : l6.length ≤ 300 := by rw [← Hl6.out]; exact Nat.le_trans (Bm.next_small _ _ _ _ _) hl'
      rw [He6.out] at HR5 HC5 e5
      rw [Hl6.out] at HR5 HC5
      clear hr hrd hcu hbt
      refine hK.out (fun W => ∃ q, W = w5.drewN q) _ _ (fun W hW => by obtain ⟨q, rfl⟩ := hW; exact S1.out _ (hb5.trans ⟨rfl, rfl, rfl, Nat.le_refl _, fun _ _ => rfl⟩)) ⟨0, rfl⟩ ?_
      clear hK K hb5
      try simp only [Act.put, List.setIfInBounds_toArray, List.set_cons_zero, List.set_cons_succ]
      iterate 7
        refine alongs_take (v := ?_) rfl (by rfl) ?_ ?_
        rotate_left
        · intro W hW; obtain ⟨q, rfl⟩ := hW; go_simp; try with_reducible rfl
        simp only [Act.put, List.setIfInBounds_toArray, List.set_cons_zero, List.set_cons_succ]
      refine alongs_step rfl (fun K hK => ?_)
      go_simp
      refine (rerr_any HR5.out).mono ?_
      rintro en w6 ⟨rfl, rfl⟩
      refine hK.out (fun W => ∃ q, W = w5.drewN q) _ _ (fun W hW => hW) ⟨0, rfl⟩ ?_
      clear hK K
      try simp only [Act.put, List.setIfInBounds_toArray, List.set_cons_zero, List.set_cons_succ]
      iterate 5
        refine alongs_take (v := ?_) rfl (by rfl) ?_ ?_
        rotate_left
        · intro W hW; obtain ⟨q, rfl⟩ := hW; go_simp; try with_reducible rfl
        simp only [Act.put, List.setIfInBounds_toArray, List.set_cons_zero, List.set_cons_succ]
      refine alongs_step rfl (fun K hK => ?_)
      go_simp
      refine (rleft_any HR5.out).mono ?_
      rintro en w6 ⟨rfl, rfl⟩
      refine hK.out (fun W => ∃ q, W = w5.drewN q) _ _ (fun W hW => hW) ⟨0, rfl⟩ ?_
      clear hK K
      try simp only [Act.put, List.setIfInBounds_toArray, List.set_cons_zero, List.set_cons_succ]
      refine alongs_step rfl (fun K hK => ?_)
      go_simp
      refine (curLeft_any HC5.out).mono ?_
      rintro en w6 ⟨rfl, q6, rfl⟩
      refine hK.out (fun W => ∃ q, W = w5.drewN q) _ _ (fun W hW => hW) ⟨q6, rfl⟩ ?_
      clear hK K
      try simp only [Act.put, List.setIfInBounds_toArray, List.set_cons_zero, List.set_cons_succ]
      iterate 2
        refine alongs_take (v := ?_) rfl (by rfl) ?_ ?_
        rotate_left
        · intro W hW; obtain ⟨q, rfl⟩ := hW; go_simp; try with_reducible rfl
        simp only [Act.put, List.setIfInBounds_toArray, List.set_cons_zero, List.set_cons_succ]
      refine alongs_done ?_
      go_wp2_with fail
      go_roundw
      case rel => exact ⟨j + 1, l6, e6, by go_num, by omega, hl6, Lib.hid (HR5.out.drewN q6), Lib.hid (HC5.out.drewN q6), Lib.hid ((HB.out.trans HB5.out).trans ⟨rfl, rfl, rfl, Nat.le_refl _, fun _ _ => rfl⟩)⟩
      case measure => simp [intOf]; omega
    · go_wp2_with fail
      refine (awake6_any _).mono ?_
      rintro e w6 ⟨rfl, hb6⟩
      have HB6 := Lib.hid (HB.out.trans (hb6.mono HB.out.size))
      clear hb6
      go_wp2_with fail
      go_ret
      exact ⟨rfl, HB6.out⟩
end Go.Proofs.Ytigkgbknlclpgaa
