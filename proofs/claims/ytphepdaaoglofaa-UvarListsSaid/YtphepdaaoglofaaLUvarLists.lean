/- The walk of the law UvarLists: it answers true, and nothing that was there has turned. -/
import Derived.Test.YtphepdaaoglofaaUvarAll
import Derived.Test.YtphepdaaoglofaaAwake1
import Derived.Test.YtphepdaaoglofaaFrame
import Derived.Test.YtphepdaaoglofaaRegion
namespace Go.Proofs.Ytphepdaaoglofaa
open Go.RowKit
set_option linter.unusedVariables false

set_option maxRecDepth 100000 in
set_option maxHeartbeats 1600000 in
theorem uvarLists_walk (a0 : Option Addr) (len0 cap0 : Nat) (l : List Nat) (a1 : Option Addr) (len1 cap1 : Nat) (bs : List Nat) (w : World) (h0 : Row .u64 w a0 len0 cap0 l) (h1 : Row .u8 w a1 len1 cap1 bs) :
    Calls Try.prog 5 #[.slice a0 len0 cap0, .slice a1 len1 cap1] w fun e w' => e = .returned (.bool true) ∧ Below w.heap.size w w' := by
  have hu64 := h0.u64
  have hbyte := h1.byte
  obtain ⟨hl0, hs0, _, hle0, hm0, hnull0⟩ := h0
  obtain ⟨hl1, hs1, _, hle1, hm1, hnull1⟩ := h1
  unfold maxLen at hm0 hm1
  have hlen0 : len0 ≤ 9223372036854775807 := by omega
  have hlen1 : len1 ≤ 9223372036854775807 := by omega
  by_cases hbig : 50 < len0 ∨ 300 < len1
  · have hd : (∃ _ : 50 < len0, True) ∨ (∃ _ : ¬ 50 < len0, 300 < len1) := by
      by_cases h : 50 < len0
      · exact .inl ⟨h, trivial⟩
      · exact .inr ⟨h, by omega⟩
    clear hbig
    rcases hd with ⟨h50, _⟩ | ⟨h50, h300⟩
    all_goals
      go_enter Try.func5, Try.ntmps5
      go_wp2_with fail
      refine (awake_any _).mono ?_
      rintro e w1 ⟨rfl, hb⟩
      have HB := Lib.hid hb
      clear hb
      go_wp2_with fail
      go_ret
      exact ⟨rfl, HB.out⟩
  · have h50 : len0 ≤ 50 := by omega
    have h300 : len1 ≤ 300 := by omega
    have HS := Lib.hid (Lays.start w.heap.size l w (Nat.le_refl _))
    have Hl0 := Lib.hid hl0
    have Hl1 := Lib.hid hl1
    have Hs0 := Lib.hid hs0
    have Hs1 := Lib.hid hs1
    have Hu := Lib.hid hu64
    have Hb := Lib.hid hbyte
    obtain ⟨base, Hbase⟩ : ∃ base, Hid (w.heap.size = base) := ⟨_, rfl⟩
    rw [Hbase.out] at HS Hs0 Hs1 ⊢
    clear hl0 hl1 hs0 hs1 hu64 hbyte hbig
    go_enter Try.func5, Try.ntmps5
    go_wp2_with fail
    go_loopw [5, 6] (fun v i wr => ∃ (j : Nat), i = .int .i64 j ∧ j ≤ len0 ∧ Hid (Lays base l w j v wr)) (fun _ i _ => len0 - (intOf i).toNat)
    case atStart => exact ⟨0, rfl, by omega, HS⟩
    case round =>
      obtain ⟨j, rfl, hj, HP⟩ := hrel
      by_cases hlt : j < len0
      · obtain ⟨b, off, rfl, hbB, hcell⟩ := (Hs0.out.below HP.out.below).at_ (i := j) (by rw [Hl0.out]; exact hlt)
        have hx := getD_u64 Hu.out j
        have hsm := HP.out.small
        have hz := HP.out.size
        have HN := Lib.hid (fun (v' : Value) (w1 : World) h1 (h2 : Below base wr w1) => HP.out.next (v' := v') (by rw [Hl0.out]; exact hlt) h1 h2)
        obtain ⟨x, Hx⟩ : ∃ x, Hid (l.getD j 0 = x) := ⟨_, rfl⟩
        rw [Hx.out] at hcell hx HN
        go_wp2_with fail
        refine (putr_any _ _ (by omega) (by omega)).mono ?_
        rintro e w1 ⟨v1, rfl, ho1, hb1⟩
        rw [Int.toNat_natCast] at ho1
        have hown := own_below HP.out.own hb1
        obtain ⟨A, c, rfl⟩ := own_shape ho1
        have hsA := Sees.of_own ho1
        have hnA : A = none → c = 0 := own_nil ho1
        have hp10 : (Um.put x).length ≤ 10 := Um.enc_le 9 x
        have hz1 := hb1.size
        go_wp2_with (at_builtin; refine wpList_append_row byteT _ _ rfl rfl base _ ((l.take j).map Um.put).flatten.length _ rfl hown (Um.put x).length c rfl rfl hnA hsA (by omega) (by omega) ?_; intro v2 w2 ho2 hg2)
        have hb2 : Below base wr w2 := (hb1.mono hz).grown hg2 (by omega) (fun k hk => (hown.lt k hk).1)
        rw [← ints_append, ← List.length_append] at ho2
        have HL := Lib.hid (HN.out v2 w2 ho2 hb2)
        clear ho2 hb2 hg2 hsA hown ho1 hb1
        go_roundw
        case rel => exact ⟨j + 1, by go_num, by omega, HL⟩
        case measure => simp [intOf]; omega
      · have hje : l.take j = l := List.take_of_length_le (by rw [Hl0.out]; omega)
        have ho := HP.out.own
        have hbw := HP.out.below
        have hz := HP.out.size
        obtain ⟨fl, Hfl⟩ : ∃ fl, Hid ((l.map Um.put).flatten = fl) := ⟨_, rfl⟩
        rw [hje, Hfl.out] at ho
        clear hje HP HS
        obtain ⟨A, c, rfl⟩ := own_shape ho
        have Hall := Lib.hid (Sees.of_own ho)
        clear ho
        have Hbw := Lib.hid hbw
        clear hbw
        go_wp2_with fail
        refine (getall_any wr.heap.size base a1 bs len1 cap1 wr Hl1.out (by omega) hle1 (by omega) (Hs1.out.below Hbw.out) hz (Nat.le_refl _) Hb.out).mono ?_
        rintro e w1 ⟨x, rfl, hox, hbx⟩
        obtain ⟨Ax, cx, rfl⟩ := own_shape hox
        have hsx := Sees.of_own hox
        have Hbx := Lib.hid hbx
        clear hbx hox
        go_wp2_with fail
        refine (getallr_any w1.heap.size base a1 bs len1 cap1 w1 Hl1.out (by omega) hle1 (by omega) ((Hs1.out.below Hbw.out).below (Hbx.out.mono hz)) (Nat.le_trans hz Hbx.out.size) (Nat.le_refl _) Hb.out).mono ?_
        rintro e w2 ⟨y, rfl, hoy, hby⟩
        obtain ⟨Ay, cy, rfl⟩ := own_shape hoy
        have hsy := Sees.of_own hoy
        have hsx2 := (hsx.below hby).more hby.size
        have hall2 := (Hall.out.below Hbx.out).below (hby.mono Hbx.out.size)
        have hs02 := ((Hs0.out.below Hbw.out).below (Hbx.out.mono hz)).below (hby.mono (Nat.le_trans hz Hbx.out.size))
        have hbw2 : Below base w w2 := (Hbw.out.trans (Hbx.out.mono hz)).trans (hby.mono (Nat.le_trans hz Hbx.out.size))
        have hsmall := Um.getAll_small len1 bs 0 []
        rw [List.length_nil, Nat.add_zero] at hsmall
        generalize Um.getAll len1 bs 0 [] = r at *
        obtain ⟨xs, pos, er⟩ := r
        dsimp only at hsx2 hsy hsmall
        dsimp only
        clear hsx hoy
        have Hsx := Lib.hid hsx2
        have Hsy := Lib.hid hsy
        have Hall2 := Lib.hid hall2
        have Hs02 := Lib.hid hs02
        have Hbw2 := Lib.hid hbw2
        have hz2 : wr.heap.size ≤ w2.heap.size := Nat.le_trans Hbx.out.size hby.size
        clear hsx2 hsy hall2 hs02 hbw2 hby Hbx Hbw Hall
        have c1 : ∀ W, Below w2.heap.size w2 W → (convert 22 9 (.slice A fl.length c)).run Try.prog W = .ok (.string (strOf fl)) W := fun W hW =>
          conv_sees Try.underlying22 Try.underlying5 Try.underlying9 _ c rfl (Hall2.out.below (hW.mono hz2))
        have C1 := Lib.hid c1
        clear c1
        go_wp2_with fail
        refine wp_region_plan (S := fun W => (convert 22 9 (.slice A fl.length c)).run Try.prog W = .ok (.string (strOf fl)) W) [(0, true), (3, true), (4, true), (1, false), (2, false), (5, true), (6, true), (7, true), (8, true), (9, false), (10, true), (11, true), (12, true), (13, true), (14, true), (15, true), (16, true), (17, true), (18, true), (19, true), (20, true), (21, true), (22, false), (23, true), (24, true)] (by kernel_rfl) (by kernel_rfl) rfl (by kernel_rfl) (fun _ _ _ _ _ h => h) (C1.out _ (Below.refl _ _).drew) ?_
        iterate 3
          refine along_take (v := ?_) rfl (by rfl) ?_ ?_
          rotate_left
          · intro W hW; go_simp; try with_reducible rfl
          simp only [Act.put, List.setIfInBounds_toArray, List.set_cons_zero, List.set_cons_succ]
        refine along_step rfl (fun K hK => ?_)
        go_simp
        refine (putall_any w2.heap.size base a0 l len0 cap0 _ Hl0.out (by omega) (Hs02.out.below (Below.refl _ _).drew) (Nat.le_trans hz hz2) (Nat.le_refl _) Hu.out).mono ?_
        rintro e w3 ⟨v3, rfl, ho3, hb3⟩
        rw [Hfl.out] at ho3
        have hb23 : Below w2.heap.size w2 w3 := ((Below.refl _ _).drew).trans hb3
        have hcv := conv_own (dst := 9) Try.underlying22 Try.underlying5 Try.underlying9 ho3
        refine hK.out _ _ (C1.out _ hb23) ?_
        clear hK K hb3 ho3
        refine along_step rfl (fun K hK => ?_)
        go_simp
        refine hK.out _ _ (C1.out _ hb23) ?_
        clear hK K hcv
        iterate 4
          refine along_take (v := ?_) rfl (by rfl) ?_ ?_
          rotate_left
          · intro W hW; go_simp; try with_reducible rfl
          simp only [Act.put, List.setIfInBounds_toArray, List.set_cons_zero, List.set_cons_succ]
        refine along_step rfl (fun K hK => ?_)
        go_simp
        refine (same_any xs _ rfl (by omega) w2.heap.size _ _ _ _ _ (Hsx.out.below hb23) (Hsy.out.below hb23)).mono ?_
        rintro e w4 ⟨rfl, q, rfl⟩
        have hb24 : Below w2.heap.size w2 (w3.drewN q) := below_drewN hb23 q
        refine hK.out _ _ (C1.out _ hb24) ?_
        clear hK K
        iterate 12
          refine along_take (v := ?_) rfl (by rfl) ?_ ?_
          rotate_left
          · intro W hW; go_simp; try with_reducible rfl
          simp only [Act.put, List.setIfInBounds_toArray, List.set_cons_zero, List.set_cons_succ]
        refine along_step rfl (fun K hK => ?_)
        go_simp
        refine (awake_any _).mono ?_
        rintro e w4 ⟨rfl, hb⟩
        have hb25 : Below w2.heap.size w2 w4 := hb24.trans (hb.mono hb24.size)
        refine hK.out _ _ (C1.out _ hb25) ?_
        clear hK K
        iterate 2
          refine along_take (v := ?_) rfl (by rfl) ?_ ?_
          rotate_left
          · intro W hW; go_simp; try with_reducible rfl
          simp only [Act.put, List.setIfInBounds_toArray, List.set_cons_zero, List.set_cons_succ]
        refine along_done ?_
        have HB := Lib.hid (Hbw2.out.trans (hb25.mono (Nat.le_trans hz hz2)))
        clear hb25 hb24 hb23 hb
        go_wp2_with fail
        go_ret
        exact ⟨rfl, HB.out⟩
end Go.Proofs.Ytphepdaaoglofaa
