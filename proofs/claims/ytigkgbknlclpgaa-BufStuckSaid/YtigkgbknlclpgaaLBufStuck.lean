/- The walk of the law BufStuck: it answers true, and nothing that was there has turned. -/
import Derived.Test.YtigkgbknlclpgaaOne
import Derived.Test.YtigkgbknlclpgaaTrip
namespace Go.Proofs.Ytigkgbknlclpgaa
open Go.RowKit
set_option linter.unusedVariables false

set_option maxRecDepth 100000 in
set_option maxHeartbeats 1000000 in
theorem bufStuck_walk (a : Option Addr) (len cap : Nat) (l : List Nat) (a2 : Option Addr) (len2 cap2 : Nat) (ds : List (Int × Int × Int)) (w : World) (h : Row .u8 w a len cap l) (hd : Trip .i64 .i64 .u64 w a2 len2 cap2 ds) :
    Calls Try.prog 6 #[.slice a len cap, .slice a2 len2 cap2] w fun e w' => e = .returned (.bool true) ∧ Below w.heap.size w w' := by
  have hbyte := h.byte
  obtain ⟨hl, hs, _, hle, hm, hnull⟩ := h
  have hle2 := hd.le
  have hm2 := hd.max
  unfold maxLen at hm hm2
  have hlen : len ≤ 9223372036854775807 := by omega
  have hlen2 : len2 ≤ 9223372036854775807 := by omega
  by_cases h300 : 300 < len
  · clear hd
    go_enter Try.func6, Try.ntmps6
    go_wp2_with fail
    refine (awake6_any _).mono ?_
    rintro e w1 ⟨rfl, hb⟩
    have HB := Lib.hid hb
    clear hb
    go_wp2_with fail
    go_ret
    exact ⟨rfl, HB.out⟩
  by_cases h30 : 30 < len2
  · clear hd
    go_enter Try.func6, Try.ntmps6
    go_wp2_with fail
    refine (awake6_any _).mono ?_
    rintro e w1 ⟨rfl, hb⟩
    have HB := Lib.hid hb
    clear hb
    go_wp2_with fail
    go_ret
    exact ⟨rfl, HB.out⟩
  have Hl := Lib.hid hl
  have Hs := Lib.hid hs
  have Hb := Lib.hid hbyte
  have HT := Lib.hid hd
  have Hnull := Lib.hid hnull
  clear hl hs hbyte hd hnull
  have HP : Hid (Piece w w.heap.size (.slice a len cap) l) := ⟨a, cap, by rw [Hl.out], Hs.out, Hnull.out, by rw [Hl.out]; exact hle, by unfold maxLen; omega⟩
  go_enter Try.func6, Try.ntmps6
  go_wp2_with fail
  refine (open_any HP.out (by rw [Hl.out]; omega) Hb.out).mono ?_
  rintro e w3 ⟨g, rfl, hg, hr, hb⟩
  have hgw : w.heap.size ≤ g := hg
  have HR3 := Lib.hid hr
  have HB3 := Lib.hid hb
  clear hr hb hg
  go_wp2_with fail
  have hlt3 := HR3.out.lt
  have hAl : Below w3.heap.size w3 (w3.alloc (.cells #[.slice none 0 0, .int .i64 0, .int .i64 0] 36)) := (Below.refl _ _).alloc (Nat.le_refl _) _
  have HC0 : Hid (Cu (w3.alloc (.cells #[.slice none 0 0, .int .i64 0, .int .i64 0] 36)) w.heap.size w3.heap.size [] 0) :=
    ⟨none, 0, [], 0, ⟨Whole.made _ _ _, fun h => absurd h (by simp), HB3.out.size, by simp, by simp, by unfold maxLen; omega, fun _ => rfl, by simp, Nat.zero_le _⟩, rfl⟩
  have HR0 := Lib.hid (HR3.out.below hAl hlt3)
  have HB0 := Lib.hid (HB3.out.trans (hAl.mono HB3.out.size))
  have hgh : g < w3.heap.size := hlt3
  clear hAl
  obtain ⟨h, Hh⟩ : ∃ h, Hid (w3.heap.size = h) := ⟨_, rfl⟩
  obtain ⟨w4, Hw4⟩ : ∃ w4, Hid (w3.alloc (.cells #[.slice none 0 0, .int .i64 0, .int .i64 0] 36) = w4) := ⟨_, rfl⟩
  rw [Hh.out] at hgh HC0 ⊢
  rw [Hw4.out] at HC0 HR0 HB0 ⊢
  have hhw : w.heap.size ≤ h := by omega
  have hhg : h ≠ g := by omega
  clear hlt3 HR3 HB3 HP hle hm hlen
  go_loopw [7, 8] (fun m i wr => ∃ (j : Nat) (l' : List Nat) (e' : Int) (l2 : List Nat) (e2 : Int), m = .int .i64 e' ∧ i = .int .i64 j ∧ j ≤ len2 ∧ l'.length ≤ 300 ∧ Hid (Rd wr g l' e') ∧ Hid (Cu wr w.heap.size h l2 e2) ∧ Hid (Below w.heap.size w wr)) (fun _ i _ => len2 - (intOf i).toNat)
  case atStart => exact ⟨0, l, 0, [], 0, rfl, rfl, by omega, by rw [Hl.out]; omega, HR0, HC0, HB0⟩
  case round =>
    obtain ⟨j, l', e', l2, e2, rfl, rfl, hj, hl', HR, HC, HB⟩ := hrel
    by_cases hlt : j < len2
    · obtain ⟨b, off, rfl, hbw, t0, t1, t2⟩ := HT.out.at_ HB.out hlt
      obtain ⟨o0, o1, o2⟩ := HT.out.ok hlt
      obtain ⟨k, Hk⟩ : ∃ k, Hid ((ds.getD j (0, 0, 0)).1 = k) := ⟨_, rfl⟩
      obtain ⟨N, HN⟩ : ∃ N, Hid ((ds.getD j (0, 0, 0)).2.1 = N) := ⟨_, rfl⟩
      obtain ⟨U, HU⟩ : ∃ U, Hid ((ds.getD j (0, 0, 0)).2.2 = U) := ⟨_, rfl⟩
      rw [Hk.out] at t0 o0
      rw [HN.out] at t1 o1
      rw [HU.out] at t2 o2
      obtain ⟨n1, n2⟩ := bounds_i64 o1
      obtain ⟨u1, u2⟩ := bounds_u64 o2
      clear o0 o1 o2
      obtain ⟨U, rfl⟩ := Int.eq_ofNat_of_zero_le u1
      have hU : U < 18446744073709551616 := by omega
      clear u1 u2
      have S1 : Hid (∀ W, Below w.heap.size wr W → W.cell? ⟨b, off + j * 3, none⟩ = some (.int .i64 k) ∧ W.cell? ⟨b, off + j * 3 + 1, none⟩ = some (.int .i64 N) ∧ W.cell? ⟨b, off + j * 3 + 2, none⟩ = some (.int .u64 (U : Int))) := fun W hW => by
        exact ⟨by rw [hW.cell (p := ⟨b, off + j * 3, none⟩) hbw]; exact t0, by rw [hW.cell (p := ⟨b, off + j * 3 + 1, none⟩) hbw]; exact t1, by rw [hW.cell (p := ⟨b, off + j * 3 + 2, none⟩) hbw]; exact t2⟩
      by_cases he : e' = 0
      · subst he
        have HR1 := HR
        have HC1 := HC
        have HB1 := HB
        go_wp2_with fail
        refine (one_any k N U n1 n2 hU HR1.out HC1.out hgh hgw (by omega)).mono ?_
        rintro en w5 ⟨r, rfl, -, hrd, hcu, hbt⟩
        have HR5 := Lib.hid hrd
        have HC5 := Lib.hid hcu
        have HB5 := Lib.hid (HB1.out.trans (hbt.below hgw hhw HB1.out.size))
        obtain ⟨e6, He6⟩ : ∃ e6, Hid ((Bm.next k N U l' 0).2 = e6) := ⟨_, rfl⟩
        obtain ⟨l6, Hl6⟩ : ∃ l6, Hid ((Bm.next k N U l' 0).1 = l6) := ⟨_, rfl⟩
        have hl6 : l6.length ≤ 300 := by rw [← Hl6.out]; exact Nat.le_trans (Bm.next_small _ _ _ _ _) hl'
        rw [He6.out, Hl6.out] at HR5
        clear hrd hcu hbt t0 t1 t2
        go_wp2_with fail
        refine (rerr_any HR5.out).mono ?_
        rintro en w6 ⟨rfl, rfl⟩
        go_wp2_with fail
        go_roundw
        case rel => exact ⟨j + 1, l6, e6, _, _, rfl, by go_num, by omega, hl6, HR5, HC5, HB5⟩
        case measure => simp [intOf]; omega
      · have hne : (e' != 0) = true := by simpa using he
        clear t0 t1 t2
        go_wp2_with fail
        refine (rerr_any HR.out).mono ?_
        rintro en w1 ⟨rfl, rfl⟩
        go_wp2_with fail
        refine (rleft_any HR.out).mono ?_
        rintro en w1 ⟨rfl, rfl⟩
        rw [Bm.left_err he]
        go_wp2_with fail
        refine (rfix_any 1 (by omega) (by omega) HR.out).mono ?_
        rintro en w1 ⟨rfl, hr, ho⟩
        rw [Bm.rfix_err he] at hr ⊢
        have HRa := Lib.hid hr
        have HOa := Lib.hid ho
        clear hr ho
        dsimp only at HRa ⊢
        go_wp2_with fail
        refine (ruvar_any 9 (by omega) HRa.out).mono ?_
        rintro en w2 ⟨rfl, hr, ho⟩
        rw [Bm.uvar_err he] at hr ⊢
        have HRb := Lib.hid hr
        have HOb := Lib.hid (HOa.out.trans ho)
        clear hr ho
        dsimp only at HRb ⊢
        go_wp2_with fail
        refine (rflag_any HRb.out).mono ?_
        rintro en w3 ⟨rfl, hr, ho⟩
        rw [Bm.flag_err he] at hr ⊢
        have HRc := Lib.hid hr
        have HOc := Lib.hid (HOb.out.trans ho)
        clear hr ho
        dsimp only at HRc ⊢
        go_wp2_with fail
        refine (rtake_any 0 (by omega) (by omega) (by omega) HRc.out).mono ?_
        rintro en w4 ⟨v4, rfl, hv, hr, ho⟩
        rw [Bm.take_err he] at hr hv
        obtain ⟨A4, c4, rfl⟩ := own_shape hv
        have HRd := Lib.hid hr
        have HOd := Lib.hid (HOc.out.trans ho)
        clear hr ho hv
        dsimp only at HRd ⊢
        go_wp2_with fail
        refine (rtext_any 9 (by omega) (by omega) HRd.out).mono ?_
        rintro en wa ⟨rfl, hr, ho⟩
        rw [Bm.text_err he] at hr ⊢
        have HR1 := Lib.hid hr
        have HO1 := Lib.hid (HOd.out.trans ho)
        clear hr ho
        dsimp only at HR1 ⊢
        rw [show strOf [] = ⟨#[]⟩ by rfl]
        have HC1 := Lib.hid (HC.out.only HO1.out hgw hhg)
        have hBa : Below w.heap.size wr wa := HO1.out.below hgw HB.out.size
        have HB1 := Lib.hid (HB.out.trans hBa)
        obtain ⟨t0, t1, t2⟩ := S1.out _ hBa
        clear hBa
        go_wp2_with fail
        refine (one_any k N U n1 n2 hU HR1.out HC1.out hgh hgw (by omega)).mono ?_
        rintro en w5 ⟨r, rfl, -, hrd, hcu, hbt⟩
        have HR5 := Lib.hid hrd
        have HC5 := Lib.hid hcu
        have HB5 := Lib.hid (HB1.out.trans (hbt.below hgw hhw HB1.out.size))
        obtain ⟨e6, He6⟩ : ∃ e6, Hid ((Bm.next k N U l' e').2 = e6) := ⟨_, rfl⟩
        obtain ⟨l6, Hl6⟩ : ∃ l6, Hid ((Bm.next k N U l' e').1 = l6) := ⟨_, rfl⟩
        have hl6 : l6.length ≤ 300 := by rw [← Hl6.out]; exact Nat.le_trans (Bm.next_small _ _ _ _ _) hl'
        rw [He6.out, Hl6.out] at HR5
        clear hrd hcu hbt t0 t1 t2
        go_wp2_with fail
        refine (rerr_any HR5.out).mono ?_
        rintro en w6 ⟨rfl, rfl⟩
        go_wp2_with fail
        go_roundw
        case rel => exact ⟨j + 1, l6, e6, _, _, rfl, by go_num, by omega, hl6, HR5, HC5, HB5⟩
        case measure => simp [intOf]; omega
    · go_wp2_with fail
      refine (awake6_any _).mono ?_
      rintro e w6 ⟨rfl, hb6⟩
      have HB6 := Lib.hid (HB.out.trans (hb6.mono HB.out.size))
      clear hb6
      go_wp2_with fail
      go_ret
      exact ⟨rfl, HB6.out⟩
end Go.Proofs.Ytigkgbknlclpgaa
