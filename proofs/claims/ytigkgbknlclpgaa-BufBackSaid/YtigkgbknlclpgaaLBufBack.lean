/- The walk of the law BufBack: it answers true, and nothing that was there has turned. -/
import Derived.Test.YtigkgbknlclpgaaAwake6
import Derived.Test.YtigkgbknlclpgaaFrame
namespace Go.Proofs.Ytigkgbknlclpgaa
open Go.RowKit
set_option linter.unusedVariables false

theorem byte_cat {a b : List Nat} (ha : ∀ x ∈ a, x < 256) (hb : ∀ x ∈ b, x < 256) : ∀ x ∈ a ++ b, x < 256 := fun x hx => (List.mem_append.1 hx).elim (ha x) (hb x)
theorem put_byte (n : Nat) (h : n < 18446744073709551616) : ∀ x ∈ Um.put n, x < 256 := Um.enc_byte 9 n (Um.fits9 h)
theorem up_wrap (n : Nat) : IntKind.u64.wrap ((n : Int) * 256) = ((n * 256 % 18446744073709551616 : Nat) : Int) := by rw [IntKind.wrap_u64]; omega

set_option maxRecDepth 100000 in
set_option maxHeartbeats 800000 in
theorem bufBack_walk (n s : Int) (t u : ByteArray) (w : World) (wn : (Lit.int .u64 n).wf = true) (ws : (Lit.int .i64 s).wf = true) (wt : t.size ≤ 9223372036854775807) (wu : u.size ≤ 9223372036854775807) :
    Calls Try.prog 5 #[.int .u64 n, .int .i64 s, .string t, .string u] w fun e w' => e = .returned (.bool true) ∧ Below w.heap.size w w' := by
  obtain ⟨h0, h1⟩ := bounds_u64 wn
  obtain ⟨hs1, hs2⟩ := bounds_i64 ws
  clear wn ws
  obtain ⟨n, rfl⟩ := Int.eq_ofNat_of_zero_le h0
  have T := Txt.nums t
  have U := Txt.nums u
  have hsz := T.size
  have hsu := U.size
  by_cases h300 : 300 < t.size ∨ 300 < u.size ∨ s < 1 ∨ 8 < s
  · by_cases h301 : 300 < t.size
    · clear T U hsz hsu h300
      go_enter Try.func5, Try.ntmps5
      go_wp2_with fail
      refine (awake6_any _).mono ?_
      rintro e w1 ⟨rfl, hb⟩
      have HB := Lib.hid hb
      clear hb
      go_wp2_with fail
      go_ret
      exact ⟨rfl, HB.out⟩
    · by_cases h302 : 300 < u.size
      · clear T U hsz hsu h300
        go_enter Try.func5, Try.ntmps5
        go_wp2_with fail
        refine (awake6_any _).mono ?_
        rintro e w1 ⟨rfl, hb⟩
        have HB := Lib.hid hb
        clear hb
        go_wp2_with fail
        go_ret
        exact ⟨rfl, HB.out⟩
      · by_cases h303 : s < 1
        · clear T U hsz hsu h300
          go_enter Try.func5, Try.ntmps5
          go_wp2_with fail
          refine (awake6_any _).mono ?_
          rintro e w1 ⟨rfl, hb⟩
          have HB := Lib.hid hb
          clear hb
          go_wp2_with fail
          go_ret
          exact ⟨rfl, HB.out⟩
        · have h304 : 8 < s := by omega
          clear T U hsz hsu h300
          go_enter Try.func5, Try.ntmps5
          go_wp2_with fail
          refine (awake6_any _).mono ?_
          rintro e w1 ⟨rfl, hb⟩
          have HB := Lib.hid hb
          clear hb
          go_wp2_with fail
          go_ret
          exact ⟨rfl, HB.out⟩
  · have h301 : ¬ 300 < t.size := by omega
    have h302 : ¬ 300 < u.size := by omega
    obtain ⟨k, rfl⟩ : ∃ k : Nat, s = (k : Int) := ⟨s.toNat, by omega⟩
    have hk1 : 1 ≤ k := by omega
    have hk8 : k ≤ 8 := by omega
    clear h300 hs1 hs2 h0
    have hn : n < 18446744073709551616 := by omega
    obtain ⟨a, Ha⟩ : ∃ a, Hid (nums t = a) := ⟨_, rfl⟩
    obtain ⟨b, Hb⟩ : ∃ b, Hid (nums u = b) := ⟨_, rfl⟩
    rw [Ha.out] at T hsz
    rw [Hb.out] at U hsu
    have pa10 : (Um.put a.length).length ≤ 10 := Um.enc_le 9 _
    have pb10 : (Um.put b.length).length ≤ 10 := Um.enc_le 9 _
    obtain ⟨X, HX⟩ : ∃ X, Hid (Um.put b.length ++ b = X) := ⟨_, rfl⟩
    obtain ⟨Y, HY⟩ : ∃ Y, Hid (Bm.fix k n ++ X = Y) := ⟨_, rfl⟩
    have hX : X.length ≤ 310 := by rw [← HX.out, List.length_append]; omega
    have hY : Y.length ≤ 318 := by rw [← HY.out, List.length_append, Bm.fix_length]; omega
    have R1 : Hid (Bm.text (Um.put a.length ++ a ++ Y) 0 (a.length : Int) = (a, Y, 0)) := Bm.text_put a Y (by omega) (by omega)
    have R2 : Hid (Bm.rfix Y 0 (k : Int) = (n % 256 ^ k, X, 0)) := by rw [← HY.out]; exact Bm.rfix_put n k X hk1 hk8
    obtain ⟨M0, HM0⟩ : ∃ M0, Hid (n % 256 ^ k = M0) := ⟨_, rfl⟩
    have hM0 : M0 < 18446744073709551616 := by rw [← HM0.out]; exact Nat.lt_of_le_of_lt (Nat.mod_le _ _) hn
    rw [HM0.out] at R2
    have R3 : Hid (Bm.text X 0 300 = (b, [], 0)) := by
      have := Bm.text_put (most := 300) b [] (by omega) (by omega)
      rw [List.append_nil, HX.out] at this
      exact this
    have hbytes : ∀ x ∈ Um.put a.length ++ a ++ Y, x < 256 := by
      rw [← HY.out, ← HX.out]
      exact byte_cat (byte_cat (put_byte _ (by omega)) T.byte) (byte_cat (Bm.fix_byte k n) (byte_cat (put_byte _ (by omega)) U.byte))
    have hlong : (Um.put a.length ++ a ++ Y).length ≤ 1000 := by simp only [List.length_append]; omega
    have ha3 : a.length ≤ 300 := by omega
    have hb3 : b.length ≤ 300 := by omega
    have hza : t.size = a.length := hsz
    have hzb : u.size = b.length := hsu
    have HA := Lib.hid hbytes
    have HT := Lib.hid T
    have HU := Lib.hid U
    have Hst := Lib.hid (T.str)
    have Hsu := Lib.hid (U.str)
    clear hbytes hsu hsz h301 h302 wt wu T U
    go_enter Try.func5, Try.ntmps5
    go_wp2_with fail
    refine (text_any w.heap.size _ [] HT.out (by omega) _ (World.ownsRow_nil _ _ 5 1) (Nat.le_refl _) (by simp)).mono ?_
    rintro e w1 ⟨v1, rfl, ho1, hb1⟩
    rw [List.nil_append] at ho1
    have Ho1 := Lib.hid ho1
    have HB1 := Lib.hid hb1
    clear ho1 hb1
    go_wp2_with fail
    refine (fix_any w.heap.size _ _ n k _ hn (by omega) (by omega) Ho1.out HB1.out.size (by simp only [List.length_append]; omega)).mono ?_
    rintro e w2 ⟨v2, rfl, ho2, hb2⟩
    rw [Bm.fixI_good hk1 hk8] at ho2
    have Ho2 := Lib.hid ho2
    have HB2 := Lib.hid (HB1.out.trans hb2)
    clear ho2 hb2
    go_wp2_with fail
    refine (text_any w.heap.size _ _ HU.out (by omega) _ Ho2.out HB2.out.size (by simp only [List.length_append, Bm.fix_length]; omega)).mono ?_
    rintro e w3 ⟨v3, rfl, ho3, hb3⟩
    rw [HX.out, List.append_assoc (Um.put a.length ++ a), HY.out] at ho3
    obtain ⟨A, c, rfl⟩ := own_shape ho3
    have HP : Hid (Piece w3 w3.heap.size (.slice A (Um.put a.length ++ a ++ Y).length c) (Um.put a.length ++ a ++ Y)) := by
      refine ⟨A, c, rfl, Sees.of_own ho3, own_nil ho3, ?_⟩
      rcases ho3.2 with ⟨hv, h0⟩ | ⟨g, cap, cur, hv, _, _, hnc, hm, _, _⟩
      · injection hv with _ _ hc
        rw [h0, hc]
        exact ⟨Nat.le_refl _, by unfold maxLen; omega⟩
      · injection hv with _ _ hc
        rw [hc]
        exact ⟨hnc, hm⟩
    have HB3 := Lib.hid (HB2.out.trans hb3)
    clear ho3 hb3
    obtain ⟨Z, HZ⟩ : ∃ Z, Hid (Um.put a.length ++ a ++ Y = Z) := ⟨_, rfl⟩
    rw [HZ.out] at HP HA R1 hlong
    obtain ⟨z, Hz⟩ : ∃ z, Hid ((Um.put a.length ++ a ++ Y).length = z) := ⟨_, rfl⟩
    rw [Hz.out]
    rw [HZ.out] at Hz
    rw [Hz.out] at HP
    go_wp2_with fail
    refine (open_any HP.out (by omega) HA.out).mono ?_
    rintro e w4 ⟨g, rfl, hg, hr, hb⟩
    have hg' : w.heap.size ≤ g := Nat.le_trans HB3.out.size hg
    have HR4 := Lib.hid hr
    have HB4 := Lib.hid (below_sum HB3.out hb (Nat.le_refl _))
    clear hr hb hg
    go_wp2_with fail
    refine (rtext_any (a.length : Int) (by omega) (by omega) HR4.out).mono ?_
    rintro e w5 ⟨rfl, hr, ho⟩
    rw [R1.out] at hr ⊢
    have HR5 := Lib.hid hr
    have HB5 := Lib.hid (HB4.out.trans (ho.below hg' HB4.out.size))
    clear hr ho
    dsimp only
    go_wp2_with fail
    refine (rfix_any (k : Int) (by omega) (by omega) HR5.out).mono ?_
    rintro e w6 ⟨rfl, hr, ho⟩
    dsimp only at hr ⊢
    rw [R2.out] at hr ⊢
    have HR6 := Lib.hid hr
    have HB6 := Lib.hid (HB5.out.trans (ho.below hg' HB5.out.size))
    clear hr ho
    dsimp only
    go_wp2_with fail
    refine (rtext_any 300 (by omega) (by omega) HR6.out).mono ?_
    rintro e w7 ⟨rfl, hr, ho⟩
    dsimp only at hr ⊢
    rw [R3.out] at hr ⊢
    have HR7 := Lib.hid hr
    have HB7 := Lib.hid (HB6.out.trans (ho.below hg' HB6.out.size))
    clear hr ho
    dsimp only
    go_wp2_with fail
    go_loop [0, 11, 13] (fun x y i => ∃ (N M j : Nat), i = .int .i64 j ∧ j ≤ 8 ∧ x = .int .u64 N ∧ y = .int .u64 M ∧ N < 18446744073709551616 ∧ M < 18446744073709551616 ∧ Hid (N % 256 ^ j = M % 256 ^ j)) (fun _ _ i => 8 - (intOf i).toNat)
    case atStart => exact ⟨n, M0, k, rfl, hk8, rfl, rfl, hn, hM0, by rw [← HM0.out]; exact (Nat.mod_mod _ _).symm⟩
    case round =>
      obtain ⟨N, M, j, rfl, hj, rfl, rfl, hN, hM, HE⟩ := hrel
      by_cases hlt : j < 8
      · have E1 := up_wrap N
        have E2 := up_wrap M
        have HE' := Lib.hid (Bm.move_up (by omega) HE.out)
        have hN' : N * 256 % 18446744073709551616 < 18446744073709551616 := Nat.mod_lt _ (by decide)
        have hM' : M * 256 % 18446744073709551616 < 18446744073709551616 := Nat.mod_lt _ (by decide)
        obtain ⟨N', HN'⟩ : ∃ N', Hid (N * 256 % 18446744073709551616 = N') := ⟨_, rfl⟩
        obtain ⟨M', HM'⟩ : ∃ M', Hid (M * 256 % 18446744073709551616 = M') := ⟨_, rfl⟩
        rw [HN'.out] at E1 hN' HE'
        rw [HM'.out] at E2 hM' HE'
        go_wp2_with fail
        go_round
        case rel => exact ⟨N', M', j + 1, by go_num, by omega, rfl, rfl, hN', hM', HE'⟩
        case measure => simp [intOf]; omega
      · have hNM : N = M := by
          have h := HE.out
          rw [show j = 8 by omega, Nat.mod_eq_of_lt (by omega), Nat.mod_eq_of_lt (by omega)] at h
          exact h
        subst hNM
        rw [← Hst.out, ← Hsu.out]
        go_wp2_with fail
        refine (rend_any HR7.out).mono ?_
        rintro e w8 ⟨rfl, rfl⟩
        rw [show Bm.fin (b, ([] : List Nat), (0 : Int)).2.1 (b, ([] : List Nat), (0 : Int)).2.2 = 0 by rfl]
        go_wp2_with fail
        refine (awake6_any _).mono ?_
        rintro e w9 ⟨rfl, hb9⟩
        have HB9 := Lib.hid (HB7.out.trans (hb9.mono HB7.out.size))
        clear hb9
        go_wp2_with fail
        go_ret
        exact ⟨rfl, HB9.out⟩
end Go.Proofs.Ytigkgbknlclpgaa
