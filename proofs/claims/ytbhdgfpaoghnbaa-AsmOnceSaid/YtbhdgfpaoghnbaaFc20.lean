/- The contracts of package seen. -/
import Derived.Test.YtbhdgfpaoghnbaaRsn20
import Derived.Test.YtbhdgfpaoghnbaaPM
import Derived.Deep.CutRange
namespace Go.Proofs.Ytbhdgfpaoghnbaa
open Go.RowKit
set_option linter.unusedVariables false
set_option maxRecDepth 100000
set_option linter.unusedSimpArgs false

set_option maxHeartbeats 1000000 in
theorem deliv20_any {w : World} {v : Bool} {e t b : Nat} (hb : b < 18446744073709551616) :
    Calls Try.prog 34 #[.agg #[.bool v, .int .u32 (e : Int), .int .u32 (t : Int), .int .u64 (b : Int)]] w fun x w' => x = .returned (.int .u64 ((b ||| 1 : Nat) : Int)) ∧ Below w.heap.size w w' := by
  obtain ⟨g, w1, hg, hal, hsz, hx, hb1⟩ := boxedS w v e t b
  have HB1 : Hid (Below w.heap.size w w1) := Lib.hid hb1
  obtain ⟨c0, c1, c2, c3⟩ := cellsS hx
  clear hx hb1 hsz
  have H1 := Lib.hid (u64_or_nat b 1 hb (by decide))
  go_enter Try.func34, Try.ntmps34
  go_wp2_with fail
  go_ret
  exact ⟨by rw [← H1.out]; rfl, HB1.out⟩
set_option maxHeartbeats 1000000 in
theorem begins20_any {w : World} {v : Bool} {e t b E : Nat} :
    Calls Try.prog 33 #[.agg #[.bool v, .int .u32 (e : Int), .int .u32 (t : Int), .int .u64 (b : Int)], .int .u32 (E : Int)] w fun x w' => x = .returned (.bool (decide (v = false ∨ e < E))) ∧ Below w.heap.size w w' := by
  obtain ⟨g, w1, hg, hal, hsz, hx, hb1⟩ := boxedS w v e t b
  have HB1 : Hid (Below w.heap.size w w1) := Lib.hid hb1
  obtain ⟨c0, c1, c2, c3⟩ := cellsS hx
  clear hx hb1 hsz
  cases v
  · go_enter Try.func33, Try.ntmps33
    go_wp2_with fail
    go_ret
    exact ⟨ret_bool (by simp), HB1.out⟩
  · go_enter Try.func33, Try.ntmps33
    go_wp2_with fail
    go_ret
    exact ⟨ret_bool (by simp), HB1.out⟩
/-- the test of a bit of what was delivered -/
theorem tbit20 {e b t i : Nat} (hb : b < 18446744073709551616) (hit : ¬ t < i) (h3 : ¬ 64 ≤ t - i) : (bits .and .u64 (((b ||| 1 : Nat) : Int) / 2 ^ (t - i)) 1 == 1) = Sn.bit ⟨true, e, t, b⟩ i := by
  have h1 : b ||| 1 < 18446744073709551616 := Nat.or_lt_two_pow (n := 64) hb (by decide)
  have h2 : (b ||| 1) / 2 ^ (t - i) < 18446744073709551616 := Nat.lt_of_le_of_lt (Nat.div_le_self _ _) h1
  have h4 : ((b ||| 1 : Nat) : Int) / 2 ^ (t - i) = (((b ||| 1) / 2 ^ (t - i) : Nat) : Int) := by rw [Int.natCast_ediv, Int.natCast_pow]; rfl
  have h5 := u64_and_nat ((b ||| 1) / 2 ^ (t - i)) 1 h2 (by decide)
  rw [h4, show (1 : Int) = ((1 : Nat) : Int) from rfl, h5, Nat.and_one_is_mod]
  have h6 : (b ||| 1).testBit (t - i) = Sn.bit ⟨true, e, t, b⟩ i := by
    unfold Sn.bit
    have one : Nat.testBit 1 (t - i) = (i == t) := by
      have := Nat.testBit_two_pow (n := 0) (m := t - i)
      simp only [Nat.pow_zero] at this
      rw [this, Bool.eq_iff_iff]
      simp; omega
    rw [Nat.testBit_or, one, Bool.or_comm]
  rw [← h6, Nat.testBit_eq_decide_div_mod_eq]
  by_cases h : (b ||| 1) / 2 ^ (t - i) % 2 = 1
  · rw [decide_eq_true h, h]; rfl
  · rw [decide_eq_false h, beq_eq_false_iff_ne]; omega
set_option maxHeartbeats 1000000 in
theorem cfresh20_any {w : World} {v : Bool} {e t b E i : Nat} (he : e < 4294967296) (ht : t < 4294967296) (hb : b < 18446744073709551616) (hE : E < 4294967296) (hi : i < 4294967296) :
    Calls Try.prog 17 #[.agg #[.bool v, .int .u32 (e : Int), .int .u32 (t : Int), .int .u64 (b : Int)], .int .u32 (E : Int), .int .u32 (i : Int)] w fun x w' => x = .returned (.int .i64 ((Sn.fresh ⟨v, e, t, b⟩ E i : Nat) : Int)) ∧ Below w.heap.size w w' := by
  obtain ⟨g, w1, hg, hal, hsz, hx, hb1⟩ := boxedS w v e t b
  have HB1 : Hid (Below w.heap.size w w1) := Lib.hid hb1
  have HX := Lib.hid (fun W (hW : Below w1.heap.size w1 W) => (hx.below hW (by omega) : Whole W g 51 #[.bool v, .int .u32 (e : Int), .int .u32 (t : Int), .int .u64 (b : Int)]))
  obtain ⟨c0, c1, c2, c3⟩ := cellsS hx
  clear hx hb1 hsz
  obtain ⟨R, hR⟩ : ∃ R, Hid (Sn.fresh ⟨v, e, t, b⟩ E i = R) := ⟨_, Lib.hid rfl⟩
  rw [hR.out]
  go_enter Try.func17, Try.ntmps17
  go_wp2_with fail
  refine begins20_any.mono ?_
  rintro x w2 ⟨rfl, hb2⟩
  have HB2 := Lib.hid (HB1.out.trans (hb2.mono HB1.out.size))
  have HX2 := Lib.hid (HX.out w2 hb2)
  clear c0 c1 c2 c3 hb2 HX hg hal
  obtain ⟨c0, c1, c2, c3⟩ := cellsS HX2.out
  by_cases h1 : v = false ∨ e < E
  · rw [decide_eq_true h1]
    have HF : Hid (R = 0) := Lib.hid (by rw [← hR.out]; rcases h1 with h1 | h1; exact Sn.fresh_none h1; exact Sn.fresh_later h1)
    clear h1
    go_wp2_with fail
    go_ret
    exact ⟨by rw [HF.out]; rfl, HB2.out⟩
  · rw [decide_eq_false h1]
    obtain rfl : v = true := by cases v <;> simp_all
    have h1' : ¬ e < E := fun h => h1 (.inr h)
    clear h1
    by_cases h2 : E < e
    · have HF : Hid (R = 11) := Lib.hid (by rw [← hR.out, Sn.fresh_old (s := ⟨true, e, t, b⟩) rfl h2])
      go_wp2_with fail
      go_ret
      exact ⟨by rw [HF.out]; rfl, HB2.out⟩
    · obtain rfl : e = E := by omega
      by_cases h3 : t < i
      · have HF : Hid (R = 0) := Lib.hid (by rw [← hR.out, Sn.fresh_above (s := ⟨true, e, t, b⟩) h3])
        go_wp2_with fail
        go_ret
        exact ⟨by rw [HF.out]; rfl, HB2.out⟩
      · have hsub : ((t : Int) - (i : Int)) % 4294967296 = ((t - i : Nat) : Int) := by omega
        obtain ⟨d, Hd⟩ : ∃ d, Hid (t - i = d) := ⟨_, Lib.hid rfl⟩
        rw [Hd.out] at hsub
        have DL := Lib.hid (fun W => deliv20_any (w := W) (v := true) (e := e) (t := t) hb)
        have HX3 := Lib.hid (fun W (hW : Below w2.heap.size w2 W) => (HX2.out.below hW HX2.out.lt : Whole W g 51 #[.bool true, .int .u32 (e : Int), .int .u32 (t : Int), .int .u64 (b : Int)]))
        by_cases h4 : 64 ≤ d
        · have HF : Hid (R = 11) := Lib.hid (by rw [← hR.out, Sn.fresh_out (s := ⟨true, e, t, b⟩) rfl (by rw [Hd.out]; exact h4)])
          go_wp2_with fail
          go_ret
          exact ⟨by rw [HF.out]; rfl, HB2.out⟩
        · have h4i : (t : Int) - (i : Int) < 64 := by have := Hd.out; omega
          have hsub2 : IntKind.u32.wrap ((t : Int) - (i : Int)) = (d : Int) := hsub
          have HS3 : Hid (Below w2.heap.size w2 w2.drew) := Lib.hid (Below.refl _ _).drew
          clear HX2
          have HX2 := HX3
          clear HX3
          obtain ⟨ob, hob⟩ : ∃ ob, Hid ((b ||| 1 : Nat) = ob) := ⟨_, Lib.hid rfl⟩
          rw [hob.out] at DL
          go_upto_region 9 with fail
          refine wp_region_plan (S := fun W => Below w2.heap.size w2 W) [(0, true), (2, true), (3, true), (4, true), (5, true), (1, false), (6, true), (7, true), (8, true), (9, true)] (by kernel_rfl) (by kernel_rfl) rfl (by kernel_rfl) (fun _ _ _ _ _ h => h) (Below.refl _ _).drew ?_
          iterate 5
            refine along_take (v := ?_) rfl (by rfl) ?_ ?_
            rotate_left
            · intro W hW; obtain ⟨c0, c1, c2, c3⟩ := cellsS (HX2.out W hW); clear hW; go_simp; try with_reducible rfl
            simp only [Act.put, List.setIfInBounds_toArray, List.set_cons_zero, List.set_cons_succ]
          refine along_step rfl (fun K hK => ?_)
          go_simp
          refine (DL.out _).mono ?_
          rintro e1 w4 ⟨rfl, hb⟩
          have HS4 : Hid (Below w2.heap.size w2 w4) := Lib.hid (HS3.out.trans (hb.mono HS3.out.size))
          refine hK.out _ _ HS4.out ?_
          clear hK K hb
          try simp only [Act.put, List.setIfInBounds_toArray, List.set_cons_zero, List.set_cons_succ]
          iterate 4
            refine along_take (v := ?_) rfl (by rfl) ?_ ?_
            rotate_left
            · intro W hW; obtain ⟨c0, c1, c2, c3⟩ := cellsS (HX2.out W hW); clear hW; go_simp; try with_reducible rfl
            simp only [Act.put, List.setIfInBounds_toArray, List.set_cons_zero, List.set_cons_succ]
          refine along_done ?_
          have HB4 : Hid (Below w.heap.size w w4) := Lib.hid (HB2.out.trans (HS4.out.mono HB2.out.size))
          have hq := Lib.hid (tbit20 (e := e) hb h3 (by rw [Hd.out]; exact h4))
          rw [hob.out, Hd.out] at hq
          obtain ⟨bb, Hbb⟩ : ∃ bb, Hid (Sn.bit ⟨true, e, t, b⟩ i = bb) := ⟨_, Lib.hid rfl⟩
          rw [Hbb.out] at hq
          have hbits := hq.out
          have HF : Hid (R = if bb = true then 12 else 0) := Lib.hid (by
            rw [← hR.out]
            cases bb with
            | true => exact Sn.fresh_twice (s := ⟨true, e, t, b⟩) rfl h3 (by rw [Hd.out]; exact h4) Hbb.out
            | false => exact Sn.fresh_gap (s := ⟨true, e, t, b⟩) Hbb.out h3 (by rw [Hd.out]; exact h4))
          cases bb
          · go_wp2_with fail
            go_ret
            exact ⟨by rw [HF.out]; rfl, HB4.out⟩
          · go_wp2_with fail
            go_ret
            exact ⟨by rw [HF.out]; rfl, HB4.out⟩
theorem mod_pow20 (x d : Nat) (h : 64 ≤ d) : x * 2 ^ d % 2 ^ 64 = 0 := by
  obtain ⟨k, rfl⟩ : ∃ k, d = 64 + k := ⟨d - 64, by omega⟩
  rw [Nat.pow_add, ← Nat.mul_assoc, Nat.mul_comm x, Nat.mul_assoc, Nat.mul_mod_right]
theorem up20 {b : Nat} (hb : b < 18446744073709551616) (d : Nat) : bits .or .u64 (IntKind.u64.wrap (((b ||| 1 : Nat) : Int) * 2 ^ min d 64)) 1 = ((Sn.up b d : Nat) : Int) := by
  have h1 : IntKind.u64.wrap (((b ||| 1 : Nat) : Int) * 2 ^ min d 64) = (((b ||| 1) * 2 ^ min d 64 % 2 ^ 64 : Nat) : Int) := by
    rw [IntKind.wrap_u64, Int.natCast_emod, Int.natCast_mul, Int.natCast_pow]
    rfl
  have h2 : (b ||| 1) * 2 ^ min d 64 % 2 ^ 64 = (b ||| 1) * 2 ^ d % 2 ^ 64 := by
    rcases Nat.lt_or_ge d 64 with h | h
    · rw [Nat.min_eq_left (by omega)]
    · rw [Nat.min_eq_right h, mod_pow20 _ _ h, mod_pow20 _ _ (Nat.le_refl _)]
  rw [h1, h2, show (1 : Int) = ((1 : Nat) : Int) from rfl, u64_or_nat _ 1 (Nat.mod_lt _ (by decide)) (by decide)]
  congr 1
  unfold Sn.up
  rw [show (18446744073709551616 : Nat) = 2 ^ 64 by decide, Nat.or_mod_two_pow, Nat.shiftLeft_eq]
theorem gap20 {b d : Nat} (hb : b < 18446744073709551616) (hd : d < 64) : bits .or .u64 (b : Int) (IntKind.u64.wrap (2 ^ min d 64)) = ((b ||| 2 ^ d : Nat) : Int) := by
  have h0 : 2 ^ d < 18446744073709551616 := Nat.lt_of_lt_of_le (Nat.pow_lt_pow_right (by omega) hd : 2 ^ d < 2 ^ 64) (by decide)
  have h1 : IntKind.u64.wrap (2 ^ min d 64) = ((2 ^ d : Nat) : Int) := by
    rw [Nat.min_eq_left (by omega), show ((2 : Int) ^ d) = ((2 ^ d : Nat) : Int) by rw [Int.natCast_pow]; rfl, IntKind.wrap_u64]
    exact Int.emod_eq_of_lt (Int.natCast_nonneg _) (Int.ofNat_lt.2 h0)
  rw [h1, u64_or_nat _ _ hb h0]
set_option maxHeartbeats 4000000 in
theorem cmark20_any {w : World} {v : Bool} {e t b E i : Nat} (he : e < 4294967296) (ht : t < 4294967296) (hb : b < 18446744073709551616) (hE : E < 4294967296) (hi : i < 4294967296) :
    Calls Try.prog 19 #[.agg #[.bool v, .int .u32 (e : Int), .int .u32 (t : Int), .int .u64 (b : Int)], .int .u32 (E : Int), .int .u32 (i : Int)] w fun x w' => x = .returned (.agg #[.bool (Sn.mark ⟨v, e, t, b⟩ E i).any, .int .u32 ((Sn.mark ⟨v, e, t, b⟩ E i).epoch : Int), .int .u32 ((Sn.mark ⟨v, e, t, b⟩ E i).top : Int), .int .u64 ((Sn.mark ⟨v, e, t, b⟩ E i).bits : Int)]) ∧ Below w.heap.size w w' := by
  obtain ⟨g, w1, hg, hal, hsz, hx, hb1⟩ := boxedS w v e t b
  obtain ⟨r, w2, hr, hal2, hsz2, hy, hb2⟩ := varS w1
  have HB2 : Hid (Below w.heap.size w w2) := Lib.hid (hb1.trans (hb2.mono hb1.size))
  have hx2 : Whole w2 g 51 #[.bool v, .int .u32 (e : Int), .int .u32 (t : Int), .int .u64 (b : Int)] := hx.below hb2 (by omega)
  obtain ⟨c0, c1, c2, c3⟩ := cellsS hx2
  have HX := Lib.hid (fun W (hW : Below w2.heap.size w2 W) => (hx2.below hW (by omega) : Whole W g 51 #[.bool v, .int .u32 (e : Int), .int .u32 (t : Int), .int .u64 (b : Int)]))
  have HY := Lib.hid (fun W (hW : Below w2.heap.size w2 W) => (hy.below hW (by omega) : Whole W r 51 #[.bool false, .int .u32 0, .int .u32 0, .int .u64 0]))
  have HG : Hid (w.heap.size = g ∧ r = g + 1 ∧ w2.heap.size = g + 2) := Lib.hid ⟨by omega, by omega, by omega⟩
  clear hx hb1 hsz hx2 hy hsz2 hb2
  obtain ⟨R, hR⟩ : ∃ R, Hid (Sn.fresh ⟨v, e, t, b⟩ E i = R) := ⟨_, Lib.hid rfl⟩
  obtain ⟨m, Hm⟩ : ∃ m, Hid (Sn.mark ⟨v, e, t, b⟩ E i = m) := ⟨_, Lib.hid rfl⟩
  rw [Hm.out]
  have CF := Lib.hid (fun W => cfresh20_any (w := W) (v := v) he ht hb hE hi)
  rw [hR.out] at CF
  go_enter Try.func19, Try.ntmps19
  go_wp2_with fail
  refine (CF.out _).mono ?_
  rintro x w3 ⟨rfl, hb3⟩
  have HB3 := Lib.hid (HB2.out.trans (hb3.mono HB2.out.size))
  have HX3 := Lib.hid (HX.out _ hb3)
  have HY3 := Lib.hid (HY.out _ hb3)
  have HS3 : Hid (w2.heap.size ≤ w3.heap.size) := Lib.hid hb3.size
  clear hb3 c0 c1 c2 c3 HX HY CF hg hr hal hal2
  obtain ⟨c0, c1, c2, c3⟩ := cellsS HX3.out
  by_cases h0 : R = 0
  case neg =>
    have HM : Hid (m = ⟨v, e, t, b⟩) := Lib.hid (by rw [← Hm.out]; exact Sn.mark_stays (by rw [hR.out]; exact h0))
    have hne : ((R : Int) != 0) = true := by simp; omega
    clear h0
    go_wp2_with (refine wpList_store_whole rfl rfl rfl rfl rfl HY3.out (seenI rfl) rfl (by simp [Value.oneCell']) ?_)
    refine bodyPost_ret (v := .agg #[.bool v, .int .u32 (e : Int), .int .u32 (t : Int), .int .u64 (b : Int)]) ?_ rfl ⟨by rw [HM.out], below_row HB3.out (by have := HG.out; omega) _⟩
    exact results_seen rfl rfl (HY3.out.row _) rfl
  case pos =>
    subst h0
    go_wp2_with fail
    refine begins20_any.mono ?_
    rintro x w4 ⟨rfl, hb4⟩
    have HB4 := Lib.hid (HB3.out.trans (hb4.mono HB3.out.size))
    have HX4 := Lib.hid (HX3.out.below hb4 HX3.out.lt)
    have HY4 := Lib.hid (HY3.out.below hb4 HY3.out.lt)
    have HS4 : Hid (w2.heap.size ≤ w4.heap.size) := Lib.hid (by have := hb4.size; have := HS3.out; omega)
    clear hb4 c0 c1 c2 c3 HX3 HY3 HS3
    obtain ⟨c0, c1, c2, c3⟩ := cellsS HX4.out
    by_cases hnew : v = false ∨ e < E
    · rw [decide_eq_true hnew]
      have HM : Hid (m = ⟨true, E, i, 1⟩) := Lib.hid (by rw [← Hm.out]; exact Sn.mark_new hnew)
      clear hnew
      go_wp2_with (refine wpList_store_whole rfl rfl rfl rfl rfl HY4.out (seenI rfl) rfl (by simp [Value.oneCell']) ?_)
      refine bodyPost_ret (v := .agg #[.bool true, .int .u32 (E : Int), .int .u32 (i : Int), .int .u64 1]) ?_ rfl ⟨by rw [HM.out]; rfl, below_row HB4.out (by have := HG.out; omega) _⟩
      exact results_seen rfl rfl (HY4.out.row _) rfl
    · rw [decide_eq_false hnew]
      obtain rfl : v = true := by cases v <;> simp_all
      have h1 : ¬ e < E := fun h => hnew (.inr h)
      obtain rfl : e = E := by
        rcases Nat.lt_or_ge E e with k | k
        · have := hR.out
          rw [Sn.fresh_old (s := ⟨true, e, t, b⟩) rfl k] at this
          cases this
        · omega
      clear hnew h1
      have f0 := HX4.out.free 0
      have f1 := HX4.out.free 1
      have f2 := HX4.out.free 2
      have f3 := HX4.out.free 3
      by_cases h2 : t < i
      · have HM : Hid (m = ⟨true, e, i, Sn.up b (i - t)⟩) := Lib.hid (by rw [← Hm.out]; exact Sn.mark_up (s := ⟨true, e, t, b⟩) rfl h2)
        have DL := Lib.hid (fun W => deliv20_any (w := W) (v := true) (e := e) (t := t) hb)
        have hsub : ((i : Int) - (t : Int)) % 4294967296 = ((i - t : Nat) : Int) := by omega
        obtain ⟨d, Hd⟩ : ∃ d, Hid (i - t = d) := ⟨_, Lib.hid rfl⟩
        rw [Hd.out] at hsub HM
        have hsub2 : IntKind.u32.wrap ((i : Int) - (t : Int)) = (d : Int) := hsub
        obtain ⟨ob, hob⟩ : ∃ ob, Hid ((b ||| 1 : Nat) = ob) := ⟨_, Lib.hid rfl⟩
        rw [hob.out] at DL
        obtain ⟨u, hu⟩ : ∃ u, Hid (Sn.up b d = u) := ⟨_, Lib.hid rfl⟩
        have hor : bits .or .u64 (IntKind.u64.wrap ((ob : Int) * 2 ^ min d 64)) 1 = (u : Int) := by rw [← hu.out, ← hob.out]; exact up20 hb d
        rw [hu.out] at HM
        have HX5 := Lib.hid (fun W (hW : Below w4.heap.size w4 W) => (HX4.out.below hW HX4.out.lt : Whole W g 51 #[.bool true, .int .u32 (e : Int), .int .u32 (t : Int), .int .u64 (b : Int)]))
        have HS5 : Hid (Below w4.heap.size w4 w4.drew) := Lib.hid (Below.refl _ _).drew
        go_upto_region 7 with fail
        refine wp_region_last (S := fun W => Below w4.heap.size w4 W) 9 [(0, true), (2, true), (3, true), (4, true), (5, true), (1, false), (6, true), (7, true), (8, true), (9, false)] (by kernel_rfl) (by kernel_rfl) rfl (by kernel_rfl) (by rfl) (fun _ _ _ _ _ h => h) (Below.refl _ _).drew ?_
        iterate 5
          refine alongL_take (v := ?_) rfl (by rfl) ?_ ?_
          rotate_left
          · intro W hW; obtain ⟨c0, c1, c2, c3⟩ := cellsS (HX5.out W hW); clear hW; go_simp; try with_reducible rfl
          simp only [Act.put, List.setIfInBounds_toArray, List.set_cons_zero, List.set_cons_succ]
        refine alongL_step rfl (fun K hK => ?_)
        go_simp
        refine (DL.out _).mono ?_
        rintro e1 w5 ⟨rfl, hb⟩
        have HS6 : Hid (Below w4.heap.size w4 w5) := Lib.hid (HS5.out.trans (hb.mono HS5.out.size))
        refine hK.out _ _ HS6.out ?_
        clear hK K hb
        try simp only [Act.put, List.setIfInBounds_toArray, List.set_cons_zero, List.set_cons_succ]
        iterate 3
          refine alongL_take (v := ?_) rfl (by rfl) ?_ ?_
          rotate_left
          · intro W hW; obtain ⟨c0, c1, c2, c3⟩ := cellsS (HX5.out W hW); clear hW; go_simp; try with_reducible rfl
          simp only [Act.put, List.setIfInBounds_toArray, List.set_cons_zero, List.set_cons_succ]
        refine alongL_last rfl (fun K hK => ?_)
        have HW5 := Lib.hid (HX5.out w5 HS6.out)
        have HY5 := Lib.hid (HY4.out.below HS6.out HY4.out.lt)
        have HB5 := Lib.hid (HB4.out.trans (HS6.out.mono HB4.out.size))
        have gr : r ≠ g := by have := HG.out; omega
        have c3' : w5.cell? ⟨g, 3, none⟩ = some (.int .u64 (b : Int)) := HW5.out.at_ 3
        have f3' := HW5.out.free 3
        obtain ⟨w6, hw6⟩ : ∃ W, w5.setCell ⟨g, 3, none⟩ (.int .u64 (u : Int)) = W := ⟨_, rfl⟩
        have HW6 : Hid (Whole w6 g 51 #[.bool true, .int .u32 (e : Int), .int .u32 (t : Int), .int .u64 (u : Int)]) := Lib.hid (by rw [← hw6]; exact HW5.out.put 3 _)
        have HY6 := Lib.hid (show Whole w6 r _ _ from by rw [← hw6]; exact HY5.out.other gr _)
        have HB6 : Hid (Below w.heap.size w w6) := Lib.hid (by rw [← hw6]; exact HB5.out.setCell (by have := HG.out; show _ ≤ g; omega) _)
        have d2 : w6.cell? ⟨g, 2, none⟩ = some (.int .u32 (t : Int)) := HW6.out.at_ 2
        have f2' := HW6.out.free 2
        obtain ⟨w7, hw7⟩ : ∃ W, w6.setCell ⟨g, 2, none⟩ (.int .u32 (i : Int)) = W := ⟨_, rfl⟩
        have HW7 : Hid (Whole w7 g 51 #[.bool true, .int .u32 (e : Int), .int .u32 (i : Int), .int .u64 (u : Int)]) := Lib.hid (by rw [← hw7]; exact HW6.out.put 2 _)
        have HY7 := Lib.hid (show Whole w7 r _ _ from by rw [← hw7]; exact HY6.out.other gr _)
        have HB7 : Hid (Below w.heap.size w w7) := Lib.hid (by rw [← hw7]; exact HB6.out.setCell (by have := HG.out; show _ ≤ g; omega) _)
        obtain ⟨k0, k1, k2, k3⟩ := cellsS HW7.out
        go_simp
        refine hK.out _ _ ?_
        clear hK K
        go_wp2_with (refine wpList_store_whole rfl rfl rfl rfl rfl HY7.out (seenI rfl) rfl (by simp [Value.oneCell']) ?_)
        refine bodyPost_ret (v := .agg #[.bool true, .int .u32 (e : Int), .int .u32 (i : Int), .int .u64 (u : Int)]) ?_ rfl ⟨by rw [HM.out], below_row HB7.out (by have := HG.out; omega) _⟩
        exact results_seen rfl rfl (HY7.out.row _) rfl
      · have hsub : ((t : Int) - (i : Int)) % 4294967296 = ((t - i : Nat) : Int) := by omega
        obtain ⟨d, Hd⟩ : ∃ d, Hid (t - i = d) := ⟨_, Lib.hid rfl⟩
        have HM : Hid (m = ⟨true, e, t, b ||| 2 ^ d⟩ ∧ d < 64) := Lib.hid (by
          have h3 : ¬ 64 ≤ t - i := fun k => by
            have := hR.out
            rw [Sn.fresh_out (s := ⟨true, e, t, b⟩) rfl k] at this
            cases this
          refine ⟨?_, by have := Hd.out; omega⟩
          rw [← Hm.out, ← Hd.out]
          refine Sn.mark_gap (s := ⟨true, e, t, b⟩) rfl ?_ h2 h3
          cases hbit : Sn.bit ⟨true, e, t, b⟩ i with
          | true =>
            have := hR.out
            rw [Sn.fresh_twice (s := ⟨true, e, t, b⟩) rfl h2 h3 hbit] at this
            cases this
          | false => rfl)
        rw [Hd.out] at hsub
        have hsub2 : IntKind.u32.wrap ((t : Int) - (i : Int)) = (d : Int) := hsub
        obtain ⟨u, hu⟩ : ∃ u, Hid (b ||| 2 ^ d = u) := ⟨_, Lib.hid rfl⟩
        have hor : bits .or .u64 (b : Int) (IntKind.u64.wrap (2 ^ min d 64)) = (u : Int) := by rw [← hu.out]; exact gap20 hb HM.out.2
        rw [hu.out] at HM
        have gr : r ≠ g := by have := HG.out; omega
        obtain ⟨w7, hw7⟩ : ∃ W, w4.setCell ⟨g, 3, none⟩ (.int .u64 (u : Int)) = W := ⟨_, rfl⟩
        have HW7 : Hid (Whole w7 g 51 #[.bool true, .int .u32 (e : Int), .int .u32 (t : Int), .int .u64 (u : Int)]) := Lib.hid (by rw [← hw7]; exact HX4.out.put 3 _)
        have HY7 := Lib.hid (show Whole w7 r _ _ from by rw [← hw7]; exact HY4.out.other gr _)
        have HB7 : Hid (Below w.heap.size w w7) := Lib.hid (by rw [← hw7]; exact HB4.out.setCell (by have := HG.out; show _ ≤ g; omega) _)
        obtain ⟨k0, k1, k2, k3⟩ := cellsS HW7.out
        go_wp2_with (refine wpList_store_whole rfl rfl rfl rfl rfl HY7.out (seenI rfl) rfl (by simp [Value.oneCell']) ?_)
        refine bodyPost_ret (v := .agg #[.bool true, .int .u32 (e : Int), .int .u32 (t : Int), .int .u64 (u : Int)]) ?_ rfl ⟨by rw [HM.out.1], below_row HB7.out (by have := HG.out; omega) _⟩
        exact results_seen rfl rfl (HY7.out.row _) rfl
end Go.Proofs.Ytbhdgfpaoghnbaa
