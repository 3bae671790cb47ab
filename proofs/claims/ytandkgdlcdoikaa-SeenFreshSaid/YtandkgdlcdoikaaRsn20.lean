/- Contracts of layer 20's reference: bit, Fresh, Mark. -/
import Derived.Test.YtandkgdlcdoikaaSn
import Derived.Test.YtandkgdlcdoikaaPA
namespace Go.Proofs.Ytandkgdlcdoikaa
open Go.RowKit
set_option linter.unusedVariables false
set_option maxRecDepth 100000
set_option linter.unusedSimpArgs false

/-- an argument in its block -/
theorem boxedS (w : World) (v : Bool) (e t b : Nat) : ∃ g w0, w.heap.size = g ∧ w.alloc (.cells #[.bool v, .int .u32 (e : Int), .int .u32 (t : Int), .int .u64 (b : Int)] 25) = w0 ∧ w0.heap.size = g + 1 ∧
    Whole w0 g 25 #[.bool v, .int .u32 (e : Int), .int .u32 (t : Int), .int .u64 (b : Int)] ∧ Below w.heap.size w w0 :=
  ⟨_, _, rfl, rfl, by simp, Whole.made _ _ _, (Below.refl _ _).alloc (Nat.le_refl _) _⟩
theorem cellsS {w : World} {g : Nat} {v : Bool} {e t b : Nat} (h : Whole w g 25 #[.bool v, .int .u32 (e : Int), .int .u32 (t : Int), .int .u64 (b : Int)]) :
    w.cell? ⟨g, 0, none⟩ = some (.bool v) ∧ w.cell? ⟨g, 1, none⟩ = some (.int .u32 (e : Int)) ∧ w.cell? ⟨g, 2, none⟩ = some (.int .u32 (t : Int)) ∧ w.cell? ⟨g, 3, none⟩ = some (.int .u64 (b : Int)) :=
  ⟨h.at_ 0, h.at_ 1, h.at_ 2, h.at_ 3⟩
theorem odd20 (q : Nat) : ((q : Int) % 2 == 1) = decide (q % 2 = 1) := by
  by_cases h : q % 2 = 1
  · rw [decide_eq_true h, beq_iff_eq]; omega
  · rw [decide_eq_false h, beq_eq_false_iff_ne]; omega
set_option maxHeartbeats 1000000 in
theorem rbit20_any {w : World} {v : Bool} {e t b i : Nat} (ht : t < 4294967296) (hb : b < 18446744073709551616) (hi : i < 4294967296) :
    Calls Try.prog 14 #[.agg #[.bool v, .int .u32 (e : Int), .int .u32 (t : Int), .int .u64 (b : Int)], .int .u32 (i : Int)] w fun x w' => x = .returned (.bool (Sn.bit ⟨v, e, t, b⟩ i)) ∧ Below w.heap.size w w' := by
  obtain ⟨g, w1, hg, hal, hsz, hx, hb1⟩ := boxedS w v e t b
  have HB1 : Hid (Below w.heap.size w w1) := Lib.hid hb1
  obtain ⟨c0, c1, c2, c3⟩ := cellsS hx
  clear hx hb1 hsz
  by_cases h : i = t
  · subst h
    have HF : Hid (Sn.bit ⟨v, e, i, b⟩ i = true) := Lib.hid (by simp [Sn.bit])
    go_enter Try.func14, Try.ntmps14
    go_wp2_with fail
    go_ret
    exact ⟨ret_bool HF.out.symm, HB1.out⟩
  · have hne : ((i : Int) == (t : Int)) = false := by simp; omega
    have HF : Hid (Sn.bit ⟨v, e, t, b⟩ i = decide (b / 2 ^ (t - i) % 2 = 1)) := Lib.hid (by
      show (i == t || b.testBit (t - i)) = _
      rw [Nat.testBit_eq_decide_div_mod_eq]
      simp [h])
    go_enter Try.func14, Try.ntmps14
    go_wp2_with fail
    go_loopw [5, 6] (fun y x wr => ∃ j : Nat, i ≤ j ∧ (j ≤ t ∨ j = i) ∧ x = .int .u32 (j : Int) ∧ y = .int .u64 ((b / 2 ^ (j - i) : Nat) : Int) ∧ wr = w1) (fun _ x _ => t - (intOf x).toNat)
    case atStart => exact ⟨i, Nat.le_refl _, .inr rfl, rfl, by simp, rfl⟩
    case round =>
      obtain ⟨j, hij, hjt, rfl, rfl, rfl⟩ := hrel
      obtain ⟨q, Hq⟩ : ∃ q, Hid (b / 2 ^ (j - i) = q) := ⟨_, Lib.hid rfl⟩
      rw [Hq.out]
      by_cases hlt : j < t
      · have hj1 : ((j : Int) + 1) % 4294967296 = ((j + 1 : Nat) : Int) := by omega
        have hqb : q ≤ b := by rw [← Hq.out]; exact Nat.div_le_self _ _
        have hw2 : IntKind.u64.wrap ((q : Int) / 2) = ((q / 2 : Nat) : Int) := by
          show ((q : Int) / 2) % 18446744073709551616 = _
          omega
        have HQ : Hid (b / 2 ^ (j + 1 - i) = q / 2) := Lib.hid (by rw [← Hq.out, show j + 1 - i = (j - i) + 1 by omega, Nat.pow_succ, Nat.div_div_eq_div_mul])
        go_wp2_with fail
        go_roundw
        case rel => exact ⟨j + 1, by omega, .inl (by omega), by go_num, by rw [HQ.out]; first | rw [hw2] | rfl, by first | rfl | trivial⟩
        case measure => simp [intOf]; omega
      · have HQ : Hid (b / 2 ^ (t - i) = q) := Lib.hid (by rw [← Hq.out, show t - i = j - i by omega])
        go_wp2_with fail
        go_ret
        refine ⟨ret_bool ?_, HB1.out⟩
        rw [HF.out, HQ.out]
        exact odd20 q
set_option maxHeartbeats 1000000 in
theorem rfresh20_any {w : World} {v : Bool} {e t b E i : Nat} (he : e < 4294967296) (ht : t < 4294967296) (hb : b < 18446744073709551616) (hE : E < 4294967296) (hi : i < 4294967296) :
    Calls Try.prog 7 #[.agg #[.bool v, .int .u32 (e : Int), .int .u32 (t : Int), .int .u64 (b : Int)], .int .u32 (E : Int), .int .u32 (i : Int)] w fun x w' => x = .returned (.int .i64 ((Sn.fresh ⟨v, e, t, b⟩ E i : Nat) : Int)) ∧ Below w.heap.size w w' := by
  obtain ⟨g, w1, hg, hal, hsz, hx, hb1⟩ := boxedS w v e t b
  have HB1 : Hid (Below w.heap.size w w1) := Lib.hid hb1
  obtain ⟨c0, c1, c2, c3⟩ := cellsS hx
  clear hx hb1 hsz
  obtain ⟨R, hR⟩ : ∃ R, Hid (Sn.fresh ⟨v, e, t, b⟩ E i = R) := ⟨_, Lib.hid rfl⟩
  rw [hR.out]
  cases v with
  | false =>
    have HF : Hid (R = 0) := Lib.hid (by rw [← hR.out, Sn.fresh_none rfl])
    go_enter Try.func7, Try.ntmps7
    go_wp2_with fail
    go_ret
    exact ⟨by rw [HF.out]; rfl, HB1.out⟩
  | true =>
    by_cases h1 : E = e
    · subst h1
      have r1 : ((E : Int) != (E : Int)) = false := by simp
      by_cases h2 : t < i
      · have HF : Hid (R = 0) := Lib.hid (by rw [← hR.out, Sn.fresh_above (s := ⟨true, E, t, b⟩) h2])
        go_enter Try.func7, Try.ntmps7
        go_wp2_with fail
        go_ret
        exact ⟨by rw [HF.out]; rfl, HB1.out⟩
      · have hsub : ((t : Int) - (i : Int)) % 4294967296 = ((t - i : Nat) : Int) := by omega
        obtain ⟨d, Hd⟩ : ∃ d, Hid (t - i = d) := ⟨_, Lib.hid rfl⟩
        rw [Hd.out] at hsub
        by_cases h3 : 64 ≤ d
        · have HF : Hid (R = 11) := Lib.hid (by rw [← hR.out, Sn.fresh_out (s := ⟨true, E, t, b⟩) rfl (by rw [Hd.out]; exact h3)])
          go_enter Try.func7, Try.ntmps7
          go_wp2_with fail
          go_ret
          exact ⟨by rw [HF.out]; rfl, HB1.out⟩
        · obtain ⟨bb, Hbb⟩ : ∃ bb, Hid (Sn.bit ⟨true, E, t, b⟩ i = bb) := ⟨_, Lib.hid rfl⟩
          have HF : Hid (R = if bb = true then 12 else 0) := Lib.hid (by
            rw [← hR.out]
            cases bb with
            | true => exact Sn.fresh_twice (s := ⟨true, E, t, b⟩) rfl h2 (by rw [Hd.out]; exact h3) Hbb.out
            | false => exact Sn.fresh_gap (s := ⟨true, E, t, b⟩) Hbb.out h2 (by rw [Hd.out]; exact h3))
          go_enter Try.func7, Try.ntmps7
          go_wp2_with fail
          refine (rbit20_any ht hb hi).mono ?_
          rintro x w2 ⟨rfl, hb2⟩
          have HB2 := Lib.hid (HB1.out.trans (hb2.mono HB1.out.size))
          clear hb2
          rw [Hbb.out]
          cases bb
          · go_wp2_with fail
            go_ret
            exact ⟨by rw [HF.out]; rfl, HB2.out⟩
          · go_wp2_with fail
            go_ret
            exact ⟨by rw [HF.out]; rfl, HB2.out⟩
    · have r1 : ((E : Int) != (e : Int)) = true := by simp; omega
      by_cases h2 : e < E
      · have HF : Hid (R = 0) := Lib.hid (by rw [← hR.out, Sn.fresh_later (s := ⟨true, e, t, b⟩) h2])
        go_enter Try.func7, Try.ntmps7
        go_wp2_with fail
        go_ret
        exact ⟨by rw [HF.out]; rfl, HB1.out⟩
      · have HF : Hid (R = 11) := Lib.hid (by rw [← hR.out, Sn.fresh_old (s := ⟨true, e, t, b⟩) rfl (by simp only; omega)])
        go_enter Try.func7, Try.ntmps7
        go_wp2_with fail
        go_ret
        exact ⟨by rw [HF.out]; rfl, HB1.out⟩
theorem seenI {cs : Array Value} (h : cs.size = 4) : (Try.prog.info? 25).map (·.size) = some cs.size := by rw [h]; kernel_rfl
theorem results_seen {fn : Func} {p : Tmp} {tmps : Array Value} {w : World} {g : Nat} {cs : Array Value} (h : fn.results = #[.cell p 25])
    (hp : tmps.getD p undef = .pointer (some ⟨g, 0, none⟩)) (hg : Whole w g 25 cs) (hc : cs.size = 4) :
    (results fn tmps).run Try.prog w = .ok (.agg cs) w := by
  have hp' : tmps[p]?.getD undef = .pointer (some ⟨g, 0, none⟩) := by simpa using hp
  simp [results, h, hp', asAddr, run_loadVar_row w g 25 25 cs (0, 0) _ hg Try.underlying25 rfl (seenI hc)]
/-- a new variable -/
theorem varS (w : World) : ∃ g w0, w.heap.size = g ∧ w.alloc (.cells #[.bool false, .int .u32 0, .int .u32 0, .int .u64 0] 25) = w0 ∧ w0.heap.size = g + 1 ∧
    Whole w0 g 25 #[.bool false, .int .u32 0, .int .u32 0, .int .u64 0] ∧ Below w.heap.size w w0 :=
  ⟨_, _, rfl, rfl, by simp, Whole.made _ _ _, (Below.refl _ _).alloc (Nat.le_refl _) _⟩
set_option maxHeartbeats 2000000 in
theorem rmark20_any {w : World} {v : Bool} {e t b E i : Nat} (he : e < 4294967296) (ht : t < 4294967296) (hb : b < 18446744073709551616) (hE : E < 4294967296) (hi : i < 4294967296) :
    Calls Try.prog 10 #[.agg #[.bool v, .int .u32 (e : Int), .int .u32 (t : Int), .int .u64 (b : Int)], .int .u32 (E : Int), .int .u32 (i : Int)] w fun x w' => x = .returned (.agg #[.bool (Sn.rmark ⟨v, e, t, b⟩ E i).any, .int .u32 ((Sn.rmark ⟨v, e, t, b⟩ E i).epoch : Int), .int .u32 ((Sn.rmark ⟨v, e, t, b⟩ E i).top : Int), .int .u64 ((Sn.rmark ⟨v, e, t, b⟩ E i).bits : Int)]) ∧ Below w.heap.size w w' := by
  obtain ⟨g, w1, hg, hal, hsz, hx, hb1⟩ := boxedS w v e t b
  obtain ⟨r, w2, hr, hal2, hsz2, hy, hb2⟩ := varS w1
  have HB2 : Hid (Below w.heap.size w w2) := Lib.hid (hb1.trans (hb2.mono hb1.size))
  have hx2 : Whole w2 g 25 #[.bool v, .int .u32 (e : Int), .int .u32 (t : Int), .int .u64 (b : Int)] := hx.below hb2 (by omega)
  obtain ⟨c0, c1, c2, c3⟩ := cellsS hx2
  have HX := Lib.hid (fun W (hW : Below w2.heap.size w2 W) => (hx2.below hW (by omega) : Whole W g 25 #[.bool v, .int .u32 (e : Int), .int .u32 (t : Int), .int .u64 (b : Int)]))
  have HY := Lib.hid (fun W (hW : Below w2.heap.size w2 W) => (hy.below hW (by omega) : Whole W r 25 #[.bool false, .int .u32 0, .int .u32 0, .int .u64 0]))
  have HG : Hid (w.heap.size = g ∧ r = g + 1 ∧ w2.heap.size = g + 2) := Lib.hid ⟨by omega, by omega, by omega⟩
  clear hx hb1 hsz hx2 hy hsz2 hb2
  obtain ⟨R, hR⟩ : ∃ R, Hid (Sn.fresh ⟨v, e, t, b⟩ E i = R) := ⟨_, Lib.hid rfl⟩
  obtain ⟨m, Hm⟩ : ∃ m, Hid (Sn.rmark ⟨v, e, t, b⟩ E i = m) := ⟨_, Lib.hid rfl⟩
  rw [Hm.out]
  go_enter Try.func10, Try.ntmps10
  go_wp2_with fail
  refine (rfresh20_any he ht hb hE hi).mono ?_
  rintro x w3 ⟨rfl, hb3⟩
  have HB3 := Lib.hid (HB2.out.trans (hb3.mono HB2.out.size))
  have HX3 := Lib.hid (HX.out _ hb3)
  have HY3 := Lib.hid (HY.out _ hb3)
  have hs3 : r < w3.heap.size := by have := hb3.size; have := HG.out; omega
  clear hb3 c0 c1 c2 c3 HX HY
  obtain ⟨c0, c1, c2, c3⟩ := cellsS HX3.out
  rw [hR.out]
  by_cases h0 : R = 0
  case neg =>
    have HM : Hid (m = ⟨v, e, t, b⟩) := Lib.hid (by rw [← Hm.out]; unfold Sn.rmark; rw [if_neg (by rw [hR.out]; exact h0)])
    have hne : ((R : Int) != 0) = true := by simp; omega
    clear h0
    go_wp2_with (refine wpList_store_whole rfl rfl rfl rfl rfl HY3.out (seenI rfl) rfl (by simp [Value.oneCell']) ?_)
    refine bodyPost_ret (v := .agg #[.bool v, .int .u32 (e : Int), .int .u32 (t : Int), .int .u64 (b : Int)]) ?_ rfl ⟨by rw [HM.out], below_row HB3.out (by have := HG.out; omega) _⟩
    exact results_seen rfl rfl (HY3.out.row _) rfl
  case pos =>
    subst h0
    by_cases hnew : v = false ∨ e < E
    · have HM : Hid (m = ⟨true, E, i, 1⟩) := Lib.hid (by rw [← Hm.out]; unfold Sn.rmark; rw [if_pos hR.out, if_pos hnew])
      have hd : v = false ∨ (v = true ∧ e < E) := by
        rcases hnew with h | h
        · exact .inl h
        · cases v
          · exact .inl rfl
          · exact .inr ⟨rfl, h⟩
      clear hnew
      rcases hd with rfl | ⟨rfl, h1⟩
      all_goals
        go_wp2_with (refine wpList_store_whole rfl rfl rfl rfl rfl HY3.out (seenI rfl) rfl (by simp [Value.oneCell']) ?_)
        refine bodyPost_ret (v := .agg #[.bool true, .int .u32 (E : Int), .int .u32 (i : Int), .int .u64 1]) ?_ rfl ⟨by rw [HM.out]; rfl, below_row HB3.out (by have := HG.out; omega) _⟩
        exact results_seen rfl rfl (HY3.out.row _) rfl
    · obtain rfl : v = true := by cases v <;> simp_all
      have h1 : ¬ e < E := fun h => hnew (.inr h)
      obtain rfl : e = E := by
        rcases Nat.lt_or_ge E e with k | k
        · have := hR.out
          rw [Sn.fresh_old (s := ⟨true, e, t, b⟩) rfl k] at this
          cases this
        · omega
      clear hnew
      have h1' : ¬ (e : Int) < (e : Int) := by omega
      clear h1
      by_cases h2 : i < t
      · -- a gap
        have h3 : t - i < 64 := by
          rcases Nat.lt_or_ge (t - i) 64 with k | k
          · exact k
          · have := hR.out
            rw [Sn.fresh_out (s := ⟨true, e, t, b⟩) rfl k] at this
            cases this
        have h4 : b.testBit (t - i) = false := by
          cases hbit : Sn.bit ⟨true, e, t, b⟩ i with
          | true =>
            have := hR.out
            rw [Sn.fresh_twice (s := ⟨true, e, t, b⟩) rfl (by simp only; omega) (by simp only; omega) hbit] at this
            cases this
          | false =>
            have : (i == t || b.testBit (t - i)) = false := hbit
            simp at this
            exact this.2
        have h5 : b + 2 ^ (t - i) < 18446744073709551616 := by rw [← Sn.or_add h4]; exact Sn.or_lt hb h3
        have HM : Hid (m = ⟨true, e, t, b + 2 ^ (t - i)⟩) := Lib.hid (by rw [← Hm.out]; unfold Sn.rmark; rw [if_pos hR.out, if_neg (by simp), if_pos h2])
        have H3 := Lib.hid h3
        have H5 := Lib.hid h5
        clear h3 h4 h5
        go_wp2_with fail
        go_loopw [7, 8] (fun y x wr => ∃ j : Nat, i ≤ j ∧ j ≤ t ∧ x = .int .u32 (j : Int) ∧ y = .int .u64 ((2 ^ (j - i) : Nat) : Int) ∧ wr = w3) (fun _ x _ => t - (intOf x).toNat)
        case atStart => exact ⟨i, Nat.le_refl _, by omega, rfl, by simp, rfl⟩
        case round =>
          obtain ⟨j, hij, hjt, rfl, rfl, rfl⟩ := hrel
          obtain ⟨q, Hq⟩ : ∃ q, Hid (2 ^ (j - i) = q) := ⟨_, Lib.hid rfl⟩
          rw [Hq.out]
          by_cases hlt : j < t
          · have hj1 : ((j : Int) + 1) % 4294967296 = ((j + 1 : Nat) : Int) := by omega
            have HQ : Hid (2 ^ (j + 1 - i) = q * 2) := Lib.hid (by rw [← Hq.out, show j + 1 - i = (j - i) + 1 by omega, Nat.pow_succ])
            have hq63 : q ≤ 4611686018427387904 * 2 := by
              rw [← Hq.out, show (4611686018427387904 * 2 : Nat) = 2 ^ 63 by decide]
              exact Nat.pow_le_pow_right (by omega) (by have := H3.out; omega)
            have hq62 : q * 2 < 18446744073709551616 := by
              have := H3.out
              have h6 : 2 ^ (j + 1 - i) ≤ 2 ^ 63 := Nat.pow_le_pow_right (by omega) (by omega)
              rw [HQ.out, show (2 ^ 63 : Nat) = 9223372036854775808 by decide] at h6
              omega
            have hw2 : IntKind.u64.wrap ((q : Int) * 2) = ((q * 2 : Nat) : Int) := by
              show ((q : Int) * 2) % 18446744073709551616 = _
              omega
            clear hq63
            go_wp2_with fail
            go_roundw
            case rel => exact ⟨j + 1, by omega, by omega, by go_num, by rw [HQ.out]; first | rw [hw2] | rfl, by first | rfl | trivial⟩
            case measure => simp [intOf]; omega
          · obtain rfl : j = t := by omega
            have HQ : Hid (b + q < 18446744073709551616) := Lib.hid (by rw [← Hq.out]; exact H5.out)
            have hw2 : IntKind.u64.wrap ((b : Int) + (q : Int)) = ((b + q : Nat) : Int) := by
              have := HQ.out
              show ((b : Int) + (q : Int)) % 18446744073709551616 = _
              omega
            have hxw := HX3.out
            have hfree := hxw.free 3
            have hput := hxw.put 3 (.int .u64 ((b + q : Nat) : Int))
            have HYp := Lib.hid (HY3.out.other (p := ⟨g, 3, none⟩) (by show r ≠ g; have := HG.out; omega) (.int .u64 ((b + q : Nat) : Int)))
            obtain ⟨wp, Hwp⟩ : ∃ wp, wr.setCell ⟨g, 3, none⟩ (.int .u64 ((b + q : Nat) : Int)) = wp := ⟨_, rfl⟩
            rw [Hwp] at hput HYp
            have HBp : Hid (Below w.heap.size w wp) := Lib.hid (by rw [← Hwp]; exact HB3.out.setCell (p := ⟨g, 3, none⟩) (by have := HG.out; show _ ≤ g; omega) _)
            have HM2 : Hid (m = ⟨true, e, j, b + q⟩) := Lib.hid (by rw [HM.out, Hq.out])
            replace hput : Whole wp g 25 #[.bool true, .int .u32 (e : Int), .int .u32 (j : Int), .int .u64 ((b + q : Nat) : Int)] := hput
            obtain ⟨bq, Hbq⟩ : ∃ bq, Hid (b + q = bq) := ⟨_, Lib.hid rfl⟩
            rw [Hbq.out] at hput Hwp hw2 HM2
            have HPW := Lib.hid hput
            clear hput hxw
            go_wp2_with (first | (refine wpList_load_struct Try.underlying25 (seenI rfl) rfl rfl rfl HPW.out ?_) | (refine wpList_store_whole rfl rfl rfl rfl rfl HYp.out (seenI rfl) rfl (by simp [Value.oneCell']) ?_))
            refine bodyPost_ret (v := .agg #[.bool true, .int .u32 (e : Int), .int .u32 (j : Int), .int .u64 (bq : Int)]) ?_ rfl ⟨by rw [HM2.out], below_row HBp.out (by have := HG.out; omega) _⟩
            exact results_seen rfl rfl (HYp.out.row _) rfl
      · -- above the top
        have h2' : ¬ (i : Int) < (t : Int) := by omega
        have h3 : t < i := by
          rcases Nat.lt_or_ge t i with k | k
          · exact k
          · obtain rfl : i = t := by omega
            have := hR.out
            rw [Sn.fresh_twice (s := ⟨true, e, i, b⟩) rfl (by simp) (by simp) (by simp [Sn.bit])] at this
            cases this
        have HM : Hid (m = ⟨true, e, i, Sn.acc ⟨true, e, t, b⟩ i 63⟩) := Lib.hid (by rw [← Hm.out]; unfold Sn.rmark; rw [if_pos hR.out, if_neg (by simp), if_neg (by simpa using h2)])
        have h2d : decide (i < t) = false := decide_eq_false h2
        clear h2
        go_wp2_with fail
        clear h2d
        go_loopw [9, 10, 11] (fun y p x wr => ∃ K n : Nat, Hid (n + 1 = K) ∧ K ≤ 64 ∧ 1 ≤ K ∧ x = .int .u32 (K : Int) ∧ p = .int .u64 ((2 ^ n : Nat) : Int) ∧ y = .int .u64 ((Sn.acc ⟨true, e, t, b⟩ i n : Nat) : Int) ∧ Hid (Below w3.heap.size w3 wr)) (fun _ _ x _ => 64 - (intOf x).toNat)
        case atStart => exact ⟨1, 0, Lib.hid rfl, by omega, by omega, rfl, rfl, rfl, Lib.hid (Below.refl _ _)⟩
        case round =>
          obtain ⟨K, n, HK, hK, hK1, rfl, rfl, rfl, HB⟩ := hrel
          have HBw := Lib.hid (HB3.out.trans (HB.out.mono HB3.out.size))
          have hxr := HX3.out.below HB.out (by have := HG.out; omega)
          have HYr := Lib.hid (HY3.out.below HB.out hs3)
          obtain ⟨d0, d1, d2, d3⟩ := cellsS hxr
          clear hxr
          obtain ⟨P, HP⟩ : ∃ P, Hid (2 ^ n = P) := ⟨_, Lib.hid rfl⟩
          obtain ⟨A, HA⟩ : ∃ A, Hid (Sn.acc ⟨true, e, t, b⟩ i n = A) := ⟨_, Lib.hid rfl⟩
          rw [HP.out, HA.out]
          by_cases hlt : K < 64
          · have hn : n < 63 := by have := HK.out; omega
            obtain ⟨Q, HQ⟩ : ∃ Q, Hid (P * 2 = Q) := ⟨_, Lib.hid rfl⟩
            have HQ2 : Hid (2 ^ K = Q) := Lib.hid (by rw [← HQ.out, ← HP.out, ← HK.out, Nat.pow_succ])
            have hQ : Q ≤ 9223372036854775808 := by
              rw [← HQ2.out, show (9223372036854775808 : Nat) = 2 ^ 63 by decide]
              exact Nat.pow_le_pow_right (by omega) (by omega)
            have hA : A < Q := by
              have := Sn.acc_lt ⟨true, e, t, b⟩ i n
              rw [HA.out, Nat.pow_succ, HP.out, HQ.out] at this
              exact this
            have hw1 : IntKind.u64.wrap ((P : Int) * 2) = (Q : Int) := by
              have := HQ.out
              show ((P : Int) * 2) % 18446744073709551616 = _
              omega
            have hw2 : IntKind.u64.wrap ((A : Int) + (Q : Int)) = ((A + Q : Nat) : Int) := by
              show ((A : Int) + (Q : Int)) % 18446744073709551616 = _
              omega
            obtain ⟨AQ, HAQ⟩ : ∃ AQ, Hid (A + Q = AQ) := ⟨_, Lib.hid rfl⟩
            rw [HAQ.out] at hw2
            have hk1 : ((K : Int) + 1) % 4294967296 = ((K + 1 : Nat) : Int) := by omega
            have HN : Hid (∀ c, Sn.has ⟨true, e, t, b⟩ i K = c → Sn.acc ⟨true, e, t, b⟩ i K = if c = true then AQ else A) := Lib.hid (by
              rintro c rfl
              rw [← HK.out, Sn.acc, HA.out, HK.out, HQ2.out, HAQ.out])
            clear hA hQ
            by_cases p1 : K ≤ i
            case neg =>
              have HH : Hid (Sn.acc ⟨true, e, t, b⟩ i K = A) := Lib.hid (HN.out false (by unfold Sn.has; rw [decide_eq_false p1]; simp))
              have r1 : decide ((K : Int) ≤ (i : Int)) = false := decide_eq_false (by omega)
              have r1' : ¬ (K : Int) ≤ (i : Int) := by omega
              clear p1
              go_wp2_with fail
              go_roundw
              case rel => exact ⟨K + 1, K, Lib.hid rfl, by omega, by omega, by go_num, by rw [HQ2.out]; try rw [hw1], by rw [HH.out], HB⟩
              case measure => simp [intOf]; omega
            case pos =>
              have r1 : decide ((K : Int) ≤ (i : Int)) = true := decide_eq_true (by omega)
              have r1' : (K : Int) ≤ (i : Int) := by omega
              have hs1 : (i : Int) - (K : Int) = ((i - K : Nat) : Int) := by omega
              obtain ⟨q, Hq⟩ : ∃ q, Hid (i - K = q) := ⟨_, Lib.hid rfl⟩
              rw [Hq.out] at hs1
              have hq : q < 4294967296 := by have := Hq.out; omega
              by_cases p2 : q ≤ t
              case neg =>
                have HH : Hid (Sn.acc ⟨true, e, t, b⟩ i K = A) := Lib.hid (HN.out false (by unfold Sn.has; rw [Hq.out]; simp only; rw [decide_eq_false p2]; simp))
                have r2 : decide ((q : Int) ≤ (t : Int)) = false := decide_eq_false (by omega)
                have r2' : ¬ (q : Int) ≤ (t : Int) := by omega
                clear p1 p2
                go_wp2_with fail
                go_roundw
                case rel => exact ⟨K + 1, K, Lib.hid rfl, by omega, by omega, by go_num, by rw [HQ2.out]; try rw [hw1], by rw [HH.out], HB⟩
                case measure => simp [intOf]; omega
              case pos =>
                have r2 : decide ((q : Int) ≤ (t : Int)) = true := decide_eq_true (by omega)
                have r2' : (q : Int) ≤ (t : Int) := by omega
                have hs2 : (t : Int) - (q : Int) = ((t - q : Nat) : Int) := by omega
                obtain ⟨d, Hd⟩ : ∃ d, Hid (t - q = d) := ⟨_, Lib.hid rfl⟩
                rw [Hd.out] at hs2
                have p3 : d < 64 := by have := Hq.out; have := Hd.out; omega
                have r3 : decide ((d : Int) < 64) = true := decide_eq_true (by omega)
                have r3' : (d : Int) < 64 := by omega
                obtain ⟨c, Hc⟩ : ∃ c, Hid (Sn.bit ⟨true, e, t, b⟩ q = c) := ⟨_, Lib.hid rfl⟩
                have HH : Hid (Sn.acc ⟨true, e, t, b⟩ i K = if c = true then AQ else A) := Lib.hid (HN.out c (by unfold Sn.has; rw [Hq.out]; simp only; rw [Hd.out, Hc.out, decide_eq_true p1, decide_eq_true p2, decide_eq_true p3]; simp))
                clear p1 p2 p3
                go_wp2_with fail
                refine (rbit20_any ht hb hq).mono ?_
                rintro x wb ⟨rfl, hbb⟩
                have HBb := Lib.hid (HB.out.trans (hbb.mono HB.out.size))
                clear hbb
                rw [Hc.out]
                cases c
                · go_wp2_with fail
                  go_roundw
                  case rel => exact ⟨K + 1, K, Lib.hid rfl, by omega, by omega, by go_num, by rw [HQ2.out]; try rw [hw1], by rw [HH.out]; rfl, HBb⟩
                  case measure => simp [intOf]; omega
                · go_wp2_with fail
                  go_roundw
                  case rel => exact ⟨K + 1, K, Lib.hid rfl, by omega, by omega, by go_num, by rw [HQ2.out]; try rw [hw1], by rw [HH.out]; first | rfl | (rw [hw2]; rfl), HBb⟩
                  case measure => simp [intOf]; omega
          · obtain rfl : K = 64 := by omega
            have HN : Hid (n = 63) := Lib.hid (by have := HK.out; omega)
            have HM2 : Hid (m = ⟨true, e, i, A⟩) := Lib.hid (by rw [HM.out, ← HA.out, HN.out])
            go_wp2_with (refine wpList_store_whole rfl rfl rfl rfl rfl HYr.out (seenI rfl) rfl (by simp [Value.oneCell']) ?_)
            refine bodyPost_ret (v := .agg #[.bool true, .int .u32 (e : Int), .int .u32 (i : Int), .int .u64 (A : Int)]) ?_ rfl ⟨by rw [HM2.out], below_row HBw.out (by have := HG.out; omega) _⟩
            exact results_seen rfl rfl (HYr.out.row _) rfl
end Go.Proofs.Ytandkgdlcdoikaa
