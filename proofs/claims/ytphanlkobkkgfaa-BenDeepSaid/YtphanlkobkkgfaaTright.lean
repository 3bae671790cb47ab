/- Contracts of tree.rightAlone, rightOn and Right. -/
import Derived.Test.YtphanlkobkkgfaaOwnf11
namespace Go.Proofs.Ytphanlkobkkgfaa
open Go.RowKit
set_option linter.unusedVariables false
set_option maxRecDepth 100000
set_option linter.unusedSimpArgs false

set_option maxHeartbeats 4000000 in
theorem alone_any {t : Tn} {w : World} {B : Nat} {vk vq : Value} (H : Tv w B t vk vq) :
    Calls Try.prog 43 #[tval t vk vq] w fun e w' => e = .returned (.int .i64 (t.own : Int)) ∧ Below w.heap.size w w' := by
  obtain ⟨b, w1, hs, hal, hT, hb1⟩ := boxedT H
  have HT := Lib.hid hT
  have HB := Lib.hid hb1
  obtain ⟨c0, c1, c2, c3, c4⟩ := hT.cells
  have HCt := Lib.hid (fun W (h : Below w1.heap.size w1 W) => (HT.out.keep h).cells)
  have HKt := Lib.hid (fun W (h : Below w1.heap.size w1 W) => (HT.out.keep h).tv.keys)
  have HF := Lib.hid (fun h => fields11_any (w := w1) hT.tv.all h)
  have hbw := hT.lt
  have hstr := hT.tv.str
  obtain ⟨A, c, rfl, h1, h2, _, K, Q, hK⟩ := hT.tv.kids
  obtain ⟨Ak, ck, rfl, hSk⟩ := hT.tv.keys
  have hsk := hSk.2
  unfold maxLen at h2 hsk
  have HO : Hid (t.own = if t.kind < 1 ∨ 4 < t.kind then 9 else if t.odd = true then 1 else if (decide (1048576 < t.s.size) || t.keys.any (fun k => decide (1048576 < k.size))) = true then 5 else if Tn.rises t.keys = false then 3 else 0) := Lib.hid rfl
  obtain ⟨r, hr⟩ : ∃ r, Hid (t.own = r) := ⟨_, rfl⟩
  rw [hr.out] at HO ⊢
  obtain ⟨od, hod⟩ : ∃ r, Hid (t.odd = r) := ⟨_, rfl⟩
  rw [hod.out] at HO HF
  have CL := Lib.hid (fun W => islong_any t.s hstr W)
  obtain ⟨ls, hls⟩ : ∃ r, Hid (decide (1048576 < t.s.size) = r) := ⟨_, rfl⟩
  rw [hls.out] at HO CL
  have CH := Lib.hid (fun W (h : Below w1.heap.size w1 W) => haslong_any (HKt.out W h))
  obtain ⟨lk, hlk⟩ : ∃ r, Hid (t.keys.any (fun k => decide (1048576 < k.size)) = r) := ⟨_, rfl⟩
  rw [hlk.out] at HO CH
  have CR := Lib.hid (fun W (h : Below w1.heap.size w1 W) => rising_any (HKt.out W h))
  obtain ⟨ri, hri⟩ : ∃ r, Hid (Tn.rises t.keys = r) := ⟨_, rfl⟩
  rw [hri.out] at HO CR
  obtain ⟨nk, hnk⟩ : ∃ n, Hid (t.keys.length = n) := ⟨_, rfl⟩
  obtain ⟨nq, hnq⟩ : ∃ n, Hid (t.kids.length = n) := ⟨_, rfl⟩
  rw [hnk.out] at c3 hsk hal HCt HF CH CR ⊢
  rw [hnq.out] at h1 c4 hal HCt HF ⊢
  unfold tcells at hal
  unfold tval at HF
  unfold tval
  clear hT H hK hSk hb1 hstr HKt
  by_cases e1 : t.kind < 1
  case pos =>
    have HR : Hid (r = 9) := Lib.hid (by rw [HO.out, if_pos (.inl e1)])
    go_enter Try.func43, Try.ntmps43
    go_wp2_with fail
    go_ret
    exact ⟨ret_int (by rw [HR.out]; rfl), by first | (rw [hs]; exact HB.out) | exact HB.out⟩
  by_cases e2 : 4 < t.kind
  case pos =>
    have HR : Hid (r = 9) := Lib.hid (by rw [HO.out, if_pos (.inr e2)])
    go_enter Try.func43, Try.ntmps43
    go_wp2_with fail
    go_ret
    exact ⟨ret_int (by rw [HR.out]; rfl), by first | (rw [hs]; exact HB.out) | exact HB.out⟩
  have CF := Lib.hid (HF.out ⟨by omega, by omega⟩)
  rw [if_neg (by omega)] at HO
  clear HF
  cases od with
  | true =>
    have HR : Hid (r = 1) := Lib.hid (by rw [HO.out, if_pos rfl])
    go_enter Try.func43, Try.ntmps43
    go_wp2_with fail
    refine (CF.out).mono ?_
    rintro e w3 ⟨rfl, hb3⟩
    have HB3 := Lib.hid (HB.out.trans (hb3.mono (by omega)))
    clear hb3
    go_wp2_with fail
    go_ret
    exact ⟨ret_int (by rw [HR.out]; rfl), by first | (rw [hs]; exact HB3.out) | exact HB3.out⟩
  | false =>
    rw [if_neg (by simp)] at HO
    go_enter Try.func43, Try.ntmps43
    go_wp2_with fail
    refine (CF.out).mono ?_
    rintro e w3 ⟨rfl, hb3⟩
    have HB3 := Lib.hid (HB.out.trans (hb3.mono (by omega)))
    have HC3 := Lib.hid hb3
    obtain ⟨d0, d1, d2, d3, d4⟩ := HCt.out w3 hb3
    clear hb3
    go_wp2_with fail
    refine (CL.out _).mono ?_
    rintro e w4 ⟨rfl, rfl⟩
    cases ls with
    | true =>
      have HR : Hid (r = 5) := Lib.hid (by rw [HO.out, if_pos (by simp)])
      go_wp2_with fail
      go_ret
      exact ⟨ret_int (by rw [HR.out]; rfl), by first | (rw [hs]; exact HB3.out) | exact HB3.out⟩
    | false =>
      go_wp2_with fail
      refine (CH.out _ HC3.out).mono ?_
      rintro e w5 ⟨rfl, rfl⟩
      cases lk with
      | true =>
        have HR : Hid (r = 5) := Lib.hid (by rw [HO.out, if_pos (by simp)])
        go_wp2_with fail
        go_ret
        exact ⟨ret_int (by rw [HR.out]; rfl), by first | (rw [hs]; exact HB3.out) | exact HB3.out⟩
      | false =>
        rw [if_neg (by simp)] at HO
        go_wp2_with fail
        refine (CR.out _ HC3.out).mono ?_
        rintro e w6 ⟨rfl, hb6⟩
        have HB6 := Lib.hid (HB3.out.trans (hb6.mono (by have := HB3.out.size; omega)))
        clear hb6
        cases ri with
        | true =>
          have HR : Hid (r = 0) := Lib.hid (by rw [HO.out, if_neg (by simp)])
          go_wp2_with fail
          go_ret
          exact ⟨ret_int (by rw [HR.out]; rfl), by first | (rw [hs]; exact HB6.out) | exact HB6.out⟩
        | false =>
          have HR : Hid (r = 3) := Lib.hid (by rw [HO.out, if_pos rfl])
          go_wp2_with fail
          go_ret
          exact ⟨ret_int (by rw [HR.out]; rfl), by first | (rw [hs]; exact HB6.out) | exact HB6.out⟩

theorem Tn.right_own {t : Tn} {a : Nat} (h : ¬ 7 < a) (h1 : ¬ t.own = 0) : t.right a = t.own := by rw [Tn.right_eq, if_neg h, if_pos h1]
theorem Tn.right_rest {t : Tn} {a : Nat} (h : ¬ 7 < a) (h1 : t.own = 0) : t.right a = Tn.rights t.kids (a + 1) := by rw [Tn.right_eq, if_neg h, if_neg (by simpa using h1)]

set_option maxHeartbeats 4000000 in
theorem righton_any (k : Nat) : ∀ (t : Tn), SizeOf.sizeOf t < k → ∀ (a : Nat), a ≤ 8 → ∀ {w : World} {B : Nat} {vk vq : Value}, Tv w B t vk vq →
    Calls Try.prog 23 #[.int .i64 ((a + 1 : Nat) : Int), tval t vk vq] w fun e w' => e = .returned (.int .i64 (t.right a : Int)) ∧ Below w.heap.size w w' := by
  induction k with
  | zero => intro t h; omega
  | succ k ih =>
    intro t hk a ha w B vk vq H
    obtain ⟨b, w1, hs, hal, hT, hb1⟩ := boxedT H
    have HT := Lib.hid hT
    have HB1 := Lib.hid hb1
    have hbw := hT.lt
    obtain ⟨c0, c1, c2, c3, c4⟩ := hT.cells
    have HA := Lib.hid (alone_any (w := w1) hT.tv.all)
    obtain ⟨A, c, rfl, h1, h2, _, K, Q, hK⟩ := hT.tv.kids
    have HK := Lib.hid hK
    obtain ⟨Ak, ck, rfl, hSk⟩ := hT.tv.keys
    unfold maxLen at h2
    have IH := Lib.hid (fun i (hi : i < t.kids.length) {w : World} {B : Nat} {vk vq : Value} (ha : a + 1 ≤ 8) (h : Tv w B t.kids[i] vk vq) => ih t.kids[i] (by have := Tn.kid_lt hi; omega) (a + 1) ha h)
    have R1 := Lib.hid (fun h => Tn.right_deep (t := t) (a := a) h)
    have R2 := Lib.hid (fun h h1 => Tn.right_own (t := t) (a := a) h h1)
    have R3 := Lib.hid (fun h h1 => Tn.right_rest (t := t) (a := a) h h1)
    have HCt := Lib.hid (fun W (h : Below w1.heap.size w1 W) => (HT.out.keep h).cells)
    obtain ⟨r, hr⟩ : ∃ r, Hid (t.right a = r) := ⟨_, rfl⟩
    rw [hr.out] at R1 R2 R3 ⊢
    obtain ⟨ow, how⟩ : ∃ r, Hid (t.own = r) := ⟨_, rfl⟩
    rw [how.out] at R2 R3 HA
    obtain ⟨nk, hnk⟩ : ∃ n, Hid (t.keys.length = n) := ⟨_, rfl⟩
    obtain ⟨n, hn⟩ : ∃ n, Hid (t.kids.length = n) := ⟨_, rfl⟩
    rw [hnk.out] at c3 hal HA HCt ⊢
    rw [hn.out] at h1 c4 hal HA HCt ⊢
    unfold tcells at hal
    unfold tval at HA
    unfold tval
    obtain ⟨lv, hlv⟩ : ∃ lv, a + 1 = lv := ⟨_, rfl⟩
    rw [hlv]
    clear hT H hK hSk hb1 ih
    by_cases e0 : 7 < a
    case pos =>
      have HR := Lib.hid (R1.out e0)
      go_enter Try.func23, Try.ntmps23
      go_wp2_with fail
      go_ret
      exact ⟨ret_int (by rw [HR.out]; rfl), by first | (rw [hs]; exact HB1.out) | exact HB1.out⟩
    by_cases e1 : ow = 0
    case neg =>
      have HR := Lib.hid (R2.out e0 e1)
      have q1 : ((ow : Int) == 0) = false := by simp; omega
      have q2 : ((ow : Int) != 0) = true := by simp; omega
      go_enter Try.func23, Try.ntmps23
      go_wp2_with fail
      refine (HA.out).mono ?_
      rintro e w3 ⟨rfl, hb3⟩
      have HB3 := Lib.hid (HB1.out.trans (hb3.mono (by omega)))
      clear hb3
      go_wp2_with fail
      go_ret
      exact ⟨ret_int (by rw [HR.out]), by first | (rw [hs]; exact HB3.out) | exact HB3.out⟩
    have HR := Lib.hid (R3.out e0 e1)
    subst e1
    go_enter Try.func23, Try.ntmps23
    go_wp2_with fail
    refine (HA.out).mono ?_
    rintro e w3 ⟨rfl, hb3⟩
    have HB3 := Lib.hid (HB1.out.trans (hb3.mono (by omega)))
    have HC3 := Lib.hid hb3
    obtain ⟨d0, d1, d2, d3, d4⟩ := HCt.out w3 hb3
    clear hb3
    go_wp2_with fail
    clear c0 c1 c2 c3 c4 d0 d1 d2 d3 d4
    go_loopw [19] (fun v9 wr => ∃ (i : Nat), i ≤ n ∧ v9 = .int .i64 i ∧ Hid (r = Tn.rights (t.kids.drop i) (a + 1)) ∧ Hid (Below b w wr) ∧ Hid (Below w1.heap.size w1 wr)) (fun vi _ => n - (intOf vi).toNat)
    case atStart => exact ⟨0, by omega, rfl, Lib.hid (by rw [HR.out]; simp), HB3, HC3⟩
    case round =>
      clear HR
      obtain ⟨j, hj, rfl, HR, HB, HC⟩ := hrel
      by_cases hlt2 : j < n
      · have hja : j < t.kids.length := by rw [hn.out]; exact hlt2
        obtain ⟨x1, o1, rfl, hx1, h5, hv⟩ := HK.out j hja
        have hW : Below b w1 wr := HC.out.mono (Nat.le_of_lt hbw)
        have h5' := h5.below hW hx1
        have HD := Lib.hid (Tn.rights_drop (a := a + 1) hja)
        have CR := Lib.hid (fun W (h : Below b w1 W) => IH.out j hja (by omega) (hv.keep h))
        obtain ⟨xA, xc, ex, _⟩ := hv.keys
        obtain ⟨yA, yc, ey, _⟩ := hv.kids
        rw [ex, ey] at h5' CR
        obtain ⟨u, hu⟩ : ∃ u, Hid (t.kids[j] = u) := ⟨t.kids[j], Lib.hid rfl⟩
        rw [hu.out] at h5' HD CR
        obtain ⟨x, hx⟩ : ∃ x, Hid (u.right (a + 1) = x) := ⟨_, rfl⟩
        rw [hx.out] at HD CR
        obtain ⟨g0, g1, g2, g3, g4⟩ := h5'
        obtain ⟨gk, wk, hgk, halk, hYk, hbk, hsk⟩ := var_tree wr
        have HYk := Lib.hid hYk
        have hs1 := HB.out.size
        have hs2 := HC.out.size
        have hB7 := below_row (HB.out.trans (hbk.mono (by omega))) (show b ≤ gk by omega) #[.int .i64 u.kind, .int .i64 u.n, .string u.s, .slice xA u.keys.length xc, .slice yA u.kids.length yc]
        have hC7 := below_row (HC.out.trans (hbk.mono (by omega))) (show w1.heap.size ≤ gk by omega) #[.int .i64 u.kind, .int .i64 u.n, .string u.s, .slice xA u.keys.length xc, .slice yA u.kids.length yc]
        obtain ⟨w7, hw7⟩ : ∃ w7, wk.setRow gk #[.int .i64 u.kind, .int .i64 u.n, .string u.s, .slice xA u.keys.length xc, .slice yA u.kids.length yc] = w7 := ⟨_, rfl⟩
        have hk7 : Whole w7 gk 25 #[.int .i64 u.kind, .int .i64 u.n, .string u.s, .slice xA u.keys.length xc, .slice yA u.kids.length yc] := by rw [← hw7]; exact HYk.out.row _
        rw [hw7] at hB7 hC7
        have HB7 := Lib.hid hB7
        have HC7 := Lib.hid hC7
        have CR2 := Lib.hid (CR.out w7 (hC7.mono (by omega)))
        rw [hlv] at CR2
        have m0 := hk7.at_ 0
        have m1 := hk7.at_ 1
        have m2 := hk7.at_ 2
        have m3 := hk7.at_ 3
        have m4 := hk7.at_ 4
        simp at m0 m1 m2 m3 m4
        have hlb : lv ≤ 8 := by omega
        clear h5 hv hW CR ex ey hYk hbk hk7 hB7 hC7
        go_wp2_with (refine wpList_store_whole rfl rfl rfl rfl rfl HYk.out (treeI rfl) rfl (by simp [Value.oneCell']) ?_)
        refine (CR2.out).mono ?_
        rintro e w4 ⟨rfl, hb4⟩
        have HB4 := Lib.hid (HB7.out.trans (hb4.mono (by have := HB7.out.size; omega)))
        have HC4 := Lib.hid (HC7.out.trans (hb4.mono HC7.out.size))
        clear hb4 m0 m1 m2 m3 m4
        by_cases hx0 : x = 0
        · subst hx0
          have HR2 : Hid (r = Tn.rights (t.kids.drop (j + 1)) (a + 1)) := Lib.hid (by rw [HR.out, HD.out, if_neg (by simp)])
          clear HD HR
          go_wp2_with fail
          go_roundw
          case rel => exact ⟨j + 1, by omega, by go_num, HR2, HB4, HC4⟩
          case measure => simp [intOf]; omega
        · have HR2 : Hid (r = x) := Lib.hid (by rw [HR.out, HD.out, if_pos (by simpa using hx0)])
          have hx1 : ((x : Int) != 0) = true := by simp; omega
          have hx2 : ((x : Int) == 0) = false := by simp; omega
          clear HD HR
          go_wp2_with fail
          go_ret
          exact ⟨ret_int (by rw [HR2.out]), by first | (rw [hs]; exact HB4.out) | exact HB4.out⟩
      · have hin2 : j = t.kids.length := by rw [hn.out]; omega
        have HR2 : Hid (r = 0) := Lib.hid (by rw [HR.out, hin2, List.drop_length]; rfl)
        go_wp2_with fail
        go_ret
        exact ⟨ret_int (by rw [HR2.out]; rfl), by first | (rw [hs]; exact HB.out) | exact HB.out⟩

theorem right11_any {t : Tn} {w : World} {B : Nat} {vk vq : Value} (H : Tv w B t vk vq) :
    Calls Try.prog 15 #[tval t vk vq] w fun e w' => e = .returned (.int .i64 (t.right 0 : Int)) ∧ Below w.heap.size w w' := by
  obtain ⟨b, w1, hs, hal, hT, hb1⟩ := boxedT H
  have HB1 := Lib.hid hb1
  have hbw := hT.lt
  obtain ⟨c0, c1, c2, c3, c4⟩ := hT.cells
  have HC := Lib.hid (righton_any (SizeOf.sizeOf t + 1) t (by omega) 0 (by omega) hT.tv)
  unfold tcells at hal
  unfold tval at HC
  unfold tval
  clear hT H hb1
  obtain ⟨r, hr⟩ : ∃ r, Hid (t.right 0 = r) := ⟨_, rfl⟩
  rw [hr.out] at HC ⊢
  go_enter Try.func15, Try.ntmps15
  go_wp2_with fail
  refine (HC.out).mono ?_
  rintro e w3 ⟨rfl, hb3⟩
  have HB3 := Lib.hid (HB1.out.trans (hb3.mono (by omega)))
  clear hb3
  go_wp2_with fail
  go_ret
  exact ⟨rfl, by first | (rw [hs]; exact HB3.out) | exact HB3.out⟩
end Go.Proofs.Ytphanlkobkkgfaa
