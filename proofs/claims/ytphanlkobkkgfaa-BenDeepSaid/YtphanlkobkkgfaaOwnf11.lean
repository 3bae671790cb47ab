/- Contracts of tree.isRising, hasOwnFieldsAlone, rightAlone, rightOn and Right. -/
import Derived.Test.YtphanlkobkkgfaaDepth11
namespace Go.Proofs.Ytphanlkobkkgfaa
open Go.RowKit
set_option linter.unusedVariables false
set_option maxRecDepth 100000
set_option linter.unusedSimpArgs false

theorem fails_at {l : List ByteArray} {i : Nat} (h : i + 1 < l.length) (h1 : Tn.less l[i] l[i + 1] = false) : Tn.rises l = false := by
  cases hr : Tn.rises l
  · rfl
  · have := Tn.rises_iff.1 hr i h
    rw [h1] at this
    cases this
theorem rising_any {w : World} {B : Nat} {v : Value} {l : List ByteArray} (H : Sk w B v l) :
    Calls Try.prog 58 #[v] w fun e w' => e = .returned (.bool (Tn.rises l)) ∧ Below w.heap.size w w' := by
  obtain ⟨A, c, rfl, Ta, h1, h2, _, hsz⟩ := H.all
  have TA := Lib.hid Ta
  unfold maxLen at h2
  have HF := Lib.hid (fun i h h1 => fails_at (l := l) (i := i) h h1)
  have HS := Lib.hid (fun k h => Tn.rises_snoc (l := l) (k := k) h)
  have H1 := Lib.hid (Tn.rises_one l)
  have HA : Hid (∀ i, l.length ≤ i → Tn.rises (l.take i) = Tn.rises l) := Lib.hid (fun i hi => by rw [List.take_of_length_le hi])
  obtain ⟨r, hr⟩ : ∃ r, Hid (Tn.rises l = r) := ⟨_, rfl⟩
  rw [hr.out] at HF HA ⊢
  obtain ⟨n, hn⟩ : ∃ n, Hid (l.length = n) := ⟨_, rfl⟩
  rw [hn.out] at h1 HA ⊢
  clear Ta hsz H
  go_enter Try.func58, Try.ntmps58
  go_wp2_with fail
  go_loopw [3] (fun vi wr => ∃ (j : Nat), j ≤ n ∧ vi = .int .i64 ((j + 1 : Nat) : Int) ∧ Hid (Tn.rises (l.take (j + 1)) = true) ∧ Hid (Below w.heap.size w wr)) (fun vi _ => n + 1 - (intOf vi).toNat)
  case atStart => exact ⟨0, by omega, rfl, H1, Lib.hid (Below.refl _ _)⟩
  case round =>
    obtain ⟨j, hj, rfl, HR, HB⟩ := hrel
    obtain ⟨i, hi⟩ : ∃ i, j + 1 = i := ⟨_, rfl⟩
    rw [hi]
    by_cases hlt : i < n
    · have hia : i < l.length := by rw [hn.out]; exact hlt
      have hja : j < l.length := by omega
      obtain ⟨x1, o1, rfl, hx1, d0⟩ := TA.out i hia
      obtain ⟨x2, o2, e2, _, d1⟩ := TA.out j hja
      injection e2 with e2
      injection e2 with e3 e4 _
      subst e3 e4
      have HFi : Hid (Tn.less l[j] l[i] = false → r = false) := Lib.hid (fun h => HF.out j (by omega) (by simpa only [hi] using h))
      have HSi : Hid (Tn.less l[j] l[i] = true → Tn.rises (l.take (i + 1)) = true) := Lib.hid (fun h => by
        have := HS.out j (by omega)
        rw [show i + 1 = j + 2 by omega, this, HR.out]
        simpa only [hi, Bool.true_and] using h)
      obtain ⟨p, hp⟩ : ∃ p, Hid (l[i] = p) := ⟨l[i], Lib.hid rfl⟩
      obtain ⟨q, hq⟩ : ∃ q, Hid (l[j] = q) := ⟨l[j], Lib.hid rfl⟩
      rw [hp.out] at d0 HFi HSi
      rw [hq.out] at d1 HFi HSi
      have hsb : IntKind.i64.wrap ((i : Int) - 1) = (j : Int) := by rw [IntKind.wrap_i64]; omega
      have hij : (i : Int) < (n : Int) := by omega
      have hjj : (j : Int) < (n : Int) := by omega
      have hls := less_is q p
      obtain ⟨y, hy⟩ : ∃ y, Hid (Tn.less q p = y) := ⟨_, rfl⟩
      rw [hy.out] at hls HFi HSi
      have HP : Hid (∀ W, Below w.heap.size w W → W.cell? ⟨x1, o1 + i, none⟩ = some (.string p) ∧ W.cell? ⟨x1, o1 + j, none⟩ = some (.string q)) := Lib.hid (fun W hW => ⟨(hW.cell hx1).trans d0, (hW.cell hx1).trans d1⟩)
      have hiN : ((i : Nat) : Int) = (i : Int) := rfl
      go_wp2_with fail
      refine wp_region_plan (S := fun W => Below w.heap.size w W) [(0, true), (1, true), (2, true), (3, true), (4, true), (5, true), (6, true), (7, true), (8, true), (9, true)] (by kernel_rfl) (by kernel_rfl) rfl (by kernel_rfl) (fun _ _ _ _ _ h => h) HB.out.drew ?_
      iterate 10
        refine along_take (v := ?_) rfl (by rfl) ?_ ?_
        rotate_left
        · intro W hW
          obtain ⟨k1, k2⟩ := HP.out W hW
          go_simp; try with_reducible rfl
        simp only [Act.put, List.setIfInBounds_toArray, List.set_cons_zero, List.set_cons_succ]
      refine along_done ?_
      have HBd := Lib.hid HB.out.drew
      clear hsb hij hjj hls hiN
      cases y
      · have HF' := Lib.hid (HFi.out rfl)
        clear HFi HSi
        go_wp2_with fail
        go_ret
        exact ⟨ret_bool (by rw [HF'.out]), HBd.out⟩
      · have HS' := Lib.hid (HSi.out rfl)
        clear HFi HSi
        go_wp2_with fail
        go_roundw
        case rel => exact ⟨i, by omega, by go_num, HS', HBd⟩
        case measure => simp [intOf]; omega
    · have HE : Hid (r = true) := Lib.hid (by rw [← HA.out i (by omega), ← hi]; exact HR.out)
      go_wp2_with fail
      go_ret
      exact ⟨ret_bool (by rw [HE.out]), HB.out⟩

set_option maxHeartbeats 4000000 in
theorem fields11_any {t : Tn} {w : World} {B : Nat} {vk vq : Value} (H : Tv w B t vk vq) (hk : 1 ≤ t.kind ∧ t.kind ≤ 4) :
    Calls Try.prog 55 #[tval t vk vq] w fun e w' => e = .returned (.bool (!t.odd)) ∧ Below w.heap.size w w' := by
  obtain ⟨b, w1, hs, hal, hT, hb1⟩ := boxedT H
  have HT := Lib.hid hT
  have HB := Lib.hid hb1
  obtain ⟨c0, c1, c2, c3, c4⟩ := hT.cells
  obtain ⟨A, c, rfl, h1, h2, _, K, Q, hK⟩ := hT.tv.kids
  obtain ⟨Ak, ck, rfl, hSk⟩ := hT.tv.keys
  have hsk := hSk.2
  unfold maxLen at h2 hsk
  have hes := txt_eq t.s ⟨#[]⟩
  rw [show (⟨#[]⟩ : ByteArray).toList = [] from by simp [ByteArray.toList, ByteArray.toList.loop, ByteArray.size]] at hes
  have HO : Hid (t.odd = ((!decide (t.kind = 1) && !decide (t.n = 0)) || (!decide (t.kind = 2) && !decide (t.s = ⟨#[]⟩)) || (!decide (t.kind = 4) && !decide (t.keys.length = 0)) ||
    (if t.kind < 3 then !decide (t.kids.length = 0) else decide (t.kind = 4) && !decide (t.keys.length = t.kids.length)))) := Lib.hid (by
      have e1 : decide (t.keys = []) = decide (t.keys.length = 0) := by simp
      have e2 : decide (t.kids = []) = decide (t.kids.length = 0) := by simp
      rw [← e1, ← e2]; rfl)
  obtain ⟨r, hr⟩ : ∃ r, Hid (t.odd = r) := ⟨_, rfl⟩
  rw [hr.out] at HO ⊢
  obtain ⟨nk, hnk⟩ : ∃ n, Hid (t.keys.length = n) := ⟨_, rfl⟩
  obtain ⟨nq, hnq⟩ : ∃ n, Hid (t.kids.length = n) := ⟨_, rfl⟩
  rw [hnk.out] at c3 hsk hal HO ⊢
  rw [hnq.out] at h1 c4 hal HO ⊢
  unfold tcells at hal
  unfold tval
  clear hT H hK hSk hb1
  obtain ⟨ha, hb⟩ := hk
  rcases (show t.kind = 1 ∨ t.kind = 2 ∨ t.kind = 3 ∨ t.kind = 4 by omega) with hkd | hkd | hkd | hkd
  · rw [hkd] at hal c0
    by_cases es : t.s = ⟨#[]⟩
    case neg =>
      rw [decide_eq_false es] at hes
      have hes2 : ¬ t.s.toList = [] := by simpa using hes
      by_cases en : t.n = 0
      · rw [en] at hal c1
        have HF : Hid (r = true) := Lib.hid (by rw [HO.out]; simp [hkd, es]; try omega)
        go_enter Try.func55, Try.ntmps55
        go_wp2_with fail
        go_ret
        exact ⟨ret_bool (by rw [HF.out] <;> simp <;> omega), by first | (rw [hs]; exact HB.out) | exact HB.out⟩
      · have q1 : (t.n == 0) = false := by simpa using en
        have q2 : (t.n != 0) = true := by simpa using en
        have HF : Hid (r = true) := Lib.hid (by rw [HO.out]; simp [hkd, es]; try omega)
        go_enter Try.func55, Try.ntmps55
        go_wp2_with fail
        go_ret
        exact ⟨ret_bool (by rw [HF.out] <;> simp <;> omega), by first | (rw [hs]; exact HB.out) | exact HB.out⟩
    rw [es] at hal c2
    by_cases ek : nk = 0
    case neg =>
      have q3 : 0 < nk := by omega
      by_cases en : t.n = 0
      · rw [en] at hal c1
        have HF : Hid (r = true) := Lib.hid (by rw [HO.out]; simp [hkd, es, ek]; try omega)
        go_enter Try.func55, Try.ntmps55
        go_wp2_with fail
        go_ret
        exact ⟨ret_bool (by rw [HF.out] <;> simp <;> omega), by first | (rw [hs]; exact HB.out) | exact HB.out⟩
      · have q1 : (t.n == 0) = false := by simpa using en
        have q2 : (t.n != 0) = true := by simpa using en
        have HF : Hid (r = true) := Lib.hid (by rw [HO.out]; simp [hkd, es, ek]; try omega)
        go_enter Try.func55, Try.ntmps55
        go_wp2_with fail
        go_ret
        exact ⟨ret_bool (by rw [HF.out] <;> simp <;> omega), by first | (rw [hs]; exact HB.out) | exact HB.out⟩
    subst ek
    by_cases eq : nq = 0
    case neg =>
      have q5 : ((nq : Int) == 0) = false := by simp; omega
      by_cases en : t.n = 0
      · rw [en] at hal c1
        have HF : Hid (r = true) := Lib.hid (by rw [HO.out]; simp [hkd, es, eq]; try omega)
        go_enter Try.func55, Try.ntmps55
        go_wp2_with fail
        go_ret
        exact ⟨ret_bool (by rw [HF.out] <;> simp <;> omega), by first | (rw [hs]; exact HB.out) | exact HB.out⟩
      · have q1 : (t.n == 0) = false := by simpa using en
        have q2 : (t.n != 0) = true := by simpa using en
        have HF : Hid (r = true) := Lib.hid (by rw [HO.out]; simp [hkd, es, eq]; try omega)
        go_enter Try.func55, Try.ntmps55
        go_wp2_with fail
        go_ret
        exact ⟨ret_bool (by rw [HF.out] <;> simp <;> omega), by first | (rw [hs]; exact HB.out) | exact HB.out⟩
    subst eq
    by_cases en : t.n = 0
    · rw [en] at hal c1
      have HF : Hid (r = false) := Lib.hid (by rw [HO.out]; simp [hkd, es]; try omega)
      go_enter Try.func55, Try.ntmps55
      go_wp2_with fail
      go_ret
      exact ⟨ret_bool (by rw [HF.out] <;> simp <;> omega), by first | (rw [hs]; exact HB.out) | exact HB.out⟩
    · have q1 : (t.n == 0) = false := by simpa using en
      have q2 : (t.n != 0) = true := by simpa using en
      have HF : Hid (r = false) := Lib.hid (by rw [HO.out]; simp [hkd, es]; try omega)
      go_enter Try.func55, Try.ntmps55
      go_wp2_with fail
      go_ret
      exact ⟨ret_bool (by rw [HF.out] <;> simp <;> omega), by first | (rw [hs]; exact HB.out) | exact HB.out⟩
  · rw [hkd] at hal c0
    by_cases en : t.n = 0
    case neg =>
      have q1 : (t.n == 0) = false := by simpa using en
      have q2 : (t.n != 0) = true := by simpa using en
      have HF : Hid (r = true) := Lib.hid (by rw [HO.out]; simp [hkd, en]; try omega)
      go_enter Try.func55, Try.ntmps55
      go_wp2_with fail
      go_ret
      exact ⟨ret_bool (by rw [HF.out] <;> simp <;> omega), by first | (rw [hs]; exact HB.out) | exact HB.out⟩
    rw [en] at hal c1
    by_cases ek : nk = 0
    case neg =>
      have q3 : 0 < nk := by omega
      by_cases es : t.s = ⟨#[]⟩
      · rw [es] at hal c2
        have HF : Hid (r = true) := Lib.hid (by rw [HO.out]; simp [hkd, en, ek]; try omega)
        go_enter Try.func55, Try.ntmps55
        go_wp2_with fail
        go_ret
        exact ⟨ret_bool (by rw [HF.out] <;> simp <;> omega), by first | (rw [hs]; exact HB.out) | exact HB.out⟩
      · rw [decide_eq_false es] at hes
        have hes2 : ¬ t.s.toList = [] := by simpa using hes
        have HF : Hid (r = true) := Lib.hid (by rw [HO.out]; simp [hkd, en, ek]; try omega)
        go_enter Try.func55, Try.ntmps55
        go_wp2_with fail
        go_ret
        exact ⟨ret_bool (by rw [HF.out] <;> simp <;> omega), by first | (rw [hs]; exact HB.out) | exact HB.out⟩
    subst ek
    by_cases eq : nq = 0
    case neg =>
      have q5 : ((nq : Int) == 0) = false := by simp; omega
      by_cases es : t.s = ⟨#[]⟩
      · rw [es] at hal c2
        have HF : Hid (r = true) := Lib.hid (by rw [HO.out]; simp [hkd, en, eq]; try omega)
        go_enter Try.func55, Try.ntmps55
        go_wp2_with fail
        go_ret
        exact ⟨ret_bool (by rw [HF.out] <;> simp <;> omega), by first | (rw [hs]; exact HB.out) | exact HB.out⟩
      · rw [decide_eq_false es] at hes
        have hes2 : ¬ t.s.toList = [] := by simpa using hes
        have HF : Hid (r = true) := Lib.hid (by rw [HO.out]; simp [hkd, en, eq]; try omega)
        go_enter Try.func55, Try.ntmps55
        go_wp2_with fail
        go_ret
        exact ⟨ret_bool (by rw [HF.out] <;> simp <;> omega), by first | (rw [hs]; exact HB.out) | exact HB.out⟩
    subst eq
    by_cases es : t.s = ⟨#[]⟩
    · rw [es] at hal c2
      have HF : Hid (r = false) := Lib.hid (by rw [HO.out]; simp [hkd, en]; try omega)
      go_enter Try.func55, Try.ntmps55
      go_wp2_with fail
      go_ret
      exact ⟨ret_bool (by rw [HF.out] <;> simp <;> omega), by first | (rw [hs]; exact HB.out) | exact HB.out⟩
    · rw [decide_eq_false es] at hes
      have hes2 : ¬ t.s.toList = [] := by simpa using hes
      have HF : Hid (r = false) := Lib.hid (by rw [HO.out]; simp [hkd, en]; try omega)
      go_enter Try.func55, Try.ntmps55
      go_wp2_with fail
      go_ret
      exact ⟨ret_bool (by rw [HF.out] <;> simp <;> omega), by first | (rw [hs]; exact HB.out) | exact HB.out⟩
  · rw [hkd] at hal c0
    by_cases en : t.n = 0
    case neg =>
      have q1 : (t.n == 0) = false := by simpa using en
      have q2 : (t.n != 0) = true := by simpa using en
      have HF : Hid (r = true) := Lib.hid (by rw [HO.out]; simp [hkd, en]; try omega)
      go_enter Try.func55, Try.ntmps55
      go_wp2_with fail
      go_ret
      exact ⟨ret_bool (by rw [HF.out] <;> simp <;> omega), by first | (rw [hs]; exact HB.out) | exact HB.out⟩
    rw [en] at hal c1
    by_cases es : t.s = ⟨#[]⟩
    case neg =>
      rw [decide_eq_false es] at hes
      have hes2 : ¬ t.s.toList = [] := by simpa using hes
      have HF : Hid (r = true) := Lib.hid (by rw [HO.out]; simp [hkd, es]; try omega)
      go_enter Try.func55, Try.ntmps55
      go_wp2_with fail
      go_ret
      exact ⟨ret_bool (by rw [HF.out] <;> simp <;> omega), by first | (rw [hs]; exact HB.out) | exact HB.out⟩
    rw [es] at hal c2
    by_cases ek : nk = 0
    case neg =>
      have q3 : 0 < nk := by omega
      have HF : Hid (r = true) := Lib.hid (by rw [HO.out]; simp [hkd, en, es, ek]; try omega)
      go_enter Try.func55, Try.ntmps55
      go_wp2_with fail
      go_ret
      exact ⟨ret_bool (by rw [HF.out] <;> simp <;> omega), by first | (rw [hs]; exact HB.out) | exact HB.out⟩
    subst ek
    have HF : Hid (r = false) := Lib.hid (by rw [HO.out]; simp [hkd, en, es]; try omega)
    go_enter Try.func55, Try.ntmps55
    go_wp2_with fail
    go_ret
    exact ⟨ret_bool (by rw [HF.out] <;> simp <;> omega), by first | (rw [hs]; exact HB.out) | exact HB.out⟩
  · rw [hkd] at hal c0
    by_cases en : t.n = 0
    case neg =>
      have q1 : (t.n == 0) = false := by simpa using en
      have q2 : (t.n != 0) = true := by simpa using en
      have HF : Hid (r = true) := Lib.hid (by rw [HO.out]; simp [hkd, en]; try omega)
      go_enter Try.func55, Try.ntmps55
      go_wp2_with fail
      go_ret
      exact ⟨ret_bool (by rw [HF.out] <;> simp <;> omega), by first | (rw [hs]; exact HB.out) | exact HB.out⟩
    rw [en] at hal c1
    by_cases es : t.s = ⟨#[]⟩
    case neg =>
      rw [decide_eq_false es] at hes
      have hes2 : ¬ t.s.toList = [] := by simpa using hes
      have HF : Hid (r = true) := Lib.hid (by rw [HO.out]; simp [hkd, es]; try omega)
      go_enter Try.func55, Try.ntmps55
      go_wp2_with fail
      go_ret
      exact ⟨ret_bool (by rw [HF.out] <;> simp <;> omega), by first | (rw [hs]; exact HB.out) | exact HB.out⟩
    rw [es] at hal c2
    have q4 : True := trivial
    by_cases ek : nk = 0
    · subst ek
      by_cases eq : nq = 0
      case neg =>
        have q5 : ((nq : Int) == 0) = false := by simp; omega
        have q6 : ¬ 0 = nq := fun e => eq e.symm
        have HF : Hid (r = true) := Lib.hid (by rw [HO.out]; simp [hkd, en, es, q6]; try omega)
        go_enter Try.func55, Try.ntmps55
        go_wp2_with fail
        go_ret
        exact ⟨ret_bool (by rw [HF.out] <;> simp <;> omega), by first | (rw [hs]; exact HB.out) | exact HB.out⟩
      subst eq
      have HF : Hid (r = false) := Lib.hid (by rw [HO.out]; simp [hkd, en, es]; try omega)
      go_enter Try.func55, Try.ntmps55
      go_wp2_with fail
      go_ret
      exact ⟨ret_bool (by rw [HF.out] <;> simp <;> omega), by first | (rw [hs]; exact HB.out) | exact HB.out⟩
    · have q3 : 0 < nk := by omega
      by_cases eq : nq = nk
      case neg =>
        have q5 : ((nq : Int) == (nk : Int)) = false := by simp; omega
        have q6 : ¬ nk = nq := fun e => eq e.symm
        have HF : Hid (r = true) := Lib.hid (by rw [HO.out]; simp [hkd, en, es, q6]; try omega)
        go_enter Try.func55, Try.ntmps55
        go_wp2_with fail
        go_ret
        exact ⟨ret_bool (by rw [HF.out] <;> simp <;> omega), by first | (rw [hs]; exact HB.out) | exact HB.out⟩
      subst eq
      have HF : Hid (r = false) := Lib.hid (by rw [HO.out]; simp [hkd, en, es]; try omega)
      go_enter Try.func55, Try.ntmps55
      go_wp2_with fail
      go_ret
      exact ⟨ret_bool (by rw [HF.out] <;> simp <;> omega), by first | (rw [hs]; exact HB.out) | exact HB.out⟩

end Go.Proofs.Ytphanlkobkkgfaa
