/- Contracts of the reference's fields and right of layer 11. -/
import Derived.Test.YtphanlkobkkgfaaRtree11
namespace Go.Proofs.Ytphanlkobkkgfaa
open Go.RowKit
set_option linter.unusedVariables false
set_option maxRecDepth 100000
set_option linter.unusedSimpArgs false

set_option maxHeartbeats 2000000 in
theorem rfields11_any {t : Tn} {w : World} {B : Nat} {vk vq : Value} (H : Tv w B t vk vq) (hk : 1 ≤ t.kind ∧ t.kind ≤ 4) :
    Calls Try.prog 45 #[tval t vk vq] w fun e w' => e = .returned (.bool t.odd) ∧ Below w.heap.size w w' := by
  obtain ⟨b, w1, hs, hal, hT, hb1⟩ := boxedT H
  have HT := Lib.hid hT
  have HB := Lib.hid hb1
  obtain ⟨c0, c1, c2, c3, c4⟩ := hT.cells
  obtain ⟨A, c, rfl, h1, h2, _, K, Q, hK⟩ := hT.tv.kids
  obtain ⟨Ak, ck, rfl, hSk⟩ := hT.tv.keys
  have hsk := hSk.2
  unfold maxLen at h2 hsk
  have hes := txt_eq t.s ⟨#[]⟩
  rw [show (⟨#[]⟩ : ByteArray).toList = [] from by simp [ByteArray.toList, ByteArray.toList.loop, ByteArray.size]] at hes
  obtain ⟨nk, hnk⟩ : ∃ n, Hid (t.keys.length = n) := ⟨_, rfl⟩
  obtain ⟨nq, hnq⟩ : ∃ n, Hid (t.kids.length = n) := ⟨_, rfl⟩
  rw [hnk.out] at c3 hsk hal ⊢
  rw [hnq.out] at h1 c4 hal ⊢
  unfold tcells at hal
  unfold tval
  clear hT H hK hSk hb1
  obtain ⟨ha, hb⟩ := hk
  rcases (show t.kind = 1 ∨ t.kind = 2 ∨ t.kind = 3 ∨ t.kind = 4 by omega) with hkd | hkd | hkd | hkd
  · -- 1
    rw [hkd] at hal c0
    by_cases es : t.s = ⟨#[]⟩
    case neg =>
      rw [decide_eq_false es] at hes
      have hes2 : ¬ t.s.toList = [] := by simpa using hes
      have HF : Hid (t.odd = true) := Lib.hid (by simp [Tn.odd, hkd, es])
      go_enter Try.func45, Try.ntmps45
      go_wp2_with fail
      go_ret
      exact ⟨ret_bool (by rw [HF.out] <;> simp), by rw [hs]; exact HB.out⟩
    rw [es] at hal c2
    by_cases ek : t.keys = []
    case neg =>
      have q3 : 0 < nk := by have := hnk.out; have := mt List.length_eq_zero_iff.1 ek; omega
      have HF : Hid (t.odd = true) := Lib.hid (by simp [Tn.odd, hkd, es, ek])
      go_enter Try.func45, Try.ntmps45
      go_wp2_with fail
      go_ret
      exact ⟨ret_bool (by rw [HF.out] <;> simp), by rw [hs]; exact HB.out⟩
    have q3 : nk = 0 := by rw [← hnk.out, ek]; rfl
    subst q3
    by_cases eq : t.kids = []
    case neg =>
      have q3 : 0 < nq := by have := hnq.out; have := mt List.length_eq_zero_iff.1 eq; omega
      have HF : Hid (t.odd = true) := Lib.hid (by simp [Tn.odd, hkd, es, ek, eq])
      go_enter Try.func45, Try.ntmps45
      go_wp2_with fail
      go_ret
      exact ⟨ret_bool (by rw [HF.out] <;> simp), by rw [hs]; exact HB.out⟩
    have q4 : nq = 0 := by rw [← hnq.out, eq]; rfl
    subst q4
    have HF : Hid (t.odd = false) := Lib.hid (by simp [Tn.odd, hkd, es, ek, eq])
    go_enter Try.func45, Try.ntmps45
    go_wp2_with fail
    go_ret
    exact ⟨ret_bool (by rw [HF.out] <;> simp), by rw [hs]; exact HB.out⟩
  · -- 2
    rw [hkd] at hal c0
    by_cases en : t.n = 0
    case neg =>
      have q1 : (t.n == 0) = false := by simpa using en
      have q2 : (t.n != 0) = true := by simpa using en
      have HF : Hid (t.odd = true) := Lib.hid (by simp [Tn.odd, hkd, en])
      go_enter Try.func45, Try.ntmps45
      go_wp2_with fail
      go_ret
      exact ⟨ret_bool (by rw [HF.out] <;> simp), by rw [hs]; exact HB.out⟩
    rw [en] at hal c1
    by_cases ek : t.keys = []
    case neg =>
      have q3 : 0 < nk := by have := hnk.out; have := mt List.length_eq_zero_iff.1 ek; omega
      have HF : Hid (t.odd = true) := Lib.hid (by simp [Tn.odd, hkd, en, ek])
      go_enter Try.func45, Try.ntmps45
      go_wp2_with fail
      go_ret
      exact ⟨ret_bool (by rw [HF.out] <;> simp), by rw [hs]; exact HB.out⟩
    have q3 : nk = 0 := by rw [← hnk.out, ek]; rfl
    subst q3
    by_cases eq : t.kids = []
    case neg =>
      have q3 : 0 < nq := by have := hnq.out; have := mt List.length_eq_zero_iff.1 eq; omega
      have HF : Hid (t.odd = true) := Lib.hid (by simp [Tn.odd, hkd, en, ek, eq])
      go_enter Try.func45, Try.ntmps45
      go_wp2_with fail
      go_ret
      exact ⟨ret_bool (by rw [HF.out] <;> simp), by rw [hs]; exact HB.out⟩
    have q4 : nq = 0 := by rw [← hnq.out, eq]; rfl
    subst q4
    have HF : Hid (t.odd = false) := Lib.hid (by simp [Tn.odd, hkd, en, ek, eq])
    go_enter Try.func45, Try.ntmps45
    go_wp2_with fail
    go_ret
    exact ⟨ret_bool (by rw [HF.out] <;> simp), by rw [hs]; exact HB.out⟩
  · -- 3
    rw [hkd] at hal c0
    by_cases en : t.n = 0
    case neg =>
      have q1 : (t.n == 0) = false := by simpa using en
      have q2 : (t.n != 0) = true := by simpa using en
      have HF : Hid (t.odd = true) := Lib.hid (by simp [Tn.odd, hkd, en])
      go_enter Try.func45, Try.ntmps45
      go_wp2_with fail
      go_ret
      exact ⟨ret_bool (by rw [HF.out] <;> simp), by rw [hs]; exact HB.out⟩
    rw [en] at hal c1
    by_cases es : t.s = ⟨#[]⟩
    case neg =>
      rw [decide_eq_false es] at hes
      have hes2 : ¬ t.s.toList = [] := by simpa using hes
      have HF : Hid (t.odd = true) := Lib.hid (by simp [Tn.odd, hkd, en, es])
      go_enter Try.func45, Try.ntmps45
      go_wp2_with fail
      go_ret
      exact ⟨ret_bool (by rw [HF.out] <;> simp), by rw [hs]; exact HB.out⟩
    rw [es] at hal c2
    by_cases ek : t.keys = []
    case neg =>
      have q3 : 0 < nk := by have := hnk.out; have := mt List.length_eq_zero_iff.1 ek; omega
      have HF : Hid (t.odd = true) := Lib.hid (by simp [Tn.odd, hkd, en, es, ek])
      go_enter Try.func45, Try.ntmps45
      go_wp2_with fail
      go_ret
      exact ⟨ret_bool (by rw [HF.out] <;> simp), by rw [hs]; exact HB.out⟩
    have q3 : nk = 0 := by rw [← hnk.out, ek]; rfl
    subst q3
    have HF : Hid (t.odd = false) := Lib.hid (by simp [Tn.odd, hkd, en, es, ek])
    go_enter Try.func45, Try.ntmps45
    go_wp2_with fail
    go_ret
    exact ⟨ret_bool (by rw [HF.out] <;> simp), by rw [hs]; exact HB.out⟩
  · -- 4
    rw [hkd] at hal c0
    by_cases en : t.n = 0
    case neg =>
      have q1 : (t.n == 0) = false := by simpa using en
      have q2 : (t.n != 0) = true := by simpa using en
      have HF : Hid (t.odd = true) := Lib.hid (by simp [Tn.odd, hkd, en])
      go_enter Try.func45, Try.ntmps45
      go_wp2_with fail
      go_ret
      exact ⟨ret_bool (by rw [HF.out] <;> simp), by rw [hs]; exact HB.out⟩
    rw [en] at hal c1
    by_cases es : t.s = ⟨#[]⟩
    case neg =>
      rw [decide_eq_false es] at hes
      have hes2 : ¬ t.s.toList = [] := by simpa using hes
      have HF : Hid (t.odd = true) := Lib.hid (by simp [Tn.odd, hkd, en, es])
      go_enter Try.func45, Try.ntmps45
      go_wp2_with fail
      go_ret
      exact ⟨ret_bool (by rw [HF.out] <;> simp), by rw [hs]; exact HB.out⟩
    rw [es] at hal c2
    by_cases el : t.keys.length = t.kids.length
    case neg =>
      have q3 : ¬ nk = nq := by have := hnk.out; have := hnq.out; omega
      have q4 : ((nk : Int) == (nq : Int)) = false := by simp; omega
      have q5 : ((nk : Int) != (nq : Int)) = true := by simp; omega
      have HF : Hid (t.odd = true) := Lib.hid (by simp [Tn.odd, hkd, en, es, el])
      go_enter Try.func45, Try.ntmps45
      go_wp2_with fail
      go_ret
      exact ⟨ret_bool (by rw [HF.out] <;> simp), by rw [hs]; exact HB.out⟩
    have q3 : nk = nq := by have := hnk.out; have := hnq.out; omega
    subst q3
    have HF : Hid (t.odd = false) := Lib.hid (by simp [Tn.odd, hkd, en, es, el])
    go_enter Try.func45, Try.ntmps45
    go_wp2_with fail
    go_ret
    exact ⟨ret_bool (by rw [HF.out] <;> simp), by rw [hs]; exact HB.out⟩
end Go.Proofs.Ytphanlkobkkgfaa
