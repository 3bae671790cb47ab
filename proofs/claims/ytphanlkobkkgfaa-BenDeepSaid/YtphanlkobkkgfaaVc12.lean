/- Contracts of the reader's value and of Parse of layer 12, the program's. -/
import Derived.Test.YtphanlkobkkgfaaLc12
namespace Go.Proofs.Ytphanlkobkkgfaa
open Go.RowKit
set_option linter.unusedVariables false
set_option maxRecDepth 100000
set_option linter.unusedSimpArgs false

namespace Bn
theorem AnyT.lower {lo lo' : Nat} {t : Tn} {v : Value} {w : World} (h : AnyT lo t v w) (hl : lo' ≤ lo) : AnyT lo' t v w := by
  rcases h with h | h | ⟨vk, vq, h1, h2⟩
  · exact .inl h
  · exact .inr (.inl h)
  · exact .inr (.inr ⟨vk, vq, h1, h2.keep (fun b p q => ⟨Nat.le_trans hl p, rfl⟩)⟩)
theorem AnyV.lower {g lo lo' : Nat} {R : Rs Tn} {v : Value} {w : World} (h : AnyV g lo R v w) (hl : lo' ≤ lo) : AnyV g lo' R v w := by
  rcases h with h | ⟨t, r, h1, h2, h3⟩
  · exact .inl h
  · exact .inr ⟨t, r, h1, h2, h3.lower hl⟩
theorem isValue_iff {c : Nat} : isValue c = true ↔ ¬ (digit c = false ∧ c ≠ 105 ∧ c ≠ 108 ∧ c ≠ 100) := by
  unfold isValue
  cases h : digit c <;> simp <;> omega
end Bn
set_option maxHeartbeats 4000000 in
theorem value12_any (k : Nat) : ∀ (m : Nat), m + k = 9 → ∀ (w : World) (g : Nat) (l : List Nat), Rb w g l → l.length ≤ 1000000000 →
    Calls Try.prog 20 #[.pointer (some ⟨g, 0, none⟩), .int .i64 (m : Int)] w fun e w' => ∃ v, e = .returned v ∧ Bn.AnyV g w.heap.size (Bn.value k l) v w' ∧ Only g w w' := by
  induction k with
  | zero =>
    intro m hm w g l h hl
    obtain rfl : m = 9 := by omega
    have C1 := Lib.hid (starts12_any h _ _ Bn.set_value)
    have mE := mkE12
    have HV : Hid (Bn.value 0 l = .bad (if Bn.first Bn.isValue l = 0 then 6 else Bn.first Bn.isValue l)) := Lib.hid (by
      cases l with
      | nil => exact Bn.value_end 0
      | cons c l =>
        rw [Bn.first_cons]
        by_cases hv : Bn.isValue c = true
        · rw [if_pos hv, if_pos rfl]; exact Bn.value_deep (Bn.isValue_iff.1 hv)
        · rw [if_neg hv, if_neg (by omega)]
          exact Bn.value_form (Classical.not_not.1 (fun hn => hv (Bn.isValue_iff.2 hn))) 0)
    rw [HV.out]
    have hx9 : Bn.first Bn.isValue l ≤ 3 := Bn.first_le _ _
    obtain ⟨x, hx⟩ : ∃ x, Hid (Bn.first Bn.isValue l = x) := ⟨_, rfl⟩
    rw [hx.out] at C1 hx9 ⊢
    clear h
    by_cases h0 : x = 0
    · subst h0
      rw [if_pos rfl]
      go_enter Try.func20, Try.ntmps20
      go_wp2_with fail
      refine (C1.out).mono ?_
      rintro e w1 ⟨rfl, rfl⟩
      go_wp2_with fail
      go_ret
      exact ⟨_, rfl, .inl ⟨6, rfl, rfl⟩, Only.refl _ _⟩
    · rw [if_neg h0]
      have q1 : ((x : Int) != 0) = true := by simp; omega
      have q2 : ((x : Int) == 0) = false := by simp; omega
      go_enter Try.func20, Try.ntmps20
      go_wp2_with fail
      refine (C1.out).mono ?_
      rintro e w1 ⟨rfl, rfl⟩
      go_wp2_with fail
      go_ret
      exact ⟨_, rfl, .inl ⟨x, rfl, rfl⟩, Only.refl _ _⟩
  | succ k ih =>
    intro m hm w g l h hl
    have hm8 : m ≤ 8 := by omega
    have IH := Lib.hid (ih (m + 1) (by omega))
    have CL := Lib.hid (fun (w : World) (l : List Nat) (h : Rb w g l) hl => list12_any k m (by omega) IH.out h hl)
    have CD := Lib.hid (fun (w : World) (l : List Nat) (h : Rb w g l) hl => dict12_any k m (by omega) IH.out h hl)
    have C1 := Lib.hid (starts12_any h _ _ Bn.set_value)
    have mE := mkE12
    have HR := Lib.hid h
    clear ih hm h
    by_cases h0 : Bn.first Bn.isValue l = 0
    case neg =>
      have HV : Hid (Bn.value (k + 1) l = .bad (Bn.first Bn.isValue l)) := Lib.hid (by
        cases l with
        | nil => exact Bn.value_end (k + 1)
        | cons c l =>
          rw [Bn.first_cons] at h0 ⊢
          by_cases hv : Bn.isValue c = true
          · rw [if_pos hv] at h0; omega
          · rw [if_neg hv]
            exact Bn.value_form (Classical.not_not.1 (fun hn => hv (Bn.isValue_iff.2 hn))) (k + 1))
      rw [HV.out]
      have hx9 : Bn.first Bn.isValue l ≤ 3 := Bn.first_le _ _
      obtain ⟨x, hx⟩ : ∃ x, Hid (Bn.first Bn.isValue l = x) := ⟨_, rfl⟩
      rw [hx.out] at C1 h0 hx9 ⊢
      have q1 : ((x : Int) != 0) = true := by simp; omega
      have q2 : ((x : Int) == 0) = false := by simp; omega
      go_enter Try.func20, Try.ntmps20
      go_wp2_with fail
      refine (C1.out).mono ?_
      rintro e w1 ⟨rfl, rfl⟩
      go_wp2_with fail
      go_ret
      exact ⟨_, rfl, .inl ⟨x, rfl, rfl⟩, Only.refl _ _⟩
    rw [h0] at C1
    obtain ⟨c, r, hlc, hv⟩ : ∃ c r, l = c :: r ∧ Bn.isValue c = true := by
      cases l with
      | nil => simp [Bn.first] at h0
      | cons c r =>
        refine ⟨c, r, rfl, ?_⟩
        rw [Bn.first_cons] at h0
        split at h0
        · assumption
        · omega
    subst hlc
    clear h0
    have hrl : r.length ≤ 1000000000 := by simp at hl; omega
    by_cases hd : Bn.digit c = true
    · have hdi := Bn.digit_iff.1 hd
      have n1 := Lib.hid (skips12_no HR.out 105 (by omega) (by simp; omega))
      have n2 := Lib.hid (skips12_no HR.out 108 (by omega) (by simp; omega))
      have n3 := Lib.hid (skips12_no HR.out 100 (by omega) (by simp; omega))
      have CT := Lib.hid (text12r_any HR.out hl rfl hd)
      obtain ⟨R, hR⟩ : ∃ R, Hid (Bn.word (c :: r) = R) := ⟨_, rfl⟩
      obtain ⟨Rv, hRv⟩ : ∃ X, Hid (Bn.value (k + 1) (c :: r) = X) := ⟨_, rfl⟩
      have F1 : Hid (∀ e, R = .bad e → Rv = .bad e) := Lib.hid (fun e h => by rw [← hRv.out, Bn.value_word hd, hR.out, h])
      have F2 : Hid (∀ s r', R = .ok s r' → Rv = .ok (.mk 2 0 s [] []) r') := Lib.hid (fun s r' h => by rw [← hRv.out, Bn.value_word hd, hR.out, h])
      rw [hR.out] at CT
      rw [hRv.out]
      clear hd hdi hv
      go_enter Try.func20, Try.ntmps20
      go_wp2_with fail
      refine (C1.out).mono ?_
      rintro e w1 ⟨rfl, rfl⟩
      go_wp2_with fail
      refine (n1.out).mono ?_
      rintro e w1 ⟨rfl, rfl⟩
      go_wp2_with fail
      refine (n2.out).mono ?_
      rintro e w1 ⟨rfl, rfl⟩
      go_wp2_with fail
      refine (n3.out).mono ?_
      rintro e w1 ⟨rfl, rfl⟩
      go_wp2_with fail
      refine (CT.out).mono ?_
      rintro e w2 ⟨v, rfl, hw, ho⟩
      have HW := Lib.hid hw
      have HO := Lib.hid ho
      clear hw ho
      go_wp2_with fail
      go_ret
      refine ⟨_, rfl, ?_, HO.out⟩
      rcases HW.out with ⟨e, h0, rfl⟩ | ⟨s, r', h0, rfl, h1, h2⟩
      · exact .inl ⟨e, F1.out _ h0, rfl⟩
      · exact .inr ⟨_, _, F2.out _ _ h0, h2, .inr (.inl ⟨s, rfl, rfl, h1⟩)⟩
    · have hc3 : c = 105 ∨ c = 108 ∨ c = 100 := by
        have h1 := Bn.isValue_iff.1 hv
        have h2 : Bn.digit c = false := by simpa using hd
        rw [h2] at h1
        simp only [true_and] at h1
        omega
      rcases hc3 with rfl | rfl | rfl
      · have y1 := Lib.hid (skips12_yes HR.out)
        obtain ⟨R, hR⟩ : ∃ R, Hid (Bn.number 101 r = R) := ⟨_, rfl⟩
        obtain ⟨Rv, hRv⟩ : ∃ X, Hid (Bn.value (k + 1) (105 :: r) = X) := ⟨_, rfl⟩
        have F1 : Hid (∀ e, R = .bad e → Rv = .bad e) := Lib.hid (fun e h => by rw [← hRv.out, Bn.value_int rfl, hR.out, h])
        have F2 : Hid (∀ n r', R = .ok n r' → Rv = .ok (.mk 1 n ⟨#[]⟩ [] []) r') := Lib.hid (fun n r' h => by rw [← hRv.out, Bn.value_int rfl, hR.out, h])
        rw [hRv.out]
        clear hd hv
        go_enter Try.func20, Try.ntmps20
        go_wp2_with fail
        refine (C1.out).mono ?_
        rintro e w1 ⟨rfl, rfl⟩
        go_wp2_with fail
        refine (y1.out).mono ?_
        rintro e w1 ⟨rfl, hr1, ho1⟩
        have CN := Lib.hid (number12_any hr1 hrl 101 (by omega))
        rw [hR.out] at CN
        have HO1 := Lib.hid ho1
        clear hr1 ho1
        go_wp2_with fail
        refine (CN.out).mono ?_
        rintro e w2 ⟨v, rfl, hw, ho⟩
        have HW := Lib.hid hw
        have HO := Lib.hid (HO1.out.trans ho)
        clear hw ho
        go_wp2_with fail
        go_ret
        refine ⟨_, rfl, ?_, HO.out⟩
        rcases HW.out with ⟨e, h0, rfl⟩ | ⟨n, r', h0, rfl, h1, h2⟩
        · exact .inl ⟨e, F1.out _ h0, rfl⟩
        · exact .inr ⟨_, _, F2.out _ _ h0, h2, .inl ⟨n, rfl, rfl, h1⟩⟩
      · have n1 := Lib.hid (skips12_no HR.out 105 (by omega) (by simp))
        have y2 := Lib.hid (skips12_yes HR.out)
        have HV : Hid (Bn.value (k + 1) (108 :: r) = Bn.loop (Bn.value k) false (r.length + 1) [] [] r) := Lib.hid (Bn.value_list (.inl rfl))
        rw [HV.out]
        clear hd hv
        go_enter Try.func20, Try.ntmps20
        go_wp2_with fail
        refine (C1.out).mono ?_
        rintro e w1 ⟨rfl, rfl⟩
        go_wp2_with fail
        refine (n1.out).mono ?_
        rintro e w1 ⟨rfl, rfl⟩
        go_wp2_with fail
        refine (y2.out).mono ?_
        rintro e w2 ⟨rfl, hr1, ho1⟩
        have CN := Lib.hid (CL.out _ _ hr1 hrl)
        have HO1 := Lib.hid ho1
        clear hr1 ho1
        go_wp2_with fail
        refine (CN.out).mono ?_
        rintro e w3 ⟨v, rfl, hw, ho⟩
        have HW := Lib.hid (hw.lower HO1.out.size)
        have HO := Lib.hid (HO1.out.trans ho)
        clear hw ho
        go_wp2_with fail
        go_ret
        exact ⟨_, rfl, HW.out, HO.out⟩
      · have n1 := Lib.hid (skips12_no HR.out 105 (by omega) (by simp))
        have n2 := Lib.hid (skips12_no HR.out 108 (by omega) (by simp))
        have y3 := Lib.hid (skips12_yes HR.out)
        have HV : Hid (Bn.value (k + 1) (100 :: r) = Bn.loop (Bn.value k) true (r.length + 1) [] [] r) := Lib.hid (Bn.value_list (.inr rfl))
        rw [HV.out]
        clear hd hv
        go_enter Try.func20, Try.ntmps20
        go_wp2_with fail
        refine (C1.out).mono ?_
        rintro e w1 ⟨rfl, rfl⟩
        go_wp2_with fail
        refine (n1.out).mono ?_
        rintro e w1 ⟨rfl, rfl⟩
        go_wp2_with fail
        refine (n2.out).mono ?_
        rintro e w1 ⟨rfl, rfl⟩
        go_wp2_with fail
        refine (y3.out).mono ?_
        rintro e w2 ⟨rfl, hr1, ho1⟩
        have CN := Lib.hid (CD.out _ _ hr1 hrl)
        have HO1 := Lib.hid ho1
        clear hr1 ho1
        go_wp2_with fail
        refine (CN.out).mono ?_
        rintro e w3 ⟨v, rfl, hw, ho⟩
        have HW := Lib.hid (hw.lower HO1.out.size)
        have HO := Lib.hid (HO1.out.trans ho)
        clear hw ho
        go_wp2_with fail
        go_ret
        exact ⟨_, rfl, HW.out, HO.out⟩

end Go.Proofs.Ytphanlkobkkgfaa
