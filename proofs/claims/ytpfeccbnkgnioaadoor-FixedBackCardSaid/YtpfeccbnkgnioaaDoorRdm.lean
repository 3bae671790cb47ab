/- Contracts of the reader's methods Fix, Uvar, Flag. -/
import Derived.Test.YtpfeccbnkgnioaaDoorRd
import Derived.Test.YtpfeccbnkgnioaaDoorTxt
namespace Go.Proofs.YtpfeccbnkgnioaaDoor
open Go.RowKit
set_option linter.unusedVariables false

theorem isSize_any (s : Int) (w : World) :
    Calls Tryd.prog 40 #[.int .i64 s] w fun en w' => en = .returned (.bool (decide (1 ≤ s ∧ s ≤ 8))) ∧ w = w' := by
  by_cases h1 : 1 ≤ s
  · by_cases h8 : s ≤ 8
    all_goals
      go_enter Tryd.func40, Tryd.ntmps40
      go_wp2_with fail
      go_ret
      exact ⟨ret_bool (by simp; omega), rfl⟩
  · go_enter Tryd.func40, Tryd.ntmps40
    go_wp2_with fail
    go_ret
    exact ⟨ret_bool (by simp; omega), rfl⟩

theorem fix_acc {a x : Nat} (ha : a < 256 ^ 7) (hx : x < 256) : bits .or .u64 ((a : Int) * 256) (x : Int) = ((a * 256 + x : Nat) : Int) := by
  rw [show (a : Int) * 256 = ((a * 256 : Nat) : Int) by omega, u64_or_nat _ _ (by omega) (by omega)]
  have := Nat.two_pow_add_eq_or_of_lt (i := 8) (b := x) hx a
  rw [Nat.mul_comm a 256, show (256 : Nat) = 2 ^ 8 by decide, this]

set_option maxRecDepth 100000 in
theorem rfix_any {w : World} {g : Nat} {l : List Nat} {e : Int} (s : Int) (h1 : -9223372036854775808 ≤ s) (h2 : s ≤ 9223372036854775807) (h : Rd w g l e) :
    Calls Tryd.prog 20 #[.pointer (some ⟨g, 0, none⟩), .int .i64 s] w fun en w' => en = .returned (.int .u64 ((Bm.rfix l e s).1 : Int)) ∧ Rd w' g (Bm.rfix l e s).2.1 (Bm.rfix l e s).2.2 ∧ Only g w w' := by
  have H := Lib.hid h
  clear h
  by_cases hs : 1 ≤ s ∧ s ≤ 8
  · obtain ⟨k, rfl⟩ : ∃ k : Nat, s = (k : Int) := ⟨s.toNat, by omega⟩
    have hdec : decide (1 ≤ (k : Int) ∧ (k : Int) ≤ 8) = true := by simpa using hs
    obtain ⟨hs1, hs8⟩ := hs
    have Hr : Hid (∃ p, (Bm.take l e k).1 = p ∧ p.length ≤ 8 ∧ (∀ x ∈ p, x < 256) ∧ Bm.rfix l e k = (Bm.be p, (Bm.take l e k).2.1, (Bm.take l e k).2.2)) := by
      refine ⟨_, rfl, ?_⟩
      by_cases he : e = 0
      · subst he
        by_cases hl : k ≤ l.length
        · rw [Bm.take_good hl, Bm.rfix_good (by omega) (by omega) hl]
          exact ⟨by rw [List.length_take]; omega, fun x hx => H.out.byte x (List.mem_of_mem_take hx), rfl⟩
        · rw [Bm.take_short (by omega), Bm.rfix_short (by omega) (by omega) (by omega)]
          exact ⟨by simp, by simp, rfl⟩
      · rw [Bm.take_err he, Bm.rfix_err he]
        exact ⟨by simp, by simp, rfl⟩
    obtain ⟨p, hp⟩ := Hr.out
    have hp8 := hp.2.1
    have Hp := Lib.hid hp
    clear hp
    go_enter Tryd.func20, Tryd.ntmps20
    go_wp2_with fail
    refine (isSize_any _ _).mono ?_
    rintro en w1 ⟨rfl, rfl⟩
    rw [hdec]
    go_wp2_with fail
    refine (rnext_any k (by omega) H.out).mono ?_
    rintro en w1 ⟨v, rfl, ⟨A, c, rfl, hsee, -, -, -⟩, hr, ho⟩
    rw [Hp.out.1] at hsee ⊢
    have HS := Lib.hid hsee
    have HR := Lib.hid hr
    have HO := Lib.hid ho
    clear hsee hr ho
    obtain ⟨n, Hn⟩ : ∃ n, Hid (p.length = n) := ⟨_, rfl⟩
    rw [Hn.out] at hp8 ⊢
    go_wp2_with fail
    go_loop [5, 17] (fun m i => ∃ (j a : Nat), j ≤ n ∧ i = .int .i64 j ∧ m = .int .u64 a ∧ Hid (a = Bm.be (p.take j))) (fun _ i => n - (intOf i).toNat)
    case atStart => exact ⟨0, 0, by omega, rfl, rfl, Lib.hid (by simp [Bm.be])⟩
    case round =>
      obtain ⟨j, a, hj, rfl, rfl, Ha⟩ := hrel
      by_cases hlt : j < n
      · obtain ⟨b, off, rfl, _, hcell⟩ := HS.out.at_ (i := j) (by rw [Hn.out]; exact hlt)
        have hx : p.getD j 0 < 256 := getD_lt Hp.out.2.2.1 j
        have hlt2 : a < 256 ^ 7 := by
          have := Bm.be_take p Hp.out.2.2.1 j (by rw [Hn.out]; omega)
          rw [← Ha.out] at this
          exact Nat.lt_of_lt_of_le this (Bm.pow7 (by omega))
        have Hnext := Lib.hid (Bm.be_next p j (by rw [Hn.out]; exact hlt))
        obtain ⟨x, Hx⟩ : ∃ x, Hid (p.getD j 0 = x) := ⟨_, rfl⟩
        rw [Hx.out] at hcell hx Hnext
        have Hacc := Lib.hid (fix_acc hlt2 hx)
        go_wp2_with fail
        go_round
        case rel => exact ⟨j + 1, a * 256 + x, by omega, by go_num, by rw [Hacc.out], Lib.hid (by rw [Hnext.out, ← Ha.out])⟩
        case measure => simp [intOf]; omega
      · go_wp2_with fail
        go_ret
        have hjn : j = p.length := by rw [Hn.out]; omega
        refine ⟨ret_int ?_, ?_, HO.out⟩
        · rw [Hp.out.2.2.2, Ha.out, hjn, List.take_length]
        · rw [Hp.out.2.2.2]; exact HR.out
  · have hdec : decide (1 ≤ s ∧ s ≤ 8) = false := by simpa using hs
    have Hr : Hid (Bm.rfix l e s = (0, l, Bm.fail e 1)) := by
      by_cases he : e = 0
      · subst he
        show Bm.rfix l 0 s = _
        rw [Bm.rfix_arg (by omega)]
        rfl
      · show Bm.rfix l e s = _
        rw [Bm.rfix_err he, Bm.fail_err he]
    clear hs
    go_enter Tryd.func20, Tryd.ntmps20
    go_wp2_with fail
    refine (isSize_any _ _).mono ?_
    rintro en w1 ⟨rfl, rfl⟩
    rw [hdec]
    go_wp2_with fail
    refine (rfail_any 1 H.out).mono ?_
    rintro en w1 ⟨rfl, hr, ho⟩
    have HR := Lib.hid hr
    have HO := Lib.hid ho
    clear hr ho
    go_wp2_with fail
    go_ret
    rw [Hr.out]
    exact ⟨rfl, HR.out, HO.out⟩

theorem left_pos {l : List Nat} {e : Int} (he : e = 0) (h : 0 < l.length) : 0 < Bm.left l e := by subst he; exact h

set_option maxRecDepth 100000 in
theorem rflag_any {w : World} {g : Nat} {l : List Nat} {e : Int} (h : Rd w g l e) :
    Calls Tryd.prog 57 #[.pointer (some ⟨g, 0, none⟩)] w fun en w' => en = .returned (.bool (Bm.flag l e).1) ∧ Rd w' g (Bm.flag l e).2.1 (Bm.flag l e).2.2 ∧ Only g w w' := by
  by_cases hgo : e = 0 ∧ 0 < l.length
  · obtain ⟨he, hl⟩ := hgo
    subst he
    obtain ⟨A, c, h⟩ := h
    have h1 := h.rest
    have hs := h.size
    have H := Lib.hid h
    have hb := h.byte
    obtain ⟨b, off, rfl, _, hcell⟩ := h.sees.at_ (i := 0) hl
    rw [Nat.add_zero] at hcell
    have hx : l.getD 0 0 < 256 := getD_lt hb 0
    have HF3 := Lib.hid (Bm.flag_form (l := l) (by omega))
    have HF0 := Lib.hid (Bm.flag_good (l := l) (by omega))
    have HT := Lib.hid (Bm.rfix_good (l := l) (k := 1) (by omega) (by omega) (by omega))
    have HL : Hid ((Bm.left l 0) = l.length) := Bm.left_ok
    have Hbe : Hid (Bm.be (l.take 1) = l.getD 0 0) := by
      show Bm.be (l.take (0 + 1)) = _
      rw [Bm.be_next l 0 hl]
      simp [Bm.be]
    obtain ⟨x, Hx⟩ : ∃ x, Hid (l.getD 0 0 = x) := ⟨_, rfl⟩
    rw [Hx.out] at hcell hx HF3 HF0 Hbe
    obtain ⟨n, Hn⟩ : ∃ n, Hid (l.length = n) := ⟨_, rfl⟩
    rw [Hn.out] at h1 hs hl HL
    clear h hb
    by_cases h1x : 1 < x
    · rw [HF3.out h1x]
      go_enter Tryd.func57, Tryd.ntmps57
      go_wp2_with fail
      refine (rleft_any ⟨_, c, H.out⟩).mono ?_
      rintro en w1 ⟨rfl, rfl⟩
      rw [HL.out]
      go_wp2_with fail
      refine (rfail_any 3 ⟨_, c, H.out⟩).mono ?_
      rintro en w1 ⟨rfl, hr, ho⟩
      have HR := Lib.hid hr
      have HO := Lib.hid ho
      clear hr ho
      go_wp2_with fail
      go_ret
      exact ⟨rfl, HR.out, HO.out⟩
    · rw [HF0.out h1x]
      go_enter Tryd.func57, Tryd.ntmps57
      go_wp2_with fail
      refine (rleft_any ⟨_, c, H.out⟩).mono ?_
      rintro en w1 ⟨rfl, rfl⟩
      rw [HL.out]
      go_wp2_with fail
      refine (rfix_any 1 (by omega) (by omega) ⟨_, c, H.out⟩).mono ?_
      rintro en w1 ⟨rfl, hr, ho⟩
      rw [show (1 : Int) = ((1 : Nat) : Int) from rfl, HT.out] at hr ⊢
      have HR := Lib.hid hr
      have HO := Lib.hid ho
      clear hr ho
      dsimp only
      rw [Hbe.out]
      go_wp2_with fail
      go_ret
      exact ⟨ret_bool (beq_nat x 1), by rw [← List.drop_one]; exact HR.out, HO.out⟩
  · have H := Lib.hid h
    have HT : Hid (∃ y, Bm.rfix l e 1 = (0, l, y) ∧ Bm.flag l e = (false, l, y)) := by
      by_cases he : e = 0
      · subst he
        have h0 : l.length = 0 := by omega
        exact ⟨2, Bm.rfix_short (k := 1) (by omega) (by omega) (by omega), Bm.flag_short h0⟩
      · exact ⟨e, Bm.rfix_err he, Bm.flag_err he⟩
    have HL : Hid (Bm.left l e = 0) := by
      by_cases he : e = 0
      · subst he
        show Bm.left l 0 = 0
        rw [Bm.left_ok]
        omega
      · exact Bm.left_err he
    obtain ⟨y, hy⟩ := HT.out
    have Hy := Lib.hid hy.1
    rw [hy.2]
    clear h hgo hy HT
    go_enter Tryd.func57, Tryd.ntmps57
    go_wp2_with fail
    refine (rleft_any H.out).mono ?_
    rintro en w1 ⟨rfl, rfl⟩
    rw [HL.out]
    go_wp2_with fail
    refine (rfix_any 1 (by omega) (by omega) H.out).mono ?_
    rintro en w1 ⟨rfl, hr, ho⟩
    rw [Hy.out] at hr ⊢
    have HR := Lib.hid hr
    have HO := Lib.hid ho
    clear hr ho
    go_wp2_with fail
    go_ret
    exact ⟨rfl, HR.out, HO.out⟩
end Go.Proofs.YtpfeccbnkgnioaaDoor
