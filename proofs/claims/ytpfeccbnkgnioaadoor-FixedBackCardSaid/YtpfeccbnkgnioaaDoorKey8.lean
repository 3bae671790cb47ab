/- Contracts of msg.Key and of the reference's Key. -/
import Derived.Test.YtpfeccbnkgnioaaDoorTab
import Derived.Test.YtpfeccbnkgnioaaDoorParts
namespace Go.Proofs.YtpfeccbnkgnioaaDoor
open Go.RowKit
set_option linter.unusedVariables false
set_option maxRecDepth 100000
open Gm

theorem empty_of {s : ByteArray} (h : s.size = 0) : s = ⟨#[]⟩ := by
  apply ByteArray.ext
  apply Array.toList_inj.1
  exact List.eq_nil_of_length_eq_zero (by rw [Array.length_toList]; exact h)
theorem not_empty {s : ByteArray} (h : s.size ≠ 0) : (s.toList == []) = false := by
  have := str_eq s ⟨#[]⟩
  rw [show (⟨#[]⟩ : ByteArray).toList = [] from ByteArray.toList_mk []] at this
  rw [this, decide_eq_false_iff_not]
  intro e
  rw [e] at h
  exact h rfl

set_option maxRecDepth 100000 in
theorem key_any (s : ByteArray) (hs : s.size ≤ maxLen) (w : World) :
    Calls Tryd.prog 35 #[.string s] w fun e w' => e = .returned (.bool (isKey s)) ∧ Below w.heap.size w w' := by
  unfold maxLen at hs
  by_cases h0 : s.size = 0
  · have := empty_of h0
    subst this
    rw [show isKey ⟨#[]⟩ = false by rfl]
    clear h0 hs
    go_enter Tryd.func35, Tryd.ntmps35
    go_wp2_with fail
    go_ret
    exact ⟨rfl, Below.refl _ _⟩
  · have hne := not_empty h0
    by_cases h96 : 96 < s.size
    · have HK : Hid (isKey s = false) := Lib.hid (by unfold isKey; simp; intro _ h; omega)
      rw [HK.out]
      go_enter Tryd.func35, Tryd.ntmps35
      go_wp2_with fail
      go_ret
      exact ⟨rfl, Below.refl _ _⟩
    · have T := Txt.nums s
      have hl : (nums s).length ≤ 96 := by rw [← T.size]; omega
      have C1 := Lib.hid (fun W => valid_any T (by omega) W)
      have C2 := Lib.hid (fun W => count_any T (by omega) W)
      have hp := Tm.parts_length_le (nums s)
      have HK : Hid (isKey s = (Tm.valid (nums s) && decide ((Tm.parts (nums s)).length ≤ 32))) := Lib.hid (by
        unfold isKey
        rw [decide_eq_true (show 0 < s.size by omega), decide_eq_true (show s.size ≤ 96 by omega)]
        rfl)
      obtain ⟨n, hn⟩ : ∃ n, Hid ((Tm.parts (nums s)).length = n) := ⟨_, rfl⟩
      obtain ⟨V, hV⟩ : ∃ V, Hid (Tm.valid (nums s) = V) := ⟨_, rfl⟩
      rw [hn.out] at C2 hp HK
      rw [hV.out] at C1 HK
      clear T
      rw [HK.out]
      go_enter Tryd.func35, Tryd.ntmps35
      go_wp2_with fail
      refine (C1.out _).mono ?_
      rintro e w1 ⟨rfl, hb1⟩
      have HB1 := Lib.hid hb1
      clear hb1
      cases V
      · go_wp2_with fail
        go_ret
        exact ⟨rfl, HB1.out⟩
      · go_wp2_with fail
        refine (C2.out _).mono ?_
        rintro e w2 ⟨rfl, hb2⟩
        have HB2 := Lib.hid (HB1.out.trans (hb2.mono HB1.out.size))
        clear hb2
        go_wp2_with fail
        go_ret
        refine ⟨ret_bool ?_, HB2.out⟩
        rw [Bool.eq_iff_iff]
        simp
        omega

set_option maxRecDepth 100000 in
theorem rkey_any (s : ByteArray) (hs : s.size ≤ maxLen) (w : World) :
    Calls Tryd.prog 49 #[.string s] w fun e w' => e = .returned (.bool (isKey s)) ∧ Below w.heap.size w w' := by
  unfold maxLen at hs
  by_cases h0 : s.size = 0
  · have := empty_of h0
    subst this
    rw [show isKey ⟨#[]⟩ = false by rfl]
    clear h0 hs
    go_enter Tryd.func49, Tryd.ntmps49
    go_wp2_with fail
    go_ret
    exact ⟨rfl, Below.refl _ _⟩
  · have h0' : 0 < s.size := by omega
    by_cases h96 : 96 < s.size
    · have HK : Hid (isKey s = false) := Lib.hid (by unfold isKey; simp; intro _ h; omega)
      rw [HK.out]
      go_enter Tryd.func49, Tryd.ntmps49
      go_wp2_with fail
      go_ret
      exact ⟨rfl, Below.refl _ _⟩
    · have T := Txt.nums s
      have hl : (nums s).length ≤ 96 := by rw [← T.size]; omega
      have C1 := Lib.hid (fun W => validr_any T (by omega) W)
      have C2 := Lib.hid (fun W => parts_any T (by omega) W)
      have hp := Tm.parts_length_le (nums s)
      have HK : Hid (isKey s = (Tm.valid (nums s) && decide ((Tm.parts (nums s)).length ≤ 32))) := Lib.hid (by
        unfold isKey
        rw [decide_eq_true (show 0 < s.size by omega), decide_eq_true (show s.size ≤ 96 by omega)]
        rfl)
      obtain ⟨n, hn⟩ : ∃ n, Hid ((Tm.parts (nums s)).length = n) := ⟨_, rfl⟩
      obtain ⟨V, hV⟩ : ∃ V, Hid (Tm.valid (nums s) = V) := ⟨_, rfl⟩
      rw [hn.out] at C2 hp HK
      rw [hV.out] at C1 HK
      clear T
      rw [HK.out]
      go_enter Tryd.func49, Tryd.ntmps49
      go_wp2_with fail
      refine (C1.out _).mono ?_
      rintro e w1 ⟨rfl, hb1⟩
      have HB1 := Lib.hid hb1
      clear hb1
      cases V
      · go_wp2_with fail
        go_ret
        exact ⟨rfl, HB1.out⟩
      · go_wp2_with fail
        refine (C2.out _).mono ?_
        rintro e w2 ⟨v, rfl, ho, hb2⟩
        have HB2 := Lib.hid (HB1.out.trans (hb2.mono HB1.out.size))
        obtain ⟨A, c, rfl⟩ := own_shape ho
        clear hb2 ho
        go_wp2_with fail
        go_ret
        refine ⟨ret_bool ?_, HB2.out⟩
        rw [Bool.eq_iff_iff]
        simp
        omega
end Go.Proofs.YtpfeccbnkgnioaaDoor
