/- Contracts of the reference of layer 4: digit, Unquote. -/
import Derived.Test.YtlelhoghbgbciaaRef4q
import Derived.Test.YtlelhoghbgbciaaRegion
namespace Go.Proofs.Ytlelhoghbgbciaa
open Go.RowKit
set_option linter.unusedVariables false

set_option maxRecDepth 100000 in
theorem digitr_any (c : Nat) (hc : c < 256) (w : World) :
    Calls Try.prog 21 #[.int .u8 (c : Int)] w fun e w' => e = .returned (.int .i64 (Tm.digit c : Int)) ∧ w' = w := by
  by_cases h1 : 48 ≤ c ∧ c ≤ 57
  · have e : (Tm.digit c : Int) = (c : Int) - 48 := by unfold Tm.digit; rw [if_pos h1]; omega
    rw [e]
    clear e
    obtain ⟨h1, h2⟩ := h1
    go_enter Try.func21, Try.ntmps21
    go_wp2_with fail
    go_ret
    exact ⟨rfl, rfl⟩
  · by_cases h2 : 97 ≤ c ∧ c ≤ 102
    · have e : (Tm.digit c : Int) = (c : Int) - 87 := by unfold Tm.digit; rw [if_neg h1, if_pos h2]; omega
      rw [e]
      clear e
      obtain ⟨h2, h3⟩ := h2
      clear h1
      go_enter Try.func21, Try.ntmps21
      go_wp2_with fail
      go_ret
      exact ⟨rfl, rfl⟩
    · have e : (Tm.digit c : Int) = 16 := by unfold Tm.digit; rw [if_neg h1, if_neg h2]; rfl
      rw [e]
      clear e
      go_enter Try.func21, Try.ntmps21
      go_wp2_with fail
      all_goals first
        | (exfalso; omega)
        | (go_ret; exact ⟨rfl, rfl⟩)

/-- what the reference reads, marks that are none left -/
def got (l : List Nat) : List Nat := if l = [37] then [] else Tm.lenient l
theorem unquote_got {l : List Nat} (hl : ∀ x ∈ l, x < 256) : Tm.unquote l = if Tm.quote (got l) = l then (got l, 0) else ([], 3) := by
  unfold got
  by_cases h : l = [37]
  · subst h; decide +kernel
  · rw [if_neg h]; exact Tm.unquote_lenient hl h
theorem got_byte {l : List Nat} (hl : ∀ x ∈ l, x < 256) : ∀ x ∈ got l, x < 256 := by
  unfold got
  split
  · simp
  · exact Tm.lenient_byte l hl
theorem got_length (l : List Nat) : (got l).length ≤ l.length := by
  unfold got
  split
  · simp
  · exact Tm.lenient_length l

/-- what the loop has read when it stands at byte j -/
structure Len (l acc : List Nat) (j : Nat) (o : ByteArray) : Prop where
  txt : Txt o acc
  same : got l = if l = [37] then [] else acc ++ Tm.lenient (l.drop j)
  one : l = [37] → acc = []
  few : acc.length ≤ j
section
variable {l acc : List Nat} {j : Nat} {o : ByteArray}
theorem Len.start (l : List Nat) : Len l [] 0 ⟨#[]⟩ := ⟨Txt.of (l := []) (by simp), by unfold got; simp, fun _ => rfl, by simp⟩
theorem Len.next (h : Len l acc j o) (h37 : l ≠ [37]) {x n : Nat} {u : ByteArray} (hn : 0 < n) (hx : Tm.lenient (l.drop j) = x :: Tm.lenient (l.drop (j + n))) (hu : Txt u [x]) : Len l (acc ++ [x]) (j + n) (o ++ u) := by
  obtain ⟨h1, h2, h3, h4⟩ := h
  refine ⟨h1.join hu, ?_, fun e => absurd e h37, by simp; omega⟩
  rw [h2, if_neg h37, if_neg h37, hx]
  simp
theorem Len.stay (h : Len l acc j o) (h37 : l = [37]) : Len l acc (j + 1) o := by
  obtain ⟨h1, h2, h3, h4⟩ := h
  exact ⟨h1, by rw [h2, if_pos h37, if_pos h37], h3, by omega⟩
theorem Len.done (h : Len l acc j o) (hj : ¬ j < l.length) : Txt o (got l) := by
  rw [h.same]
  by_cases h37 : l = [37]
  · rw [if_pos h37, ← h.one h37]; exact h.txt
  · rw [if_neg h37, List.drop_eq_nil_of_le (by omega), Tm.lenient_nil, List.append_nil]; exact h.txt
end

set_option maxRecDepth 100000 in
set_option maxHeartbeats 1600000 in
theorem unquoter_any {s : ByteArray} {l : List Nat} (T : Txt s l) (hl : l.length ≤ 1000000000) (w : World) :
    Calls Try.prog 15 #[.string s] w fun e w' => e = .returned (.tuple #[.string (strOf (Tm.unquote l).1), .int .i64 ((Tm.unquote l).2 : Int)]) ∧ Below w.heap.size w w' := by
  have hsz := T.size
  have he : (s.toList == [37]) = decide (l = [37]) := T.eql_lit [37]
  have Hun := Lib.hid (unquote_got T.byte)
  have HS := Lib.hid (Len.start l)
  go_enter Try.func15, Try.ntmps15
  go_wp2_with fail
  go_loopw [4, 5] (fun vo vi wr => ∃ (acc : List Nat) (j : Nat) (o : ByteArray), vi = .int .i64 j ∧ j ≤ l.length ∧ vo = .string o ∧ o.size ≤ j ∧ Hid (Below w.heap.size w wr) ∧ Hid (Len l acc j o)) (fun _ vi _ => l.length - (intOf vi).toNat)
  case atStart => exact ⟨[], 0, ⟨#[]⟩, rfl, by omega, rfl, Nat.le_refl 0, Lib.hid (Below.refl _ _), HS⟩
  case round =>
    clear HS
    obtain ⟨acc, j, o, rfl, hj, rfl, hos, HW, HU⟩ := hrel
    by_cases hlt : j < l.length
    · obtain ⟨c, Hc⟩ : ∃ c, Hid (l.getD j 0 = c) := ⟨_, rfl⟩
      have hat : ∀ (h : j < s.size), (s[j]'h).toNat = c := fun h => by rw [← Hc.out]; exact T.at_ j h
      have hc := getD_lt T.byte j
      rw [Hc.out] at hc
      have Hdr := Lib.hid (drop_cons hlt)
      rw [Hc.out] at Hdr
      have Hcut : Hid (Txt (s.extract j (j + 1)) [c]) := Lib.hid (by
        have := T.cut j (j + 1)
        rw [Nat.add_sub_cancel_left, Hdr.out] at this
        simpa using this)
      have hcs : (s.extract j (j + 1)).size = 1 := by rw [Hcut.out.size]; rfl
      have hcat : ¬ 9223372036854775807 < o.size + (s.extract j (j + 1)).size := by rw [hcs]; omega
      have Hns : Hid ((o ++ s.extract j (j + 1)).size = o.size + 1) := Lib.hid (by rw [ByteArray.size_append, hcs])
      clear hcs
      by_cases hc37 : c = 37
      · subst hc37
        by_cases h2 : j + 2 < l.length
        · have hne : l ≠ [37] := by intro e; rw [e] at h2; simp at h2
          rw [decide_eq_false hne] at he
          obtain ⟨a, Ha⟩ : ∃ a, Hid (l.getD (j + 1) 0 = a) := ⟨_, rfl⟩
          obtain ⟨b, Hb⟩ : ∃ b, Hid (l.getD (j + 2) 0 = b) := ⟨_, rfl⟩
          have hata : ∀ (h : j + 1 < s.size), (s[j + 1]'h).toNat = a := fun h => by rw [← Ha.out]; exact T.at_ _ h
          have hatb : ∀ (h : j + 2 < s.size), (s[j + 2]'h).toNat = b := fun h => by rw [← Hb.out]; exact T.at_ _ h
          have hal := getD_lt T.byte (j + 1)
          have hbl := getD_lt T.byte (j + 2)
          rw [Ha.out] at hal
          rw [Hb.out] at hbl
          have Hd3 : Hid (l.drop j = 37 :: a :: b :: l.drop (j + 3)) := Lib.hid (by rw [Hdr.out, drop_cons (i := j + 1) (by omega), drop_cons (i := j + 1 + 1) (by omega), Ha.out, show l.getD (j + 1 + 1) 0 = b from Hb.out])
          have D1 := Lib.hid (digitr_any a hal)
          have D2 := Lib.hid (digitr_any b hbl)
          have HXX := Lib.hid (fun (hd : Tm.digit a < 16 ∧ Tm.digit b < 16) => HU.out.next hne (n := 3) (x := 16 * Tm.digit a + Tm.digit b) (u := strOf [16 * Tm.digit a + Tm.digit b]) (by omega) (by rw [Hd3.out]; exact Tm.lenient_mark _ hd.1 hd.2) (Txt.of (by simp; omega)))
          have HXB := Lib.hid (fun (hd : ¬ (Tm.digit a < 16 ∧ Tm.digit b < 16)) => HU.out.next hne (n := 1) (by omega) (by rw [Hdr.out]; exact Tm.lenient_bad (fun a' b' t h => by
            have e := Hd3.out
            rw [Hdr.out, h] at e
            injection e with _ e
            injection e with e1 e
            injection e with e2 e
            rw [e1, e2]; exact hd)) Hcut.out)
          obtain ⟨x, Hx⟩ : ∃ x, Hid (Tm.digit a = x) := ⟨_, rfl⟩
          obtain ⟨y, Hy⟩ : ∃ y, Hid (Tm.digit b = y) := ⟨_, rfl⟩
          have hx16 : x ≤ 16 := by rw [← Hx.out]; exact Tm.digit_le a
          have hy16 : y ≤ 16 := by rw [← Hy.out]; exact Tm.digit_le b
          rw [Hx.out] at D1 HXX HXB
          rw [Hy.out] at D2 HXX HXB
          by_cases hdx : x < 16
          · by_cases hdy : y < 16
            · have HX := Lib.hid (HXX.out ⟨hdx, hdy⟩)
              clear HXX HXB
              obtain ⟨z, Hz⟩ : ∃ z, Hid (16 * x + y = z) := ⟨_, rfl⟩
              have hz : z < 256 := by have := Hz.out; omega
              have ez : (16 : Int) * (x : Int) + (y : Int) = (z : Int) := by have := Hz.out; omega
              rw [Hz.out] at HX
              have hzs : (strOf [z]).size = 1 := rfl
              have hcz : ¬ 9223372036854775807 < o.size + (strOf [z]).size := by rw [hzs]; omega
              have Hnz : Hid ((o ++ strOf [z]).size = o.size + 1) := Lib.hid (by rw [ByteArray.size_append, hzs])
              clear hzs
              go_wp2_with fail
              refine (D1.out _).mono ?_
              rintro e w1 ⟨rfl, rfl⟩
              go_wp2_with fail
              refine (D2.out _).mono ?_
              rintro e w1 ⟨rfl, rfl⟩
              go_wp2_with fail
              obtain ⟨j1, Hj1⟩ : ∃ j1, Hid (j + 1 = j1) := ⟨_, rfl⟩
              obtain ⟨j2, Hj2⟩ : ∃ j2, Hid (j + 2 = j2) := ⟨_, rfl⟩
              obtain ⟨x6, Hx6⟩ : ∃ x6, Hid (16 * x = x6) := ⟨_, rfl⟩
              have e1 : IntKind.i64.wrap ((j : Int) + 1) = (j1 : Int) := by have := Hj1.out; rw [IntKind.wrap_i64]; omega
              have e2 : IntKind.i64.wrap ((j : Int) + 2) = (j2 : Int) := by have := Hj2.out; rw [IntKind.wrap_i64]; omega
              have e3 : IntKind.i64.wrap (16 * (x : Int)) = (x6 : Int) := by have := Hx6.out; rw [IntKind.wrap_i64]; omega
              have e4 : IntKind.i64.wrap ((x6 : Int) + (y : Int)) = (z : Int) := by have := Hx6.out; have := Hz.out; rw [IntKind.wrap_i64]; omega
              have e5 : IntKind.u8.wrap (z : Int) = (z : Int) := by rw [IntKind.wrap_u8]; omega
              have b1 : (j1 : Int) < (l.length : Int) := by have := Hj1.out; omega
              have b2 : (j2 : Int) < (l.length : Int) := by have := Hj2.out; omega
              have hata1 : ∀ (h : j1 < s.size), (s[j1]'h).toNat = a := fun h => by rw [← Ha.out]; rw [T.at_ _ h, Hj1.out]
              have hatb1 : ∀ (h : j2 < s.size), (s[j2]'h).toNat = b := fun h => by rw [← Hb.out]; rw [T.at_ _ h, Hj2.out]
              clear hata hatb ez
              refine wp_region_plan (S := fun _ => True) [(0, true), (1, true), (2, true), (3, true), (4, true), (7, true), (8, true), (9, true), (10, true), (5, false), (6, true), (11, false), (12, true), (13, true), (14, false), (15, false), (16, true), (17, true)] (by kernel_rfl) (by kernel_rfl) rfl (by kernel_rfl) (fun _ _ _ _ _ h => h) trivial ?_
              iterate 9
                refine along_take (v := ?_) rfl (by rfl) ?_ ?_
                rotate_left
                · intro W hW; go_simp; try with_reducible rfl
                simp only [Act.put, List.setIfInBounds_toArray, List.set_cons_zero, List.set_cons_succ]
              refine along_step rfl (fun K hK => ?_)
              go_simp
              refine (D1.out _).mono ?_
              rintro e w2 ⟨rfl, rfl⟩
              refine hK.out _ _ trivial ?_
              clear hK K
              refine along_take (v := ?_) rfl (by rfl) ?_ ?_
              rotate_left
              · intro W hW; go_simp; try with_reducible rfl
              simp only [Act.put, List.setIfInBounds_toArray, List.set_cons_zero, List.set_cons_succ]
              refine along_step rfl (fun K hK => ?_)
              go_simp
              refine (D2.out _).mono ?_
              rintro e w2 ⟨rfl, rfl⟩
              refine hK.out _ _ trivial ?_
              clear hK K
              iterate 2
                refine along_take (v := ?_) rfl (by rfl) ?_ ?_
                rotate_left
                · intro W hW; go_simp; try with_reducible rfl
                simp only [Act.put, List.setIfInBounds_toArray, List.set_cons_zero, List.set_cons_succ]
              refine along_step rfl (fun K hK => ?_)
              go_simp
              refine hK.out _ _ trivial ?_
              clear hK K
              try simp only [Act.put, List.setIfInBounds_toArray, List.set_cons_zero, List.set_cons_succ]
              have hcv : (convert 39 9 (.slice (some ⟨w1.heap.size, 0, none⟩) 1 1)).run Try.prog (w1.alloc (.cells #[.int .u8 (z : Int)] 5)).drew = .ok (.string (strOf [z])) (w1.alloc (.cells #[.int .u8 (z : Int)] 5)).drew :=
                conv_sees (l := [z]) Try.underlying39 Try.underlying5 Try.underlying9 1 1 rfl (sees_new w1.heap.size [z] _ _ rfl rfl)
              refine along_step rfl (fun K hK => ?_)
              go_simp
              refine hK.out _ _ trivial ?_
              clear hK K hcv
              try simp only [Act.put, List.setIfInBounds_toArray, List.set_cons_zero, List.set_cons_succ]
              iterate 2
                refine along_take (v := ?_) rfl (by rfl) ?_ ?_
                rotate_left
                · intro W hW; go_simp; try with_reducible rfl
                simp only [Act.put, List.setIfInBounds_toArray, List.set_cons_zero, List.set_cons_succ]
              refine along_done ?_
              have HW2 : Hid (Below w.heap.size w (w1.alloc (.cells #[.int .u8 (z : Int)] 5)).drew) := Lib.hid ((HW.out.alloc HW.out.size _).drew)
              generalize (w1.alloc (.cells #[.int .u8 (z : Int)] 5)).drew = w2 at *
              clear e1 e2 e3 e4 e5
              go_wp2_with fail
              go_roundw
              case rel => exact ⟨_, j + 3, o ++ strOf [z], by go_num, by omega, rfl, by rw [Hnz.out]; omega, HW2, HX⟩
              case measure => simp [intOf]; omega
            · have HX := Lib.hid (HXB.out (fun h => hdy h.2))
              clear HXX HXB
              go_wp2_with fail
              refine (D1.out _).mono ?_
              rintro e w1 ⟨rfl, rfl⟩
              go_wp2_with fail
              refine (D2.out _).mono ?_
              rintro e w1 ⟨rfl, rfl⟩
              go_wp2_with fail
              go_roundw
              case rel => exact ⟨_, j + 1, o ++ s.extract j (j + 1), by go_num, by omega, rfl, by rw [Hns.out]; omega, HW, HX⟩
              case measure => simp [intOf]; omega
          · have HX := Lib.hid (HXB.out (fun h => hdx h.1))
            clear HXX HXB
            go_wp2_with fail
            refine (D1.out _).mono ?_
            rintro e w1 ⟨rfl, rfl⟩
            go_wp2_with fail
            go_roundw
            case rel => exact ⟨_, j + 1, o ++ s.extract j (j + 1), by go_num, by omega, rfl, by rw [Hns.out]; omega, HW, HX⟩
            case measure => simp [intOf]; omega
        · by_cases hne : l = [37]
          · have HX := Lib.hid (HU.out.stay hne)
            rw [decide_eq_true hne] at he
            clear hne
            go_wp2_with fail
            go_roundw
            case rel => exact ⟨_, j + 1, o, by go_num, by omega, rfl, by omega, HW, HX⟩
            case measure => simp [intOf]; omega
          · rw [decide_eq_false hne] at he
            have HX := Lib.hid (HU.out.next hne (n := 1) (by omega) (by rw [Hdr.out]; exact Tm.lenient_bad (fun a b t h => by have := congrArg List.length h; rw [List.length_drop] at this; simp at this; omega)) Hcut.out)
            go_wp2_with fail
            go_roundw
            case rel => exact ⟨_, j + 1, o ++ s.extract j (j + 1), by go_num, by omega, rfl, by rw [Hns.out]; omega, HW, HX⟩
            case measure => simp [intOf]; omega
      · have hne : l ≠ [37] := by
          intro e
          rw [e] at hlt Hc
          have : j = 0 := by simp at hlt; omega
          subst this
          exact hc37 (by rw [← Hc.out]; rfl)
        rw [decide_eq_false hne] at he
        have hcc : ((c : Int) == 37) = false := by simp; omega
        have HX := Lib.hid (HU.out.next hne (n := 1) (by omega) (by rw [Hdr.out]; exact Tm.lenient_other _ hc37) Hcut.out)
        go_wp2_with fail
        go_roundw
        case rel => exact ⟨_, j + 1, o ++ s.extract j (j + 1), by go_num, by omega, rfl, by rw [Hns.out]; omega, HW, HX⟩
        case measure => simp [intOf]; omega
    · have HT := Lib.hid (HU.out.done hlt)
      have hgl := got_length l
      have C := Lib.hid (fun W => quoter_any HT.out (by omega) W)
      have Heq := Lib.hid ((Txt.of (Tm.quote_byte HT.out.byte)).eql T)
      have Hstr := Lib.hid HT.out.str
      clear hgl
      by_cases hq : Tm.quote (got l) = l
      · have HF : Hid (Tm.unquote l = (got l, 0)) := Lib.hid (by rw [Hun.out, if_pos hq])
        have heq := Heq.out
        rw [decide_eq_true hq] at heq
        clear Heq hq Hun
        go_wp2_with fail
        refine (C.out _).mono ?_
        rintro e w1 ⟨rfl, hb⟩
        have HB := Lib.hid (HW.out.trans (hb.mono HW.out.size))
        clear hb
        go_wp2_with fail
        go_ret2
        refine ⟨?_, HB.out⟩
        rw [HF.out]
        show _ = Ending.returned (.tuple #[.string (strOf (got l)), .int .i64 0])
        rw [← Hstr.out]
        rfl
      · have HF : Hid (Tm.unquote l = ([], 3)) := Lib.hid (by rw [Hun.out, if_neg hq])
        have heq := Heq.out
        rw [decide_eq_false hq] at heq
        clear Heq hq Hun
        go_wp2_with fail
        refine (C.out _).mono ?_
        rintro e w1 ⟨rfl, hb⟩
        have HB := Lib.hid (HW.out.trans (hb.mono HW.out.size))
        clear hb
        go_wp2_with fail
        go_ret2
        refine ⟨?_, HB.out⟩
        rw [HF.out]
        rfl
end Go.Proofs.Ytlelhoghbgbciaa
