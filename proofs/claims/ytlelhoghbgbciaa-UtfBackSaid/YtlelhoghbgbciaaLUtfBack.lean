/- The walk of the law UtfBack: it answers true, and nothing that was there has turned. -/
import Derived.Test.YtlelhoghbgbciaaAwake4
import Derived.Test.YtlelhoghbgbciaaFrame
namespace Go.Proofs.Ytlelhoghbgbciaa
open Go.RowKit
set_option linter.unusedVariables false

theorem unquote_err (m : List Nat) : (Tm.unquote m).2 = 0 ∨ (Tm.unquote m).2 = 3 := by
  unfold Tm.unquote
  split
  · exact .inl rfl
  · split
    · split
      · exact .inl rfl
      · exact .inr rfl
    · exact .inr rfl
theorem unquote_length (m : List Nat) : (Tm.unquote m).1.length ≤ m.length := by
  unfold Tm.unquote
  split
  · simp
  · split
    · rename_i p hp
      split
      · exact Tm.unmark_length hp
      · simp
    · simp

set_option maxRecDepth 100000 in
set_option maxHeartbeats 1600000 in
theorem utfBack_walk (s r : ByteArray) (w : World) (ws : s.size ≤ 9223372036854775807) (wr0 : r.size ≤ 9223372036854775807) :
    Calls Try.prog 6 #[.string s, .string r] w fun e w' => e = .returned (.bool true) ∧ Below w.heap.size w w' := by
  have T := Txt.nums s
  have hsz := T.size
  have U := Txt.nums r
  have husz := U.size
  by_cases h300 : 300 < s.size
  · clear T hsz U husz
    go_enter Try.func6, Try.ntmps6
    go_wp2_with fail
    refine (awake4_any _).mono ?_
    rintro e w1 ⟨rfl, hb⟩
    have HB := Lib.hid hb
    clear hb
    go_wp2_with fail
    go_ret
    exact ⟨rfl, HB.out⟩
  by_cases h301 : 300 < r.size
  · clear T hsz U husz
    go_enter Try.func6, Try.ntmps6
    go_wp2_with fail
    refine (awake4_any _).mono ?_
    rintro e w1 ⟨rfl, hb⟩
    have HB := Lib.hid hb
    clear hb
    go_wp2_with fail
    go_ret
    exact ⟨rfl, HB.out⟩
  obtain ⟨l, Hl⟩ : ∃ l, Hid (nums s = l) := ⟨_, rfl⟩
  rw [Hl.out] at T hsz
  obtain ⟨m, Hm⟩ : ∃ m, Hid (nums r = m) := ⟨_, rfl⟩
  rw [Hm.out] at U husz
  have C1 := Lib.hid (fun W => quote_any T (by omega) W)
  have hqb := Tm.quote_byte T.byte
  have hql : (Tm.quote l).length ≤ 4 * l.length + 1 := by
    unfold Tm.quote; split
    · simp
    · have := Tm.words_length l; omega
  have C2 := Lib.hid (fun W => unquote_any (Txt.of hqb) (by omega) W)
  rw [Tm.unquote_quote T.byte] at C2
  have hne : ((strOf (Tm.quote l)).toList == []) = decide (Tm.quote l = []) := (Txt.of hqb).eql_lit []
  rw [decide_eq_false (Tm.quote_ne l)] at hne
  have HQ := Lib.hid (Txt.of hqb)
  have Hseen := Lib.hid (Tm.quote_seen T.byte)
  have C3 := Lib.hid (fun W => unquote_any U (by omega) W)
  have hum := Tm.unquote_byte U.byte
  have huo := Tm.unquote_ok (w := m)
  have hul := unquote_length m
  have hue := unquote_err m
  obtain ⟨p, er, Hpe⟩ : ∃ p er, Hid (Tm.unquote m = (p, er)) := ⟨_, _, rfl⟩
  rw [Hpe.out] at C3 hum huo hul hue
  dsimp only at C3 hum huo hul hue
  have C4 := Lib.hid (fun W => quote_any (Txt.of hum) (by omega) W)
  have heq : er = 0 → ((strOf (Tm.quote p)).toList == r.toList) = true := fun h => by
    rw [(Txt.of (Tm.quote_byte hum)).eql U, decide_eq_true (huo h)]
  have C5 := Lib.hid (fun W => clip_any T (by omega) 3 (by omega) (by omega) W)
  have hcb : ∀ x ∈ Tm.clip l 3, x < 256 := fun x hx => T.byte x (Tm.clip_mem hx)
  have hcl : (Tm.clip l 3).length ≤ l.length := by
    unfold Tm.clip
    have e := Tm.parts_flatten l
    rw [← List.take_append_drop (Int.toNat 3) (Tm.parts l), List.flatten_append] at e
    have := congrArg List.length e
    rw [List.length_append] at this
    omega
  have C6 := Lib.hid (fun W => count_any (Txt.of hcb) (by omega) W)
  rw [Tm.clip_count] at C6
  have C7 := Lib.hid (fun W => count_any T (by omega) W)
  have hpn := Tm.parts_length_le l
  obtain ⟨n, Hn⟩ : ∃ n, Hid ((Tm.parts l).length = n) := ⟨_, rfl⟩
  rw [Hn.out] at C6 C7 hpn
  have hstr := T.str
  rw [← hstr] at C2
  clear hqb hum huo hcb hcl hstr
  have hsize : (strOf (Tm.quote l)).size ≤ 2000 := by rw [strOf_size]; omega
  obtain ⟨Q, HQq⟩ : ∃ Q, Hid (strOf (Tm.quote l) = Q) := ⟨_, rfl⟩
  rw [HQq.out] at C1 C2 hne HQ hsize
  clear hql
  go_enter Try.func6, Try.ntmps6
  go_wp2_with fail
  refine (C1.out _).mono ?_
  rintro e w1 ⟨rfl, hb⟩
  have HB1 := Lib.hid hb
  clear hb
  go_wp2_with fail
  refine (C2.out _).mono ?_
  rintro e w2 ⟨rfl, hb⟩
  have HB2 := Lib.hid (HB1.out.trans (hb.mono HB1.out.size))
  clear hb HB1
  go_wp2_with fail
  go_loopw [8] (fun vi wr => ∃ i : Nat, vi = .int .i64 i ∧ i ≤ Q.size ∧ Hid (wr = w2)) (fun vi _ => Q.size - (intOf vi).toNat)
  case atStart => exact ⟨0, rfl, by omega, Lib.hid rfl⟩
  case round =>
    obtain ⟨i, rfl, hi, HW⟩ := hrel
    by_cases hlt : i < Q.size
    · obtain ⟨c, Hc⟩ : ∃ c, Hid ((Tm.quote l).getD i 0 = c) := ⟨_, rfl⟩
      have hat : ∀ (h : i < Q.size), (Q[i]'h).toNat = c := fun h => by rw [← Hc.out]; exact HQ.out.at_ i h
      have hs := Hseen.out c (by
        rw [← Hc.out]
        have h2 : i < (Tm.quote l).length := by rw [← HQ.out.size]; exact hlt
        simp [List.getD, List.getElem?_eq_getElem h2])
      obtain ⟨hs1, hs2⟩ := hs
      have hs2' : ((c : Int) == 127) = false := by simp; omega
      go_wp2_with fail
      go_roundw
      case rel => exact ⟨i + 1, by go_num, by omega, HW⟩
      case measure => simp [intOf]; omega
    · have hwr := HW.out
      subst hwr
      clear HW
      have hmin : (n ≤ 3 ∧ min (Int.toNat 3) n = n) ∨ (3 < n ∧ min (Int.toNat 3) n = 3) := by have : Int.toNat 3 = 3 := rfl; omega
      rcases hue with hue | hue
      · replace heq := heq hue
        subst hue
        rcases hmin with ⟨g1, g2⟩ | ⟨g1, g2⟩
        all_goals
          rw [g2] at C6
          clear g2
          go_wp2_with fail
          refine (C3.out _).mono ?_
          rintro e w3 ⟨rfl, hb⟩
          have HB3 := Lib.hid (HB2.out.trans (hb.mono HB2.out.size))
          clear hb
          go_wp2_with fail
          refine (C4.out _).mono ?_
          rintro e w4 ⟨rfl, hb⟩
          have HB4 := Lib.hid (HB3.out.trans (hb.mono HB3.out.size))
          clear hb
          go_wp2_with fail
          refine (C5.out _).mono ?_
          rintro e w5 ⟨rfl, hb⟩
          have HB5 := Lib.hid (HB4.out.trans (hb.mono HB4.out.size))
          clear hb
          go_wp2_with fail
          refine (C6.out _).mono ?_
          rintro e w6 ⟨rfl, hb⟩
          have HB6 := Lib.hid (HB5.out.trans (hb.mono HB5.out.size))
          clear hb
          go_wp2_with fail
          refine (C7.out _).mono ?_
          rintro e w7 ⟨rfl, hb⟩
          have HB7 := Lib.hid (HB6.out.trans (hb.mono HB6.out.size))
          clear hb
          go_wp2_with fail
          refine (awake4_any _).mono ?_
          rintro e w8 ⟨rfl, hb⟩
          have HB8 := Lib.hid (HB7.out.trans (hb.mono HB7.out.size))
          clear hb
          go_wp2_with fail
          go_ret
          exact ⟨rfl, HB8.out⟩
      · clear heq
        subst hue
        rcases hmin with ⟨g1, g2⟩ | ⟨g1, g2⟩
        all_goals
          rw [g2] at C6
          clear g2
          go_wp2_with fail
          refine (C3.out _).mono ?_
          rintro e w3 ⟨rfl, hb⟩
          have HB4 := Lib.hid (HB2.out.trans (hb.mono HB2.out.size))
          clear hb
          go_wp2_with fail
          refine (C5.out _).mono ?_
          rintro e w5 ⟨rfl, hb⟩
          have HB5 := Lib.hid (HB4.out.trans (hb.mono HB4.out.size))
          clear hb
          go_wp2_with fail
          refine (C6.out _).mono ?_
          rintro e w6 ⟨rfl, hb⟩
          have HB6 := Lib.hid (HB5.out.trans (hb.mono HB5.out.size))
          clear hb
          go_wp2_with fail
          refine (C7.out _).mono ?_
          rintro e w7 ⟨rfl, hb⟩
          have HB7 := Lib.hid (HB6.out.trans (hb.mono HB6.out.size))
          clear hb
          go_wp2_with fail
          refine (awake4_any _).mono ?_
          rintro e w8 ⟨rfl, hb⟩
          have HB8 := Lib.hid (HB7.out.trans (hb.mono HB7.out.size))
          clear hb
          go_wp2_with fail
          go_ret
          exact ⟨rfl, HB8.out⟩
end Go.Proofs.Ytlelhoghbgbciaa
