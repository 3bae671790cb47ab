/- Contracts of the reference of layer 4: Quote, digit, Unquote. -/
import Derived.Test.YtlelhoghbgbciaaParts
import Derived.Test.YtlelhoghbgbciaaQuote
import Derived.Test.YtlelhoghbgbciaaUnquote
import Derived.BigQuiet
import Derived.Deep.QuietTactic
namespace Go.Proofs.Ytlelhoghbgbciaa
open Go.RowKit
set_option linter.unusedVariables false

/-- one of the digits, cut out -/
theorem digits_cut (n : Nat) (h : n < 16) : (⟨#[48, 49, 50, 51, 52, 53, 54, 55, 56, 57, 97, 98, 99, 100, 101, 102]⟩ : ByteArray).extract n (n + 1) = strOf [Tm.hex n] := by
  have : n = 0 ∨ n = 1 ∨ n = 2 ∨ n = 3 ∨ n = 4 ∨ n = 5 ∨ n = 6 ∨ n = 7 ∨ n = 8 ∨ n = 9 ∨ n = 10 ∨ n = 11 ∨ n = 12 ∨ n = 13 ∨ n = 14 ∨ n = 15 := by omega
  rcases this with rfl | rfl | rfl | rfl | rfl | rfl | rfl | rfl | rfl | rfl | rfl | rfl | rfl | rfl | rfl | rfl <;> decide +kernel

set_option maxRecDepth 100000 in
set_option maxHeartbeats 1600000 in
theorem quoter_any {s : ByteArray} {l : List Nat} (T : Txt s l) (hl : l.length ≤ 10000000000) (w : World) :
    Calls Try.prog 17 #[.string s] w fun e w' => e = .returned (.string (strOf (Tm.quote l))) ∧ Below w.heap.size w w' := by
  have Hem : Hid ((s.toList == []) = decide (l = [])) := Lib.hid (T.eql_lit [])
  by_cases hl0 : l = []
  · subst hl0
    have he : (s.toList == []) = true := by have := Hem.out; rw [decide_eq_true rfl] at this; exact this
    clear Hem
    go_enter Try.func17, Try.ntmps17
    go_wp2_with fail
    go_ret
    exact ⟨rfl, Below.refl _ _⟩
  have he : (s.toList == []) = false := by have := Hem.out; rw [decide_eq_false hl0] at this; exact this
  clear Hem
  have hlen := Tm.parts_length_le l
  have C1 := Lib.hid (parts_any T hl w)
  have Hp := Lib.hid (fun p => part_txt (p := p) T.byte)
  obtain ⟨ps, Hps⟩ : ∃ ps, Hid (Tm.parts l = ps) := ⟨_, rfl⟩
  have Hval : Hid (Tm.quote l = (ps.map Tm.word1).flatten) := Lib.hid (by rw [← Hps.out]; unfold Tm.quote; rw [if_neg hl0]; rfl)
  rw [Hps.out] at C1 hlen Hp
  obtain ⟨n, Hn⟩ : ∃ n, Hid (ps.length = n) := ⟨_, rfl⟩
  rw [Hn.out] at C1 hlen
  clear T
  go_enter Try.func17, Try.ntmps17
  go_wp2_with fail
  refine C1.out.mono ?_
  rintro e w1 ⟨v, rfl, ho, hb⟩
  obtain ⟨A, c, rfl⟩ := own_shape ho
  have HO := Lib.hid ho
  have HB := Lib.hid hb
  clear ho hb C1
  go_wp2_with fail
  go_loopw [3, 5] (fun vo vi wr => ∃ (i : Nat) (o : ByteArray), vi = .int .i64 i ∧ i ≤ n ∧ vo = .string o ∧ o.size ≤ 4 * i ∧ Hid (Below w1.heap.size w1 wr) ∧ Hid (Txt o ((ps.take i).map Tm.word1).flatten)) (fun _ vi _ => n - (intOf vi).toNat)
  case atStart => exact ⟨0, ⟨#[]⟩, rfl, by omega, rfl, Nat.le_refl 0, Lib.hid (Below.refl _ _), Lib.hid (Txt.of (l := []) (by simp))⟩
  case round =>
    obtain ⟨i, o, rfl, hi, rfl, hos, HW, HI⟩ := hrel
    by_cases hlt : i < n
    · have hip : i < ps.length := by rw [Hn.out]; exact hlt
      obtain ⟨g, rfl, hg, hc1⟩ := own_cell' HO.out (strs_get hip)
      have hc : wr.cell? ⟨g, i, none⟩ = some (.string (strOf ps[i])) := (HW.out.cell (p := ⟨g, i, none⟩) hg).trans hc1
      have hmem : ps[i] ∈ ps := List.getElem_mem hip
      have Htake : Hid (ps.take (i + 1) = ps.take i ++ [ps[i]]) := Lib.hid (List.take_succ_eq_append_getElem hip)
      clear hc1
      generalize ps[i] = p at *
      obtain ⟨t1, t2, t3⟩ := Hp.out p hmem
      have Htxt := Lib.hid t1
      have C2 := Lib.hid (width_any t1 0 t2 (by omega))
      rw [List.drop_zero] at C2
      have hss : (strOf p).size = p.length := strOf_size p
      obtain ⟨q, Hq⟩ : ∃ q, Hid (p.getD 0 0 = q) := ⟨_, rfl⟩
      have hat : ∀ (h : 0 < (strOf p).size), ((strOf p)[0]'h).toNat = q := fun h => by rw [← Hq.out]; exact t1.at_ 0 h
      have hq256 := getD_lt t1.byte 0
      rw [Hq.out] at hq256
      have HN : Hid (∀ x : ByteArray, Txt x (((ps.take i).map Tm.word1).flatten ++ Tm.word1 p) → Txt x (((ps.take (i + 1)).map Tm.word1).flatten)) := Lib.hid (fun x hx => by rw [Htake.out, List.map_append, List.flatten_append]; simpa using hx)
      clear t1
      by_cases hleft : Tm.left p = true
      · have hf := of_decide_eq_true hleft
        rw [Hq.out] at hf
        obtain ⟨f1, f2, f3, f4⟩ := hf
        have f2' : ((q : Int) != 127) = true := by simp; omega
        have f3' : ((q : Int) != 37) = true := by simp; omega
        have Hw1 : Hid (Tm.word1 p = p) := Lib.hid (by unfold Tm.word1; rw [if_pos hleft])
        have hcat : ¬ 9223372036854775807 < o.size + (strOf p).size := by rw [hss]; omega
        have HNS : Hid ((o ++ strOf p).size = o.size + p.length) := Lib.hid (by rw [← hss]; simp)
        have HT := Lib.hid (HI.out.join Htxt.out)
        clear hleft
        go_wp2_with fail
        refine (C2.out _).mono ?_
        rintro e w2 ⟨rfl, rfl⟩
        go_wp2_with fail
        go_roundw
        case rel => exact ⟨i + 1, o ++ strOf p, by go_num, by omega, rfl, by rw [HNS.out]; omega, HW, Lib.hid (HN.out _ (by rw [Hw1.out]; exact HT.out))⟩
        case measure => simp [intOf]; omega
      · have hcase : q ≤ 32 ∨ (32 < q ∧ q = 127) ∨ (32 < q ∧ q ≠ 127 ∧ q = 37) ∨ (32 < q ∧ q ≠ 127 ∧ q ≠ 37 ∧ Tm.wid p = 0) := by
          have hf : ¬ (32 < p.getD 0 0 ∧ p.getD 0 0 ≠ 127 ∧ p.getD 0 0 ≠ 37 ∧ 0 < Tm.wid p) := fun h => hleft (decide_eq_true h)
          rw [Hq.out] at hf
          omega
        have Hw1 : Hid (Tm.word1 p = [37, Tm.hex (q / 16), Tm.hex (q % 16)]) := Lib.hid (by unfold Tm.word1; rw [if_neg hleft, Hq.out])
        clear hleft
        obtain ⟨a, Ha⟩ : ∃ a, Hid (q / 16 = a) := ⟨_, rfl⟩
        obtain ⟨b, Hb⟩ : ∃ b, Hid (q % 16 = b) := ⟨_, rfl⟩
        rw [Ha.out, Hb.out] at Hw1
        have hq16 : (q : Int) / 16 = (a : Int) := by have := Ha.out; omega
        have hq16' : (q : Int).tdiv 16 = (a : Int) := by rw [Int.tdiv_eq_ediv_of_nonneg (by omega)]; exact hq16
        have hr16 : (q : Int) % 16 = (b : Int) := by have := Hb.out; omega
        have hr16' : (q : Int).tmod 16 = (b : Int) := by rw [Int.tmod_eq_emod_of_nonneg (by omega)]; exact hr16
        have ha : a < 16 := by have := Ha.out; omega
        have hb : b < 16 := by have := Hb.out; omega
        have ha' : (a : Int) < 16 := by omega
        have hb' : (b : Int) < 16 := by omega
        have cA := digits_cut a ha
        have cB := digits_cut b hb
        have HT : Hid (Txt (o ++ ⟨#[37]⟩ ++ strOf [Tm.hex a] ++ strOf [Tm.hex b]) (((ps.take i).map Tm.word1).flatten ++ Tm.word1 p)) := Lib.hid (by
          have x1 := Tm.hex_facts ha
          have x2 := Tm.hex_facts hb
          have := ((HI.out.join (Txt.lit [37])).join (Txt.of (l := [Tm.hex a]) (by simp; omega))).join (Txt.of (l := [Tm.hex b]) (by simp; omega))
          rw [Hw1.out]
          simpa using this)
        have s1 : (o ++ ⟨#[37]⟩ : ByteArray).size = o.size + 1 := by rw [ByteArray.size_append]; rfl
        have s2 : (o ++ ⟨#[37]⟩ ++ strOf [Tm.hex a] : ByteArray).size = o.size + 2 := by rw [ByteArray.size_append, s1, strOf_size]; rfl
        have s3 : (o ++ ⟨#[37]⟩ ++ strOf [Tm.hex a] ++ strOf [Tm.hex b] : ByteArray).size = o.size + 3 := by rw [ByteArray.size_append, s2, strOf_size]; rfl
        have k1 : ¬ 9223372036854775807 < o.size + 1 := by omega
        have k2 : ¬ 9223372036854775807 < (o ++ ⟨#[37]⟩ : ByteArray).size + (strOf [Tm.hex a]).size := by rw [s1, strOf_size]; simp; omega
        have k3 : ¬ 9223372036854775807 < (o ++ ⟨#[37]⟩ ++ strOf [Tm.hex a] : ByteArray).size + (strOf [Tm.hex b]).size := by rw [s2, strOf_size]; simp; omega
        have S3 := Lib.hid s3
        clear s1 s2 s3
        have n127 : q = 127 → ((q : Int) != 127) = false := by intro h; simp; omega
        have n37 : q = 37 → ((q : Int) != 37) = false := by intro h; simp; omega
        have y127 : q ≠ 127 → ((q : Int) != 127) = true := by intro h; simp; omega
        have y37 : q ≠ 37 → ((q : Int) != 37) = true := by intro h; simp; omega
        rcases hcase with f1 | ⟨f1, f2⟩ | ⟨f1, f2, f3⟩ | ⟨f1, f2, f3, f4⟩
        · clear n127 n37 y127 y37
          go_wp2_with fail
          go_quiet (fail)
          have HW2 := Lib.hid (below_drewN HW.out nq)
          generalize wr.drewN nq = w3 at *
          go_wp2_with fail
          go_roundw
          case rel => exact ⟨i + 1, _, by go_num, by omega, rfl, by rw [S3.out]; omega, HW2, Lib.hid (HN.out _ HT.out)⟩
          case measure => simp [intOf]; omega
        · replace n127 := n127 f2
          clear f2 n37 y127 y37
          go_wp2_with fail
          go_quiet (fail)
          have HW2 := Lib.hid (below_drewN HW.out nq)
          generalize wr.drewN nq = w3 at *
          go_wp2_with fail
          go_roundw
          case rel => exact ⟨i + 1, _, by go_num, by omega, rfl, by rw [S3.out]; omega, HW2, Lib.hid (HN.out _ HT.out)⟩
          case measure => simp [intOf]; omega
        · replace y127 := y127 f2
          replace n37 := n37 f3
          clear f2 f3 n127 y37
          go_wp2_with fail
          go_quiet (fail)
          have HW2 := Lib.hid (below_drewN HW.out nq)
          generalize wr.drewN nq = w3 at *
          go_wp2_with fail
          go_roundw
          case rel => exact ⟨i + 1, _, by go_num, by omega, rfl, by rw [S3.out]; omega, HW2, Lib.hid (HN.out _ HT.out)⟩
          case measure => simp [intOf]; omega
        · replace y127 := y127 f2
          replace y37 := y37 f3
          clear f2 f3 n127 n37
          go_wp2_with fail
          refine (C2.out _).mono ?_
          rintro e w2 ⟨rfl, rfl⟩
          rw [f4]
          go_wp2_with fail
          go_quiet (fail)
          have HW2 := Lib.hid (below_drewN HW.out nq)
          generalize w2.drewN nq = w3 at *
          go_wp2_with fail
          go_roundw
          case rel => exact ⟨i + 1, _, by go_num, by omega, rfl, by rw [S3.out]; omega, HW2, Lib.hid (HN.out _ HT.out)⟩
          case measure => simp [intOf]; omega
    · have Hfin : Hid (o = strOf (Tm.quote l)) := Lib.hid (by
        rw [HI.out.str, Hval.out]
        rw [List.take_of_length_le (by rw [Hn.out]; omega)])
      have HB2 := Lib.hid (HB.out.trans (HW.out.mono HB.out.size))
      go_wp2_with fail
      go_ret
      rw [← Hfin.out]
      exact ⟨rfl, HB2.out⟩
end Go.Proofs.Ytlelhoghbgbciaa
