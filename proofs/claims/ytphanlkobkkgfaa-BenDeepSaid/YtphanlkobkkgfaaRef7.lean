/- Contracts of the reference of layer 7: two, Put, Get. -/
import Derived.Test.YtphanlkobkkgfaaNumget
namespace Go.Proofs.Ytphanlkobkkgfaa
open Go.RowKit
set_option linter.unusedVariables false

set_option maxRecDepth 100000 in
set_option maxHeartbeats 800000 in
theorem nrput_any (k : Nat) : ∀ (n : Int), 2 * n.natAbs + (if n < 0 then 1 else 0) < k → -9223372036854775808 ≤ n → n ≤ 9223372036854775807 → ∀ w : World,
    Calls Try.prog 29 #[.int .i64 n] w fun e w' => e = .returned (.string (strOf (Nm.put n))) ∧ Below w.heap.size w w' := by
  induction k with
  | zero => intro n h; omega
  | succ k ih =>
    intro n hk h1 h2 w
    by_cases hn : n < -9
    · rw [if_pos (by omega)] at hk
      obtain ⟨m, Hm⟩ : ∃ m, Hid (n.tdiv 10 = m) := ⟨_, rfl⟩
      obtain ⟨d, Hd⟩ : ∃ d, Hid (-(n.tmod 10) = d) := ⟨_, rfl⟩
      have hme : m = -((n.natAbs / 10 : Nat) : Int) := by
        rw [← Hm.out]
        have : n = -((n.natAbs : Nat) : Int) := by omega
        conv => lhs; rw [this]
        rw [Int.neg_tdiv, Int.tdiv_eq_ediv_of_nonneg (by omega)]
        rfl
      have hde : d = ((n.natAbs % 10 : Nat) : Int) := by
        rw [← Hd.out]
        have : n = -((n.natAbs : Nat) : Int) := by omega
        conv => lhs; rw [this]
        rw [Int.neg_tmod, Int.neg_neg, Int.tmod_eq_emod_of_nonneg (by omega)]
        rfl
      have C1 := Lib.hid (fun W => ih m (by rw [if_pos (by omega)]; omega) (by omega) (by omega) W)
      have C2 := Lib.hid (fun W => ih d (by rw [if_neg (by omega)]; omega) (by omega) (by omega) W)
      have hdec := Nm.dec_high (show ¬ n.natAbs < 10 by omega)
      have Hput : Hid (Nm.put n = Nm.put m ++ Nm.put d) := Lib.hid (by
        rw [Nm.put_neg (by omega), Nm.put_neg (show m < 0 by omega), Nm.put_pos (show ¬ d < 0 by omega), hdec, show m.natAbs = n.natAbs / 10 by omega, show d.natAbs = n.natAbs % 10 by omega, Nm.dec_low (show n.natAbs % 10 < 10 by omega)]
        rfl)
      have hl1 := Nm.put_length (n := m) (by omega) (by omega)
      have hl2 := Nm.put_length (n := d) (by omega) (by omega)
      have s1 : (strOf (Nm.put m)).size ≤ 20 := by rw [strOf_size]; exact hl1
      have s2 : (strOf (Nm.put d)).size ≤ 20 := by rw [strOf_size]; exact hl2
      have Hj : Hid (strOf (Nm.put m) ++ strOf (Nm.put d) = strOf (Nm.put n)) := Lib.hid (by rw [strOf_append, Hput.out])
      obtain ⟨a, Ha⟩ : ∃ a, Hid (strOf (Nm.put m) = a) := ⟨_, rfl⟩
      obtain ⟨b, Hb⟩ : ∃ b, Hid (strOf (Nm.put d) = b) := ⟨_, rfl⟩
      rw [Ha.out] at C1 s1 Hj
      rw [Hb.out] at C2 s2 Hj
      have hd0 : 0 ≤ d ∧ d < 10 := by omega
      have hm0 : -9223372036854775808 ≤ m ∧ m ≤ 0 := by omega
      have hm := Hm.out
      have hd := Hd.out
      clear hme hde hdec hl1 hl2 ih hk
      go_enter Try.func29, Try.ntmps29
      go_wp2_with fail
      refine (C1.out _).mono ?_
      rintro e w1 ⟨rfl, hb⟩
      have HB1 := Lib.hid hb
      clear hb
      go_wp2_with fail
      refine (C2.out _).mono ?_
      rintro e w2 ⟨rfl, hb⟩
      have HB2 := Lib.hid (HB1.out.trans (hb.mono HB1.out.size))
      clear hb
      go_wp2_with fail
      go_ret
      exact ⟨by rw [Hj.out]; rfl, HB2.out⟩
    · by_cases hn0 : n < 0
      · rw [if_pos hn0] at hk
        have C1 := Lib.hid (fun W => ih (-n) (by rw [if_neg (by omega)]; omega) (by omega) (by omega) W)
        have hl1 := Nm.put_length (n := -n) (by omega) (by omega)
        have s1 : (strOf (Nm.put (-n))).size ≤ 20 := by rw [strOf_size]; exact hl1
        have Hj : Hid ((⟨#[45]⟩ : ByteArray) ++ strOf (Nm.put (-n)) = strOf (Nm.put n)) := Lib.hid (by
          rw [show (⟨#[45]⟩ : ByteArray) = strOf [45] from rfl, strOf_append, Nm.put_neg hn0, Nm.put_pos (show ¬ -n < 0 by omega), Int.natAbs_neg]; rfl)
        obtain ⟨a, Ha⟩ : ∃ a, Hid (strOf (Nm.put (-n)) = a) := ⟨_, rfl⟩
        rw [Ha.out] at C1 s1 Hj
        clear hl1 ih hk
        go_enter Try.func29, Try.ntmps29
        go_wp2_with fail
        refine (C1.out _).mono ?_
        rintro e w1 ⟨rfl, hb⟩
        have HB1 := Lib.hid hb
        clear hb
        go_wp2_with fail
        go_ret
        exact ⟨by rw [Hj.out]; rfl, HB1.out⟩
      · rw [if_neg hn0] at hk
        by_cases hn9 : 9 < n
        · obtain ⟨N, rfl⟩ : ∃ N : Nat, n = (N : Int) := ⟨n.toNat, by omega⟩
          obtain ⟨m, Hm⟩ : ∃ m, Hid (N / 10 = m) := ⟨_, rfl⟩
          obtain ⟨d, Hd⟩ : ∃ d, Hid (N % 10 = d) := ⟨_, rfl⟩
          have hm : (N : Int) / 10 = (m : Int) := by have := Hm.out; omega
          have hm' : (N : Int).tdiv 10 = (m : Int) := by rw [Int.tdiv_eq_ediv_of_nonneg (by omega)]; exact hm
          have hd : (N : Int) % 10 = (d : Int) := by have := Hd.out; omega
          have hd' : (N : Int).tmod 10 = (d : Int) := by rw [Int.tmod_eq_emod_of_nonneg (by omega)]; exact hd
          have C1 := Lib.hid (fun W => ih (m : Int) (by rw [if_neg (by omega)]; have := Hm.out; omega) (by omega) (by omega) W)
          have C2 := Lib.hid (fun W => ih (d : Int) (by rw [if_neg (by omega)]; have := Hd.out; omega) (by omega) (by omega) W)
          have Hput : Hid (Nm.put (N : Int) = Nm.put (m : Int) ++ Nm.put (d : Int)) := Lib.hid (by
            rw [Nm.put_pos (show ¬ (N : Int) < 0 by omega), Nm.put_pos (show ¬ (m : Int) < 0 by omega), Nm.put_pos (show ¬ (d : Int) < 0 by omega), Int.natAbs_natCast, Int.natAbs_natCast, Int.natAbs_natCast, Nm.dec_high (show ¬ N < 10 by omega), Hm.out, Hd.out, Nm.dec_low (show d < 10 by have := Hd.out; omega)])
          have hl1 := Nm.put_length (n := (m : Int)) (by omega) (by omega)
          have hl2 := Nm.put_length (n := (d : Int)) (by omega) (by omega)
          have s1 : (strOf (Nm.put (m : Int))).size ≤ 20 := by rw [strOf_size]; exact hl1
          have s2 : (strOf (Nm.put (d : Int))).size ≤ 20 := by rw [strOf_size]; exact hl2
          have Hj : Hid (strOf (Nm.put (m : Int)) ++ strOf (Nm.put (d : Int)) = strOf (Nm.put (N : Int))) := Lib.hid (by rw [strOf_append, Hput.out])
          obtain ⟨a, Ha⟩ : ∃ a, Hid (strOf (Nm.put (m : Int)) = a) := ⟨_, rfl⟩
          obtain ⟨b, Hb⟩ : ∃ b, Hid (strOf (Nm.put (d : Int)) = b) := ⟨_, rfl⟩
          rw [Ha.out] at C1 s1 Hj
          rw [Hb.out] at C2 s2 Hj
          clear hl1 hl2 ih hk
          go_enter Try.func29, Try.ntmps29
          go_wp2_with fail
          refine (C1.out _).mono ?_
          rintro e w1 ⟨rfl, hb⟩
          have HB1 := Lib.hid hb
          clear hb
          go_wp2_with fail
          refine (C2.out _).mono ?_
          rintro e w2 ⟨rfl, hb⟩
          have HB2 := Lib.hid (HB1.out.trans (hb.mono HB1.out.size))
          clear hb
          go_wp2_with fail
          go_ret
          exact ⟨by rw [Hj.out]; rfl, HB2.out⟩
        · obtain ⟨N, rfl⟩ : ∃ N : Nat, n = (N : Int) := ⟨n.toNat, by omega⟩
          have hN : N < 10 := by omega
          have Hput : Hid (Nm.put (N : Int) = [48 + N]) := Lib.hid (by rw [Nm.put_pos (by omega), Int.natAbs_natCast, Nm.dec_low hN])
          obtain ⟨c, Hc⟩ : ∃ c, Hid (48 + N = c) := ⟨_, rfl⟩
          have hc : 48 + (N : Int) = (c : Int) := by have := Hc.out; omega
          have hcl : c < 58 := by have := Hc.out; omega
          rw [Hc.out] at Hput
          have hcv := conv_sees (dst := 9) Try.underlying28 Try.underlying5 Try.underlying9 1 1 (by rfl) (sees_new w.heap.size [c] #[.int .u8 (c : Int)] 5 (w := w) (fr := (0, 0)) rfl rfl)
          have Hb : Hid (Below w.heap.size w (w.alloc (.cells #[.int .u8 (c : Int)] 5))) := Lib.hid ((Below.refl _ _).alloc (Nat.le_refl _) _)
          clear ih hk
          go_enter Try.func29, Try.ntmps29
          go_wp2_with fail
          go_ret
          exact ⟨by rw [Hput.out]; rfl, Hb.out⟩
theorem rput_any' (n : Int) (h1 : -9223372036854775808 ≤ n) (h2 : n ≤ 9223372036854775807) (w : World) :
    Calls Try.prog 29 #[.int .i64 n] w fun e w' => e = .returned (.string (strOf (Nm.put n))) ∧ Below w.heap.size w w' := nrput_any _ n (Nat.lt_succ_self _) h1 h2 w

set_option maxRecDepth 100000 in
set_option maxHeartbeats 1600000 in
theorem nrget_any {s : ByteArray} {l : List Nat} (T : Txt s l) (hl : l.length ≤ 10000000000) (w : World) :
    Calls Try.prog 54 #[.string s] w fun e w' => e = .returned (.tuple #[.int .i64 (Nm.get l).1, .int .i64 ((Nm.get l).2 : Int)]) ∧ Below w.heap.size w w' := by
  have hsz := T.size
  by_cases hl0 : l = []
  · subst hl0
    have he : (s.toList == []) = true := (T.eql_lit []).trans (decide_eq_true rfl)
    rw [Nm.get_nil]
    go_enter Try.func54, Try.ntmps54
    go_wp2_with fail
    go_ret2
    exact ⟨rfl, Below.refl _ _⟩
  have he : (s.toList == []) = false := (T.eql_lit []).trans (decide_eq_false hl0)
  have hpos : 0 < l.length := List.length_pos_iff.2 hl0
  have Hhead := Lib.hid (head_getD l hl0)
  go_enter Try.func54, Try.ntmps54
  go_wp2_with fail
  go_loop [4, 5] (fun v i => ∃ (n : Int) (j : Nat), v = .int .i64 n ∧ i = .int .i64 j ∧ j ≤ l.length ∧ Hid (Nm.rr l j = n)) (fun _ i => l.length - (intOf i).toNat)
  case atStart => exact ⟨0, 0, rfl, rfl, by omega, Lib.hid (Nm.rr_zero l)⟩
  case round =>
    obtain ⟨n, j, rfl, rfl, hj, Hn⟩ := hrel
    have hin := Nm.rr_in l j
    rw [Hn.out] at hin
    have hin1 := hin.1
    have hin2 := hin.2
    clear hin
    by_cases hlt : j < l.length
    · obtain ⟨c, Hc⟩ : ∃ c, Hid (l.getD j 0 = c) := ⟨_, rfl⟩
      have hat : ∀ (h : j < s.size), (s[j]'h).toNat = c := fun h => by rw [← Hc.out]; exact T.at_ j h
      have hc := getD_lt T.byte j
      rw [Hc.out] at hc
      by_cases hsk : c = 45 ∧ j = 0 ∧ 1 < l.length
      · obtain ⟨rfl, rfl, h1⟩ := hsk
        have Hn' : Hid (Nm.rr l 1 = n) := Lib.hid (by rw [Nm.rr_skip (by rw [Hhead.out, Hc.out]), ← Hn.out, Nm.rr_zero])
        go_wp2_with fail
        go_round
        case rel => exact ⟨n, 1, rfl, by go_num, by omega, Hn'⟩
        case measure => simp [intOf]; omega
      · by_cases hok : 48 ≤ c ∧ c ≤ 57 ∧ j ≤ 20
        · obtain ⟨hc1, hc2, hj20⟩ := hok
          clear hsk
          obtain ⟨a, Ha⟩ : ∃ a, Hid (Nm.w64 (n * 10) = a) := ⟨_, rfl⟩
          have ha : IntKind.i64.wrap (n * 10) = a := by rw [wrap_w64, Ha.out]
          have hain := Nm.w64_in (n * 10)
          rw [Ha.out] at hain
          have ha1 := hain.1
          have ha2 := hain.2
          clear hain
          obtain ⟨d, Hd⟩ : ∃ d, Hid (c - 48 = d) := ⟨_, rfl⟩
          have hd : (c : Int) - 48 = (d : Int) := by have := Hd.out; omega
          have hdl : d < 10 := by have := Hd.out; omega
          obtain ⟨b, Hb⟩ : ∃ b, Hid (Nm.w64 (a - (d : Int)) = b) := ⟨_, rfl⟩
          have hb : IntKind.i64.wrap (a - (d : Int)) = b := by rw [wrap_w64, Hb.out]
          have Hn' : Hid (Nm.rr l (j + 1) = b) := Lib.hid (Nm.rr_next hlt (by rw [Hc.out]; omega) (by rw [Hn.out, Ha.out]) (by rw [Hc.out, hd, Hb.out])).symm
          have h45 : ((c : Int) == 45) = false := by simp; omega
          go_wp2_with fail
          go_round
          case rel => exact ⟨b, j + 1, rfl, by go_num, by omega, Hn'⟩
          case measure => simp [intOf]; omega
        · have HX := Lib.hid (Nm.get_bad hlt (by rw [Hc.out]; exact hok) (by rw [Hc.out]; exact hsk))
          by_cases h45 : c = 45
          · subst h45
            by_cases hj0 : j = 0
            · subst hj0
              have h1 : ¬ 1 < l.length := fun h => hsk ⟨rfl, rfl, h⟩
              clear hsk hok
              go_wp2_with fail
              go_ret2
              exact ⟨by rw [HX.out]; rfl, Below.refl _ _⟩
            · clear hsk hok
              have hj0' : ((j : Int) == 0) = false := by simp; omega
              go_wp2_with fail
              go_ret2
              exact ⟨by rw [HX.out]; rfl, Below.refl _ _⟩
          · have h45' : ((c : Int) == 45) = false := by simp; omega
            by_cases hc1 : 48 ≤ c
            · by_cases hc2 : c ≤ 57
              · have hj20 : 20 < j := by omega
                clear hsk hok
                go_wp2_with fail
                go_ret2
                exact ⟨by rw [HX.out]; rfl, Below.refl _ _⟩
              · clear hsk hok
                go_wp2_with fail
                go_ret2
                exact ⟨by rw [HX.out]; rfl, Below.refl _ _⟩
            · clear hsk hok
              go_wp2_with fail
              go_ret2
              exact ⟨by rw [HX.out]; rfl, Below.refl _ _⟩
    · have hjl : j = l.length := by omega
      have Hrv := Lib.hid (Nm.rr_all l)
      rw [← hjl, Hn.out] at Hrv
      have hcode := Nm.get_ref hl0
      have hin := Nm.rv_in l
      obtain ⟨g, Hg⟩ : ∃ g, Hid (Nm.rv l = g) := ⟨_, rfl⟩
      rw [Hg.out] at Hrv hcode hin
      obtain ⟨c, Hc⟩ : ∃ c, Hid (l.getD 0 0 = c) := ⟨_, rfl⟩
      have hat : ∀ (h : 0 < s.size), (s[0]'h).toNat = c := fun h => by rw [← Hc.out]; exact T.at_ 0 h
      have hc := getD_lt T.byte 0
      rw [Hc.out] at hc
      rw [Hhead.out, Hc.out] at Hrv
      have hg1 := hin.1
      have hg2 := hin.2
      clear hin
      have CP := Lib.hid (fun W => rput_any' g hg1 hg2 W)
      have heq := (Txt.of (Nm.put_byte g)).eql T
      have Hcode := Lib.hid hcode
      clear hcode
      by_cases h45 : c = 45
      · subst h45
        rw [if_pos rfl] at Hrv
        have hgn := Hrv.out
        subst hgn
        by_cases hp : Nm.put g = l
        · rw [decide_eq_true hp] at heq
          have HX : Hid (Nm.get l = (g, 0)) := Lib.hid (by rw [Hcode.out, if_pos hp])
          clear hp Hcode
          go_wp2_with fail
          refine (CP.out _).mono ?_
          rintro e w2 ⟨rfl, hb⟩
          have HB := Lib.hid hb
          clear hb
          go_wp2_with fail
          go_ret2
          exact ⟨by rw [HX.out]; rfl, HB.out⟩
        · rw [decide_eq_false hp] at heq
          have HX : Hid (Nm.get l = (0, 3)) := Lib.hid (by rw [Hcode.out, if_neg hp])
          clear hp Hcode
          go_wp2_with fail
          refine (CP.out _).mono ?_
          rintro e w2 ⟨rfl, hb⟩
          have HB := Lib.hid hb
          clear hb
          go_wp2_with fail
          go_ret2
          exact ⟨by rw [HX.out]; rfl, HB.out⟩
      · rw [if_neg (by intro e; injection e with e; exact h45 e)] at Hrv
        have hgn : IntKind.i64.wrap (-n) = g := by rw [wrap_w64, Hrv.out]
        have hne : ((c : Int) != 45) = true := by simp; omega
        by_cases hp : Nm.put g = l
        · rw [decide_eq_true hp] at heq
          have HX : Hid (Nm.get l = (g, 0)) := Lib.hid (by rw [Hcode.out, if_pos hp])
          clear hp Hcode
          go_wp2_with fail
          refine (CP.out _).mono ?_
          rintro e w2 ⟨rfl, hb⟩
          have HB := Lib.hid hb
          clear hb
          go_wp2_with fail
          go_ret2
          exact ⟨by rw [HX.out]; rfl, HB.out⟩
        · rw [decide_eq_false hp] at heq
          have HX : Hid (Nm.get l = (0, 3)) := Lib.hid (by rw [Hcode.out, if_neg hp])
          clear hp Hcode
          go_wp2_with fail
          refine (CP.out _).mono ?_
          rintro e w2 ⟨rfl, hb⟩
          have HB := Lib.hid hb
          clear hb
          go_wp2_with fail
          go_ret2
          exact ⟨by rw [HX.out]; rfl, HB.out⟩
end Go.Proofs.Ytphanlkobkkgfaa
