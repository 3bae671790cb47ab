/- Contracts of num.Get, Unhex. -/
import Derived.Test.YtphanlkobkkgfaaNum
namespace Go.Proofs.Ytphanlkobkkgfaa
open Go.RowKit
set_option linter.unusedVariables false

theorem wrap_w64 (n : Int) : IntKind.i64.wrap n = Nm.w64 n := by rw [IntKind.wrap_i64]; unfold Nm.w64; omega
theorem Txt.tail {s : ByteArray} {l : List Nat} (T : Txt s l) : Txt (s.extract 1 l.length) l.tail := by
  have := T.cut 1 l.length
  rw [List.take_of_length_le (by rw [List.length_drop]; exact Nat.le_refl _)] at this
  rw [← List.drop_one]
  exact this
theorem head_getD (l : List Nat) (hl : l ≠ []) : l.head? = some (l.getD 0 0) := by
  cases l with
  | nil => exact absurd rfl hl
  | cons a t => rfl

set_option maxRecDepth 100000 in
set_option maxHeartbeats 800000 in
theorem nget_any {s : ByteArray} {l : List Nat} (T : Txt s l) (hl : l.length ≤ 10000000000) (w : World) :
    Calls Try.prog 49 #[.string s] w fun e w' => e = .returned (.tuple #[.int .i64 (Nm.get l).1, .int .i64 ((Nm.get l).2 : Int)]) ∧ Below w.heap.size w w' := by
  have hsz := T.size
  by_cases hl0 : l = []
  · subst hl0
    have he : (s.toList == []) = true := by exact (T.eql_lit []).trans (decide_eq_true rfl)
    rw [Nm.get_nil]
    go_enter Try.func49, Try.ntmps49
    go_wp2_with fail
    go_ret2
    exact ⟨rfl, Below.refl _ _⟩
  · have he : (s.toList == []) = false := by exact (T.eql_lit []).trans (decide_eq_false hl0)
    have hpos : 0 < l.length := List.length_pos_iff.2 hl0
    obtain ⟨c, Hc⟩ : ∃ c, Hid (l.getD 0 0 = c) := ⟨_, rfl⟩
    have hat : ∀ (h : 0 < s.size), (s[0]'h).toNat = c := fun h => by rw [← Hc.out]; exact T.at_ 0 h
    have hc := getD_lt T.byte 0
    rw [Hc.out] at hc
    have Hget := Lib.hid (Nm.get_code hl0)
    have hin := Nm.gv_in l
    have Hgv : Hid (Nm.gv l = if l.head? = some 45 then Nm.w64 (- Nm.w64 (Nm.num 10 l.tail)) else Nm.w64 (Nm.num 10 l)) := Lib.hid rfl
    rw [head_getD l hl0, Hc.out] at Hgv
    obtain ⟨g, Hg⟩ : ∃ g, Hid (Nm.gv l = g) := ⟨_, rfl⟩
    rw [Hg.out] at Hget hin Hgv
    have hin1 := hin.1
    have hin2 := hin.2
    have CP := Lib.hid (fun W => nput_any g hin1 hin2 W)
    have heq := (Txt.of (Nm.put_byte g)).eql T
    by_cases h45 : c = 45
    · subst h45
      rw [if_pos rfl] at Hgv
      have C : Hid (∀ W, Calls Try.prog 61 #[.string (s.extract 1 l.length), .int .u64 10] W fun e w' => e = .returned (.int .u64 (Nm.num 10 l.tail : Int)) ∧ w' = W) := Lib.hid (fun W => number_any T.tail 10 (by omega) (by rw [List.length_tail]; omega) W)
      have hnl := Nm.num_lt 10 l.tail
      obtain ⟨q, Hq⟩ : ∃ q, Hid (Nm.num 10 l.tail = q) := ⟨_, rfl⟩
      rw [Hq.out] at C Hgv hnl
      obtain ⟨x, Hx⟩ : ∃ x, Hid (Nm.w64 (q : Int) = x) := ⟨_, rfl⟩
      have hx : IntKind.i64.wrap (q : Int) = x := by rw [wrap_w64, Hx.out]
      have hxin := Nm.w64_in (q : Int)
      rw [Hx.out] at hxin
      have hx1 := hxin.1
      have hx2 := hxin.2
      clear hxin hin
      have hg : IntKind.i64.wrap (-x) = g := by rw [wrap_w64, Hgv.out, Hx.out]
      by_cases hp : Nm.put g = l
      · rw [decide_eq_true hp] at heq
        rw [Hget.out, if_pos hp]
        clear hp Hget
        go_enter Try.func49, Try.ntmps49
        go_wp2_with fail
        refine (C.out _).mono ?_
        rintro e w1 ⟨rfl, rfl⟩
        go_wp2_with fail
        refine (CP.out _).mono ?_
        rintro e w2 ⟨rfl, hb⟩
        have HB := Lib.hid hb
        clear hb
        go_wp2_with fail
        go_ret2
        exact ⟨rfl, HB.out⟩
      · rw [decide_eq_false hp] at heq
        rw [Hget.out, if_neg hp]
        clear hp Hget
        go_enter Try.func49, Try.ntmps49
        go_wp2_with fail
        refine (C.out _).mono ?_
        rintro e w1 ⟨rfl, rfl⟩
        go_wp2_with fail
        refine (CP.out _).mono ?_
        rintro e w2 ⟨rfl, hb⟩
        have HB := Lib.hid hb
        clear hb
        go_wp2_with fail
        go_ret2
        exact ⟨rfl, HB.out⟩
    · have hne : ((c : Int) == 45) = false := by simp; omega
      rw [if_neg (by intro e; injection e with e; exact h45 e)] at Hgv
      have C : Hid (∀ W, Calls Try.prog 61 #[.string s, .int .u64 10] W fun e w' => e = .returned (.int .u64 (Nm.num 10 l : Int)) ∧ w' = W) := Lib.hid (fun W => number_any T 10 (by omega) hl W)
      have hnl := Nm.num_lt 10 l
      obtain ⟨q, Hq⟩ : ∃ q, Hid (Nm.num 10 l = q) := ⟨_, rfl⟩
      rw [Hq.out] at C Hgv hnl
      have hg : IntKind.i64.wrap (q : Int) = g := by rw [wrap_w64, Hgv.out]
      by_cases hp : Nm.put g = l
      · rw [decide_eq_true hp] at heq
        rw [Hget.out, if_pos hp]
        clear hp Hget
        go_enter Try.func49, Try.ntmps49
        go_wp2_with fail
        refine (C.out _).mono ?_
        rintro e w1 ⟨rfl, rfl⟩
        go_wp2_with fail
        refine (CP.out _).mono ?_
        rintro e w2 ⟨rfl, hb⟩
        have HB := Lib.hid hb
        clear hb
        go_wp2_with fail
        go_ret2
        exact ⟨rfl, HB.out⟩
      · rw [decide_eq_false hp] at heq
        rw [Hget.out, if_neg hp]
        clear hp Hget
        go_enter Try.func49, Try.ntmps49
        go_wp2_with fail
        refine (C.out _).mono ?_
        rintro e w1 ⟨rfl, rfl⟩
        go_wp2_with fail
        refine (CP.out _).mono ?_
        rintro e w2 ⟨rfl, hb⟩
        have HB := Lib.hid hb
        clear hb
        go_wp2_with fail
        go_ret2
        exact ⟨rfl, HB.out⟩

end Go.Proofs.Ytphanlkobkkgfaa
