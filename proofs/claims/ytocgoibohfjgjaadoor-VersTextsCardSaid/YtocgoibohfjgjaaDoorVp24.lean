/- Plain mathematics of layer 24's code: a version's bit, sets as numbers, words that stand in a text. -/
import Derived.Test.YtocgoibohfjgjaaDoorVs
import Derived.Lib.BitFns
import Derived.Lib.Join
namespace Go.Proofs.YtocgoibohfjgjaaDoor
set_option linter.unusedVariables false
set_option linter.unusedSimpArgs false
namespace Vs
/-- the set of v alone -/
def bit (v : Int) : Nat := if 1 ≤ v ∧ v ≤ 16 then 2 ^ (v - 1).toNat else 0
theorem bit_in (k : Nat) (h : k < 16) : bit ((k : Int) + 1) = 2 ^ k := by
  unfold bit
  rw [if_pos (by omega), show ((k : Int) + 1 - 1).toNat = k by omega]
theorem bit_out {v : Int} (h : ¬ (1 ≤ v ∧ v ≤ 16)) : bit v = 0 := if_neg h
theorem bit_lt (v : Int) : bit v < 65536 := by
  unfold bit
  split
  · have := Nat.pow_lt_pow_right (a := 2) (by decide) (show (v - 1).toNat < 16 by omega)
    exact this
  · decide
theorem bit_test (v : Int) (j : Nat) : (bit v).testBit j = (decide (j < 16) && decide (v = (j : Int) + 1)) := by
  unfold bit
  split
  · rw [Nat.testBit_two_pow, Bool.eq_iff_iff]
    simp only [decide_eq_true_eq, Bool.and_eq_true]
    omega
  · rename_i h
    rw [Nat.zero_testBit]
    symm
    rw [Bool.and_eq_false_iff]
    simp only [decide_eq_false_iff_not]
    omega
theorem and_bit (s : Nat) (v : Int) : (decide (s &&& bit v = 0)) = !has s v := by
  by_cases h : 1 ≤ v ∧ v ≤ 16
  · obtain ⟨k, rfl⟩ : ∃ k : Nat, v = (k : Int) + 1 := ⟨(v - 1).toNat, by omega⟩
    rw [bit_in k (by omega), has_nat s k (by omega)]
    have e : (s &&& 2 ^ k).testBit k = s.testBit k := by rw [Nat.testBit_and, Nat.testBit_two_pow, decide_eq_true rfl, Bool.and_true]
    by_cases h0 : s &&& 2 ^ k = 0
    · rw [h0, Nat.zero_testBit] at e
      rw [← e, decide_eq_true h0]; rfl
    · rw [decide_eq_false h0]
      cases hb : s.testBit k
      · refine absurd (Nat.eq_of_testBit_eq fun j => ?_) h0
        rw [Nat.testBit_and, Nat.testBit_two_pow, Nat.zero_testBit]
        by_cases hj : k = j
        · rw [← hj, hb]; rfl
        · rw [decide_eq_false hj, Bool.and_false]
      · rfl
  · rw [bit_out h, has_out h, Nat.and_zero]; rfl
/-- numbers, one behind the other, added to a set -/
def orN (l : List Int) (a : Nat) : Nat := l.foldl (fun s v => s ||| bit v) a
theorem orN_snoc (l : List Int) (v : Int) (a : Nat) : orN (l ++ [v]) a = orN l a ||| bit v := by simp [orN]
theorem orN_append (l k : List Int) (a : Nat) : orN (l ++ k) a = orN k (orN l a) := by simp [orN]
theorem orN_test : ∀ (l : List Int) (a j : Nat), (orN l a).testBit j = (a.testBit j || (decide (j < 16) && l.contains ((j : Int) + 1)))
  | [], a, j => by simp [orN]
  | v :: r, a, j => by
    show (orN r (a ||| bit v)).testBit j = _
    rw [orN_test r, Nat.testBit_or, bit_test, List.contains_cons, Bool.or_assoc, ← Bool.and_or_distrib_left]
    congr 3
    rw [Bool.eq_iff_iff, decide_eq_true_eq, beq_iff_eq]
    exact eq_comm
theorem orN_set (l : List Int) : orN l 0 = set l := by
  apply Nat.eq_of_testBit_eq
  intro j
  unfold set
  rw [orN_test, setN_bit, Nat.zero_testBit, Bool.false_or]
theorem orN_lt (l : List Int) : orN l 0 < 65536 := by rw [orN_set]; exact set_lt l
theorem orN_zero (l : List Int) (a : Nat) : orN l a = a ||| orN l 0 := by
  apply Nat.eq_of_testBit_eq
  intro j
  rw [Nat.testBit_or, orN_test, orN_test, Nat.zero_testBit, Bool.false_or]
/-! ### the greatest version of both -/
theorem bits_top : ∀ (f x k : Nat), x < 2 ^ k → k ≤ f → Go.Lib.bitLenAux f x ≤ k ∧ (2 ^ (k - 1) ≤ x → 0 < k → Go.Lib.bitLenAux f x = k)
  | 0, x, k, h, hf => by
    obtain rfl : k = 0 := by omega
    exact ⟨Nat.le_refl _, fun _ h => absurd h (by omega)⟩
  | f + 1, x, k, h, hf => by
    rw [Go.Lib.bitLenAux]
    cases k with
    | zero =>
      have : x = 0 := by simpa using h
      rw [if_pos this]
      exact ⟨Nat.le_refl _, fun _ h => absurd h (by omega)⟩
    | succ k =>
      have ih := bits_top f (x / 2) k (by rw [Nat.pow_succ] at h; omega) (by omega)
      split
      · rename_i h0
        refine ⟨by omega, fun h1 _ => ?_⟩
        have := Nat.two_pow_pos (k + 1 - 1)
        omega
      · rename_i h0
        refine ⟨by omega, fun h1 _ => ?_⟩
        rw [Nat.add_sub_cancel] at h1
        cases k with
        | zero =>
          have h2 := ih.1
          omega
        | succ k =>
          have h3 := ih.2 (by rw [Nat.add_sub_cancel]; rw [Nat.pow_succ] at h1; omega) (by omega)
          omega
theorem bestN_bits (a b : Nat) : ∀ k, k ≤ 16 → (a &&& b) < 2 ^ k → bestN a b k = Go.Lib.bitLen (a &&& b)
  | 0, _, h => by
    have : a &&& b = 0 := by simpa using h
    rw [this]; rfl
  | k + 1, hk, h => by
    rw [bestN, has_nat a k (by omega), has_nat b k (by omega), ← Nat.testBit_and]
    have ht := bits_top 64 (a &&& b) (k + 1) h (by omega)
    by_cases hb : (a &&& b).testBit k = true
    · rw [if_pos hb]
      exact (ht.2 (by rw [Nat.add_sub_cancel]; exact Nat.ge_two_pow_of_testBit hb) (by omega)).symm
    · rw [if_neg hb]
      refine bestN_bits a b k (by omega) ?_
      rcases Nat.lt_or_ge (a &&& b) (2 ^ k) with h2 | h2
      · exact h2
      · exact absurd (Nat.testBit_of_two_pow_le_and_two_pow_add_one_gt h2 h) hb
theorem best_bits {a b : Nat} (ha : a < 65536) : best a b = Go.Lib.bitLen (a &&& b) :=
  bestN_bits a b 16 (Nat.le_refl _) (Nat.lt_of_le_of_lt Nat.and_le_left ha)
theorem mode_in {k : Nat} (h : k < 16) : mode ((k : Int) + 1) = k % 3 + 1 := by
  unfold mode
  rw [if_neg (by omega), show ((k : Int) + 1 - 1).toNat = k by omega]
theorem mode_out {v : Int} (h : ¬ (1 ≤ v ∧ v ≤ 16)) : mode v = 0 := by
  unfold mode
  rw [if_pos (by omega)]
/-! ### words -/
theorem same_mem (p : List Nat) : ∀ (k : Nat) (v : Int), v ∈ same p k ↔ ∃ i, i < k ∧ v = (i : Int) + 1 ∧ Nm.put ((i : Int) + 1) = p
  | 0, v => by simp [same]
  | k + 1, v => by
    rw [same]
    split
    · rename_i h
      rw [List.mem_append, same_mem p k v, List.mem_singleton]
      constructor
      · rintro (⟨i, h1, h2⟩ | rfl)
        · exact ⟨i, by omega, h2⟩
        · exact ⟨k, by omega, rfl, h⟩
      · rintro ⟨i, h1, h2, h3⟩
        by_cases e : i = k
        · subst e; exact .inr h2
        · exact .inl ⟨i, by omega, h2, h3⟩
    · rename_i h
      rw [same_mem p k v]
      constructor
      · rintro ⟨i, h1, h2⟩
        exact ⟨i, by omega, h2⟩
      · rintro ⟨i, h1, h2, h3⟩
        by_cases e : i = k
        · subst e; exact absurd h3 h
        · exact ⟨i, by omega, h2, h3⟩
/-- what the code adds for a word is what the word is -/
theorem word_bit (p : List Nat) : bit (Nm.get p).1 = orN (same p 16) 0 := by
  apply Nat.eq_of_testBit_eq
  intro j
  rw [bit_test, orN_test, Nat.zero_testBit, Bool.false_or]
  by_cases hj : j < 16
  · rw [decide_eq_true hj, Bool.true_and, Bool.true_and, Bool.eq_iff_iff, decide_eq_true_eq, List.contains_iff_mem, same_mem]
    constructor
    · intro h
      rcases Nm.get_cases p with ⟨h0, h1, h2⟩ | ⟨_, h1⟩ | ⟨_, h1⟩
      · exact ⟨j, hj, rfl, by rw [← h]; exact h2⟩
      · omega
      · omega
    · rintro ⟨i, h1, h2, h3⟩
      rw [← h3, Nm.get_put ⟨by omega, by omega⟩]
      exact h2.symm
  · rw [decide_eq_false hj]; rfl
theorem words_last {r : List Nat} (h : ∀ c ∈ r, c ≠ 44) : words r [] = same r 16 := by rw [words_plain r [] h, List.nil_append]
theorem words_first {r : List Nat} {i : Nat} (hi : i < r.length) (h0 : r.getD i 0 = 44) (h : ∀ j, j < i → r.getD j 0 ≠ 44) : words r [] = same (r.take i) 16 ++ words (r.drop (i + 1)) [] := by
  have e : r = r.take i ++ 44 :: r.drop (i + 1) := by
    have h1 : r.drop i = 44 :: r.drop (i + 1) := by
      rw [List.drop_eq_getElem_cons hi]
      congr 1
      rw [← h0]
      simp [List.getD, List.getElem?_eq_getElem hi]
    rw [← h1, List.take_append_drop]
  have hp : ∀ c ∈ r.take i, c ≠ 44 := by
    intro c hc
    obtain ⟨j, hj, rfl⟩ := List.getElem_of_mem hc
    rw [List.length_take] at hj
    have := h j (by omega)
    rw [List.getElem_take]
    simpa [List.getD, List.getElem?_eq_getElem (show j < r.length by omega)] using this
  rw [← words_last hp, ← words_comma, ← e]
/-- the sets of some words, one behind the other -/
def gotN (ps : List (List Nat)) : Nat := orN ((ps.map fun p => same p 16).flatten) 0
theorem gotN_snoc (ps : List (List Nat)) (p : List Nat) : gotN (ps ++ [p]) = gotN ps ||| bit (Nm.get p).1 := by
  unfold gotN
  rw [List.map_append, List.flatten_append, orN_append, orN_zero, word_bit]
  simp
theorem gotN_lt (ps : List (List Nat)) : gotN ps < 65536 := orN_lt _
end Vs
end Go.Proofs.YtocgoibohfjgjaaDoor
