/- Plain mathematics of layer 24: sets of versions. -/
import Derived.Test.YtocgoibohfjgjaaDoorPN
namespace Go.Proofs.YtocgoibohfjgjaaDoor
set_option linter.unusedVariables false
set_option linter.unusedSimpArgs false
namespace Vs
/-- is v one of the set's versions -/
def has (s : Nat) (v : Int) : Bool := decide (1 ≤ v ∧ v ≤ 16) && s.testBit (v - 1).toNat
theorem has_nat (s k : Nat) (h : k < 16) : has s ((k : Int) + 1) = s.testBit k := by
  unfold has
  rw [decide_eq_true (by omega), show ((k : Int) + 1 - 1).toNat = k by omega]
  rfl
theorem has_out {s : Nat} {v : Int} (h : ¬ (1 ≤ v ∧ v ≤ 16)) : has s v = false := by unfold has; rw [decide_eq_false h]; rfl
/-- the set of the versions up to k among the numbers l -/
def setN (l : List Int) : Nat → Nat
  | 0 => 0
  | k + 1 => if l.contains ((k : Int) + 1) = true then setN l k + 2 ^ k else setN l k
def set (l : List Int) : Nat := setN l 16
theorem setN_lt (l : List Int) : ∀ k, setN l k < 2 ^ k
  | 0 => by simp [setN]
  | k + 1 => by
    have := setN_lt l k
    rw [setN, Nat.pow_succ]
    split <;> omega
theorem set_lt (l : List Int) : set l < 65536 := setN_lt l 16
theorem setN_bit (l : List Int) : ∀ k j, (setN l k).testBit j = (decide (j < k) && l.contains ((j : Int) + 1))
  | 0, j => by simp [setN]
  | k + 1, j => by
    have ih := setN_bit l k j
    have hlt := setN_lt l k
    rw [setN]
    split
    · rename_i hh
      rw [Nat.add_comm, show 2 ^ k + setN l k = 2 ^ k * 1 + setN l k by omega, Nat.testBit_two_pow_mul_add 1 hlt]
      by_cases hj : j < k
      · rw [if_pos hj, ih]
        simp [hj, show j < k + 1 by omega]
      · rw [if_neg hj]
        by_cases hq : j = k
        · subst hq
          have hm : ((j : Int) + 1) ∈ l := by simpa using hh
          simp [hm]
        · have h1 := Nat.testBit_two_pow (n := 0) (m := j - k)
          simp only [Nat.pow_zero] at h1
          rw [h1]
          simp [show ¬ 0 = j - k by omega, show ¬ j < k + 1 by omega]
    · rename_i hh
      rw [ih]
      by_cases hq : j = k
      · subst hq
        have hm : ¬ ((j : Int) + 1) ∈ l := by simpa using hh
        simp [hm]
      · have : decide (j < k + 1) = decide (j < k) := decide_eq_decide.2 (by omega)
        rw [this]
/-- the greatest version up to k that both have -/
def bestN (a b : Nat) : Nat → Nat
  | 0 => 0
  | k + 1 => if (has a ((k : Int) + 1) && has b ((k : Int) + 1)) = true then k + 1 else bestN a b k
def best (a b : Nat) : Nat := bestN a b 16
theorem bestN_comm (a b : Nat) : ∀ k, bestN a b k = bestN b a k
  | 0 => rfl
  | k + 1 => by rw [bestN, bestN, bestN_comm a b k, Bool.and_comm]
theorem best_comm (a b : Nat) : best a b = best b a := bestN_comm a b 16
theorem bestN_le (a b : Nat) : ∀ k, bestN a b k ≤ k
  | 0 => Nat.le_refl _
  | k + 1 => by
    have := bestN_le a b k
    rw [bestN]
    split <;> omega
theorem bestN_has (a b : Nat) : ∀ k, bestN a b k = 0 ∨ (has a (bestN a b k : Nat) = true ∧ has b (bestN a b k : Nat) = true)
  | 0 => .inl rfl
  | k + 1 => by
    rw [bestN]
    split
    · rename_i h
      rw [Bool.and_eq_true] at h
      exact .inr ⟨by simpa using h.1, by simpa using h.2⟩
    · exact bestN_has a b k
theorem best_has (a b : Nat) : best a b = 0 ∨ (has a (best a b : Nat) = true ∧ has b (best a b : Nat) = true) := bestN_has a b 16
def mode (v : Int) : Nat := if v < 1 ∨ 16 < v then 0 else (v - 1).toNat % 3 + 1
/-! ### texts -/
def textN (s : Nat) : Nat → List Nat
  | 0 => []
  | k + 1 => if has s ((k : Int) + 1) = true then textN s k ++ ((if textN s k = [] then [] else [44]) ++ Nm.put ((k : Int) + 1)) else textN s k
def text (s : Nat) : List Nat := if textN s 16 = [] then [45] else textN s 16
/-- the versions up to k -/
def versN (s : Nat) : Nat → List Int
  | 0 => []
  | k + 1 => if has s ((k : Int) + 1) = true then versN s k ++ [(k : Int) + 1] else versN s k
theorem versN_mem (s : Nat) : ∀ k (v : Int), v ∈ versN s k ↔ (1 ≤ v ∧ v ≤ k ∧ has s v = true)
  | 0, v => by simp [versN]; omega
  | k + 1, v => by
    have ih := versN_mem s k v
    rw [versN]
    split
    · rename_i h
      rw [List.mem_append, ih]
      simp only [List.mem_singleton]
      constructor
      · rintro (⟨h1, h2, h3⟩ | rfl)
        · exact ⟨h1, by omega, h3⟩
        · exact ⟨by omega, by omega, h⟩
      · rintro ⟨h1, h2, h3⟩
        by_cases e : v = (k : Int) + 1
        · exact .inr e
        · exact .inl ⟨h1, by omega, h3⟩
    · rename_i h
      rw [ih]
      constructor
      · rintro ⟨h1, h2, h3⟩
        exact ⟨h1, by omega, h3⟩
      · rintro ⟨h1, h2, h3⟩
        refine ⟨h1, ?_, h3⟩
        by_cases e : v = (k : Int) + 1
        · rw [e] at h3; exact absurd h3 h
        · omega
theorem set_vers {s : Nat} (hs : s < 65536) : set (versN s 16) = s := by
  apply Nat.eq_of_testBit_eq
  intro j
  unfold set
  rw [setN_bit]
  by_cases hj : j < 16
  · rw [decide_eq_true hj, Bool.true_and, ← has_nat s j hj]
    rw [Bool.eq_iff_iff, List.contains_iff_mem, versN_mem]
    constructor
    · rintro ⟨_, _, h⟩; exact h
    · intro h; exact ⟨by omega, by omega, h⟩
  · rw [decide_eq_false hj, Bool.false_and]
    have h := Nat.pow_le_pow_right (n := 2) (by decide) (show 16 ≤ j by omega)
    exact (Nat.testBit_lt_two_pow (Nat.lt_of_lt_of_le hs h)).symm
/-- the versions whose text is the word -/
def same (word : List Nat) : Nat → List Int
  | 0 => []
  | k + 1 => if Nm.put ((k : Int) + 1) = word then same word k ++ [(k : Int) + 1] else same word k
/-- the versions whose texts stand in a text, word by word -/
def words : List Nat → List Nat → List Int
  | [], word => same word 16
  | c :: r, word => if c = 44 then same word 16 ++ words r [] else words r (word ++ [c])
theorem words_comma : ∀ (a b w : List Nat), words (a ++ 44 :: b) w = words a w ++ words b []
  | [], b, w => by simp [words]
  | c :: r, b, w => by
    rw [List.cons_append, words, words]
    split
    · rw [words_comma r b []]; simp
    · exact words_comma r b _
theorem words_plain : ∀ (d w : List Nat), (∀ c ∈ d, c ≠ 44) → words d w = same (w ++ d) 16
  | [], w, _ => by simp [words]
  | c :: r, w, h => by
    rw [words, if_neg (h c (by simp)), words_plain r _ (fun x hx => h x (by simp [hx]))]
    simp
/-- the texts of the versions -/
def p16 (v : Nat) : List Nat := if v < 9 then [49 + v] else [49, 39 + v]
theorem put16 {v : Nat} (hv : v < 16) : Nm.put ((v : Int) + 1) = p16 v := by
  rw [Nm.put_pos (by omega), show ((v : Int) + 1).natAbs = v + 1 by omega]
  unfold p16
  split
  · rw [Nm.dec_low (by omega), show 48 + (v + 1) = 49 + v by omega]
  · rw [Nm.dec_high (by omega), show (v + 1) / 10 = 1 by omega, Nm.dec_low (by omega), show 48 + (v + 1) % 10 = 39 + v by omega]
    rfl
def same16 (word : List Nat) : Nat → List Int
  | 0 => []
  | k + 1 => if p16 k = word then same16 word k ++ [(k : Int) + 1] else same16 word k
theorem same_same16 (word : List Nat) : ∀ k, k ≤ 16 → same word k = same16 word k
  | 0, _ => rfl
  | k + 1, h => by rw [same, same16, put16 (by omega), same_same16 word k (by omega)]
theorem same_put (v : Nat) (hv : v < 16) : same (Nm.put ((v : Int) + 1)) 16 = [(v : Int) + 1] := by
  rw [put16 hv, same_same16 _ _ (Nat.le_refl _)]
  revert v
  decide +kernel
theorem put_no44 (v : Nat) (hv : v < 16) : ∀ c ∈ Nm.put ((v : Int) + 1), c ≠ 44 := by
  rw [put16 hv]
  revert v
  decide +kernel
theorem same_nil : same [] 16 = [] := by rw [same_same16 _ _ (Nat.le_refl _)]; decide +kernel
theorem same_dash : same [45] 16 = [] := by rw [same_same16 _ _ (Nat.le_refl _)]; decide +kernel
theorem put_ne16 (v : Nat) (hv : v < 16) : Nm.put ((v : Int) + 1) ≠ [] := Nm.put_ne _
theorem words_text (s : Nat) : ∀ k, k ≤ 16 → words (textN s k) [] = versN s k
  | 0, _ => same_nil
  | k + 1, h => by
    have ih := words_text s k (by omega)
    rw [textN, versN]
    split
    · by_cases e : textN s k = []
      · rw [if_pos e, e, List.nil_append, List.nil_append, words_plain _ _ (put_no44 k (by omega)), List.nil_append, same_put k (by omega)]
        rw [e, show words [] [] = [] from same_nil] at ih
        rw [← ih]; rfl
      · rw [if_neg e, List.singleton_append, words_comma, ih, words_plain _ _ (put_no44 k (by omega)), List.nil_append, same_put k (by omega)]
    · exact ih
theorem textN_nil (s : Nat) : ∀ k, textN s k = [] → versN s k = []
  | 0, _ => rfl
  | k + 1, h => by
    rw [textN] at h
    rw [versN]
    split
    · rename_i hh
      rw [if_pos hh] at h
      have h1 := (List.append_eq_nil_iff.1 h).2
      have h2 := (List.append_eq_nil_iff.1 h1).2
      exact absurd h2 (Nm.put_ne _)
    · rename_i hh
      rw [if_neg hh] at h
      exact textN_nil s k h
/-- a set's text is read back -/
theorem back {s : Nat} (hs : s < 65536) : set (words (text s) []) = s := by
  unfold text
  split
  · rename_i e
    have h := textN_nil s 16 e
    have h2 : words [45] [] = [] := by rw [words_plain _ _ (by decide)]; exact same_dash
    rw [h2, ← h]
    exact set_vers hs
  · rw [words_text s 16 (Nat.le_refl _)]; exact set_vers hs
/-- the set whose text it is, or that there is none -/
def read (l : List Nat) : Nat × Nat := if text (set (words l [])) = l then (set (words l []), 0) else (0, 3)
theorem read_text {s : Nat} (hs : s < 65536) : read (text s) = (s, 0) := by unfold read; rw [back hs, if_pos rfl]
theorem read_some {l : List Nat} {s : Nat} (hs : s < 65536) (h : text s = l) : read l = (s, 0) := by rw [← h]; exact read_text hs
theorem read_none {l : List Nat} (h : ∀ s < 65536, text s ≠ l) : read l = (0, 3) := by unfold read; rw [if_neg (h _ (set_lt _))]
theorem put_len16 {v : Nat} (hv : v < 16) : (Nm.put ((v : Int) + 1)).length ≤ 2 := by
  rw [put16 hv]
  unfold p16
  split <;> simp
theorem textN_len (s : Nat) : ∀ k, k ≤ 16 → (textN s k).length ≤ 3 * k
  | 0, _ => Nat.le_refl _
  | k + 1, h => by
    have ih := textN_len s k (by omega)
    have h2 := put_len16 (v := k) (by omega)
    rw [textN]
    split
    · rw [List.length_append, List.length_append]
      have h3 : (if textN s k = [] then ([] : List Nat) else [44]).length ≤ 1 := by split <;> simp
      omega
    · omega
theorem text_len (s : Nat) : (text s).length ≤ 48 := by
  have := textN_len s 16 (Nat.le_refl _)
  unfold text
  split
  · simp
  · omega
theorem textN_byte (s : Nat) : ∀ k, ∀ c ∈ textN s k, c < 256
  | 0, c, h => by cases h
  | k + 1, c, h => by
    rw [textN] at h
    split at h
    · rcases List.mem_append.1 h with h | h
      · exact textN_byte s k c h
      · rcases List.mem_append.1 h with h | h
        · split at h
          · cases h
          · simp at h; omega
        · exact Nm.put_byte _ c h
    · exact textN_byte s k c h
theorem text_byte (s : Nat) : ∀ c ∈ text s, c < 256 := by
  unfold text
  split
  · intro c h; simp at h; omega
  · exact textN_byte s 16
theorem textN_not {s k : Nat} (h : has s ((k : Int) + 1) = false) : textN s (k + 1) = textN s k := by rw [textN, if_neg (by rw [h]; simp)]
theorem textN_one {s k : Nat} (h : has s ((k : Int) + 1) = true) (e : textN s k = []) : textN s (k + 1) = textN s k ++ Nm.put ((k : Int) + 1) := by rw [textN, if_pos h, if_pos e, List.nil_append]
theorem textN_more {s k : Nat} (h : has s ((k : Int) + 1) = true) (e : ¬ textN s k = []) : textN s (k + 1) = (textN s k ++ [44]) ++ Nm.put ((k : Int) + 1) := by rw [textN, if_pos h, if_neg e, List.append_assoc]
end Vs
end Go.Proofs.YtocgoibohfjgjaaDoor
