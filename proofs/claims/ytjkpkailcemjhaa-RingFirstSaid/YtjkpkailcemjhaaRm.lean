/- Plain arithmetic on a ring of 2^64 places. -/
namespace Go.Proofs.Ytjkpkailcemjhaa
namespace Rm
set_option linter.unusedVariables false

/-- how far b lies ahead of a -/
def dist (a b : Nat) : Nat := (b + 18446744073709551616 - a) % 18446744073709551616
theorem dist_lt (a b : Nat) : dist a b < 18446744073709551616 := Nat.mod_lt _ (by decide)
theorem dist_inj {a x y : Nat} (ha : a < 18446744073709551616) (hx : x < 18446744073709551616) (hy : y < 18446744073709551616) (h : dist a x = dist a y) : x = y := by
  unfold dist at h; omega
theorem dist_wrap {a b : Nat} (ha : a < 18446744073709551616) (hb : b < 18446744073709551616) : ((b : Int) - (a : Int)) % 18446744073709551616 = ((dist a b : Nat) : Int) := by
  unfold dist; omega
theorem dist_low {a b : Nat} (h : a ≤ b) (hb : b < 18446744073709551616) : (b : Int) - (a : Int) = ((dist a b : Nat) : Int) := by
  unfold dist; omega
theorem dist_high {a b : Nat} (h : b < a) (ha : a < 18446744073709551616) : 18446744073709551615 - ((a : Int) - (b : Int)) + 1 = ((dist a b : Nat) : Int) := by
  unfold dist; omega

/-- whether x is met behind a, and not behind b -/
def upto (a x b : Nat) : Bool := if a < b then decide (a < x) && decide (x ≤ b) else if b < a then decide (a < x) || decide (x ≤ b) else true
theorem upto_dist {a x b : Nat} (ha : a < 18446744073709551616) (hx : x < 18446744073709551616) (hb : b < 18446744073709551616) :
    decide (dist ((a + 1) % 18446744073709551616) x ≤ dist ((a + 1) % 18446744073709551616) b) = upto a x b := by
  unfold upto dist
  rw [Bool.eq_iff_iff]
  by_cases h1 : a < b
  · rw [if_pos h1]; simp only [decide_eq_true_eq, Bool.and_eq_true]; omega
  · rw [if_neg h1]
    by_cases h2 : b < a
    · rw [if_pos h2]; simp only [decide_eq_true_eq, Bool.or_eq_true]; omega
    · rw [if_neg h2]
      obtain rfl : a = b := by omega
      simp only [decide_eq_true_eq, iff_true]
      have h3 : (a + 18446744073709551616 - (a + 1) % 18446744073709551616) % 18446744073709551616 = 18446744073709551615 := by omega
      rw [h3]
      have := Nat.mod_lt (x + 18446744073709551616 - (a + 1) % 18446744073709551616) (show 0 < 18446744073709551616 by decide)
      omega
/-- the same without b -/
def between (a x b : Nat) : Bool := decide (x ≠ b) && upto a x b
theorem round (a x b : Nat) (ha : a < 18446744073709551616) (hx : x < 18446744073709551616) (hb : b < 18446744073709551616) : (dist a x + dist x b) % 18446744073709551616 = dist a b := by
  unfold dist; omega
theorem other (a x b : Nat) (h : a ≠ b) : upto a x b = !upto b x a := by
  unfold upto
  rw [Bool.eq_iff_iff]
  by_cases h1 : a < b
  · rw [if_pos h1, if_neg (by omega), if_pos h1]; simp only [Bool.and_eq_true, Bool.not_eq_true', Bool.or_eq_false_iff, decide_eq_true_eq, decide_eq_false_iff_not]; omega
  · rw [if_neg h1, if_pos (by omega), if_pos (by omega)]; simp only [Bool.or_eq_true, Bool.not_eq_true', Bool.and_eq_false_iff, decide_eq_true_eq, decide_eq_false_iff_not]; omega
theorem with_end (a x b : Nat) : upto a x b = (between a x b || decide (x = b)) := by
  by_cases h : x = b
  · subst h
    unfold upto between upto
    rw [Bool.eq_iff_iff]
    by_cases h1 : a < x
    · simp [h1]
    · by_cases h2 : x < a <;> simp [h1, h2]
  · simp [between, h]

/-- the place 2^bit ahead -/
def start (id : Nat) (bit : Int) : Nat := if bit < 0 ∨ 63 < bit then id else (id + 2 ^ bit.toNat) % 18446744073709551616
theorem pow_small {bit : Int} (h : 0 ≤ bit) (h3 : bit ≤ 63) : 2 ^ bit.toNat ≤ 9223372036854775808 := by
  have := Nat.pow_le_pow_right (show 0 < 2 by decide) (show bit.toNat ≤ 63 by omega)
  omega

/-- the place, among the first j of l, of one with the least way from key, the first of these -/
def best (key : Nat) (l : List Nat) : Nat → Nat
  | 0 => 0
  | j + 1 => if dist key (l.getD j 0) < dist key (l.getD (best key l j) 0) then j else best key l j
theorem best_lt (key : Nat) (l : List Nat) : ∀ j, 0 < j → best key l j < j
  | 0, h => by omega
  | 1, _ => by simp [best]
  | j + 2, _ => by
    have := best_lt key l (j + 1) (by omega)
    rw [best]; split <;> omega
theorem best_min (key : Nat) (l : List Nat) : ∀ j k, k < j → dist key (l.getD (best key l j) 0) ≤ dist key (l.getD k 0)
  | 0, k, h => by omega
  | j + 1, k, h => by
    rw [best]
    rcases Nat.lt_or_ge k j with hk | hk
    · have := best_min key l j k hk
      split <;> omega
    · obtain rfl : k = j := by omega
      split <;> omega
theorem best_first (key : Nat) (l : List Nat) : ∀ j k, k < best key l j → dist key (l.getD (best key l j) 0) < dist key (l.getD k 0)
  | 0, k, h => by simp [best] at h
  | j + 1, k, h => by
    rw [best] at h ⊢
    split at h
    · rename_i hc
      rw [if_pos hc]
      have := best_min key l j k h
      omega
    · rename_i hc
      rw [if_neg hc]
      exact best_first key l j k h
theorem best_one (key : Nat) (l : List Nat) : best key l 1 = 0 := by simp [best]
/-- which of l is met first from key on -/
def owner (key : Nat) (l : List Nat) : Int := if l.length = 0 then -1 else (best key l l.length : Int)
end Rm
end Go.Proofs.Ytjkpkailcemjhaa
