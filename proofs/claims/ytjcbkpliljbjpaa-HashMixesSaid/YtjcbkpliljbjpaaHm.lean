/- Plain mathematics of the hash: moves down and factors modulo 2^64, and what undoes them. -/
namespace Go.Proofs.Ytjcbkpliljbjpaa
namespace Hm
set_option linter.unusedVariables false

/-- u with itself moved down by s bits -/
def fold (u s : Nat) : Nat := u ^^^ (u / 2 ^ s)
/-- what undoes it, for moves by more than 21 bits -/
def unf (u s : Nat) : Nat := u ^^^ ((u ^^^ (u / 2 ^ s)) / 2 ^ s)
def mul (a f : Nat) : Nat := a * f % 18446744073709551616
def mix (u : Nat) : Nat := fold (mul (fold (mul (fold u 30) 13787848793156543929) 27) 10723151780598845931) 31
def unmix (u : Nat) : Nat := unf (mul (unf (mul (unf u 31) 3573116690164977347) 27) 10871156337175269513) 30
def step (s x : Nat) : Nat := mul (s ^^^ x) 1099511628211
def sum (l : List Nat) : Nat := l.foldl step 14695981039346656037
def place (l : List Nat) : Nat := mix (sum l)

theorem mul_lt (a f : Nat) : mul a f < 18446744073709551616 := Nat.mod_lt _ (by decide)
theorem xor_lt {a b : Nat} (ha : a < 18446744073709551616) (hb : b < 18446744073709551616) : a ^^^ b < 18446744073709551616 := Nat.xor_lt_two_pow (n := 64) ha hb
theorem div_lt {a : Nat} (s : Nat) (ha : a < 18446744073709551616) : a / 2 ^ s < 18446744073709551616 := Nat.lt_of_le_of_lt (Nat.div_le_self _ _) ha
theorem fold_lt {u : Nat} (s : Nat) (h : u < 18446744073709551616) : fold u s < 18446744073709551616 := xor_lt h (div_lt s h)
theorem unf_lt {u : Nat} (s : Nat) (h : u < 18446744073709551616) : unf u s < 18446744073709551616 := xor_lt h (div_lt s (fold_lt s h))
theorem xor_div (a b s : Nat) : (a ^^^ b) / 2 ^ s = a / 2 ^ s ^^^ b / 2 ^ s := by
  rw [← Nat.shiftRight_eq_div_pow, ← Nat.shiftRight_eq_div_pow, ← Nat.shiftRight_eq_div_pow, Nat.shiftRight_xor_distrib]
theorem gone {u s : Nat} (h : u < 18446744073709551616) (hs : 22 ≤ s) : u / 2 ^ s / 2 ^ s / 2 ^ s = 0 := by
  rw [Nat.div_div_eq_div_mul, Nat.div_div_eq_div_mul, ← Nat.pow_add, ← Nat.pow_add]
  refine Nat.div_eq_of_lt (Nat.lt_of_lt_of_le h ?_)
  exact Nat.le_trans (show 18446744073709551616 ≤ 2 ^ 64 by decide) (Nat.pow_le_pow_right (show 0 < 2 by decide) (by omega))
theorem unf_fold {u s : Nat} (h : u < 18446744073709551616) (hs : 22 ≤ s) : unf (fold u s) s = u := by
  have h0 := gone h hs
  unfold unf fold
  simp only [xor_div, h0]
  generalize u / 2 ^ s / 2 ^ s = c
  generalize u / 2 ^ s = b
  apply Nat.eq_of_testBit_eq
  intro i
  simp only [Nat.testBit_xor, Nat.zero_testBit]
  cases u.testBit i <;> cases b.testBit i <;> cases c.testBit i <;> rfl
theorem fold_unf {u s : Nat} (h : u < 18446744073709551616) (hs : 22 ≤ s) : fold (unf u s) s = u := by
  have h0 := gone h hs
  unfold unf fold
  simp only [xor_div, h0]
  generalize u / 2 ^ s / 2 ^ s = c
  generalize u / 2 ^ s = b
  apply Nat.eq_of_testBit_eq
  intro i
  simp only [Nat.testBit_xor, Nat.zero_testBit]
  cases u.testBit i <;> cases b.testBit i <;> cases c.testBit i <;> rfl
theorem mul_back {a f g : Nat} (h : a < 18446744073709551616) (hf : f * g % 18446744073709551616 = 1) : mul (mul a f) g = a := by
  unfold mul
  rw [Nat.mod_mul_mod, Nat.mul_assoc, Nat.mul_mod, hf, Nat.mul_one, Nat.mod_mod, Nat.mod_eq_of_lt h]
theorem mix_lt {u : Nat} (h : u < 18446744073709551616) : mix u < 18446744073709551616 := fold_lt 31 (mul_lt _ _)
theorem unmix_lt {u : Nat} (h : u < 18446744073709551616) : unmix u < 18446744073709551616 := unf_lt 30 (mul_lt _ _)
theorem unmix_mix {u : Nat} (h : u < 18446744073709551616) : unmix (mix u) = u := by
  unfold unmix mix
  rw [unf_fold (mul_lt _ _) (by decide), mul_back (fold_lt _ (mul_lt _ _)) (by decide), unf_fold (mul_lt _ _) (by decide), mul_back (fold_lt _ h) (by decide), unf_fold h (by decide)]
theorem mix_unmix {u : Nat} (h : u < 18446744073709551616) : mix (unmix u) = u := by
  unfold unmix mix
  rw [fold_unf (mul_lt _ _) (by decide), mul_back (unf_lt _ (mul_lt _ _)) (by decide), fold_unf (mul_lt _ _) (by decide), mul_back (unf_lt _ h) (by decide), fold_unf h (by decide)]
theorem mix_inj {u v : Nat} (hu : u < 18446744073709551616) (hv : v < 18446744073709551616) (h : mix u = mix v) : u = v :=
  (unmix_mix hu).symm.trans ((congrArg unmix h).trans (unmix_mix hv))
theorem step_lt (s x : Nat) : step s x < 18446744073709551616 := mul_lt _ _
theorem foldl_snoc (f : Nat → Nat → Nat) (b : Nat) (l : List Nat) (x : Nat) : (l ++ [x]).foldl f b = f (l.foldl f b) x := by simp
theorem sum_snoc (l : List Nat) (x : Nat) : sum (l ++ [x]) = step (sum l) x := foldl_snoc step _ l x
theorem sum_lt (l : List Nat) : sum l < 18446744073709551616 := by
  rcases List.eq_nil_or_concat l with rfl | ⟨l, x, rfl⟩
  · decide
  · rw [List.concat_eq_append, sum_snoc]; exact step_lt _ _
theorem mul_wrap (a f : Nat) : ((a : Int) * (f : Int)) % 18446744073709551616 = ((mul a f : Nat) : Int) := by
  unfold mul; rw [← Int.natCast_mul]; rfl
/-- moved down i times by one bit -/
theorem div_next (u i : Nat) : u / 2 ^ i / 2 = u / 2 ^ (i + 1) := by rw [Nat.div_div_eq_div_mul, Nat.pow_succ]
end Hm
end Go.Proofs.Ytjcbkpliljbjpaa
