/- Texts Cm, Crc, in one. -/
import Derived.Test.YtgfjniogflmlmaaPA
/- Plain mathematics of layer 2: the register's steps, sums, joins, turned bits. -/
namespace Go.Proofs.Ytgfjniogflmlmaa.Cm
set_option linter.unusedVariables false

/-- a step by a bit 0, of a number of any width -/
def sh (x : Nat) : Nat := if x % 2 = 1 then (x / 2) ^^^ 2197175160 else x / 2
/-- n such steps -/
def shN : Nat → Nat → Nat
  | 0, x => x
  | n + 1, x => shN n (sh x)

theorem xor_div2 (x y : Nat) : (x ^^^ y) / 2 = (x / 2) ^^^ (y / 2) := by
  have := Nat.shiftRight_xor_distrib (a := x) (b := y) (i := 1)
  simpa [Nat.shiftRight_succ] using this
theorem xor_mod2 (x y : Nat) : (x ^^^ y) % 2 = (x % 2 + y % 2) % 2 := by
  have h := Nat.xor_mod_two_pow (a := x) (b := y) (n := 1)
  rw [Nat.pow_one] at h
  rw [h]
  rcases Nat.mod_two_eq_zero_or_one x with hx | hx <;> rcases Nat.mod_two_eq_zero_or_one y with hy | hy <;> rw [hx, hy] <;> decide
theorem xor_l (a b c : Nat) : a ^^^ (b ^^^ c) = b ^^^ (a ^^^ c) := by rw [← Nat.xor_assoc, Nat.xor_comm a b, Nat.xor_assoc]
theorem xor_cancel (a b : Nat) : a ^^^ (a ^^^ b) = b := by rw [← Nat.xor_assoc, Nat.xor_self, Nat.zero_xor]

theorem sh_xor (x y : Nat) : sh (x ^^^ y) = sh x ^^^ sh y := by
  unfold sh
  rw [xor_div2, xor_mod2]
  rcases Nat.mod_two_eq_zero_or_one x with hx | hx <;> rcases Nat.mod_two_eq_zero_or_one y with hy | hy <;> simp only [hx, hy]
  · simp
  · simp [Nat.xor_assoc]
  · simp only [Nat.zero_ne_one, if_false, if_true]
    rw [Nat.xor_assoc, Nat.xor_assoc, Nat.xor_comm (y / 2)]
  · simp only [Nat.reduceAdd, Nat.reduceMod, Nat.zero_ne_one, if_false, if_true]
    rw [Nat.xor_assoc, xor_l 2197175160, Nat.xor_self, Nat.xor_zero]
theorem shN_xor : ∀ (n x y : Nat), shN n (x ^^^ y) = shN n x ^^^ shN n y
  | 0, _, _ => rfl
  | n + 1, x, y => by unfold shN; rw [sh_xor, shN_xor n]
theorem sh_zero : sh 0 = 0 := by decide
theorem shN_zero : ∀ n, shN n 0 = 0
  | 0 => rfl
  | n + 1 => by unfold shN; rw [sh_zero, shN_zero n]
theorem shN_add : ∀ (m n x : Nat), shN (m + n) x = shN n (shN m x)
  | 0, n, x => by rw [Nat.zero_add]; rfl
  | m + 1, n, x => by rw [Nat.succ_add]; show shN (m + n) (sh x) = shN n (shN m (sh x)); rw [shN_add m]
theorem shN_succ (n x : Nat) : shN (n + 1) x = sh (shN n x) := shN_add n 1 x
theorem sh_double (x : Nat) : sh (2 * x) = x := by unfold sh; rw [if_neg (by omega)]; omega
theorem shN_pow : ∀ (n x : Nat), shN n (2 ^ n * x) = x
  | 0, x => by simp [shN]
  | n + 1, x => by unfold shN; rw [Nat.pow_succ, Nat.mul_comm (2 ^ n) 2, Nat.mul_assoc, sh_double, shN_pow n]
theorem sh_lt (x : Nat) (h : x < 4294967296) : sh x < 4294967296 := by
  unfold sh
  split
  · exact Nat.xor_lt_two_pow (n := 32) (by omega) (by omega)
  · omega
theorem shN_lt : ∀ (n x : Nat), x < 4294967296 → shN n x < 4294967296
  | 0, _, h => h
  | n + 1, x, h => shN_lt n _ (sh_lt x h)
theorem sh_ne (x : Nat) (h : x < 4294967296) (h0 : sh x = 0) : x = 0 := by
  unfold sh at h0
  split at h0
  · exfalso
    have e : x / 2 = 2197175160 := by
      have := congrArg (· ^^^ 2197175160) h0
      simpa [Nat.xor_assoc] using this
    omega
  · omega
theorem shN_ne : ∀ (n x : Nat), x < 4294967296 → shN n x = 0 → x = 0
  | 0, _, _, h => h
  | n + 1, x, h, h0 => sh_ne x h (shN_ne n _ (sh_lt x h) h0)

/-- what bytes make of a register -/
def step (s : Nat) (l : List Nat) : Nat := l.foldl (fun s c => shN 8 (s ^^^ c)) s
theorem step_nil (s : Nat) : step s [] = s := rfl
theorem step_cons (s c : Nat) (l : List Nat) : step s (c :: l) = step (shN 8 (s ^^^ c)) l := rfl
theorem step_append (s : Nat) (a b : List Nat) : step s (a ++ b) = step (step s a) b := by simp [step]
theorem step_snoc (s c : Nat) (a : List Nat) : step s (a ++ [c]) = shN 8 (step s a ^^^ c) := by simp [step]
theorem step_lt (s : Nat) (l : List Nat) (hs : s < 4294967296) (hl : ∀ x ∈ l, x < 256) : step s l < 4294967296 := by
  induction l generalizing s with
  | nil => exact hs
  | cons c l ih =>
    rw [step_cons]
    refine ih _ (shN_lt _ _ ?_) (fun x hx => hl x (by simp [hx]))
    have := hl c (by simp)
    exact Nat.xor_lt_two_pow (n := 32) (by omega) (by omega)
theorem step_xor (s t : Nat) (l : List Nat) : step (s ^^^ t) l = shN (8 * l.length) t ^^^ step s l := by
  induction l generalizing s t with
  | nil => simp [step, shN, Nat.xor_comm]
  | cons c l ih =>
    rw [step_cons, step_cons, Nat.xor_assoc, Nat.xor_comm t c, ← Nat.xor_assoc, shN_xor, ih, List.length_cons, Nat.mul_succ, Nat.add_comm, shN_add]
theorem step_zeros (s n : Nat) : step s (List.replicate n 0) = shN (8 * n) s := by
  have := step_xor 0 s (List.replicate n 0)
  rw [Nat.zero_xor, List.length_replicate] at this
  rw [this]
  have e : step 0 (List.replicate n 0) = 0 := by
    induction n with
    | zero => rfl
    | succ n ih =>
      rw [List.replicate_succ, step_cons]
      have h := step_xor 0 0 (List.replicate n 0)
      rw [shN_zero] at h
      simp only [Nat.xor_self, shN_zero]
      exact ih (by have := step_xor 0 s (List.replicate n 0); rw [Nat.zero_xor, List.length_replicate] at this; exact this)
  rw [e, Nat.xor_zero]
def sum (l : List Nat) : Nat := step 4294967295 l ^^^ 4294967295
/-- what Join comes to -/
def join (a b n : Nat) : Nat := shN (8 * n) a ^^^ b
theorem sum_append (a b : List Nat) : sum (a ++ b) = join (sum a) (sum b) b.length := by
  unfold join sum
  rw [step_append]
  have h1 := step_xor 0 (step 4294967295 a) b
  have h2 := step_xor 0 4294967295 b
  rw [Nat.zero_xor] at h1 h2
  rw [h1, h2, shN_xor]
  generalize shN (8 * b.length) (step 4294967295 a) = x
  generalize shN (8 * b.length) 4294967295 = y
  generalize step 0 b = z
  rw [Nat.xor_assoc x y, ← Nat.xor_assoc y _ 4294967295, ← Nat.xor_assoc y y z, Nat.xor_self, Nat.zero_xor, Nat.xor_assoc]
theorem sum_lt (l : List Nat) (hl : ∀ x ∈ l, x < 256) : sum l < 4294967296 :=
  Nat.xor_lt_two_pow (n := 32) (step_lt _ l (by omega) hl) (by omega)
theorem join_lt (a b n : Nat) (ha : a < 4294967296) (hb : b < 4294967296) : join a b n < 4294967296 :=
  Nat.xor_lt_two_pow (n := 32) (shN_lt _ a ha) (by omega)
theorem join_join (a b m n : Nat) : join (join a 0 m) b n = join a b (m + n) := by
  unfold join
  rw [Nat.xor_zero, Nat.mul_add, shN_add]

/-! ### effects -/
/-- the effects of q steps, bit by bit -/
def eff (q : Nat) : List Nat := (List.range 32).map fun i => shN q (2 ^ i)
theorem eff_length (q : Nat) : (eff q).length = 32 := by simp [eff]
theorem eff_get (q i : Nat) (h : i < 32) : (eff q).getD i 0 = shN q (2 ^ i) := by
  simp [eff, List.getD, h]
theorem eff_lt (q i : Nat) (h : i < 32) : shN q (2 ^ i) < 4294967296 :=
  shN_lt _ _ (Nat.lt_of_lt_of_le (Nat.pow_lt_pow_right (by omega) h) (by omega))
theorem mod_pow_succ (x k : Nat) : x % 2 ^ (k + 1) = (x % 2 ^ k) ^^^ (if x / 2 ^ k % 2 = 1 then 2 ^ k else 0) := by
  apply Nat.eq_of_testBit_eq
  intro i
  rw [Nat.testBit_xor, Nat.testBit_mod_two_pow, Nat.testBit_mod_two_pow]
  have hb : x.testBit k = decide (x / 2 ^ k % 2 = 1) := by rw [Nat.testBit_eq_decide_div_mod_eq]
  split
  next h =>
    rw [Nat.testBit_two_pow]
    by_cases e : k = i
    · subst e
      simp [hb, h]
    · by_cases e1 : i < k
      · simp [e, e1, show i < k + 1 by omega]
      · simp [e, e1, show ¬ i < k + 1 by omega]
  next h =>
    by_cases e : k = i
    · subst e
      simp [hb, h]
    · by_cases e1 : i < k
      · simp [e1, show i < k + 1 by omega]
      · simp [e1, show ¬ i < k + 1 by omega]
/-- what a loop over the bits of x has made after k of them -/
theorem eff_next (q x k : Nat) : shN q (x % 2 ^ (k + 1)) = shN q (x % 2 ^ k) ^^^ (if x / 2 ^ k % 2 = 1 then shN q (2 ^ k) else 0) := by
  rw [mod_pow_succ, shN_xor]
  split
  · rfl
  · rw [shN_zero]
theorem eff_twice (q i : Nat) : shN q (shN q (2 ^ i)) = shN (2 * q) (2 ^ i) := by rw [Nat.two_mul, shN_add]
/-- a round of Join -/
theorem round_odd (q n a : Nat) (h : n % 2 = 1) : shN (2 * q * (n / 2)) (shN q a) = shN (q * n) a := by
  rw [← shN_add]
  congr 1
  have : n = 2 * (n / 2) + 1 := by omega
  rw [Nat.mul_comm 2 q, Nat.mul_assoc]
  conv => rhs; rw [this, Nat.mul_add, Nat.mul_one]
  omega
theorem round_even (q n a : Nat) (h : n % 2 = 0) : shN (2 * q * (n / 2)) a = shN (q * n) a := by
  congr 1
  have : n = 2 * (n / 2) := by omega
  rw [Nat.mul_comm 2 q, Nat.mul_assoc, ← this]

/-! ### turned bits -/
/-- the mask as a number whose bit i is what turns bit i of the bytes -/
def big (at_ : Int) (mask : Nat) : Nat := if 0 ≤ at_ then mask * 2 ^ at_.toNat else mask / 2 ^ (-at_).toNat
/-- what is laid over byte p -/
def over (at_ : Int) (mask p : Nat) : Nat := big at_ mask / 2 ^ (8 * p) % 256
def flip (l : List Nat) (at_ : Int) (mask : Nat) : List Nat := l.mapIdx fun p x => x ^^^ over at_ mask p
theorem flip_length (l : List Nat) (at_ : Int) (mask : Nat) : (flip l at_ mask).length = l.length := by simp [flip]
theorem over_lt (at_ : Int) (mask p : Nat) : over at_ mask p < 256 := Nat.mod_lt _ (by decide)
theorem flip_byte (l : List Nat) (at_ : Int) (mask : Nat) (h : ∀ x ∈ l, x < 256) : ∀ x ∈ flip l at_ mask, x < 256 := by
  intro x hx
  obtain ⟨i, hi, rfl⟩ := List.mem_mapIdx.1 hx
  exact Nat.xor_lt_two_pow (n := 8) (h _ (List.getElem_mem hi)) (over_lt _ _ _)
theorem flip_flip (l : List Nat) (at_ : Int) (mask : Nat) : flip (flip l at_ mask) at_ mask = l := by
  apply List.ext_getElem (by simp [flip])
  intro i h1 h2
  simp [flip, Nat.xor_assoc]
theorem flip_get (l : List Nat) (at_ : Int) (mask p : Nat) (h : p < l.length) : (flip l at_ mask).getD p 0 = l.getD p 0 ^^^ over at_ mask p := by
  simp [flip, List.getD, h]

/-- bytes as a number, the first ones lowest -/
def num : List Nat → Nat
  | [] => 0
  | c :: l => c + 256 * num l
theorem add_xor (c x : Nat) (h : c < 256) : c + 256 * x = c ^^^ (256 * x) := by
  apply Nat.eq_of_testBit_eq
  intro i
  rw [Nat.testBit_xor, Nat.add_comm, show (256 : Nat) = 2 ^ 8 by decide, Nat.testBit_two_pow_mul_add x (by omega), Nat.testBit_two_pow_mul]
  by_cases e : i < 8
  · simp [e, show ¬ 8 ≤ i by omega]
  · have : c.testBit i = false := Nat.testBit_lt_two_pow (Nat.lt_of_lt_of_le (show c < 2 ^ 8 by omega) (Nat.pow_le_pow_right (by omega) (by omega)))
    simp [e, show 8 ≤ i by omega, this]
theorem step_num (s : Nat) (l : List Nat) (h : ∀ x ∈ l, x < 256) : step s l = shN (8 * l.length) (s ^^^ num l) := by
  induction l generalizing s with
  | nil => simp [step, num, shN]
  | cons c l ih =>
    rw [step_cons, ih _ (fun x hx => h x (by simp [hx])), num, add_xor _ _ (h c (by simp)), List.length_cons, Nat.mul_succ, Nat.add_comm, shN_add, ← Nat.xor_assoc, shN_xor, shN_xor 8 (s ^^^ c),
      show (256 : Nat) = 2 ^ 8 by decide, shN_pow]
    rw [← shN_xor]
theorem num_overs (X : Nat) : ∀ (n k : Nat), num ((List.range' k n).map fun p => X / 2 ^ (8 * p) % 256) = X / 2 ^ (8 * k) % 2 ^ (8 * n)
  | 0, k => by simp [num, Nat.mod_one]
  | n + 1, k => by
    rw [List.range'_succ, List.map_cons, num, num_overs X n (k + 1)]
    rw [Nat.mul_succ 8 k, Nat.pow_add, ← Nat.div_div_eq_div_mul, Nat.mul_succ 8 n, Nat.pow_add, Nat.mul_comm (2 ^ (8 * n)) (2 ^ 8), Nat.mod_mul]
theorem num_xor : ∀ (a b : List Nat), a.length = b.length → (∀ x ∈ a, x < 256) → (∀ x ∈ b, x < 256) → num (List.zipWith (· ^^^ ·) a b) = num a ^^^ num b
  | [], [], _, _, _ => by simp [num]
  | c :: a, d :: b, hl, ha, hb => by
    have hc := ha c (by simp)
    have hd := hb d (by simp)
    have hx : c ^^^ d < 256 := Nat.xor_lt_two_pow (n := 8) hc hd
    rw [List.zipWith_cons_cons, num, num, num, num_xor a b (by simpa using hl) (fun x h => ha x (by simp [h])) (fun x h => hb x (by simp [h])), add_xor _ _ hx, add_xor _ _ hc, add_xor _ _ hd]
    have e : 256 * (num a ^^^ num b) = (256 * num a) ^^^ (256 * num b) := by
      have := Nat.shiftLeft_xor_distrib (a := num a) (b := num b) (i := 8)
      simpa [Nat.shiftLeft_eq, Nat.mul_comm] using this
    rw [e]
    simp only [Nat.xor_assoc]
    rw [xor_l d]
  | [], _ :: _, h, _, _ => by simp at h
  | _ :: _, [], h, _, _ => by simp at h
theorem flip_zip (l : List Nat) (at_ : Int) (mask : Nat) : flip l at_ mask = List.zipWith (· ^^^ ·) l ((List.range' 0 l.length).map fun p => big at_ mask / 2 ^ (8 * p) % 256) := by
  apply List.ext_getElem (by simp [flip])
  intro i h1 h2
  simp [flip, over]
theorem big_form (at_ : Int) (mask n : Nat) (hm : mask < 4294967296) : ∃ t y, t ≤ n ∧ y < 4294967296 ∧ big at_ mask % 2 ^ n = 2 ^ t * y := by
  unfold big
  split
  next h =>
    rcases Nat.le_total at_.toNat n with h1 | h1
    · refine ⟨at_.toNat, mask % 2 ^ (n - at_.toNat), h1, Nat.lt_of_le_of_lt (Nat.mod_le _ _) hm, ?_⟩
      rw [Nat.mul_comm]
      conv => lhs; rw [show n = at_.toNat + (n - at_.toNat) by omega, Nat.pow_add]
      rw [Nat.mul_mod_mul_left]
    · refine ⟨0, 0, by omega, by omega, ?_⟩
      rw [show at_.toNat = (at_.toNat - n) + n by omega, Nat.pow_add, ← Nat.mul_assoc]
      simp
  next h =>
    refine ⟨0, mask / 2 ^ (-at_).toNat % 2 ^ n, by omega, Nat.lt_of_le_of_lt (Nat.mod_le _ _) (Nat.lt_of_le_of_lt (Nat.div_le_self _ _) hm), ?_⟩
    simp
/-- turned bits within 32 in a row are seen by the sum -/
theorem burst (l : List Nat) (at_ : Int) (mask : Nat) (hl : ∀ x ∈ l, x < 256) (hm : mask < 4294967296) (h : sum (flip l at_ mask) = sum l) : flip l at_ mask = l := by
  have hb := flip_byte l at_ mask hl
  have h1 : step 4294967295 (flip l at_ mask) = step 4294967295 l := by
    have := congrArg (· ^^^ 4294967295) h
    simpa [sum, Nat.xor_assoc] using this
  rw [step_num _ _ hb, step_num _ _ hl, flip_length] at h1
  have hov : ∀ x ∈ (List.range' 0 l.length).map (fun p => big at_ mask / 2 ^ (8 * p) % 256), x < 256 := by
    intro x hx
    obtain ⟨p, _, rfl⟩ := List.mem_map.1 hx
    exact Nat.mod_lt _ (by decide)
  have hn : num (flip l at_ mask) = num l ^^^ (big at_ mask % 2 ^ (8 * l.length)) := by
    rw [flip_zip, num_xor _ _ (by simp) hl hov, num_overs]
    simp
  rw [hn, ← Nat.xor_assoc, shN_xor] at h1
  have h2 : shN (8 * l.length) (big at_ mask % 2 ^ (8 * l.length)) = 0 := by
    have := congrArg (shN (8 * l.length) (4294967295 ^^^ num l) ^^^ ·) h1
    simpa [← Nat.xor_assoc] using this
  obtain ⟨t, y, ht, hy, e⟩ := big_form at_ mask (8 * l.length) hm
  have h3 : y = 0 := by
    rw [e, show 8 * l.length = t + (8 * l.length - t) by omega, shN_add, shN_pow] at h2
    exact shN_ne _ _ hy h2
  rw [h3, Nat.mul_zero] at e
  apply List.ext_getElem (by simp [flip])
  intro i h4 h5
  have hz : over at_ mask i = 0 := by
    unfold over
    have : big at_ mask / 2 ^ (8 * i) % 2 ^ 8 = big at_ mask % 2 ^ (8 * l.length) / 2 ^ (8 * i) % 2 ^ 8 := by
      have hi : 8 * i + 8 ≤ 8 * l.length := by omega
      apply Nat.eq_of_testBit_eq
      intro j
      rw [Nat.testBit_mod_two_pow, Nat.testBit_mod_two_pow, Nat.testBit_div_two_pow, Nat.testBit_div_two_pow, Nat.testBit_mod_two_pow]
      by_cases hj : j < 8
      · simp [hj, show j + 8 * i < 8 * l.length by omega]
      · simp [hj]
    rw [show (256 : Nat) = 2 ^ 8 by decide, this, e]
    simp
  simp [flip, hz]

/-! ### turned bits, bit by bit -/
theorem big_bit (at_ : Int) (mask i : Nat) : (big at_ mask).testBit i = (decide (at_ ≤ (i : Int)) && mask.testBit ((i : Int) - at_).toNat) := by
  unfold big
  split
  next h =>
    rw [Nat.mul_comm, Nat.testBit_two_pow_mul]
    by_cases h1 : at_ ≤ (i : Int)
    · rw [decide_eq_true h1, decide_eq_true (show i ≥ at_.toNat by omega), show ((i : Int) - at_).toNat = i - at_.toNat by omega]
    · rw [decide_eq_false h1, decide_eq_false (show ¬ i ≥ at_.toNat by omega)]; simp
  next h =>
    rw [Nat.testBit_div_two_pow, decide_eq_true (show at_ ≤ (i : Int) by omega), show ((i : Int) - at_).toNat = i + (-at_).toNat by omega]
    simp
theorem over_bit (at_ : Int) (mask p k : Nat) (hk : k < 8) : (over at_ mask p).testBit k = (decide (at_ ≤ ((8 * p + k : Nat) : Int)) && mask.testBit (((8 * p + k : Nat) : Int) - at_).toNat) := by
  unfold over
  rw [show (256 : Nat) = 2 ^ 8 by decide, Nat.testBit_mod_two_pow, Nat.testBit_div_two_pow, decide_eq_true hk, Bool.true_and, Nat.add_comm k, big_bit]
theorem mask_high (mask k : Nat) (hm : mask < 4294967296) (hk : 32 ≤ k) : mask.testBit k = false :=
  Nat.testBit_lt_two_pow (Nat.lt_of_lt_of_le (show mask < 2 ^ 32 by omega) (Nat.pow_le_pow_right (by omega) hk))
theorem byte_ext {x y : Nat} (hx : x < 256) (hy : y < 256) (h : ∀ k, k < 8 → x.testBit k = y.testBit k) : x = y := by
  apply Nat.eq_of_testBit_eq
  intro k
  rcases Nat.lt_or_ge k 8 with hk | hk
  · exact h k hk
  · rw [Nat.testBit_lt_two_pow (Nat.lt_of_lt_of_le (show x < 2 ^ 8 by omega) (Nat.pow_le_pow_right (by omega) hk)), Nat.testBit_lt_two_pow (Nat.lt_of_lt_of_le (show y < 2 ^ 8 by omega) (Nat.pow_le_pow_right (by omega) hk))]
theorem over_zero (at_ : Int) (mask p : Nat) (hm : mask < 4294967296) (h : (p : Int) < at_ / 8 ∨ at_ / 8 + 5 ≤ (p : Int)) : over at_ mask p = 0 := by
  refine byte_ext (over_lt _ _ _) (by omega) fun k hk => ?_
  rw [over_bit _ _ _ _ hk, Nat.zero_testBit]
  rcases h with h | h
  · rw [decide_eq_false (by omega)]; rfl
  · rw [mask_high mask _ hm (by omega)]; simp
/-- byte i of the mask, moved up by what is left of its place -/
theorem over_wide (at_ : Int) (mask p i : Nat) (h : (p : Int) = at_ / 8 + i) : mask * 2 ^ (at_ % 8).toNat / 2 ^ (8 * i) % 256 = over at_ mask p := by
  refine byte_ext (Nat.mod_lt _ (by decide)) (over_lt _ _ _) fun k hk => ?_
  rw [over_bit _ _ _ _ hk, show (256 : Nat) = 2 ^ 8 by decide, Nat.testBit_mod_two_pow, Nat.testBit_div_two_pow, decide_eq_true hk, Bool.true_and, Nat.mul_comm, Nat.testBit_two_pow_mul]
  by_cases h1 : at_ ≤ ((8 * p + k : Nat) : Int)
  · rw [decide_eq_true h1, decide_eq_true (by omega)]
    congr 2
    omega
  · rw [decide_eq_false h1, decide_eq_false (by omega)]; simp

/-- the bytes below place b have been turned, the others not yet -/
def part (l : List Nat) (at_ : Int) (mask : Nat) (b : Int) : List Nat := l.mapIdx fun p x => if (p : Int) < b then x ^^^ over at_ mask p else x
theorem part_length (l : List Nat) (at_ : Int) (mask : Nat) (b : Int) : (part l at_ mask b).length = l.length := by simp [part]
theorem part_start (l : List Nat) (at_ : Int) (mask : Nat) (hm : mask < 4294967296) : part l at_ mask (at_ / 8) = l := by
  apply List.ext_getElem (by simp [part])
  intro i h1 h2
  simp only [part, List.getElem_mapIdx]
  split
  · rw [over_zero _ _ _ hm (.inl (by omega)), Nat.xor_zero]
  · rfl
theorem part_end (l : List Nat) (at_ : Int) (mask : Nat) (hm : mask < 4294967296) : part l at_ mask (at_ / 8 + 5) = flip l at_ mask := by
  apply List.ext_getElem (by simp [part, flip])
  intro i h1 h2
  simp only [part, flip, List.getElem_mapIdx]
  split
  · rfl
  · rw [over_zero _ _ _ hm (.inr (by omega)), Nat.xor_zero]
theorem part_get (l : List Nat) (at_ : Int) (mask : Nat) (p : Nat) (h : p < l.length) : (part l at_ mask (p : Int)).getD p 0 = l.getD p 0 := by
  simp [part, List.getD, h]
theorem part_next (l : List Nat) (at_ : Int) (mask : Nat) (p : Nat) (h : p < l.length) : part l at_ mask ((p : Int) + 1) = (part l at_ mask (p : Int)).set p (l.getD p 0 ^^^ over at_ mask p) := by
  apply List.ext_getElem (by simp [part])
  intro i h1 h2
  have hi : i < l.length := by simpa [part] using h1
  rw [List.getElem_set]
  simp only [part, List.getElem_mapIdx]
  by_cases e : p = i
  · subst e
    simp [List.getD, h]
    omega
  · rw [if_neg e]
    by_cases e1 : (i : Int) < (p : Int)
    · rw [if_pos e1, if_pos (by omega)]
    · rw [if_neg e1, if_neg (by omega)]
theorem part_skip (l : List Nat) (at_ : Int) (mask : Nat) (b : Int) (h : b < 0 ∨ (l.length : Int) ≤ b) : part l at_ mask (b + 1) = part l at_ mask b := by
  apply List.ext_getElem (by simp [part])
  intro i h1 h2
  have hi : i < l.length := by simpa [part] using h1
  simp only [part, List.getElem_mapIdx]
  by_cases e1 : (i : Int) < b
  · rw [if_pos e1, if_pos (by omega)]
  · rw [if_neg e1, if_neg (by omega)]

/-- what the reference has of each byte after i bits -/
def lows (l : List Nat) (i : Nat) : List Nat := l.mapIdx fun p x => x % 2 ^ (i - 8 * p)
theorem lows_length (l : List Nat) (i : Nat) : (lows l i).length = l.length := by simp [lows]
theorem lows_start (l : List Nat) : lows l 0 = List.replicate l.length 0 := by
  apply List.ext_getElem (by simp [lows])
  intro i h1 h2
  simp [lows, Nat.mod_one]
theorem lows_end (l : List Nat) (h : ∀ x ∈ l, x < 256) : lows l (8 * l.length) = l := by
  apply List.ext_getElem (by simp [lows])
  intro i h1 h2
  simp only [lows, List.getElem_mapIdx]
  refine Nat.mod_eq_of_lt (Nat.lt_of_lt_of_le (h _ (List.getElem_mem h2)) ?_)
  exact Nat.le_trans (show 256 ≤ 2 ^ 8 by decide) (Nat.pow_le_pow_right (by omega) (by omega))
theorem lows_get (l : List Nat) (i : Nat) (h : i / 8 < l.length) : (lows l i).getD (i / 8) 0 = l.getD (i / 8) 0 % 2 ^ (i % 8) := by
  simp [lows, List.getD, h]
  congr 2
  omega
theorem lows_next (l : List Nat) (i : Nat) (h : i / 8 < l.length) (hl : ∀ x ∈ l, x < 256) :
    lows l (i + 1) = (lows l i).set (i / 8) (l.getD (i / 8) 0 % 2 ^ (i % 8) + (if (l.getD (i / 8) 0).testBit (i % 8) = true then 2 ^ (i % 8) else 0)) := by
  apply List.ext_getElem (by simp [lows])
  intro p h1 h2
  have hp : p < l.length := by simpa [lows] using h1
  rw [List.getElem_set]
  simp only [lows, List.getElem_mapIdx]
  by_cases e : i / 8 = p
  · subst e
    rw [if_pos rfl, show i + 1 - 8 * (i / 8) = i % 8 + 1 by omega]
    simp only [List.getD, List.getElem?_eq_getElem hp, Option.getD_some]
    rw [Nat.mod_pow_succ, Nat.testBit_eq_decide_div_mod_eq]
    rcases Nat.mod_two_eq_zero_or_one (l[i / 8] / 2 ^ (i % 8)) with h0 | h0 <;> simp [h0]
  · rw [if_neg e]
    rcases Nat.lt_or_ge p (i / 8) with h3 | h3
    · have hx := hl _ (List.getElem_mem hp)
      have hle : ∀ m, 8 ≤ m → l[p] % 2 ^ m = l[p] := fun m hm => Nat.mod_eq_of_lt (Nat.lt_of_lt_of_le hx (Nat.le_trans (show 256 ≤ 2 ^ 8 by decide) (Nat.pow_le_pow_right (by omega) hm)))
      rw [hle _ (by omega), hle _ (by omega)]
    · rw [show i + 1 - 8 * p = 0 by omega, show i - 8 * p = 0 by omega]
theorem lows_same (l : List Nat) (i : Nat) (h : i / 8 < l.length) (hl : ∀ x ∈ l, x < 256) (h0 : (l.getD (i / 8) 0).testBit (i % 8) = false) : lows l (i + 1) = lows l i := by
  rw [lows_next l i h hl, h0]
  simp only [Bool.false_eq_true, if_false, Nat.add_zero]
  rw [← lows_get l i h]
  apply List.ext_getElem (by simp)
  intro p h1 h2
  rw [List.getElem_set]
  split
  next e => subst e; simp [List.getD, h2]
  next => rfl
/-- a bit of the turned bytes -/
theorem flip_bit (l : List Nat) (at_ : Int) (mask i : Nat) (h : i / 8 < l.length) : ((flip l at_ mask).getD (i / 8) 0).testBit (i % 8) = ((l.getD (i / 8) 0).testBit (i % 8) ^^ (decide (at_ ≤ (i : Int)) && mask.testBit ((i : Int) - at_).toNat)) := by
  rw [flip_get _ _ _ _ h, Nat.testBit_xor, over_bit _ _ _ _ (by omega), show 8 * (i / 8) + i % 8 = i by omega]
end Go.Proofs.Ytgfjniogflmlmaa.Cm
/- Contracts of crc.shift, crc.Step, crc.Sum and of the reference's step, Step, Sum. -/
namespace Go.Proofs.Ytgfjniogflmlmaa
open Go.RowKit
set_option linter.unusedVariables false

theorem shift_any (x : Nat) (w : World) (h : x < 4294967296) :
    Calls Try.prog 34 #[.int .u32 (x : Int)] w fun e w' => e = .returned (.int .u32 (Cm.sh x : Int)) ∧ w = w' := by
  have hand := u32_and_one x h
  rcases Nat.mod_two_eq_zero_or_one x with h0 | h0
  · have hc : (bits BinOp.and IntKind.u32 (x : Int) 1 == 1) = false := by rw [hand, h0]; rfl
    clear hand
    have H0 := Lib.hid h0
    clear h0
    go_enter Try.func34, Try.ntmps34
    go_wp2
    go_ret
    exact ⟨ret_int (by unfold Cm.sh; rw [if_neg (by rw [H0.out]; decide)]; omega), rfl⟩
  · have hc : (bits BinOp.and IntKind.u32 (x : Int) 1 == 1) = true := by rw [hand, h0]; rfl
    clear hand
    have H0 := Lib.hid h0
    clear h0
    go_enter Try.func34, Try.ntmps34
    go_wp2
    go_ret
    exact ⟨ret_int (by
      unfold Cm.sh; rw [if_pos H0.out]
      have := u32_xor_nat (x / 2) 2197175160 (by omega) (by omega)
      rw [← this]; rfl), rfl⟩

set_option maxRecDepth 100000 in
set_option maxHeartbeats 400000 in
theorem step_any (B : Nat) (s : Nat) (A : Option Addr) (l : List Nat) (n c : Nat) (w : World) (hs : s < 4294967296) (hn : l.length = n) (hc : n ≤ 9223372036854775807) (hA : Sees .u8 w B A l) (hb : ∀ x ∈ l, x < 256) :
    Calls Try.prog 32 #[.int .u32 (s : Int), .slice A n c] w fun e w' => e = .returned (.int .u32 (Cm.step s l : Int)) ∧ w = w' := by
  have Hn := Lib.hid hn
  clear hn
  have HA := Lib.hid hA
  clear hA
  have Hb := Lib.hid hb
  clear hb
  go_enter Try.func32, Try.ntmps32
  go_wp2_with fail
  go_loop [0, 9] (fun r i => ∃ (j a : Nat), j ≤ n ∧ i = .int .i64 j ∧ r = .int .u32 a ∧ a < 4294967296 ∧ Hid (a = Cm.step s (l.take j))) (fun _ i => n - (intOf i).toNat)
  case atStart => exact ⟨0, s, by omega, rfl, rfl, hs, rfl⟩
  case round =>
    obtain ⟨j, a, hj, rfl, rfl, ha, He⟩ := hrel
    by_cases hlt : j < n
    · obtain ⟨b, off, rfl, _, hcell⟩ := HA.out.at_ (i := j) (by rw [Hn.out]; exact hlt)
      have hx : l.getD j 0 < 256 := getD_lt Hb.out j
      obtain ⟨x, Hx⟩ : ∃ x, Hid (l.getD j 0 = x) := ⟨_, rfl⟩
      rw [Hx.out] at hcell hx
      have hxor := u32_xor_nat a x ha (by omega)
      have hxl : a ^^^ x < 4294967296 := Nat.xor_lt_two_pow (n := 32) ha (by omega)
      go_wp2_with fail
      go_loop [0, 17] (fun r i => ∃ (k a' : Nat), k ≤ 8 ∧ i = .int .i64 k ∧ r = .int .u32 a' ∧ a' < 4294967296 ∧ Hid (a' = Cm.shN k (a ^^^ x))) (fun _ i => 8 - (intOf i).toNat)
      case atStart => exact ⟨0, a ^^^ x, by omega, rfl, rfl, hxl, rfl⟩
      case round =>
        obtain ⟨k, a', hk, rfl, rfl, ha', He'⟩ := hrel
        by_cases hk8 : k < 8
        · go_wp2_with fail
          refine (shift_any a' _ ha').mono ?_
          rintro e w' ⟨rfl, rfl⟩
          go_wp2_with fail
          go_round
          case rel => exact ⟨k + 1, Cm.sh a', by omega, by go_num, rfl, Cm.sh_lt _ ha', by show _ = _; rw [Cm.shN_succ, ← He'.out]⟩
          case measure => simp [intOf]; omega
        · go_wp2_with fail
          go_round
          case rel => exact ⟨j + 1, a', by omega, by go_num, rfl, ha', by
            have hk' : k = 8 := by omega
            show _ = _
            rw [take_next (by rw [Hn.out]; exact hlt), Cm.step_snoc, ← He.out, Hx.out, He'.out, hk']⟩
          case measure => simp [intOf]; omega
    · go_wp2_with fail
      go_ret
      exact ⟨ret_int (by rw [He.out, List.take_of_length_le (by rw [Hn.out]; omega)]), rfl⟩

theorem sum_any (B : Nat) (A : Option Addr) (l : List Nat) (n c : Nat) (w : World) (hn : l.length = n) (hc : n ≤ 9223372036854775807) (hA : Sees .u8 w B A l) (hb : ∀ x ∈ l, x < 256) :
    Calls Try.prog 30 #[.slice A n c] w fun e w' => e = .returned (.int .u32 (Cm.sum l : Int)) ∧ w = w' := by
  have HC := Lib.hid (step_any B 4294967295 A l n c w (by omega) hn hc hA hb)
  have hlt := Cm.step_lt 4294967295 l (by omega) hb
  clear hn hA hb
  go_enter Try.func30, Try.ntmps30
  go_wp2_with fail
  refine HC.out.mono ?_
  rintro e w' ⟨rfl, rfl⟩
  go_wp2_with fail
  go_ret
  exact ⟨ret_int (u32_xor_nat _ 4294967295 hlt (by omega)), rfl⟩

/-! ### the reference -/
theorem refstep_any (x : Nat) (o : Bool) (w : World) (h : x < 4294967296) :
    Calls Try.prog 33 #[.int .u32 (x : Int), .bool o] w fun e w' => e = .returned (.int .u32 (Cm.sh (x ^^^ o.toNat) : Int)) ∧ w = w' := by
  have hdiv : (x ^^^ o.toNat) / 2 = x / 2 := by rw [Cm.xor_div2]; cases o <;> simp
  have hmod := Cm.xor_mod2 x o.toNat
  have hx := u32_xor_nat (x / 2) 2197175160 (by omega) (by omega)
  have Hd := Lib.hid hdiv
  have Hm := Lib.hid hmod
  have Hx := Lib.hid hx
  clear hdiv hmod hx
  rcases Nat.mod_two_eq_zero_or_one x with h0 | h0 <;> cases o
  all_goals
    first
      | have hc : ((x : Int) % 2 == 1) = false := by simp; omega
      | have hc : ((x : Int) % 2 == 1) = true := by simp; omega
    have H0 := Lib.hid h0
    clear h0
    go_enter Try.func33, Try.ntmps33
    go_wp2_with fail
    go_ret
    refine ⟨ret_int ?_, rfl⟩
    unfold Cm.sh
    rw [Hd.out, Hm.out, H0.out]
    first
      | (rw [if_neg (by decide)]; omega)
      | (rw [if_pos (by decide)]; exact Hx.out)

/-- the low bits of a byte, one by one -/
theorem bit_toNat (c : Nat) : (decide (c % 2 = 1)).toNat = c % 2 := by
  rcases Nat.mod_two_eq_zero_or_one c with h | h <;> rw [h] <;> rfl
theorem low_next (s c : Nat) : Cm.shN 1 (s ^^^ c % 2) ^^^ c / 2 = Cm.shN 1 (s ^^^ c) := by
  have e : c = (c % 2) ^^^ (2 * (c / 2)) := by
    apply Nat.eq_of_testBit_eq
    intro i
    rw [Nat.testBit_xor]
    cases i with
    | zero => simp [Nat.testBit_zero]
    | succ i => simp [Nat.testBit_succ, Nat.mod_div_self]
  conv => rhs; rw [e]
  rw [← Nat.xor_assoc, Cm.shN_xor 1 (s ^^^ c % 2), show (2 : Nat) * (c / 2) = 2 ^ 1 * (c / 2) by simp, Cm.shN_pow]

set_option maxRecDepth 100000 in
set_option maxHeartbeats 400000 in
theorem refStep_any (B : Nat) (s : Nat) (A : Option Addr) (l : List Nat) (n c : Nat) (w : World) (hs : s < 4294967296) (hn : l.length = n) (hc : n ≤ 9223372036854775807) (hA : Sees .u8 w B A l) (hb : ∀ x ∈ l, x < 256) :
    Calls Try.prog 31 #[.int .u32 (s : Int), .slice A n c] w fun e w' => e = .returned (.int .u32 (Cm.step s l : Int)) ∧ w = w' := by
  have Hn := Lib.hid hn
  clear hn
  have HA := Lib.hid hA
  clear hA
  have Hb := Lib.hid hb
  clear hb
  go_enter Try.func31, Try.ntmps31
  go_wp2_with fail
  go_loop [0, 5] (fun r i => ∃ (j a : Nat), j ≤ n ∧ i = .int .i64 j ∧ r = .int .u32 a ∧ a < 4294967296 ∧ Hid (a = Cm.step s (l.take j))) (fun _ i => n - (intOf i).toNat)
  case atStart => exact ⟨0, s, by omega, rfl, rfl, hs, rfl⟩
  case round =>
    obtain ⟨j, a, hj, rfl, rfl, ha, He⟩ := hrel
    by_cases hlt : j < n
    · obtain ⟨b, off, rfl, _, hcell⟩ := HA.out.at_ (i := j) (by rw [Hn.out]; exact hlt)
      have hx : l.getD j 0 < 256 := getD_lt Hb.out j
      obtain ⟨x, Hx⟩ : ∃ x, Hid (l.getD j 0 = x) := ⟨_, rfl⟩
      rw [Hx.out] at hcell hx
      go_wp2_with fail
      go_loop [0, 6, 7] (fun r d i => ∃ (k a' y : Nat), k ≤ 8 ∧ i = .int .i64 k ∧ r = .int .u32 a' ∧ d = .int .i64 y ∧ a' < 4294967296 ∧ y < 256 ∧ Hid (a' ^^^ y = Cm.shN k (a ^^^ x) ∧ y = x / 2 ^ k)) (fun _ _ i => 8 - (intOf i).toNat)
      case atStart => exact ⟨0, a, x, by omega, rfl, rfl, rfl, ha, hx, rfl, by simp⟩
      case round =>
        obtain ⟨k, a', y, hk, rfl, rfl, rfl, ha', hy, He'⟩ := hrel
        by_cases hk8 : k < 8
        · have hbit : ((y : Int) % 2 == 1) = decide (y % 2 = 1) := by rw [Bool.eq_iff_iff]; simp; omega
          obtain ⟨o, Ho⟩ : ∃ o, Hid (decide (y % 2 = 1) = o) := ⟨_, rfl⟩
          rw [Ho.out] at hbit
          go_wp2_with fail
          refine (refstep_any a' o _ ha').mono ?_
          rintro e w' ⟨rfl, rfl⟩
          have hto : o.toNat = y % 2 := by rw [← Ho.out, bit_toNat]
          have Hto := Lib.hid hto
          clear hto
          go_wp2_with fail
          go_round
          case rel =>
            have hlt2 : Cm.sh (a' ^^^ o.toNat) < 4294967296 := Cm.sh_lt _ (Nat.xor_lt_two_pow (n := 32) ha' (by rw [Hto.out]; omega))
            refine ⟨k + 1, Cm.sh (a' ^^^ o.toNat), y / 2, by omega, by go_num, rfl, by go_num, hlt2, by omega, ?_, ?_⟩
            · rw [Cm.shN_succ, ← He'.out.1, Hto.out]; exact low_next a' y
            · rw [He'.out.2, Nat.pow_succ, Nat.div_div_eq_div_mul]
          case measure => simp [intOf]; omega
        · go_wp2_with fail
          go_round
          case rel => exact ⟨j + 1, a', by omega, by go_num, rfl, ha', by
            have hk' : k = 8 := by omega
            have h1 := He'.out
            rw [hk'] at h1
            have hy0 : y = 0 := by rw [h1.2]; exact Nat.div_eq_of_lt (by omega)
            rw [hy0, Nat.xor_zero] at h1
            show _ = _
            rw [take_next (by rw [Hn.out]; exact hlt), Cm.step_snoc, ← He.out, Hx.out, h1.1]⟩
          case measure => simp [intOf]; omega
    · go_wp2_with fail
      go_ret
      exact ⟨ret_int (by rw [He.out, List.take_of_length_le (by rw [Hn.out]; omega)]), rfl⟩
theorem not_u32 (x : Nat) (h : x < 4294967296) : x ^^^ 4294967295 = 4294967295 - x := by
  have h1 := BitVec.toNat_not (x := BitVec.ofNat 32 x)
  have h2 : ~~~ (BitVec.ofNat 32 x) = BitVec.ofNat 32 x ^^^ BitVec.allOnes 32 := (BitVec.xor_allOnes).symm
  rw [h2, BitVec.toNat_xor, BitVec.toNat_ofNat, BitVec.toNat_allOnes, Nat.mod_eq_of_lt h] at h1
  simpa using h1
theorem refSum_any (B : Nat) (A : Option Addr) (l : List Nat) (n c : Nat) (w : World) (hn : l.length = n) (hc : n ≤ 9223372036854775807) (hA : Sees .u8 w B A l) (hb : ∀ x ∈ l, x < 256) :
    Calls Try.prog 26 #[.slice A n c] w fun e w' => e = .returned (.int .u32 (Cm.sum l : Int)) ∧ w = w' := by
  have HC := Lib.hid (refStep_any B 4294967295 A l n c w (by omega) hn hc hA hb)
  have hlt := Cm.step_lt 4294967295 l (by omega) hb
  have hsum : Hid (Cm.sum l = 4294967295 - Cm.step 4294967295 l) := not_u32 _ hlt
  clear hn hA hb
  go_enter Try.func26, Try.ntmps26
  go_wp2_with fail
  refine HC.out.mono ?_
  rintro e w' ⟨rfl, rfl⟩
  go_wp2_with fail
  go_ret
  exact ⟨ret_int (by rw [hsum.out]; omega), rfl⟩
end Go.Proofs.Ytgfjniogflmlmaa
