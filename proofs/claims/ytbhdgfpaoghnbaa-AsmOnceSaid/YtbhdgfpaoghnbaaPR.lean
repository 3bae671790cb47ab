/- Texts Pm, Cm, Gr, Tm22, Tm23, in one. -/
import Derived.Test.YtbhdgfpaoghnbaaPA
import Derived.Test.YtbhdgfpaoghnbaaPC
/- Layer 21 as plain mathematics: the parts of a message as they came. -/
namespace Go.Proofs.Ytbhdgfpaoghnbaa.Pm
set_option linter.unusedVariables false

/-- how many there are to be, and which came, in order: each one's place and bytes -/
structure S where
  count : Nat
  l : List (Nat × List Nat)
def S.idx (s : S) : List Nat := s.l.map (·.1)
def S.has (s : S) (i : Nat) : Bool := s.idx.contains i
def S.at_ (s : S) (i : Nat) : List Nat := match s.l.find? (fun x => x.1 == i) with
  | some x => x.2
  | none => []
def S.size (s : S) : Nat := (s.l.map (fun x => x.2.length)).sum
def S.whole (s : S) : List Nat := (List.range s.count).flatMap s.at_
def S.full (s : S) : Bool := decide (s.l.length = s.count)
def S.add (s : S) (i : Nat) (b : List Nat) : S := ⟨s.count, s.l ++ [(i, b)]⟩
/-- what Add answers -/
def S.err (s : S) (i : Int) : Nat := if i < 0 ∨ (s.count : Int) ≤ i then 1 else if s.has i.toNat then 12 else 0
def S.put (s : S) (i : Int) (b : List Nat) : S := if s.err i = 0 then s.add i.toNat b else s
structure S.Ok (s : S) : Prop where
  once : s.idx.Nodup
  lt : ∀ i ∈ s.idx, i < s.count
  most : s.count ≤ 65535
  byte : ∀ x ∈ s.l, ∀ y ∈ x.2, y < 256

theorem nodup_le : ∀ (n : Nat) (l : List Nat), l.Nodup → (∀ x ∈ l, x < n) → l.length ≤ n
  | 0, l, _, h => by
    cases l with
    | nil => simp
    | cons x l => exact absurd (h x List.mem_cons_self) (Nat.not_lt_zero _)
  | n + 1, l, hd, h => by
    by_cases hn : n ∈ l
    · have h1 := nodup_le n (l.erase n) (hd.erase n) (fun x hx => by
        have hx1 := List.mem_of_mem_erase hx
        have := h x hx1
        have hne : x ≠ n := fun e => by
          subst e
          exact (List.Nodup.mem_erase_iff hd).1 hx |>.1 rfl
        omega)
      rw [List.length_erase_of_mem hn] at h1
      omega
    · have h1 := nodup_le n l hd (fun x hx => by
        have := h x hx
        have hne : x ≠ n := fun e => hn (e ▸ hx)
        omega)
      omega
theorem all_there {n : Nat} {l : List Nat} (hd : l.Nodup) (h : ∀ x ∈ l, x < n) (hl : l.length = n) (i : Nat) (hi : i < n) : i ∈ l := by
  refine Classical.byContradiction fun hn => ?_
  have := nodup_le n (i :: l) (List.nodup_cons.2 ⟨hn, hd⟩) (fun x hx => by
    rcases List.mem_cons.1 hx with rfl | hx
    · exact hi
    · exact h x hx)
  rw [List.length_cons] at this
  omega
section
variable {s : S} {i : Nat} {b : List Nat}
theorem S.Ok.len (h : s.Ok) : s.l.length ≤ s.count := by
  have := nodup_le s.count s.idx h.once h.lt
  simpa [S.idx] using this
theorem S.has_iff : s.has i = true ↔ i ∈ s.idx := by simp [S.has]
theorem S.err_ok {z : Int} (h : s.err z = 0) : ∃ i : Nat, z = (i : Int) ∧ i < s.count ∧ s.has i = false := by
  unfold S.err at h
  split at h
  · cases h
  · split at h
    · cases h
    · rename_i h1 h2
      exact ⟨z.toNat, by omega, by omega, by simpa using h2⟩
theorem S.Ok.add (h : s.Ok) (hi : i < s.count) (hh : s.has i = false) (hb : ∀ y ∈ b, y < 256) : (s.add i b).Ok := by
  have hn : i ∉ s.idx := fun q => by rw [S.has_iff.2 q] at hh; cases hh
  refine ⟨?_, ?_, h.most, ?_⟩
  · unfold S.idx S.add
    rw [List.map_append, List.nodup_append]
    refine ⟨h.once, by simp, fun x hx y hy => ?_⟩
    simp at hy
    subst hy
    exact fun e => hn (e ▸ hx)
  · intro x hx
    unfold S.idx S.add at hx
    rw [List.map_append] at hx
    rcases List.mem_append.1 hx with hx | hx
    · exact h.lt x hx
    · simp at hx; subst hx; exact hi
  · intro x hx
    rcases List.mem_append.1 hx with hx | hx
    · exact h.byte x hx
    · simp at hx; subst hx; exact hb
theorem S.Ok.put (h : s.Ok) (z : Int) (hb : ∀ y ∈ b, y < 256) : (s.put z b).Ok := by
  unfold S.put
  split
  · obtain ⟨i, rfl, hi, hh⟩ := S.err_ok ‹_›
    simpa using h.add hi hh hb
  · exact h
theorem S.Ok.all (h : s.Ok) (hf : s.l.length = s.count) (hi : i < s.count) : i ∈ s.idx := all_there h.once h.lt (by simpa [S.idx] using hf) i hi
/-- where a part stands among those that came -/
def place (l : List Nat) (i : Nat) : Option Nat := l.findIdx? (· == i)
theorem place_some {l : List Nat} {i k : Nat} (hk : k < l.length) (he : l[k] = i) (hb : ∀ j, j < k → ∀ h : j < l.length, l[j] ≠ i) : place l i = some k := by
  unfold place
  rw [List.findIdx?_eq_some_iff_getElem]
  exact ⟨hk, by simpa using he, fun j hj => by simpa using hb j hj (by omega)⟩
theorem place_none {l : List Nat} {i : Nat} (h : ∀ j, ∀ h : j < l.length, l[j] ≠ i) : place l i = none := by
  unfold place
  rw [List.findIdx?_eq_none_iff]
  intro x hx
  obtain ⟨j, hj, rfl⟩ := List.mem_iff_getElem.1 hx
  simpa using h j hj
theorem place_has (l : List Nat) (i : Nat) : (place l i).isSome = l.contains i := by
  unfold place
  rw [List.findIdx?_isSome, List.any_beq']
/-- .. and its bytes -/
theorem at_place {k : Nat} (h : place s.idx i = some k) : ∃ hk : k < s.l.length, s.at_ i = s.l[k].2 := by
  unfold place at h
  rw [List.findIdx?_eq_some_iff_getElem] at h
  obtain ⟨hk, h1, h2⟩ := h
  have hk' : k < s.l.length := by simpa [S.idx] using hk
  refine ⟨hk', ?_⟩
  have e : s.l.find? (fun x => x.1 == i) = some s.l[k] := by
    rw [List.find?_eq_some_iff_getElem]
    refine ⟨by simpa [S.idx] using h1, k, hk', rfl, fun j hj => ?_⟩
    have := h2 j hj
    simpa [S.idx] using this
  unfold S.at_
  rw [e]
theorem S.Ok.at_byte (h : s.Ok) (i : Nat) : ∀ y ∈ s.at_ i, y < 256 := by
  unfold S.at_
  split
  · exact h.byte _ (List.mem_of_find?_eq_some ‹_›)
  · intro y hy; cases hy
theorem len_le_sum : ∀ (l : List (Nat × List Nat)), ∀ x ∈ l, x.2.length ≤ (l.map (fun x => x.2.length)).sum
  | [], x, h => by cases h
  | y :: l, x, h => by
    rw [List.map_cons, List.sum_cons]
    rcases List.mem_cons.1 h with rfl | h
    · omega
    · have := len_le_sum l x h; omega
theorem S.at_le (s : S) (i : Nat) : (s.at_ i).length ≤ s.size := by
  unfold S.at_
  split
  · exact len_le_sum s.l _ (List.mem_of_find?_eq_some ‹_›)
  · simp
/-- the first k of them, one behind the other -/
def S.first (s : S) (k : Nat) : List Nat := (List.range k).flatMap s.at_
theorem S.first_zero (s : S) : s.first 0 = [] := rfl
theorem S.first_succ (s : S) (k : Nat) : s.first (k + 1) = s.first k ++ s.at_ k := by simp [S.first, List.range_succ]
theorem S.first_all (s : S) : s.first s.count = s.whole := rfl
theorem S.first_le (s : S) (k : Nat) : (s.first k).length ≤ k * s.size := by
  induction k with
  | zero => simp [S.first]
  | succ k ih =>
    rw [S.first_succ, List.length_append, Nat.add_mul]
    have := s.at_le k
    omega
theorem S.Ok.first_byte (h : s.Ok) (k : Nat) : ∀ y ∈ s.first k, y < 256 := by
  induction k with
  | zero => intro y hy; cases hy
  | succ k ih =>
    intro y hy
    rw [S.first_succ] at hy
    rcases List.mem_append.1 hy with hy | hy
    · exact ih y hy
    · exact h.at_byte k y hy
theorem S.size_add (s : S) (i : Nat) (b : List Nat) : (s.add i b).size = s.size + b.length := by simp [S.add, S.size]
theorem S.at_add (s : S) (i : Nat) (b : List Nat) (hh : s.has i = false) (j : Nat) : (s.add i b).at_ j = if j = i then b else s.at_ j := by
  have hn : i ∉ s.idx := fun q => by rw [S.has_iff.2 q] at hh; cases hh
  unfold S.at_ S.add
  rw [List.find?_append]
  by_cases hj : j = i
  · subst hj
    have e : s.l.find? (fun x => x.1 == j) = none := by
      rw [List.find?_eq_none]
      intro x hx
      have : x.1 ∈ s.idx := List.mem_map.2 ⟨x, hx, rfl⟩
      simp
      exact fun e => hn (e ▸ this)
    simp [e]
  · rw [if_neg hj]
    have e : ([(i, b)] : List (Nat × List Nat)).find? (fun x => x.1 == j) = none := by simp [Ne.symm hj]
    rw [e, Option.or_none]
theorem S.has_add (s : S) (i : Nat) (b : List Nat) (j : Nat) : (s.add i b).has j = (s.has j || decide (j = i)) := by
  unfold S.has S.idx S.add
  rw [Bool.eq_iff_iff]
  simp
end
theorem sum_take_le : ∀ (l : List Nat) (k : Nat), (l.take k).sum ≤ l.sum
  | [], k => by simp
  | x :: l, 0 => by simp
  | x :: l, k + 1 => by
    rw [List.take_succ_cons, List.sum_cons, List.sum_cons]
    have := sum_take_le l k
    omega
end Go.Proofs.Ytbhdgfpaoghnbaa.Pm
/- Plain mathematics of layer 2: the register's steps, sums, joins, turned bits. -/
namespace Go.Proofs.Ytbhdgfpaoghnbaa.Cm
set_option linter.unusedVariables false

/-- a step by a bit 0, of a number of any width -/
def sh (x : Nat) : Nat := if x % 2 = 1 then (x / 2) ^^^ 2197175160 else x / 2
/-- n such steps -/
def shN : Nat → Nat → Nat
  | 0, x => x
  | n + 1, x => shN n (sh x)

theorem xor_div2 (x y : Nat) : (x ^^^ y) / 2 = (x / 2) ^^^ (y / 2) := by
  have := Nat.shiftRight_xor_distrib (a := x) (b := y) (i := 1)
  simpa [Nat.shiftRight_succ] using this
theorem xor_mod2 (x y : Nat) : (x ^^^ y) % 2 = (x % 2 + y % 2) % 2 := by
  have h := Nat.xor_mod_two_pow (a := x) (b := y) (n := 1)
  rw [Nat.pow_one] at h
  rw [h]
  rcases Nat.mod_two_eq_zero_or_one x with hx | hx <;> rcases Nat.mod_two_eq_zero_or_one y with hy | hy <;> rw [hx, hy] <;> decide
theorem xor_l (a b c : Nat) : a ^^^ (b ^^^ c) = b ^^^ (a ^^^ c) := by rw [← Nat.xor_assoc, Nat.xor_comm a b, Nat.xor_assoc]
theorem xor_cancel (a b : Nat) : a ^^^ (a ^^^ b) = b := by rw [← Nat.xor_assoc, Nat.xor_self, Nat.zero_xor]

theorem sh_xor (x y : Nat) : sh (x ^^^ y) = sh x ^^^ sh y := by
  unfold sh
  rw [xor_div2, xor_mod2]
  rcases Nat.mod_two_eq_zero_or_one x with hx | hx <;> rcases Nat.mod_two_eq_zero_or_one y with hy | hy <;> simp only [hx, hy]
  · simp
  · simp [Nat.xor_assoc]
  · simp only [Nat.zero_ne_one, if_false, if_true]
    rw [Nat.xor_assoc, Nat.xor_assoc, Nat.xor_comm (y / 2)]
  · simp only [Nat.reduceAdd, Nat.reduceMod, Nat.zero_ne_one, if_false, if_true]
    rw [Nat.xor_assoc, xor_l 2197175160, Nat.xor_self, Nat.xor_zero]
theorem shN_xor : ∀ (n x y : Nat), shN n (x ^^^ y) = shN n x ^^^ shN n y
  | 0, _, _ => rfl
  | n + 1, x, y => by unfold shN; rw [sh_xor, shN_xor n]
theorem sh_zero : sh 0 = 0 := by decide
theorem shN_zero : ∀ n, shN n 0 = 0
  | 0 => rfl
  | n + 1 => by unfold shN; rw [sh_zero, shN_zero n]
theorem shN_add : ∀ (m n x : Nat), shN (m + n) x = shN n (shN m x)
  | 0, n, x => by rw [Nat.zero_add]; rfl
  | m + 1, n, x => by rw [Nat.succ_add]; show shN (m + n) (sh x) = shN n (shN m (sh x)); rw [shN_add m]
theorem shN_succ (n x : Nat) : shN (n + 1) x = sh (shN n x) := shN_add n 1 x
theorem sh_double (x : Nat) : sh (2 * x) = x := by unfold sh; rw [if_neg (by omega)]; omega
theorem shN_pow : ∀ (n x : Nat), shN n (2 ^ n * x) = x
  | 0, x => by simp [shN]
  | n + 1, x => by unfold shN; rw [Nat.pow_succ, Nat.mul_comm (2 ^ n) 2, Nat.mul_assoc, sh_double, shN_pow n]
theorem sh_lt (x : Nat) (h : x < 4294967296) : sh x < 4294967296 := by
  unfold sh
  split
  · exact Nat.xor_lt_two_pow (n := 32) (by omega) (by omega)
  · omega
theorem shN_lt : ∀ (n x : Nat), x < 4294967296 → shN n x < 4294967296
  | 0, _, h => h
  | n + 1, x, h => shN_lt n _ (sh_lt x h)
theorem sh_ne (x : Nat) (h : x < 4294967296) (h0 : sh x = 0) : x = 0 := by
  unfold sh at h0
  split at h0
  · exfalso
    have e : x / 2 = 2197175160 := by
      have := congrArg (· ^^^ 2197175160) h0
      simpa [Nat.xor_assoc] using this
    omega
  · omega
theorem shN_ne : ∀ (n x : Nat), x < 4294967296 → shN n x = 0 → x = 0
  | 0, _, _, h => h
  | n + 1, x, h, h0 => sh_ne x h (shN_ne n _ (sh_lt x h) h0)

/-- what bytes make of a register -/
def step (s : Nat) (l : List Nat) : Nat := l.foldl (fun s c => shN 8 (s ^^^ c)) s
theorem step_nil (s : Nat) : step s [] = s := rfl
theorem step_cons (s c : Nat) (l : List Nat) : step s (c :: l) = step (shN 8 (s ^^^ c)) l := rfl
theorem step_append (s : Nat) (a b : List Nat) : step s (a ++ b) = step (step s a) b := by simp [step]
theorem step_snoc (s c : Nat) (a : List Nat) : step s (a ++ [c]) = shN 8 (step s a ^^^ c) := by simp [step]
theorem step_lt (s : Nat) (l : List Nat) (hs : s < 4294967296) (hl : ∀ x ∈ l, x < 256) : step s l < 4294967296 := by
  induction l generalizing s with
  | nil => exact hs
  | cons c l ih =>
    rw [step_cons]
    refine ih _ (shN_lt _ _ ?_) (fun x hx => hl x (by simp [hx]))
    have := hl c (by simp)
    exact Nat.xor_lt_two_pow (n := 32) (by omega) (by omega)
theorem step_xor (s t : Nat) (l : List Nat) : step (s ^^^ t) l = shN (8 * l.length) t ^^^ step s l := by
  induction l generalizing s t with
  | nil => simp [step, shN, Nat.xor_comm]
  | cons c l ih =>
    rw [step_cons, step_cons, Nat.xor_assoc, Nat.xor_comm t c, ← Nat.xor_assoc, shN_xor, ih, List.length_cons, Nat.mul_succ, Nat.add_comm, shN_add]
theorem step_zeros (s n : Nat) : step s (List.replicate n 0) = shN (8 * n) s := by
  have := step_xor 0 s (List.replicate n 0)
  rw [Nat.zero_xor, List.length_replicate] at this
  rw [this]
  have e : step 0 (List.replicate n 0) = 0 := by
    induction n with
    | zero => rfl
    | succ n ih =>
      rw [List.replicate_succ, step_cons]
      have h := step_xor 0 0 (List.replicate n 0)
      rw [shN_zero] at h
      simp only [Nat.xor_self, shN_zero]
      exact ih (by have := step_xor 0 s (List.replicate n 0); rw [Nat.zero_xor, List.length_replicate] at this; exact this)
  rw [e, Nat.xor_zero]
def sum (l : List Nat) : Nat := step 4294967295 l ^^^ 4294967295
/-- what Join comes to -/
def join (a b n : Nat) : Nat := shN (8 * n) a ^^^ b
theorem sum_append (a b : List Nat) : sum (a ++ b) = join (sum a) (sum b) b.length := by
  unfold join sum
  rw [step_append]
  have h1 := step_xor 0 (step 4294967295 a) b
  have h2 := step_xor 0 4294967295 b
  rw [Nat.zero_xor] at h1 h2
  rw [h1, h2, shN_xor]
  generalize shN (8 * b.length) (step 4294967295 a) = x
  generalize shN (8 * b.length) 4294967295 = y
  generalize step 0 b = z
  rw [Nat.xor_assoc x y, ← Nat.xor_assoc y _ 4294967295, ← Nat.xor_assoc y y z, Nat.xor_self, Nat.zero_xor, Nat.xor_assoc]
theorem sum_lt (l : List Nat) (hl : ∀ x ∈ l, x < 256) : sum l < 4294967296 :=
  Nat.xor_lt_two_pow (n := 32) (step_lt _ l (by omega) hl) (by omega)
theorem join_lt (a b n : Nat) (ha : a < 4294967296) (hb : b < 4294967296) : join a b n < 4294967296 :=
  Nat.xor_lt_two_pow (n := 32) (shN_lt _ a ha) (by omega)
theorem join_join (a b m n : Nat) : join (join a 0 m) b n = join a b (m + n) := by
  unfold join
  rw [Nat.xor_zero, Nat.mul_add, shN_add]

/-! ### effects -/
/-- the effects of q steps, bit by bit -/
def eff (q : Nat) : List Nat := (List.range 32).map fun i => shN q (2 ^ i)
theorem eff_length (q : Nat) : (eff q).length = 32 := by simp [eff]
theorem eff_get (q i : Nat) (h : i < 32) : (eff q).getD i 0 = shN q (2 ^ i) := by
  simp [eff, List.getD, h]
theorem eff_lt (q i : Nat) (h : i < 32) : shN q (2 ^ i) < 4294967296 :=
  shN_lt _ _ (Nat.lt_of_lt_of_le (Nat.pow_lt_pow_right (by omega) h) (by omega))
theorem mod_pow_succ (x k : Nat) : x % 2 ^ (k + 1) = (x % 2 ^ k) ^^^ (if x / 2 ^ k % 2 = 1 then 2 ^ k else 0) := by
  apply Nat.eq_of_testBit_eq
  intro i
  rw [Nat.testBit_xor, Nat.testBit_mod_two_pow, Nat.testBit_mod_two_pow]
  have hb : x.testBit k = decide (x / 2 ^ k % 2 = 1) := by rw [Nat.testBit_eq_decide_div_mod_eq]
  split
  next h =>
    rw [Nat.testBit_two_pow]
    by_cases e : k = i
    · subst e
      simp [hb, h]
    · by_cases e1 : i < k
      · simp [e, e1, show i < k + 1 by omega]
      · simp [e, e1, show ¬ i < k + 1 by omega]
  next h =>
    by_cases e : k = i
    · subst e
      simp [hb, h]
    · by_cases e1 : i < k
      · simp [e1, show i < k + 1 by omega]
      · simp [e1, show ¬ i < k + 1 by omega]
/-- what a loop over the bits of x has made after k of them -/
theorem eff_next (q x k : Nat) : shN q (x % 2 ^ (k + 1)) = shN q (x % 2 ^ k) ^^^ (if x / 2 ^ k % 2 = 1 then shN q (2 ^ k) else 0) := by
  rw [mod_pow_succ, shN_xor]
  split
  · rfl
  · rw [shN_zero]
theorem eff_twice (q i : Nat) : shN q (shN q (2 ^ i)) = shN (2 * q) (2 ^ i) := by rw [Nat.two_mul, shN_add]
/-- a round of Join -/
theorem round_odd (q n a : Nat) (h : n % 2 = 1) : shN (2 * q * (n / 2)) (shN q a) = shN (q * n) a := by
  rw [← shN_add]
  congr 1
  have : n = 2 * (n / 2) + 1 := by omega
  rw [Nat.mul_comm 2 q, Nat.mul_assoc]
  conv => rhs; rw [this, Nat.mul_add, Nat.mul_one]
  omega
theorem round_even (q n a : Nat) (h : n % 2 = 0) : shN (2 * q * (n / 2)) a = shN (q * n) a := by
  congr 1
  have : n = 2 * (n / 2) := by omega
  rw [Nat.mul_comm 2 q, Nat.mul_assoc, ← this]

/-! ### turned bits -/
/-- the mask as a number whose bit i is what turns bit i of the bytes -/
def big (at_ : Int) (mask : Nat) : Nat := if 0 ≤ at_ then mask * 2 ^ at_.toNat else mask / 2 ^ (-at_).toNat
/-- what is laid over byte p -/
def over (at_ : Int) (mask p : Nat) : Nat := big at_ mask / 2 ^ (8 * p) % 256
def flip (l : List Nat) (at_ : Int) (mask : Nat) : List Nat := l.mapIdx fun p x => x ^^^ over at_ mask p
theorem flip_length (l : List Nat) (at_ : Int) (mask : Nat) : (flip l at_ mask).length = l.length := by simp [flip]
theorem over_lt (at_ : Int) (mask p : Nat) : over at_ mask p < 256 := Nat.mod_lt _ (by decide)
theorem flip_byte (l : List Nat) (at_ : Int) (mask : Nat) (h : ∀ x ∈ l, x < 256) : ∀ x ∈ flip l at_ mask, x < 256 := by
  intro x hx
  obtain ⟨i, hi, rfl⟩ := List.mem_mapIdx.1 hx
  exact Nat.xor_lt_two_pow (n := 8) (h _ (List.getElem_mem hi)) (over_lt _ _ _)
theorem flip_flip (l : List Nat) (at_ : Int) (mask : Nat) : flip (flip l at_ mask) at_ mask = l := by
  apply List.ext_getElem (by simp [flip])
  intro i h1 h2
  simp [flip, Nat.xor_assoc]
theorem flip_get (l : List Nat) (at_ : Int) (mask p : Nat) (h : p < l.length) : (flip l at_ mask).getD p 0 = l.getD p 0 ^^^ over at_ mask p := by
  simp [flip, List.getD, h]

/-- bytes as a number, the first ones lowest -/
def num : List Nat → Nat
  | [] => 0
  | c :: l => c + 256 * num l
theorem add_xor (c x : Nat) (h : c < 256) : c + 256 * x = c ^^^ (256 * x) := by
  apply Nat.eq_of_testBit_eq
  intro i
  rw [Nat.testBit_xor, Nat.add_comm, show (256 : Nat) = 2 ^ 8 by decide, Nat.testBit_two_pow_mul_add x (by omega), Nat.testBit_two_pow_mul]
  by_cases e : i < 8
  · simp [e, show ¬ 8 ≤ i by omega]
  · have : c.testBit i = false := Nat.testBit_lt_two_pow (Nat.lt_of_lt_of_le (show c < 2 ^ 8 by omega) (Nat.pow_le_pow_right (by omega) (by omega)))
    simp [e, show 8 ≤ i by omega, this]
theorem step_num (s : Nat) (l : List Nat) (h : ∀ x ∈ l, x < 256) : step s l = shN (8 * l.length) (s ^^^ num l) := by
  induction l generalizing s with
  | nil => simp [step, num, shN]
  | cons c l ih =>
    rw [step_cons, ih _ (fun x hx => h x (by simp [hx])), num, add_xor _ _ (h c (by simp)), List.length_cons, Nat.mul_succ, Nat.add_comm, shN_add, ← Nat.xor_assoc, shN_xor, shN_xor 8 (s ^^^ c),
      show (256 : Nat) = 2 ^ 8 by decide, shN_pow]
    rw [← shN_xor]
theorem num_overs (X : Nat) : ∀ (n k : Nat), num ((List.range' k n).map fun p => X / 2 ^ (8 * p) % 256) = X / 2 ^ (8 * k) % 2 ^ (8 * n)
  | 0, k => by simp [num, Nat.mod_one]
  | n + 1, k => by
    rw [List.range'_succ, List.map_cons, num, num_overs X n (k + 1)]
    rw [Nat.mul_succ 8 k, Nat.pow_add, ← Nat.div_div_eq_div_mul, Nat.mul_succ 8 n, Nat.pow_add, Nat.mul_comm (2 ^ (8 * n)) (2 ^ 8), Nat.mod_mul]
theorem num_xor : ∀ (a b : List Nat), a.length = b.length → (∀ x ∈ a, x < 256) → (∀ x ∈ b, x < 256) → num (List.zipWith (· ^^^ ·) a b) = num a ^^^ num b
  | [], [], _, _, _ => by simp [num]
  | c :: a, d :: b, hl, ha, hb => by
    have hc := ha c (by simp)
    have hd := hb d (by simp)
    have hx : c ^^^ d < 256 := Nat.xor_lt_two_pow (n := 8) hc hd
    rw [List.zipWith_cons_cons, num, num, num, num_xor a b (by simpa using hl) (fun x h => ha x (by simp [h])) (fun x h => hb x (by simp [h])), add_xor _ _ hx, add_xor _ _ hc, add_xor _ _ hd]
    have e : 256 * (num a ^^^ num b) = (256 * num a) ^^^ (256 * num b) := by
      have := Nat.shiftLeft_xor_distrib (a := num a) (b := num b) (i := 8)
      simpa [Nat.shiftLeft_eq, Nat.mul_comm] using this
    rw [e]
    simp only [Nat.xor_assoc]
    rw [xor_l d]
  | [], _ :: _, h, _, _ => by simp at h
  | _ :: _, [], h, _, _ => by simp at h
theorem flip_zip (l : List Nat) (at_ : Int) (mask : Nat) : flip l at_ mask = List.zipWith (· ^^^ ·) l ((List.range' 0 l.length).map fun p => big at_ mask / 2 ^ (8 * p) % 256) := by
  apply List.ext_getElem (by simp [flip])
  intro i h1 h2
  simp [flip, over]
theorem big_form (at_ : Int) (mask n : Nat) (hm : mask < 4294967296) : ∃ t y, t ≤ n ∧ y < 4294967296 ∧ big at_ mask % 2 ^ n = 2 ^ t * y := by
  unfold big
  split
  next h =>
    rcases Nat.le_total at_.toNat n with h1 | h1
    · refine ⟨at_.toNat, mask % 2 ^ (n - at_.toNat), h1, Nat.lt_of_le_of_lt (Nat.mod_le _ _) hm, ?_⟩
      rw [Nat.mul_comm]
      conv => lhs; rw [show n = at_.toNat + (n - at_.toNat) by omega, Nat.pow_add]
      rw [Nat.mul_mod_mul_left]
    · refine ⟨0, 0, by omega, by omega, ?_⟩
      rw [show at_.toNat = (at_.toNat - n) + n by omega, Nat.pow_add, ← Nat.mul_assoc]
      simp
  next h =>
    refine ⟨0, mask / 2 ^ (-at_).toNat % 2 ^ n, by omega, Nat.lt_of_le_of_lt (Nat.mod_le _ _) (Nat.lt_of_le_of_lt (Nat.div_le_self _ _) hm), ?_⟩
    simp
/-- turned bits within 32 in a row are seen by the sum -/
theorem burst (l : List Nat) (at_ : Int) (mask : Nat) (hl : ∀ x ∈ l, x < 256) (hm : mask < 4294967296) (h : sum (flip l at_ mask) = sum l) : flip l at_ mask = l := by
  have hb := flip_byte l at_ mask hl
  have h1 : step 4294967295 (flip l at_ mask) = step 4294967295 l := by
    have := congrArg (· ^^^ 4294967295) h
    simpa [sum, Nat.xor_assoc] using this
  rw [step_num _ _ hb, step_num _ _ hl, flip_length] at h1
  have hov : ∀ x ∈ (List.range' 0 l.length).map (fun p => big at_ mask / 2 ^ (8 * p) % 256), x < 256 := by
    intro x hx
    obtain ⟨p, _, rfl⟩ := List.mem_map.1 hx
    exact Nat.mod_lt _ (by decide)
  have hn : num (flip l at_ mask) = num l ^^^ (big at_ mask % 2 ^ (8 * l.length)) := by
    rw [flip_zip, num_xor _ _ (by simp) hl hov, num_overs]
    simp
  rw [hn, ← Nat.xor_assoc, shN_xor] at h1
  have h2 : shN (8 * l.length) (big at_ mask % 2 ^ (8 * l.length)) = 0 := by
    have := congrArg (shN (8 * l.length) (4294967295 ^^^ num l) ^^^ ·) h1
    simpa [← Nat.xor_assoc] using this
  obtain ⟨t, y, ht, hy, e⟩ := big_form at_ mask (8 * l.length) hm
  have h3 : y = 0 := by
    rw [e, show 8 * l.length = t + (8 * l.length - t) by omega, shN_add, shN_pow] at h2
    exact shN_ne _ _ hy h2
  rw [h3, Nat.mul_zero] at e
  apply List.ext_getElem (by simp [flip])
  intro i h4 h5
  have hz : over at_ mask i = 0 := by
    unfold over
    have : big at_ mask / 2 ^ (8 * i) % 2 ^ 8 = big at_ mask % 2 ^ (8 * l.length) / 2 ^ (8 * i) % 2 ^ 8 := by
      have hi : 8 * i + 8 ≤ 8 * l.length := by omega
      apply Nat.eq_of_testBit_eq
      intro j
      rw [Nat.testBit_mod_two_pow, Nat.testBit_mod_two_pow, Nat.testBit_div_two_pow, Nat.testBit_div_two_pow, Nat.testBit_mod_two_pow]
      by_cases hj : j < 8
      · simp [hj, show j + 8 * i < 8 * l.length by omega]
      · simp [hj]
    rw [show (256 : Nat) = 2 ^ 8 by decide, this, e]
    simp
  simp [flip, hz]

/-! ### turned bits, bit by bit -/
theorem big_bit (at_ : Int) (mask i : Nat) : (big at_ mask).testBit i = (decide (at_ ≤ (i : Int)) && mask.testBit ((i : Int) - at_).toNat) := by
  unfold big
  split
  next h =>
    rw [Nat.mul_comm, Nat.testBit_two_pow_mul]
    by_cases h1 : at_ ≤ (i : Int)
    · rw [decide_eq_true h1, decide_eq_true (show i ≥ at_.toNat by omega), show ((i : Int) - at_).toNat = i - at_.toNat by omega]
    · rw [decide_eq_false h1, decide_eq_false (show ¬ i ≥ at_.toNat by omega)]; simp
  next h =>
    rw [Nat.testBit_div_two_pow, decide_eq_true (show at_ ≤ (i : Int) by omega), show ((i : Int) - at_).toNat = i + (-at_).toNat by omega]
    simp
theorem over_bit (at_ : Int) (mask p k : Nat) (hk : k < 8) : (over at_ mask p).testBit k = (decide (at_ ≤ ((8 * p + k : Nat) : Int)) && mask.testBit (((8 * p + k : Nat) : Int) - at_).toNat) := by
  unfold over
  rw [show (256 : Nat) = 2 ^ 8 by decide, Nat.testBit_mod_two_pow, Nat.testBit_div_two_pow, decide_eq_true hk, Bool.true_and, Nat.add_comm k, big_bit]
theorem mask_high (mask k : Nat) (hm : mask < 4294967296) (hk : 32 ≤ k) : mask.testBit k = false :=
  Nat.testBit_lt_two_pow (Nat.lt_of_lt_of_le (show mask < 2 ^ 32 by omega) (Nat.pow_le_pow_right (by omega) hk))
theorem byte_ext {x y : Nat} (hx : x < 256) (hy : y < 256) (h : ∀ k, k < 8 → x.testBit k = y.testBit k) : x = y := by
  apply Nat.eq_of_testBit_eq
  intro k
  rcases Nat.lt_or_ge k 8 with hk | hk
  · exact h k hk
  · rw [Nat.testBit_lt_two_pow (Nat.lt_of_lt_of_le (show x < 2 ^ 8 by omega) (Nat.pow_le_pow_right (by omega) hk)), Nat.testBit_lt_two_pow (Nat.lt_of_lt_of_le (show y < 2 ^ 8 by omega) (Nat.pow_le_pow_right (by omega) hk))]
theorem over_zero (at_ : Int) (mask p : Nat) (hm : mask < 4294967296) (h : (p : Int) < at_ / 8 ∨ at_ / 8 + 5 ≤ (p : Int)) : over at_ mask p = 0 := by
  refine byte_ext (over_lt _ _ _) (by omega) fun k hk => ?_
  rw [over_bit _ _ _ _ hk, Nat.zero_testBit]
  rcases h with h | h
  · rw [decide_eq_false (by omega)]; rfl
  · rw [mask_high mask _ hm (by omega)]; simp
/-- byte i of the mask, moved up by what is left of its place -/
theorem over_wide (at_ : Int) (mask p i : Nat) (h : (p : Int) = at_ / 8 + i) : mask * 2 ^ (at_ % 8).toNat / 2 ^ (8 * i) % 256 = over at_ mask p := by
  refine byte_ext (Nat.mod_lt _ (by decide)) (over_lt _ _ _) fun k hk => ?_
  rw [over_bit _ _ _ _ hk, show (256 : Nat) = 2 ^ 8 by decide, Nat.testBit_mod_two_pow, Nat.testBit_div_two_pow, decide_eq_true hk, Bool.true_and, Nat.mul_comm, Nat.testBit_two_pow_mul]
  by_cases h1 : at_ ≤ ((8 * p + k : Nat) : Int)
  · rw [decide_eq_true h1, decide_eq_true (by omega)]
    congr 2
    omega
  · rw [decide_eq_false h1, decide_eq_false (by omega)]; simp

/-- the bytes below place b have been turned, the others not yet -/
def part (l : List Nat) (at_ : Int) (mask : Nat) (b : Int) : List Nat := l.mapIdx fun p x => if (p : Int) < b then x ^^^ over at_ mask p else x
theorem part_length (l : List Nat) (at_ : Int) (mask : Nat) (b : Int) : (part l at_ mask b).length = l.length := by simp [part]
theorem part_start (l : List Nat) (at_ : Int) (mask : Nat) (hm : mask < 4294967296) : part l at_ mask (at_ / 8) = l := by
  apply List.ext_getElem (by simp [part])
  intro i h1 h2
  simp only [part, List.getElem_mapIdx]
  split
  · rw [over_zero _ _ _ hm (.inl (by omega)), Nat.xor_zero]
  · rfl
theorem part_end (l : List Nat) (at_ : Int) (mask : Nat) (hm : mask < 4294967296) : part l at_ mask (at_ / 8 + 5) = flip l at_ mask := by
  apply List.ext_getElem (by simp [part, flip])
  intro i h1 h2
  simp only [part, flip, List.getElem_mapIdx]
  split
  · rfl
  · rw [over_zero _ _ _ hm (.inr (by omega)), Nat.xor_zero]
theorem part_get (l : List Nat) (at_ : Int) (mask : Nat) (p : Nat) (h : p < l.length) : (part l at_ mask (p : Int)).getD p 0 = l.getD p 0 := by
  simp [part, List.getD, h]
theorem part_next (l : List Nat) (at_ : Int) (mask : Nat) (p : Nat) (h : p < l.length) : part l at_ mask ((p : Int) + 1) = (part l at_ mask (p : Int)).set p (l.getD p 0 ^^^ over at_ mask p) := by
  apply List.ext_getElem (by simp [part])
  intro i h1 h2
  have hi : i < l.length := by simpa [part] using h1
  rw [List.getElem_set]
  simp only [part, List.getElem_mapIdx]
  by_cases e : p = i
  · subst e
    simp [List.getD, h]
    omega
  · rw [if_neg e]
    by_cases e1 : (i : Int) < (p : Int)
    · rw [if_pos e1, if_pos (by omega)]
    · rw [if_neg e1, if_neg (by omega)]
theorem part_skip (l : List Nat) (at_ : Int) (mask : Nat) (b : Int) (h : b < 0 ∨ (l.length : Int) ≤ b) : part l at_ mask (b + 1) = part l at_ mask b := by
  apply List.ext_getElem (by simp [part])
  intro i h1 h2
  have hi : i < l.length := by simpa [part] using h1
  simp only [part, List.getElem_mapIdx]
  by_cases e1 : (i : Int) < b
  · rw [if_pos e1, if_pos (by omega)]
  · rw [if_neg e1, if_neg (by omega)]

/-- what the reference has of each byte after i bits -/
def lows (l : List Nat) (i : Nat) : List Nat := l.mapIdx fun p x => x % 2 ^ (i - 8 * p)
theorem lows_length (l : List Nat) (i : Nat) : (lows l i).length = l.length := by simp [lows]
theorem lows_start (l : List Nat) : lows l 0 = List.replicate l.length 0 := by
  apply List.ext_getElem (by simp [lows])
  intro i h1 h2
  simp [lows, Nat.mod_one]
theorem lows_end (l : List Nat) (h : ∀ x ∈ l, x < 256) : lows l (8 * l.length) = l := by
  apply List.ext_getElem (by simp [lows])
  intro i h1 h2
  simp only [lows, List.getElem_mapIdx]
  refine Nat.mod_eq_of_lt (Nat.lt_of_lt_of_le (h _ (List.getElem_mem h2)) ?_)
  exact Nat.le_trans (show 256 ≤ 2 ^ 8 by decide) (Nat.pow_le_pow_right (by omega) (by omega))
theorem lows_get (l : List Nat) (i : Nat) (h : i / 8 < l.length) : (lows l i).getD (i / 8) 0 = l.getD (i / 8) 0 % 2 ^ (i % 8) := by
  simp [lows, List.getD, h]
  congr 2
  omega
theorem lows_next (l : List Nat) (i : Nat) (h : i / 8 < l.length) (hl : ∀ x ∈ l, x < 256) :
    lows l (i + 1) = (lows l i).set (i / 8) (l.getD (i / 8) 0 % 2 ^ (i % 8) + (if (l.getD (i / 8) 0).testBit (i % 8) = true then 2 ^ (i % 8) else 0)) := by
  apply List.ext_getElem (by simp [lows])
  intro p h1 h2
  have hp : p < l.length := by simpa [lows] using h1
  rw [List.getElem_set]
  simp only [lows, List.getElem_mapIdx]
  by_cases e : i / 8 = p
  · subst e
    rw [if_pos rfl, show i + 1 - 8 * (i / 8) = i % 8 + 1 by omega]
    simp only [List.getD, List.getElem?_eq_getElem hp, Option.getD_some]
    rw [Nat.mod_pow_succ, Nat.testBit_eq_decide_div_mod_eq]
    rcases Nat.mod_two_eq_zero_or_one (l[i / 8] / 2 ^ (i % 8)) with h0 | h0 <;> simp [h0]
  · rw [if_neg e]
    rcases Nat.lt_or_ge p (i / 8) with h3 | h3
    · have hx := hl _ (List.getElem_mem hp)
      have hle : ∀ m, 8 ≤ m → l[p] % 2 ^ m = l[p] := fun m hm => Nat.mod_eq_of_lt (Nat.lt_of_lt_of_le hx (Nat.le_trans (show 256 ≤ 2 ^ 8 by decide) (Nat.pow_le_pow_right (by omega) hm)))
      rw [hle _ (by omega), hle _ (by omega)]
    · rw [show i + 1 - 8 * p = 0 by omega, show i - 8 * p = 0 by omega]
theorem lows_same (l : List Nat) (i : Nat) (h : i / 8 < l.length) (hl : ∀ x ∈ l, x < 256) (h0 : (l.getD (i / 8) 0).testBit (i % 8) = false) : lows l (i + 1) = lows l i := by
  rw [lows_next l i h hl, h0]
  simp only [Bool.false_eq_true, if_false, Nat.add_zero]
  rw [← lows_get l i h]
  apply List.ext_getElem (by simp)
  intro p h1 h2
  rw [List.getElem_set]
  split
  next e => subst e; simp [List.getD, h2]
  next => rfl
/-- a bit of the turned bytes -/
theorem flip_bit (l : List Nat) (at_ : Int) (mask i : Nat) (h : i / 8 < l.length) : ((flip l at_ mask).getD (i / 8) 0).testBit (i % 8) = ((l.getD (i / 8) 0).testBit (i % 8) ^^ (decide (at_ ≤ (i : Int)) && mask.testBit ((i : Int) - at_).toNat)) := by
  rw [flip_get _ _ _ _ h, Nat.testBit_xor, over_bit _ _ _ _ (by omega), show 8 * (i / 8) + i % 8 = i by omega]
end Go.Proofs.Ytbhdgfpaoghnbaa.Cm
/- Plain mathematics of layer 18: datagrams. -/
namespace Go.Proofs.Ytbhdgfpaoghnbaa
set_option linter.unusedVariables false
/-- a datagram -/
structure Gd where
  kind : Nat
  version : Nat
  epoch : Nat
  id : Nat
  index : Nat
  count : Nat
  body : List Nat
deriving DecidableEq
structure Gd.Ok (g : Gd) : Prop where
  kind : g.kind < 256
  version : g.version < 256
  epoch : g.epoch < 4294967296
  id : g.id < 4294967296
  index : g.index < 65536
  count : g.count < 65536
  body : ∀ x ∈ g.body, x < 256
namespace Gr
def zero : Gd := ⟨0, 0, 0, 0, 0, 0, []⟩
theorem ok_zero : zero.Ok := ⟨by decide, by decide, by decide, by decide, by decide, by decide, fun x hx => by cases hx⟩
def right (g : Gd) : Nat := if g.kind < 1 ∨ 2 < g.kind then 9 else if g.count = 0 ∨ g.count ≤ g.index then 1 else if 65487 < g.body.length then 5 else 0
theorem right_kind {g : Gd} (h : g.kind < 1 ∨ 2 < g.kind) : right g = 9 := by unfold right; rw [if_pos h]
theorem right_arg {g : Gd} (h : ¬ (g.kind < 1 ∨ 2 < g.kind)) (k : g.count = 0 ∨ g.count ≤ g.index) : right g = 1 := by unfold right; rw [if_neg h, if_pos k]
theorem right_long {g : Gd} (h : ¬ (g.kind < 1 ∨ 2 < g.kind)) (k : ¬ (g.count = 0 ∨ g.count ≤ g.index)) (l : 65487 < g.body.length) : right g = 5 := by unfold right; rw [if_neg h, if_neg k, if_pos l]
theorem right_good {g : Gd} (h : ¬ (g.kind < 1 ∨ 2 < g.kind)) (k : ¬ (g.count = 0 ∨ g.count ≤ g.index)) (l : ¬ 65487 < g.body.length) : right g = 0 := by unfold right; rw [if_neg h, if_neg k, if_neg l]
theorem right_len {g : Gd} (h : right g = 0) : g.body.length ≤ 65487 := by
  by_cases a : g.kind < 1 ∨ 2 < g.kind
  · rw [right_kind a] at h; cases h
  by_cases b : g.count = 0 ∨ g.count ≤ g.index
  · rw [right_arg a b] at h; cases h
  by_cases c : 65487 < g.body.length
  · rw [right_long a b c] at h; cases h
  omega
/-- a sum as four bytes, the lowest first -/
def le : Nat → Nat → List Nat
  | 0, _ => []
  | k + 1, n => n % 256 :: le k (n / 256)
theorem le_length : ∀ (k n : Nat), (le k n).length = k
  | 0, _ => rfl
  | k + 1, n => by rw [le, List.length_cons, le_length k]
theorem le_byte : ∀ (k n : Nat), ∀ x ∈ le k n, x < 256
  | 0, _, x, h => by cases h
  | k + 1, n, x, h => by
    rw [le] at h
    rcases List.mem_cons.1 h with rfl | h
    · omega
    · exact le_byte k _ x h
theorem num_le : ∀ (k n : Nat), n < 256 ^ k → Cm.num (le k n) = n
  | 0, n, h => by have : n = 0 := by simpa using h
                  subst this; rfl
  | k + 1, n, h => by
    rw [le, Cm.num, num_le k (n / 256) (by rw [Nat.pow_succ] at h; omega)]
    omega
theorem le_num : ∀ (l : List Nat), (∀ x ∈ l, x < 256) → le l.length (Cm.num l) = l
  | [], _ => rfl
  | c :: l, h => by
    have hc := h c List.mem_cons_self
    rw [List.length_cons, le, Cm.num, show (c + 256 * Cm.num l) % 256 = c by omega, show (c + 256 * Cm.num l) / 256 = Cm.num l by omega, le_num l (fun x hx => h x (List.mem_cons_of_mem _ hx))]
theorem num_lt : ∀ (l : List Nat), (∀ x ∈ l, x < 256) → Cm.num l < 256 ^ l.length
  | [], _ => by simp [Cm.num]
  | c :: l, h => by
    have hc := h c List.mem_cons_self
    have := num_lt l (fun x hx => h x (List.mem_cons_of_mem _ hx))
    rw [Cm.num, List.length_cons, Nat.pow_succ]
    omega
/-- the sum of bytes with their own sum behind them is always the same -/
def K : Nat := Cm.shN 32 4294967295 ^^^ 4294967295
theorem sum_with (a b : List Nat) (ha : ∀ x ∈ a, x < 256) (hb : ∀ x ∈ b, x < 256) (h4 : b.length = 4) : Cm.sum (a ++ b) = K ↔ le 4 (Cm.sum a) = b := by
  have hs := Cm.sum_lt a ha
  have hn : Cm.num b < 4294967296 := by have := num_lt b hb; rw [h4] at this; exact this
  have e : Cm.sum (a ++ b) = Cm.shN 32 (Cm.sum a ^^^ Cm.num b) ^^^ K := by
    unfold K
    unfold Cm.sum
    rw [Cm.step_append, Cm.step_num _ b hb, h4]
    generalize Cm.step 4294967295 a = s
    generalize Cm.num b = n
    have : s ^^^ n = ((s ^^^ 4294967295) ^^^ n) ^^^ 4294967295 := by
      rw [Nat.xor_assoc, Nat.xor_comm n, ← Nat.xor_assoc, Nat.xor_assoc s, Nat.xor_self, Nat.xor_zero]
    rw [show 8 * 4 = 32 from rfl]
    conv => lhs; rw [this, Cm.shN_xor]
    rw [Nat.xor_assoc]
  constructor
  · intro h
    rw [e] at h
    have h1 : Cm.shN 32 (Cm.sum a ^^^ Cm.num b) = 0 := by
      have := congrArg (· ^^^ K) h
      simpa [Nat.xor_assoc] using this
    have h2 := Cm.shN_ne 32 _ (Nat.xor_lt_two_pow (n := 32) hs hn) h1
    have h3 : Cm.sum a = Cm.num b := by
      have := congrArg (· ^^^ Cm.num b) h2
      simpa [Nat.xor_assoc] using this
    rw [h3, ← h4, le_num b hb]
  · intro h
    rw [e, ← h, num_le 4 _ (by simpa using hs), Nat.xor_self, Cm.shN_zero, Nat.zero_xor]
/-- what stands between the two first bytes and the sum -/
def mid (g : Gd) : List Nat := Bm.fix 1 g.kind ++ (Bm.fix 1 g.version ++ (Bm.fix 4 g.epoch ++ (Bm.fix 4 g.id ++ (Bm.fix 2 g.index ++ (Bm.fix 2 g.count ++ g.body)))))
def front (g : Gd) : List Nat := 167 :: 78 :: mid g
def bytes (g : Gd) : List Nat := front g ++ le 4 (Cm.sum (front g))
def put (g : Gd) : List Nat × Nat := if right g = 0 then (bytes g, 0) else ([], right g)
theorem put_good {g : Gd} (h : right g = 0) : put g = (bytes g, 0) := if_pos h
theorem put_bad {g : Gd} (h : ¬ right g = 0) : put g = ([], right g) := if_neg h
theorem mid_length (g : Gd) : (mid g).length = g.body.length + 14 := by
  unfold mid
  simp only [List.length_append, Bm.fix_length]
  omega
theorem front_length (g : Gd) : (front g).length = g.body.length + 16 := by unfold front; simp only [List.length_cons, mid_length]
theorem bytes_length (g : Gd) : (bytes g).length = g.body.length + 20 := by unfold bytes; rw [List.length_append, front_length, le_length]
theorem mid_byte {g : Gd} (ok : g.Ok) : ∀ x ∈ mid g, x < 256 := by
  intro x hx
  unfold mid at hx
  simp only [List.mem_append] at hx
  rcases hx with h | h | h | h | h | h | h
  · exact Bm.fix_byte _ _ x h
  · exact Bm.fix_byte _ _ x h
  · exact Bm.fix_byte _ _ x h
  · exact Bm.fix_byte _ _ x h
  · exact Bm.fix_byte _ _ x h
  · exact Bm.fix_byte _ _ x h
  · exact ok.body x h
theorem front_byte {g : Gd} (ok : g.Ok) : ∀ x ∈ front g, x < 256 := by
  intro x hx
  unfold front at hx
  rcases List.mem_cons.1 hx with rfl | hx
  · decide
  rcases List.mem_cons.1 hx with rfl | hx
  · decide
  exact mid_byte ok x hx
theorem bytes_byte {g : Gd} (ok : g.Ok) : ∀ x ∈ bytes g, x < 256 := by
  intro x hx
  unfold bytes at hx
  rcases List.mem_append.1 hx with hx | hx
  · exact front_byte ok x hx
  · exact le_byte _ _ x hx
/-- reading what stands between -/
def d1 (l : List Nat) := l.drop 1
def d2 (l : List Nat) := (d1 l).drop 1
def d3 (l : List Nat) := (d2 l).drop 4
def d4 (l : List Nat) := (d3 l).drop 4
def d5 (l : List Nat) := (d4 l).drop 2
def d6 (l : List Nat) := (d5 l).drop 2
def parse (l : List Nat) : Gd := ⟨Bm.be (l.take 1), Bm.be ((d1 l).take 1), Bm.be ((d2 l).take 4), Bm.be ((d3 l).take 4), Bm.be ((d4 l).take 2), Bm.be ((d5 l).take 2), d6 l⟩
theorem take_fix (k n : Nat) (r : List Nat) : (Bm.fix k n ++ r).take k = Bm.fix k n := List.take_left' (Bm.fix_length k n)
theorem drop_fix (k n : Nat) (r : List Nat) : (Bm.fix k n ++ r).drop k = r := List.drop_left' (Bm.fix_length k n)
theorem parse_mid {g : Gd} (ok : g.Ok) : parse (mid g) = g := by
  obtain ⟨h1, h2, h3, h4, h5, h6, _⟩ := ok
  unfold parse d6 d5 d4 d3 d2 d1 mid
  simp only [take_fix, drop_fix, Bm.be_fix]
  obtain ⟨a, b, c, d, e, f, l⟩ := g
  simp only at h1 h2 h3 h4 h5 h6
  simp only [Gd.mk.injEq, and_true]
  refine ⟨Nat.mod_eq_of_lt (by simpa using h1), Nat.mod_eq_of_lt (by simpa using h2), Nat.mod_eq_of_lt (by simpa using h3), Nat.mod_eq_of_lt (by simpa using h4), Nat.mod_eq_of_lt (by simpa using h5), Nat.mod_eq_of_lt (by simpa using h6)⟩
theorem fix_be : ∀ (l : List Nat), (∀ x ∈ l, x < 256) → Bm.fix l.length (Bm.be l) = l := by
  intro l h
  have key : ∀ n, ∀ l : List Nat, l.length = n → (∀ x ∈ l, x < 256) → Bm.fix n (Bm.be l) = l := by
    intro n
    induction n with
    | zero => intro l h0 _; rw [List.length_eq_zero_iff] at h0; subst h0; rfl
    | succ n ih =>
      intro l h0 hb
      have hl : l = l.take n ++ [l.getD n 0] := by
        rw [List.getD, List.getElem?_eq_getElem (by omega)]
        have := List.take_succ_eq_append_getElem (l := l) (i := n) (by omega)
        rw [List.take_of_length_le (by omega)] at this
        exact this
      have hx : l.getD n 0 < 256 := by
        rw [List.getD, List.getElem?_eq_getElem (by omega)]
        exact hb _ (List.getElem_mem _)
      conv => lhs; rw [hl]
      rw [Bm.be_snoc, Bm.fix, show (Bm.be (l.take n) * 256 + l.getD n 0) / 256 = Bm.be (l.take n) by omega, show (Bm.be (l.take n) * 256 + l.getD n 0) % 256 = l.getD n 0 by omega, ih (l.take n) (by rw [List.length_take]; omega) (fun x hx => hb x (List.mem_of_mem_take hx))]
      exact hl.symm
  exact key _ l rfl h
theorem fix_take {l : List Nat} (h : ∀ x ∈ l, x < 256) {k : Nat} (hk : k ≤ l.length) : Bm.fix k (Bm.be (l.take k)) = l.take k := by
  have := fix_be (l.take k) (fun x hx => h x (List.mem_of_mem_take hx))
  rwa [List.length_take, Nat.min_eq_left hk] at this
theorem be_lt {l : List Nat} (h : ∀ x ∈ l, x < 256) {k : Nat} (hk : k ≤ l.length) : Bm.be (l.take k) < 256 ^ k := Bm.be_take l h k hk
theorem mid_parse {l : List Nat} (h : ∀ x ∈ l, x < 256) (h14 : 14 ≤ l.length) : mid (parse l) = l ∧ (parse l).Ok := by
  have b1 : ∀ x ∈ d1 l, x < 256 := fun x hx => h x (List.mem_of_mem_drop hx)
  have b2 : ∀ x ∈ d2 l, x < 256 := fun x hx => b1 x (List.mem_of_mem_drop hx)
  have b3 : ∀ x ∈ d3 l, x < 256 := fun x hx => b2 x (List.mem_of_mem_drop hx)
  have b4 : ∀ x ∈ d4 l, x < 256 := fun x hx => b3 x (List.mem_of_mem_drop hx)
  have b5 : ∀ x ∈ d5 l, x < 256 := fun x hx => b4 x (List.mem_of_mem_drop hx)
  have b6 : ∀ x ∈ d6 l, x < 256 := fun x hx => b5 x (List.mem_of_mem_drop hx)
  have l1 : (d1 l).length = l.length - 1 := List.length_drop
  have l2 : (d2 l).length = l.length - 2 := by unfold d2; rw [List.length_drop, l1]; omega
  have l3 : (d3 l).length = l.length - 6 := by unfold d3; rw [List.length_drop, l2]; omega
  have l4 : (d4 l).length = l.length - 10 := by unfold d4; rw [List.length_drop, l3]; omega
  have l5 : (d5 l).length = l.length - 12 := by unfold d5; rw [List.length_drop, l4]; omega
  refine ⟨?_, ?_, ?_, ?_, ?_, ?_, ?_, b6⟩
  · unfold mid parse
    simp only
    rw [fix_take h (by omega), fix_take b1 (by omega), fix_take b2 (by omega), fix_take b3 (by omega), fix_take b4 (by omega), fix_take b5 (by omega)]
    rw [show (d5 l).take 2 ++ d6 l = d5 l from List.take_append_drop 2 (d5 l), show (d4 l).take 2 ++ d5 l = d4 l from List.take_append_drop 2 (d4 l), show (d3 l).take 4 ++ d4 l = d3 l from List.take_append_drop 4 (d3 l), show (d2 l).take 4 ++ d3 l = d2 l from List.take_append_drop 4 (d2 l), show (d1 l).take 1 ++ d2 l = d1 l from List.take_append_drop 1 (d1 l)]
    exact List.take_append_drop 1 l
  · exact be_lt h (k := 1) (by omega)
  · exact be_lt b1 (k := 1) (by omega)
  · exact be_lt b2 (k := 4) (by omega)
  · exact be_lt b3 (k := 4) (by omega)
  · exact be_lt b4 (k := 2) (by omega)
  · exact be_lt b5 (k := 2) (by omega)
/-- the bytes without the sum, and the sum's own -/
def ahead (l : List Nat) : List Nat := l.take (l.length - 4)
def tail4 (l : List Nat) : List Nat := l.drop (l.length - 4)
def get (l : List Nat) : Gd × Nat :=
  if l.length < 20 then (zero, 2) else if 65507 < l.length then (zero, 5) else if ¬ le 4 (Cm.sum (ahead l)) = tail4 l then (zero, 8)
  else if ¬ (l.getD 0 0 = 167 ∧ l.getD 1 0 = 78) then (zero, 3) else if right (parse ((ahead l).drop 2)) = 0 then (parse ((ahead l).drop 2), 0) else (zero, right (parse ((ahead l).drop 2)))
theorem get_short {l : List Nat} (h : l.length < 20) : get l = (zero, 2) := by unfold get; rw [if_pos h]
theorem get_long {l : List Nat} (h : ¬ l.length < 20) (k : 65507 < l.length) : get l = (zero, 5) := by unfold get; rw [if_neg h, if_pos k]
theorem get_sum {l : List Nat} (h : ¬ l.length < 20) (k : ¬ 65507 < l.length) (s : ¬ le 4 (Cm.sum (ahead l)) = tail4 l) : get l = (zero, 8) := by unfold get; rw [if_neg h, if_neg k, if_pos s]
theorem get_form {l : List Nat} (h : ¬ l.length < 20) (k : ¬ 65507 < l.length) (s : le 4 (Cm.sum (ahead l)) = tail4 l) (f : ¬ (l.getD 0 0 = 167 ∧ l.getD 1 0 = 78)) : get l = (zero, 3) := by
  unfold get; rw [if_neg h, if_neg k, if_neg (fun x => x s), if_pos f]
theorem get_bad {l : List Nat} (h : ¬ l.length < 20) (k : ¬ 65507 < l.length) (s : le 4 (Cm.sum (ahead l)) = tail4 l) (f : l.getD 0 0 = 167 ∧ l.getD 1 0 = 78) (r : ¬ right (parse ((ahead l).drop 2)) = 0) : get l = (zero, right (parse ((ahead l).drop 2))) := by
  unfold get; rw [if_neg h, if_neg k, if_neg (fun x => x s), if_neg (fun x => x f), if_neg r]
theorem get_good {l : List Nat} (h : ¬ l.length < 20) (k : ¬ 65507 < l.length) (s : le 4 (Cm.sum (ahead l)) = tail4 l) (f : l.getD 0 0 = 167 ∧ l.getD 1 0 = 78) (r : right (parse ((ahead l).drop 2)) = 0) : get l = (parse ((ahead l).drop 2), 0) := by
  unfold get; rw [if_neg h, if_neg k, if_neg (fun x => x s), if_neg (fun x => x f), if_pos r]
theorem ahead_tail (l : List Nat) : ahead l ++ tail4 l = l := List.take_append_drop _ _
theorem ahead_bytes (g : Gd) : ahead (bytes g) = front g ∧ tail4 (bytes g) = le 4 (Cm.sum (front g)) := by
  have h : (bytes g).length - 4 = (front g).length := by rw [bytes_length, front_length]; omega
  unfold ahead tail4
  rw [h]
  exact ⟨List.take_left, List.drop_left⟩
theorem get_put {g : Gd} (ok : g.Ok) (h : right g = 0) : get (bytes g) = (g, 0) := by
  have hl := bytes_length g
  have hr := right_len h
  obtain ⟨h1, h2⟩ := ahead_bytes g
  have hp : parse ((ahead (bytes g)).drop 2) = g := by rw [h1]; exact parse_mid ok
  rw [get_good (by omega) (by omega) (by rw [h1, h2]) ⟨rfl, rfl⟩ (by rw [hp]; exact h), hp]
/-- what is got is put as it was -/
theorem put_get {l : List Nat} (hb : ∀ x ∈ l, x < 256) (h : (get l).2 = 0) : put (get l).1 = (l, 0) ∧ (get l).1.Ok := by
  by_cases c1 : l.length < 20
  · rw [get_short c1] at h; cases h
  by_cases c2 : 65507 < l.length
  · rw [get_long c1 c2] at h; cases h
  by_cases c3 : le 4 (Cm.sum (ahead l)) = tail4 l
  · by_cases c4 : l.getD 0 0 = 167 ∧ l.getD 1 0 = 78
    · by_cases c5 : right (parse ((ahead l).drop 2)) = 0
      · have hal : (ahead l).length = l.length - 4 := by unfold ahead; rw [List.length_take]; omega
        obtain ⟨h1, h2⟩ := mid_parse (l := (ahead l).drop 2) (fun x hx => hb x (List.mem_of_mem_take (List.mem_of_mem_drop hx))) (by rw [List.length_drop]; omega)
        rw [get_good c1 c2 c3 c4 c5]
        refine ⟨?_, h2⟩
        rw [put_good c5]
        have hf : front (parse ((ahead l).drop 2)) = ahead l := by
          unfold front
          rw [h1]
          have g0 : ∀ i, i < 2 → (ahead l).getD i 0 = l.getD i 0 := fun i hi => by unfold ahead; rw [List.getD, List.getD, List.getElem?_take_of_lt (by omega)]
          have e0 := (g0 0 (by omega)).trans c4.1
          have e1 := (g0 1 (by omega)).trans c4.2
          match hq : ahead l, hal, e0, e1 with
          | [], hz, _, _ => simp at hz; omega
          | [a], hz, _, _ => simp at hz; omega
          | a :: b :: r, _, e0, e1 =>
            simp [List.getD] at e0 e1
            subst e0 e1
            rfl
        unfold bytes
        rw [hf, c3, ahead_tail]
      · rw [get_bad c1 c2 c3 c4 c5] at h; exact absurd h c5
    · rw [get_form c1 c2 c3 c4] at h; cases h
  · rw [get_sum c1 c2 c3] at h; cases h
theorem get_zero {l : List Nat} (h : ¬ (get l).2 = 0) : get l = (zero, (get l).2) := by
  by_cases c1 : l.length < 20
  · rw [get_short c1]
  by_cases c2 : 65507 < l.length
  · rw [get_long c1 c2]
  by_cases c3 : le 4 (Cm.sum (ahead l)) = tail4 l
  · by_cases c4 : l.getD 0 0 = 167 ∧ l.getD 1 0 = 78
    · by_cases c5 : right (parse ((ahead l).drop 2)) = 0
      · rw [get_good c1 c2 c3 c4 c5] at h; exact absurd rfl h
      · rw [get_bad c1 c2 c3 c4 c5]
    · rw [get_form c1 c2 c3 c4]
  · rw [get_sum c1 c2 c3]
theorem get_ok {l : List Nat} (hb : ∀ x ∈ l, x < 256) : (get l).1.Ok := by
  by_cases h : (get l).2 = 0
  · exact (put_get hb h).2
  · rw [get_zero h]; exact ok_zero
theorem put_right (g : Gd) : (put g).2 = right g := by
  unfold put
  split
  · rename_i h; exact h.symm
  · rfl
/-- turned bits within 32 in a row are refused by the sum -/
theorem get_burst {g : Gd} (ok : g.Ok) (h : right g = 0) (at_ : Int) (mask : Nat) (hm : mask < 4294967296) (hne : ¬ Cm.flip (bytes g) at_ mask = bytes g) : get (Cm.flip (bytes g) at_ mask) = (zero, 8) := by
  have hl := bytes_length g
  have hr := right_len h
  have hb := bytes_byte ok
  have hfl := Cm.flip_length (bytes g) at_ mask
  have hfb := Cm.flip_byte (bytes g) at_ mask hb
  refine get_sum (by omega) (by omega) (fun hs => hne (Cm.burst (bytes g) at_ mask hb hm ?_))
  obtain ⟨h1, h2⟩ := ahead_bytes g
  have k1 : Cm.sum (bytes g) = K := by
    have := (sum_with (front g) (le 4 (Cm.sum (front g))) (front_byte ok) (le_byte _ _) (le_length _ _)).2 rfl
    exact this
  have k2 : Cm.sum (Cm.flip (bytes g) at_ mask) = K := by
    have := (sum_with (ahead (Cm.flip (bytes g) at_ mask)) (tail4 (Cm.flip (bytes g) at_ mask)) (fun x hx => hfb x (List.mem_of_mem_take hx)) (fun x hx => hfb x (List.mem_of_mem_drop hx)) (by unfold tail4; rw [List.length_drop]; omega)).2 hs
    rwa [ahead_tail] at this
  rw [k1, k2]
end Gr
end Go.Proofs.Ytbhdgfpaoghnbaa
/- Layer 22 as plain mathematics: a table of messages that are open. -/
namespace Go.Proofs.Ytbhdgfpaoghnbaa.Tm
set_option linter.unusedVariables false

structure Lim where
  op : Nat
  by_ : Nat
  ex : Nat
structure Lim.Ok (m : Lim) : Prop where
  op1 : 1 ≤ m.op
  op2 : m.op ≤ 16
  by1 : 1 ≤ m.by_
  by2 : m.by_ ≤ 65536
  ex1 : 1 ≤ m.ex
  ex2 : m.ex ≤ 32
/-- an open message -/
structure One where
  sender : Nat
  epoch : Nat
  id : Nat
  count : Nat
  version : Nat
  age : Nat
  s : Pm.S
abbrev Key := Nat × Nat × Nat
def One.key (o : One) : Key := (o.sender, o.epoch, o.id)
def find (l : List One) (k : Key) : Option Nat := l.findIdx? (fun o => decide (o.key = k))
def held (l : List One) : Nat := (l.map (fun o => o.s.size)).sum
/-- all but that message -/
def wo (l : List One) (k : Key) : List One := match find l k with
  | some i => l.eraseIdx i
  | none => l
/-- the oldest ones but one go, as long as there are too many bytes -/
def step (k : Key) : List One → List One
  | [] => []
  | o :: r => if o.key = k then o :: r.tail else r
def shrink (b : Nat) (k : Key) : Nat → List One → List One
  | 0, l => l
  | f + 1, l => if held l ≤ b then l else shrink b k f (step k l)
def fresh (sender : Nat) (g : Gd) : One := ⟨sender, g.epoch, g.id, g.count, g.version, 0, ⟨g.count, []⟩⟩
/-- the message of a datagram -/
def cur (l : List One) (sender : Nat) (g : Gd) : One := match find l (sender, g.epoch, g.id) with
  | some i => (l[i]?).getD (fresh sender g)
  | none => fresh sender g
def opened (m : Lim) (l : List One) (k : Key) (o : One) : List One := match find l k with
  | some i => l.set i o
  | none => (if l.length = m.op then l.tail else l) ++ [o]
structure R where
  told : List Nat
  ok : Bool
  err : Nat
  l : List One
def One.plus (o : One) (g : Gd) : One := { o with s := o.s.add g.index g.body }
def put (m : Lim) (l : List One) (sender : Nat) (g : Gd) : R :=
  if g.count = 0 ∨ g.count ≤ g.index then ⟨[], false, 1, l⟩
  else if (cur l sender g).count ≠ g.count ∨ (cur l sender g).version ≠ g.version then ⟨[], false, 3, l⟩
  else if (cur l sender g).s.has g.index then ⟨[], false, 12, l⟩
  else if m.by_ < (cur l sender g).s.size + g.body.length then ⟨[], false, 10, wo l (sender, g.epoch, g.id)⟩
  else
    let o := (cur l sender g).plus g
    let l1 := opened m l (sender, g.epoch, g.id) o
    let l2 := shrink m.by_ (sender, g.epoch, g.id) l1.length l1
    if o.s.full then ⟨o.s.whole, true, 0, wo l2 (sender, g.epoch, g.id)⟩ else ⟨[], false, 0, l2⟩
def older (o : One) : One := { o with age := o.age + 1 }
def tick (m : Lim) (l : List One) : List One := (l.map older).filter (fun o => decide (o.age ≤ m.ex))

/-- a table as it may be -/
structure Ok (m : Lim) (l : List One) : Prop where
  once : (l.map One.key).Nodup
  parts : ∀ o ∈ l, o.s.Ok ∧ o.s.count = o.count
  age : ∀ o ∈ l, o.age ≤ m.ex
  num : ∀ o ∈ l, o.sender < 65536 ∧ o.epoch < 4294967296 ∧ o.id < 4294967296 ∧ o.count < 65536 ∧ o.version < 256
  open_ : l.length ≤ m.op
  few : held l ≤ m.by_
theorem ok_nil (m : Lim) : Ok m [] := ⟨by simp, (fun o h => by cases h), (fun o h => by cases h), (fun o h => by cases h), Nat.zero_le _, by simp [held]⟩
section
variable {m : Lim} {l : List One} {k : Key}
theorem find_some {i : Nat} (h : find l k = some i) : ∃ hi : i < l.length, (l[i]).key = k ∧ ∀ j, ∀ hj : j < i, (l[j]).key ≠ k := by
  unfold find at h
  rw [List.findIdx?_eq_some_iff_getElem] at h
  obtain ⟨hi, h1, h2⟩ := h
  exact ⟨hi, by simpa using h1, fun j hj => by simpa using h2 j hj⟩
theorem find_none (h : find l k = none) : ∀ o ∈ l, o.key ≠ k := by
  unfold find at h
  rw [List.findIdx?_eq_none_iff] at h
  intro o ho
  simpa using h o ho
theorem find_is {i : Nat} (hi : i < l.length) (h1 : (l[i]).key = k) (h2 : ∀ j, ∀ hj : j < i, (l[j]).key ≠ k) : find l k = some i := by
  unfold find
  rw [List.findIdx?_eq_some_iff_getElem]
  exact ⟨hi, by simpa using h1, fun j hj => by simpa using h2 j hj⟩
theorem find_not (h : ∀ j, ∀ hj : j < l.length, (l[j]).key ≠ k) : find l k = none := by
  unfold find
  rw [List.findIdx?_eq_none_iff]
  intro o ho
  obtain ⟨j, hj, rfl⟩ := List.mem_iff_getElem.1 ho
  simpa using h j hj
theorem held_cons (o : One) (r : List One) : held (o :: r) = o.s.size + held r := by simp [held]
theorem held_append (a b : List One) : held (a ++ b) = held a + held b := by simp [held]
theorem held_mem {o : One} : ∀ {l : List One}, o ∈ l → o.s.size ≤ held l
  | [], h => by cases h
  | x :: l, h => by
    rw [held_cons]
    rcases List.mem_cons.1 h with rfl | h
    · omega
    · have := held_mem h; omega
theorem held_sub {a b : List One} (h : a.Sublist b) : held a ≤ held b := by
  induction h with
  | slnil => exact Nat.le_refl _
  | cons x h ih => rw [held_cons]; omega
  | cons_cons x h ih => rw [held_cons, held_cons]; omega
theorem shrink_done (f : Nat) (b : Nat) (h : held l ≤ b) : shrink b k f l = l := by
  cases f with
  | zero => rfl
  | succ f => unfold shrink; rw [if_pos h]
theorem shrink_this {f b : Nat} {o : One} {r : List One} (h : ¬ held (o :: r) ≤ b) (hk : o.key = k) : shrink b k (f + 1) (o :: r) = shrink b k f (o :: r.tail) := by
  rw [shrink, if_neg h, step, if_pos hk]
theorem shrink_other {f b : Nat} {o : One} {r : List One} (h : ¬ held (o :: r) ≤ b) (hk : o.key ≠ k) : shrink b k (f + 1) (o :: r) = shrink b k f r := by
  rw [shrink, if_neg h, step, if_neg hk]
theorem shrink_sub (b : Nat) (k : Key) : ∀ (f : Nat) (l : List One), (shrink b k f l).Sublist l
  | 0, l => List.Sublist.refl _
  | f + 1, l => by
    rw [shrink]
    split
    · exact List.Sublist.refl _
    · cases l with
      | nil => exact shrink_sub b k f []
      | cons o r =>
        rw [step]
        split
        · exact (shrink_sub b k f _).trans (List.Sublist.cons_cons _ (List.tail_sublist r))
        · exact (shrink_sub b k f _).trans (List.Sublist.cons _ (List.Sublist.refl _))
/-- .. the one stays -/
theorem shrink_mem (b : Nat) : ∀ (f : Nat) (l : List One) (o : One), (l.map One.key).Nodup → o ∈ l → o.key = k → o ∈ shrink b k f l
  | 0, l, o, _, h, _ => h
  | f + 1, l, o, hd, h, hk => by
    rw [shrink]
    split
    · exact h
    · cases l with
      | nil => cases h
      | cons x r =>
        rw [step]
        rw [List.map_cons, List.nodup_cons] at hd
        split
        · rename_i hx
          rcases List.mem_cons.1 h with rfl | h
          · refine shrink_mem b f _ _ ?_ List.mem_cons_self hk
            rw [List.map_cons, List.nodup_cons]
            exact ⟨fun q => hd.1 (((List.tail_sublist r).map One.key).subset q), ((List.tail_sublist r).map One.key).nodup hd.2⟩
          · exact absurd (List.mem_map.2 ⟨o, h, by rw [hk, hx]⟩) hd.1
        · rename_i hx
          rcases List.mem_cons.1 h with rfl | h
          · exact absurd hk hx
          · exact shrink_mem b f _ _ hd.2 h hk
/-- .. and then there are not too many bytes -/
theorem shrink_few (b : Nat) : ∀ (f : Nat) (l : List One) (o : One), (l.map One.key).Nodup → o ∈ l → o.key = k → o.s.size ≤ b → l.length ≤ f → held (shrink b k f l) ≤ b
  | 0, l, o, _, h, _, _, hl => by
    have : l = [] := List.eq_nil_of_length_eq_zero (by omega)
    subst this
    cases h
  | f + 1, l, o, hd, h, hk, hs, hl => by
    rw [shrink]
    split
    · assumption
    · rename_i hb
      cases l with
      | nil => cases h
      | cons x r =>
        rw [step]
        rw [List.map_cons, List.nodup_cons] at hd
        rw [List.length_cons] at hl
        split
        · rename_i hx
          rcases List.mem_cons.1 h with rfl | h
          · cases r with
            | nil => exact absurd (by rw [held_cons]; simpa [held] using hs) hb
            | cons y r =>
              refine shrink_few b f _ o ?_ List.mem_cons_self hk hs (by simpa using hl)
              rw [List.map_cons, List.nodup_cons]
              exact ⟨fun q => hd.1 (((List.tail_sublist (y :: r)).map One.key).subset q), ((List.tail_sublist (y :: r)).map One.key).nodup hd.2⟩
          · exact absurd (List.mem_map.2 ⟨o, h, by rw [hk, hx]⟩) hd.1
        · rename_i hx
          rcases List.mem_cons.1 h with rfl | h
          · exact absurd hk hx
          · exact shrink_few b f _ o hd.2 h hk hs (by omega)
theorem wo_sub (l : List One) (k : Key) : (wo l k).Sublist l := by
  unfold wo
  split
  · exact List.eraseIdx_sublist _ _
  · exact List.Sublist.refl _
/-- a part of a table that may be may be -/
theorem Ok.sub {l' : List One} (h : Ok m l) (hs : l'.Sublist l) : Ok m l' :=
  ⟨(hs.map One.key).nodup h.once, fun o ho => h.parts o (hs.subset ho), fun o ho => h.age o (hs.subset ho), fun o ho => h.num o (hs.subset ho), Nat.le_trans hs.length_le h.open_, Nat.le_trans (held_sub hs) h.few⟩
end
end Go.Proofs.Ytbhdgfpaoghnbaa.Tm
/- Layer 22 as plain mathematics: what may be stays so. -/
namespace Go.Proofs.Ytbhdgfpaoghnbaa.Tm
set_option linter.unusedVariables false

section
variable {m : Lim} {l : List One} {sender : Nat} {g : Gd}
theorem cur_some {i : Nat} (h : find l (sender, g.epoch, g.id) = some i) : ∃ hi : i < l.length, cur l sender g = l[i] := by
  obtain ⟨hi, _⟩ := find_some h
  refine ⟨hi, ?_⟩
  unfold cur
  rw [h]
  simp [List.getElem?_eq_getElem hi]
theorem cur_none (h : find l (sender, g.epoch, g.id) = none) : cur l sender g = fresh sender g := by
  unfold cur
  rw [h]
theorem cur_key : (cur l sender g).key = (sender, g.epoch, g.id) := by
  cases h : find l (sender, g.epoch, g.id) with
  | none => rw [cur_none h]; rfl
  | some i =>
    obtain ⟨hi, e⟩ := cur_some h
    obtain ⟨_, h2, _⟩ := find_some h
    rw [e]; exact h2
theorem plus_key (o : One) (g : Gd) : (o.plus g).key = o.key := rfl
theorem cur_ok (h : Ok m l) (hg : g.Ok) : (cur l sender g).s.Ok ∧ (cur l sender g).s.count = (cur l sender g).count := by
  cases e : find l (sender, g.epoch, g.id) with
  | none =>
    rw [cur_none e]
    exact ⟨⟨by simp [fresh, Pm.S.idx], fun i hi => by simp [fresh, Pm.S.idx] at hi, by have := hg.count; show g.count ≤ 65535; omega, fun x hx => by simp [fresh] at hx⟩, rfl⟩
  | some i =>
    obtain ⟨hi, e1⟩ := cur_some e
    rw [e1]
    exact h.parts _ (List.getElem_mem hi)
theorem cur_num (h : Ok m l) (hg : g.Ok) (hs : sender < 65536) : (cur l sender g).sender < 65536 ∧ (cur l sender g).epoch < 4294967296 ∧ (cur l sender g).id < 4294967296 ∧ (cur l sender g).count < 65536 ∧ (cur l sender g).version < 256 := by
  cases e : find l (sender, g.epoch, g.id) with
  | none => rw [cur_none e]; exact ⟨hs, hg.epoch, hg.id, hg.count, hg.version⟩
  | some i =>
    obtain ⟨hi, e1⟩ := cur_some e
    rw [e1]
    exact h.num _ (List.getElem_mem hi)
theorem cur_age (h : Ok m l) : (cur l sender g).age ≤ m.ex := by
  cases e : find l (sender, g.epoch, g.id) with
  | none => rw [cur_none e]; exact Nat.zero_le _
  | some i =>
    obtain ⟨hi, e1⟩ := cur_some e
    rw [e1]
    exact h.age _ (List.getElem_mem hi)
theorem plus_size (o : One) (g : Gd) : (o.plus g).s.size = o.s.size + g.body.length := Pm.S.size_add _ _ _
theorem plus_ok (h : Ok m l) (hg : g.Ok) (hi : g.index < (cur l sender g).s.count) (hh : (cur l sender g).s.has g.index = false) : ((cur l sender g).plus g).s.Ok := (cur_ok h hg).1.add hi hh hg.body
theorem opened_some {i : Nat} {k : Key} {o : One} (h : find l k = some i) : opened m l k o = l.set i o := by unfold opened; rw [h]
theorem opened_none {k : Key} {o : One} (h : find l k = none) : opened m l k o = (if l.length = m.op then l.tail else l) ++ [o] := by unfold opened; rw [h]
theorem rest_sub (l : List One) (n : Nat) : (if l.length = n then l.tail else l).Sublist l := by
  split
  · exact List.tail_sublist l
  · exact List.Sublist.refl _
theorem opened_keys {o : One} {k : Key} (h : Ok m l) (hk : o.key = k) : ((opened m l k o).map One.key).Nodup := by
  cases e : find l k with
  | some i =>
    obtain ⟨hi, h2, _⟩ := find_some e
    rw [opened_some e, List.map_set, hk, ← h2]
    have : (l.map One.key).set i (l[i]).key = l.map One.key := by
      rw [show (l[i]).key = (l.map One.key)[i]'(by simpa using hi) by simp]
      exact List.set_getElem_self _
    rw [this]
    exact h.once
  | none =>
    rw [opened_none e, List.map_append, List.nodup_append]
    refine ⟨((rest_sub l m.op).map One.key).nodup h.once, by simp, fun x hx y hy => ?_⟩
    obtain ⟨q, hq, rfl⟩ := List.mem_map.1 hx
    simp at hy
    subst hy
    rw [hk]
    exact find_none e q ((rest_sub l m.op).subset hq)
theorem opened_mem {o : One} {k : Key} : o ∈ opened m l k o := by
  cases e : find l k with
  | some i =>
    obtain ⟨hi, _⟩ := find_some e
    rw [opened_some e]
    exact List.mem_set hi o
  | none => rw [opened_none e]; simp
theorem opened_all {o : One} {k : Key} {P : One → Prop} (h : ∀ x ∈ l, P x) (ho : P o) : ∀ x ∈ opened m l k o, P x := by
  intro x hx
  cases e : find l k with
  | some i =>
    rw [opened_some e] at hx
    rcases List.mem_or_eq_of_mem_set hx with hx | rfl
    · exact h x hx
    · exact ho
  | none =>
    rw [opened_none e] at hx
    rcases List.mem_append.1 hx with hx | hx
    · exact h x ((rest_sub l m.op).subset hx)
    · simp at hx; subst hx; exact ho
theorem opened_len {o : One} {k : Key} (h : Ok m l) (hm : m.Ok) : (opened m l k o).length ≤ m.op := by
  have := h.open_
  have := hm.op1
  cases e : find l k with
  | some i => rw [opened_some e, List.length_set]; exact h.open_
  | none =>
    rw [opened_none e, List.length_append]
    split
    · rw [List.length_tail]; simp; omega
    · simp; omega
/-- put keeps what may be -/
theorem put_ok (h : Ok m l) (hm : m.Ok) (hg : g.Ok) (hs : sender < 65536) : Ok m (put m l sender g).l := by
  unfold put
  split
  · exact h
  split
  · exact h
  split
  · exact h
  split
  · exact h.sub (wo_sub _ _)
  rename_i h1 h2 h3 h4
  have hc := cur_ok (sender := sender) h hg
  have hi : g.index < (cur l sender g).s.count := by rw [hc.2]; omega
  have hh : (cur l sender g).s.has g.index = false := by simpa using h3
  have ho := plus_ok h hg hi hh
  have hk : ((cur l sender g).plus g).key = (sender, g.epoch, g.id) := cur_key
  have hsub := shrink_sub m.by_ (sender, g.epoch, g.id) (opened m l (sender, g.epoch, g.id) ((cur l sender g).plus g)).length (opened m l (sender, g.epoch, g.id) ((cur l sender g).plus g))
  have hkeys := opened_keys (o := (cur l sender g).plus g) h hk
  have h2 : Ok m (shrink m.by_ (sender, g.epoch, g.id) (opened m l (sender, g.epoch, g.id) ((cur l sender g).plus g)).length (opened m l (sender, g.epoch, g.id) ((cur l sender g).plus g))) :=
    ⟨(hsub.map One.key).nodup hkeys, fun x hx => opened_all (P := fun x => x.s.Ok ∧ x.s.count = x.count) h.parts ⟨ho, hc.2⟩ x (hsub.subset hx), fun x hx => opened_all (m := m) (k := (sender, g.epoch, g.id)) (o := (cur l sender g).plus g) (P := fun x => x.age ≤ m.ex) h.age (cur_age h) x (hsub.subset hx),
      fun x hx => opened_all (m := m) (k := (sender, g.epoch, g.id)) (o := (cur l sender g).plus g) (P := fun x => x.sender < 65536 ∧ x.epoch < 4294967296 ∧ x.id < 4294967296 ∧ x.count < 65536 ∧ x.version < 256) h.num (cur_num h hg hs) x (hsub.subset hx), Nat.le_trans hsub.length_le (opened_len h hm),
      shrink_few _ _ _ _ hkeys opened_mem hk (by rw [plus_size]; omega) (Nat.le_refl _)⟩
  dsimp only
  split
  · exact h2.sub (wo_sub _ _)
  · exact h2
theorem tick_ok (h : Ok m l) : Ok m (tick m l) := by
  have hsub : (tick m l).Sublist (l.map older) := List.filter_sublist
  have hk : (l.map older).map One.key = l.map One.key := by rw [List.map_map]; rfl
  have hh : held (l.map older) = held l := by unfold held; rw [List.map_map]; rfl
  refine ⟨(hsub.map One.key).nodup (by rw [hk]; exact h.once), fun x hx => ?_, fun x hx => ?_, fun x hx => ?_, Nat.le_trans hsub.length_le (by rw [List.length_map]; exact h.open_), Nat.le_trans (held_sub hsub) (by rw [hh]; exact h.few)⟩
  · obtain ⟨y, hy, rfl⟩ := List.mem_map.1 (hsub.subset hx); exact h.parts y hy
  · have := (List.mem_filter.1 hx).2; simpa using this
  · obtain ⟨y, hy, rfl⟩ := List.mem_map.1 (hsub.subset hx); exact h.num y hy
/-- behind so many ticks -/
def ticks (m : Lim) : Nat → List One → List One
  | 0, l => l
  | n + 1, l => ticks m n (tick m l)
theorem ticks_succ (n : Nat) (l : List One) : ticks m (n + 1) l = tick m (ticks m n l) := by
  induction n generalizing l with
  | zero => rfl
  | succ n ih => rw [ticks, ih]; rfl
theorem ticks_ok (n : Nat) (h : Ok m l) : Ok m (ticks m n l) := by
  induction n with
  | zero => exact h
  | succ n ih => rw [ticks_succ]; exact tick_ok ih
theorem ticks_age (n : Nat) : ∀ o ∈ ticks m n l, n ≤ o.age := by
  induction n with
  | zero => intro o _; exact Nat.zero_le _
  | succ n ih =>
    intro o ho
    rw [ticks_succ] at ho
    obtain ⟨y, hy, rfl⟩ := List.mem_map.1 (List.filter_sublist.subset ho)
    have := ih y hy
    show n + 1 ≤ y.age + 1
    omega
theorem ticks_none (h : Ok m l) : ticks m (m.ex + 1) l = [] := by
  rw [List.eq_nil_iff_forall_not_mem]
  intro o ho
  have h1 := ticks_age _ o ho
  have h2 := (ticks_ok (m.ex + 1) h).age o ho
  omega
end
end Go.Proofs.Ytbhdgfpaoghnbaa.Tm
