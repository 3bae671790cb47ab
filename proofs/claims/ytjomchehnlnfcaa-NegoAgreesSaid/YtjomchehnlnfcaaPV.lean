/- Texts Nm, Vs, Irow, Rvs24, Vp24, in one. -/
import Derived.Test.YtjomchehnlnfcaaPA
import Derived.Below
import Derived.Lib.BitFns
import Derived.Lib.Join
/- Plain mathematics of numbers and bytes as texts: no program in it. -/
namespace Go.Proofs.Ytjomchehnlnfcaa.Nm
set_option linter.unusedVariables false

/-- the byte of the digit n -/
def dig (n : Nat) : Nat := if n < 10 then 48 + n else 87 + n
theorem dig_low {n : Nat} (h : n < 10) : dig n = 48 + n := if_pos h
theorem dig_high {n : Nat} (h : ¬ n < 10) : dig n = 87 + n := if_neg h
theorem dig_lt {n : Nat} (h : n < 16) : 48 ≤ dig n ∧ dig n < 103 := by
  unfold dig; split <;> omega
theorem dig_inj {a b : Nat} (ha : a < 16) (hb : b < 16) (h : dig a = dig b) : a = b := by
  unfold dig at h; split at h <;> split at h <;> omega

/-- what the code takes any byte for -/
def dv (c : Nat) : Nat := if 97 ≤ c then c - 97 + 10 else (c + 208) % 256
theorem dv_dig {n : Nat} (h : n < 16) : dv (dig n) = n := by
  unfold dv dig; split <;> split <;> omega
theorem dv_lt {c : Nat} (h : c < 256) : dv c < 256 := by
  unfold dv; split <;> omega

theorem snoc_ind {P : List Nat → Prop} (h0 : P []) (h1 : ∀ l c, P l → P (l ++ [c])) (l : List Nat) : P l := by
  rw [← List.reverse_reverse l]
  induction l.reverse with
  | nil => exact h0
  | cons c r ih => rw [List.reverse_cons]; exact h1 _ _ ih
/-- any bytes as a number to any base, and the same modulo 2^64 -/
def val (b : Nat) (l : List Nat) : Nat := l.foldl (fun n c => n * b + dv c) 0
def num (b : Nat) (l : List Nat) : Nat := l.foldl (fun n c => (n * b + dv c) % 18446744073709551616) 0
theorem foldl_snoc {α β : Type} (f : β → α → β) (x : β) (l : List α) (a : α) : (l ++ [a]).foldl f x = f (l.foldl f x) a := by rw [List.foldl_append]; rfl
theorem val_snoc (b : Nat) (l : List Nat) (c : Nat) : val b (l ++ [c]) = val b l * b + dv c := foldl_snoc _ _ _ _
theorem num_snoc (b : Nat) (l : List Nat) (c : Nat) : num b (l ++ [c]) = (num b l * b + dv c) % 18446744073709551616 := foldl_snoc (fun n c => (n * b + dv c) % 18446744073709551616) _ _ _
theorem num_nil (b : Nat) : num b [] = 0 := rfl
theorem num_next (b : Nat) {l : List Nat} {j : Nat} (h : j < l.length) : num b (l.take (j + 1)) = (num b (l.take j) * b + dv (l.getD j 0)) % 18446744073709551616 := by
  rw [take_next h, num_snoc]
/-- a step modulo m -/
theorem step_mod (m a b d : Nat) : (a % m * b + d) % m = (a * b + d) % m := by
  rw [Nat.add_mod, Nat.mul_mod, Nat.mod_mod, ← Nat.mul_mod, ← Nat.add_mod]
theorem num_val (b : Nat) (l : List Nat) : num b l = val b l % 18446744073709551616 := by
  induction l using snoc_ind with
  | h0 => rfl
  | h1 l c ih => rw [num_snoc, val_snoc, ih, step_mod]
theorem num_lt (b : Nat) (l : List Nat) : num b l < 18446744073709551616 := by rw [num_val]; exact Nat.mod_lt _ (by omega)

/-! ### decimal -/

/-- the digits of n -/
def dec (n : Nat) : List Nat := if n < 10 then [48 + n] else dec (n / 10) ++ [48 + n % 10]
termination_by n
decreasing_by omega
theorem dec_low {n : Nat} (h : n < 10) : dec n = [48 + n] := by rw [dec, if_pos h]
theorem dec_high {n : Nat} (h : ¬ n < 10) : dec n = dec (n / 10) ++ [48 + n % 10] := by rw [dec, if_neg h]
theorem dec_digit (n : Nat) : ∀ c ∈ dec n, 48 ≤ c ∧ c ≤ 57 := by
  induction n using Nat.strongRecOn with
  | ind n ih =>
    by_cases h : n < 10
    · rw [dec_low h]; intro c hc; simp at hc; omega
    · rw [dec_high h]; intro c hc
      rcases List.mem_append.1 hc with hc | hc
      · exact ih _ (by omega) c hc
      · simp at hc; omega
theorem dec_ne (n : Nat) : dec n ≠ [] := by
  by_cases h : n < 10
  · rw [dec_low h]; simp
  · rw [dec_high h]; simp
theorem dv_low {c : Nat} (h1 : 48 ≤ c) (h2 : c ≤ 57) : dv c = c - 48 := by unfold dv; rw [if_neg (by omega)]; omega
theorem val_dec (n : Nat) : val 10 (dec n) = n := by
  induction n using Nat.strongRecOn with
  | ind n ih =>
    by_cases h : n < 10
    · rw [dec_low h, show [48 + n] = [] ++ [48 + n] from rfl, val_snoc, dv_low (by omega) (by omega)]; show 0 * 10 + _ = _; omega
    · rw [dec_high h, val_snoc, ih _ (by omega), dv_low (by omega) (by omega)]; omega
theorem dec_length (k : Nat) : ∀ n, n < 10 ^ (k + 1) → (dec n).length ≤ k + 1 := by
  induction k with
  | zero => intro n h; rw [dec_low (by simpa using h)]; simp
  | succ k ih =>
    intro n h
    by_cases h10 : n < 10
    · rw [dec_low h10]; simp
    · rw [dec_high h10]
      have := ih (n / 10) (by rw [Nat.pow_succ] at h; omega)
      simp; omega
theorem dec_two {n : Nat} (h : ¬ n < 10) : 2 ≤ (dec n).length := by
  rw [dec_high h]
  have := List.length_pos_iff.2 (dec_ne (n / 10))
  simp; omega

/-- the text of a number with a sign -/
def put (n : Int) : List Nat := if n < 0 then 45 :: dec n.natAbs else dec n.natAbs
theorem put_neg {n : Int} (h : n < 0) : put n = 45 :: dec n.natAbs := if_pos h
theorem put_pos {n : Int} (h : ¬ n < 0) : put n = dec n.natAbs := if_neg h
theorem put_byte (n : Int) : ∀ c ∈ put n, c < 256 := by
  intro c hc
  unfold put at hc
  split at hc
  · rcases List.mem_cons.1 hc with rfl | hc
    · omega
    · have := dec_digit _ c hc; omega
  · have := dec_digit _ c hc; omega
theorem put_ne (n : Int) : put n ≠ [] := by
  unfold put; split
  · simp
  · exact dec_ne _
theorem put_length {n : Int} (h1 : -9223372036854775808 ≤ n) (h2 : n ≤ 9223372036854775807) : (put n).length ≤ 20 := by
  have := dec_length 18 n.natAbs (by have : (10 : Nat) ^ (18 + 1) = 10000000000000000000 := by decide
                                     omega)
  unfold put; split
  · simp; omega
  · omega

/-- int64 -/
def In (n : Int) : Prop := -9223372036854775808 ≤ n ∧ n ≤ 9223372036854775807
def w64 (n : Int) : Int := (n + 9223372036854775808) % 18446744073709551616 - 9223372036854775808
theorem w64_in (n : Int) : In (w64 n) := by unfold In w64; omega
theorem w64_self {n : Int} (h : In n) : w64 n = n := by unfold In at h; unfold w64; omega

/-- the number whose text a text is, as the document has it -/
noncomputable def get (l : List Nat) : Int × Nat :=
  open Classical in if l = [] then (0, 2) else if h : ∃ n, In n ∧ put n = l then (Classical.choose h, 0) else (0, 3)

/-- what is read without looking -/
def gv (l : List Nat) : Int := if l.head? = some 45 then w64 (- w64 (num 10 l.tail)) else w64 (num 10 l)
theorem gv_put {n : Int} (h : In n) : gv (put n) = n := by
  unfold In at h
  by_cases hn : n < 0
  · rw [put_neg hn]
    unfold gv
    rw [if_pos (show (45 :: dec n.natAbs).head? = some 45 from rfl), List.tail_cons, num_val, val_dec]
    unfold w64; omega
  · rw [put_pos hn]
    unfold gv
    have : (dec n.natAbs).head? ≠ some 45 := by
      intro e
      have := dec_digit n.natAbs 45 (List.mem_of_mem_head? e)
      omega
    rw [if_neg this, num_val, val_dec]
    unfold w64; omega
theorem put_inj {n m : Int} (hn : In n) (hm : In m) (h : put n = put m) : n = m := by rw [← gv_put hn, ← gv_put hm, h]
theorem gv_in (l : List Nat) : In (gv l) := by unfold gv; split <;> exact w64_in _
theorem get_nil : get [] = (0, 2) := if_pos rfl
theorem get_of {n : Int} {l : List Nat} (hn : In n) (h : put n = l) : get l = (n, 0) := by
  have hl : l ≠ [] := by rw [← h]; exact put_ne n
  have hx : ∃ n, In n ∧ put n = l := ⟨n, hn, h⟩
  have hc := Classical.choose_spec hx
  unfold get
  rw [if_neg hl, dif_pos hx, put_inj hc.1 hn (hc.2.trans h.symm)]
theorem get_none {l : List Nat} (hl : l ≠ []) (h : ∀ n, In n → put n ≠ l) : get l = (0, 3) := by
  unfold get
  rw [if_neg hl, dif_neg (fun ⟨n, h1, h2⟩ => h n h1 h2)]
/-- whoever reads each text of a number as that number, and looks whether the text is that one's -/
theorem get_by (v : List Nat → Int) (hv : ∀ l, In (v l)) (h : ∀ n, In n → v (put n) = n) {l : List Nat} (hl : l ≠ []) : get l = if put (v l) = l then (v l, 0) else (0, 3) := by
  by_cases e : put (v l) = l
  · rw [if_pos e]; exact get_of (hv l) e
  · rw [if_neg e]
    refine get_none hl fun n hn en => e ?_
    rw [← en, h n hn]
theorem get_code {l : List Nat} (hl : l ≠ []) : get l = if put (gv l) = l then (gv l, 0) else (0, 3) := get_by gv gv_in (fun _ => gv_put) hl
theorem get_put {n : Int} (h : In n) : get (put n) = (n, 0) := get_of h rfl
theorem get_cases (l : List Nat) : ((get l).2 = 0 ∧ In (get l).1 ∧ put (get l).1 = l) ∨ ((get l).2 = 2 ∧ (get l).1 = 0) ∨ ((get l).2 = 3 ∧ (get l).1 = 0) := by
  by_cases hl : l = []
  · rw [hl, get_nil]; exact .inr (.inl ⟨rfl, rfl⟩)
  · rw [get_code hl]
    split
    · rename_i h; exact .inl ⟨rfl, gv_in l, h⟩
    · exact .inr (.inr ⟨rfl, rfl⟩)

/-- read below 0, digit by digit -/
def rn (l : List Nat) : Int := l.foldl (fun (n : Int) (c : Nat) => w64 (n * 10 - ((c : Int) - 48))) 0
theorem rn_snoc (l : List Nat) (c : Nat) : rn (l ++ [c]) = w64 (rn l * 10 - ((c : Int) - 48)) := foldl_snoc (fun (n : Int) (c : Nat) => w64 (n * 10 - ((c : Int) - 48))) _ _ _
theorem rn_in (l : List Nat) : In (rn l) := by
  induction l using snoc_ind with
  | h0 => unfold In; show -9223372036854775808 ≤ (0 : Int) ∧ (0 : Int) ≤ _; omega
  | h1 l c ih => rw [rn_snoc]; exact w64_in _
theorem rn_val {l : List Nat} (h : ∀ c ∈ l, 48 ≤ c ∧ c ≤ 57) : rn l = w64 (-(val 10 l : Int)) := by
  induction l using snoc_ind with
  | h0 => rfl
  | h1 l c ih =>
    have hc := h c (by simp)
    rw [rn_snoc, val_snoc, ih (fun c hc => h c (by simp [hc])), dv_low hc.1 hc.2]
    generalize val 10 l = v
    unfold w64; omega
/-- what the reference reads: behind a minus that isn't all, or not -/
def rv (l : List Nat) : Int := if l.head? = some 45 then rn l.tail else w64 (- rn l)
theorem rv_in (l : List Nat) : In (rv l) := by unfold rv; split; exact rn_in _; exact w64_in _
theorem rv_put {n : Int} (h : In n) : rv (put n) = n := by
  unfold In at h
  by_cases hn : n < 0
  · rw [put_neg hn]
    unfold rv
    rw [if_pos (show (45 :: dec n.natAbs).head? = some 45 from rfl), List.tail_cons, rn_val (dec_digit _), val_dec]
    unfold w64; omega
  · rw [put_pos hn]
    unfold rv
    have : (dec n.natAbs).head? ≠ some 45 := by
      intro e
      have := dec_digit n.natAbs 45 (List.mem_of_mem_head? e)
      omega
    rw [if_neg this, rn_val (dec_digit _), val_dec]
    unfold w64; omega
theorem get_ref {l : List Nat} (hl : l ≠ []) : get l = if put (rv l) = l then (rv l, 0) else (0, 3) := get_by rv rv_in (fun _ => rv_put) hl
/-- a byte that no text of a number has there -/
theorem get_bad {l : List Nat} {j : Nat} (hj : j < l.length) (h : ¬ (48 ≤ l.getD j 0 ∧ l.getD j 0 ≤ 57 ∧ j ≤ 20)) (h45 : ¬ (l.getD j 0 = 45 ∧ j = 0 ∧ 1 < l.length)) : get l = (0, 3) := by
  refine get_none (by rintro rfl; simp at hj) fun n hn e => ?_
  have hle := put_length hn.1 hn.2
  rw [e] at hle
  have hm : l.getD j 0 ∈ l := by simp [List.getD, List.getElem?_eq_getElem hj]
  have key : (l = 45 :: dec n.natAbs) ∨ l = dec n.natAbs := by
    rw [← e]; unfold put; split; exact .inl rfl; exact .inr rfl
  rcases key with key | key
  · cases j with
    | zero =>
      refine h45 ⟨by rw [key]; rfl, rfl, ?_⟩
      rw [key]
      have := List.length_pos_iff.2 (dec_ne n.natAbs)
      simp; omega
    | succ j =>
      have : l.getD (j + 1) 0 ∈ dec n.natAbs := by
        rw [key] at hj ⊢
        have hj' : j < (dec n.natAbs).length := by simpa using hj
        simp [List.getD, List.getElem?_eq_getElem hj']
      have := dec_digit _ _ this
      omega
  · have hm' : l.getD j 0 ∈ dec n.natAbs := key ▸ hm
    have := dec_digit _ _ hm'
    omega

/-- what the reference has read behind i bytes -/
def rr (l : List Nat) (i : Nat) : Int := if l.head? = some 45 then rn (l.take i).tail else rn (l.take i)
theorem rr_zero (l : List Nat) : rr l 0 = 0 := by unfold rr; split <;> rfl
theorem rr_in (l : List Nat) (i : Nat) : In (rr l i) := by unfold rr; split <;> exact rn_in _
theorem rr_skip {l : List Nat} (h : l.head? = some 45) : rr l 1 = 0 := by
  unfold rr; rw [if_pos h]
  cases l with
  | nil => rfl
  | cons a t => rfl
theorem rr_next {l : List Nat} {i : Nat} (hi : i < l.length) (h : l.getD i 0 ≠ 45) {a b : Int} (ha : w64 (rr l i * 10) = a) (hb : w64 (a - ((l.getD i 0 : Int) - 48)) = b) : b = rr l (i + 1) := by
  have e : ∀ x y : Int, w64 (w64 (x * 10) - y) = w64 (x * 10 - y) := fun x y => by unfold w64; omega
  rw [← hb, ← ha, e]
  unfold rr
  split
  · rename_i h45
    cases l with
    | nil => simp at hi
    | cons y t =>
      cases i with
      | zero => simp at h45; subst h45; exact absurd rfl h
      | succ i =>
        simp only [List.take_succ_cons, List.tail_cons, List.getD_cons_succ]
        rw [take_next (by simpa using hi), rn_snoc]
  · rw [take_next hi, rn_snoc]
theorem rr_all (l : List Nat) : rv l = if l.head? = some 45 then rr l l.length else w64 (- rr l l.length) := by
  unfold rv rr
  rw [List.take_length]
  split
  · rfl
  · rfl

/-! ### hexadecimal -/

/-- the last k digits of u -/
def hx : Nat → Nat → List Nat
  | 0, _ => []
  | k + 1, u => hx k (u / 16) ++ [dig (u % 16)]
theorem hx_zero (u : Nat) : hx 0 u = [] := rfl
theorem hx_succ (k u : Nat) : hx (k + 1) u = hx k (u / 16) ++ [dig (u % 16)] := rfl
theorem hx_length (k : Nat) : ∀ u, (hx k u).length = k := by
  induction k with
  | zero => intro u; rfl
  | succ k ih => intro u; rw [hx_succ, List.length_append, ih]; rfl
theorem hx_byte (k : Nat) : ∀ u, ∀ c ∈ hx k u, c < 256 := by
  induction k with
  | zero => intro u c hc; cases hc
  | succ k ih =>
    intro u c hc
    rw [hx_succ] at hc
    rcases List.mem_append.1 hc with hc | hc
    · exact ih _ c hc
    · have := dig_lt (show u % 16 < 16 by omega)
      simp at hc; omega
theorem val_hx (k : Nat) : ∀ u, u < 16 ^ k → val 16 (hx k u) = u := by
  induction k with
  | zero => intro u h; have : u = 0 := by simpa using h
            subst this; rfl
  | succ k ih =>
    intro u h
    rw [hx_succ, val_snoc, ih (u / 16) (by rw [Nat.pow_succ] at h; omega), dv_dig (by omega)]
    omega
def hex (u : Nat) : List Nat := hx 16 u
theorem num_hex {u : Nat} (h : u < 18446744073709551616) : num 16 (hex u) = u := by
  rw [num_val]; unfold hex; rw [val_hx 16 u (by have : (16 : Nat) ^ 16 = 18446744073709551616 := by decide
                                                omega)]
  omega
theorem hex_inj {u v : Nat} (hu : u < 18446744073709551616) (hv : v < 18446744073709551616) (h : hex u = hex v) : u = v := by rw [← num_hex hu, ← num_hex hv, h]
theorem hex_length (u : Nat) : (hex u).length = 16 := hx_length 16 u
theorem hex_byte (u : Nat) : ∀ c ∈ hex u, c < 256 := hx_byte 16 u

noncomputable def unhex (l : List Nat) : Nat × Nat :=
  open Classical in if h : ∃ u, u < 18446744073709551616 ∧ hex u = l then (Classical.choose h, 0) else (0, 3)
theorem unhex_of {u : Nat} {l : List Nat} (hu : u < 18446744073709551616) (h : hex u = l) : unhex l = (u, 0) := by
  have hx : ∃ u, u < 18446744073709551616 ∧ hex u = l := ⟨u, hu, h⟩
  have hc := Classical.choose_spec hx
  unfold unhex
  rw [dif_pos hx, hex_inj hc.1 hu (hc.2.trans h.symm)]
theorem unhex_none {l : List Nat} (h : ∀ u, u < 18446744073709551616 → hex u ≠ l) : unhex l = (0, 3) := by
  unfold unhex
  rw [dif_neg (fun ⟨n, h1, h2⟩ => h n h1 h2)]
theorem unhex_code (l : List Nat) : unhex l = if hex (num 16 l) = l then (num 16 l, 0) else (0, 3) := by
  by_cases e : hex (num 16 l) = l
  · rw [if_pos e]; exact unhex_of (num_lt _ _) e
  · rw [if_neg e]
    refine unhex_none fun u hu eu => e ?_
    rw [← eu, num_hex hu]
theorem unhex_hex {u : Nat} (h : u < 18446744073709551616) : unhex (hex u) = (u, 0) := unhex_of h rfl
theorem unhex_cases (l : List Nat) : ((unhex l).2 = 0 ∧ (unhex l).1 < 18446744073709551616 ∧ hex (unhex l).1 = l) ∨ ((unhex l).2 = 3 ∧ (unhex l).1 = 0) := by
  rw [unhex_code]
  split
  · rename_i h; exact .inl ⟨rfl, num_lt _ _, h⟩
  · exact .inr ⟨rfl, rfl⟩

/-! ### bytes -/

def pair (c : Nat) : List Nat := [dig (c / 16), dig (c % 16)]
theorem pair_length (c : Nat) : (pair c).length = 2 := rfl
theorem pair_byte {c : Nat} (h : c < 256) : ∀ x ∈ pair c, x < 256 := by
  intro x hx
  have h1 := dig_lt (show c / 16 < 16 by omega)
  have h2 := dig_lt (show c % 16 < 16 by omega)
  simp [pair] at hx
  omega
theorem num_pair {c : Nat} (h : c < 256) : num 16 (pair c) = c := by
  show ((0 * 16 + dv (dig (c / 16))) % 18446744073709551616 * 16 + dv (dig (c % 16))) % 18446744073709551616 = c
  rw [dv_dig (by omega), dv_dig (by omega)]; omega
theorem pair_inj {a b : Nat} (ha : a < 256) (hb : b < 256) (h : pair a = pair b) : a = b := by rw [← num_pair ha, ← num_pair hb, h]

def flat (b : List Nat) : List Nat := (b.map pair).flatten
theorem flat_nil : flat [] = [] := rfl
theorem flat_cons (x : Nat) (b : List Nat) : flat (x :: b) = pair x ++ flat b := rfl
theorem flat_append (a b : List Nat) : flat (a ++ b) = flat a ++ flat b := by simp [flat]
theorem flat_snoc (a : List Nat) (x : Nat) : flat (a ++ [x]) = flat a ++ pair x := by rw [flat_append]; simp [flat]
theorem flat_length (b : List Nat) : (flat b).length = 2 * b.length := by
  induction b with
  | nil => rfl
  | cons x b ih => rw [flat_cons, List.length_append, ih, pair_length, List.length_cons]; omega
theorem flat_byte {b : List Nat} (h : ∀ x ∈ b, x < 256) : ∀ x ∈ flat b, x < 256 := by
  induction b with
  | nil => intro x hx; cases hx
  | cons y b ih =>
    intro x hx
    rcases List.mem_append.1 hx with hx | hx
    · exact pair_byte (h y (by simp)) x hx
    · exact ih (fun z hz => h z (by simp [hz])) x hx
theorem flat_inj : ∀ {a b : List Nat}, (∀ x ∈ a, x < 256) → (∀ x ∈ b, x < 256) → flat a = flat b → a = b
  | [], [], _, _, _ => rfl
  | [], y :: b, _, _, h => by have := congrArg List.length h; rw [flat_length, flat_length] at this; simp at this
  | x :: a, [], _, _, h => by have := congrArg List.length h; rw [flat_length, flat_length] at this; simp at this
  | x :: a, y :: b, ha, hb, h => by
    rw [flat_cons, flat_cons] at h
    have h1 := List.append_inj h rfl
    rw [pair_inj (ha x (by simp)) (hb y (by simp)) h1.1, flat_inj (fun z hz => ha z (by simp [hz])) (fun z hz => hb z (by simp [hz])) h1.2]
theorem flat_ne_dash (b : List Nat) : flat b ≠ [45] := by
  intro e
  have := congrArg List.length e
  rw [flat_length, List.length_singleton] at this
  omega
def bytes (b : List Nat) : List Nat := if b = [] then [45] else flat b
theorem bytes_nil : bytes [] = [45] := rfl
theorem bytes_ne {b : List Nat} (h : b ≠ []) : bytes b = flat b := if_neg h
theorem bytes_inj {a b : List Nat} (ha : ∀ x ∈ a, x < 256) (hb : ∀ x ∈ b, x < 256) (h : bytes a = bytes b) : a = b := by
  by_cases h1 : a = []
  · by_cases h2 : b = []
    · rw [h1, h2]
    · rw [h1, bytes_nil, bytes_ne h2] at h; exact absurd h.symm (flat_ne_dash b)
  · by_cases h2 : b = []
    · rw [h2, bytes_nil, bytes_ne h1] at h; exact absurd h (flat_ne_dash a)
    · rw [bytes_ne h1, bytes_ne h2] at h; exact flat_inj ha hb h
theorem bytes_byte {b : List Nat} (h : ∀ x ∈ b, x < 256) : ∀ x ∈ bytes b, x < 256 := by
  unfold bytes; split
  · intro x hx; simp at hx; omega
  · exact flat_byte h
theorem bytes_length (b : List Nat) : (bytes b).length ≤ 2 * b.length + 1 := by
  unfold bytes; split
  · simp
  · rw [flat_length]; omega

noncomputable def unbytes (l : List Nat) : List Nat × Nat :=
  open Classical in if h : ∃ b, (∀ x ∈ b, x < 256) ∧ bytes b = l then (Classical.choose h, 0) else ([], 3)
theorem unbytes_of {b l : List Nat} (hb : ∀ x ∈ b, x < 256) (h : bytes b = l) : unbytes l = (b, 0) := by
  have hx : ∃ b, (∀ x ∈ b, x < 256) ∧ bytes b = l := ⟨b, hb, h⟩
  have hc := Classical.choose_spec hx
  unfold unbytes
  rw [dif_pos hx, bytes_inj hc.1 hb (hc.2.trans h.symm)]
theorem unbytes_none {l : List Nat} (h : ∀ b, (∀ x ∈ b, x < 256) → bytes b ≠ l) : unbytes l = ([], 3) := by
  unfold unbytes
  rw [dif_neg (fun ⟨n, h1, h2⟩ => h n h1 h2)]
theorem unbytes_bytes {b : List Nat} (h : ∀ x ∈ b, x < 256) : unbytes (bytes b) = (b, 0) := unbytes_of h rfl
theorem unbytes_cases (l : List Nat) : ((unbytes l).2 = 0 ∧ (∀ x ∈ (unbytes l).1, x < 256) ∧ bytes (unbytes l).1 = l) ∨ ((unbytes l).2 = 3 ∧ (unbytes l).1 = []) := by
  by_cases h : ∃ b, (∀ x ∈ b, x < 256) ∧ bytes b = l
  · obtain ⟨b, h1, h2⟩ := h
    rw [unbytes_of h1 h2]; exact .inl ⟨rfl, h1, h2⟩
  · rw [unbytes_none (fun b h1 h2 => h ⟨b, h1, h2⟩)]; exact .inr ⟨rfl, rfl⟩
theorem unbytes_length (l : List Nat) : 2 * (unbytes l).1.length ≤ l.length := by
  rcases unbytes_cases l with ⟨_, _, h⟩ | ⟨_, h⟩
  · by_cases e : (unbytes l).1 = []
    · rw [e]; simp
    · rw [bytes_ne e] at h
      have := congrArg List.length h
      rw [flat_length] at this; omega
  · rw [h]; simp

/-- the code's way: pair by pair, without looking -/
def ub (l : List Nat) (k : Nat) : List Nat := (List.range k).map fun i => num 16 ((l.drop (2 * i)).take 2) % 256
theorem ub_length (l : List Nat) (k : Nat) : (ub l k).length = k := by simp [ub]
theorem ub_byte (l : List Nat) (k : Nat) : ∀ x ∈ ub l k, x < 256 := by
  intro x hx
  simp only [ub, List.mem_map] at hx
  obtain ⟨i, _, rfl⟩ := hx
  exact Nat.mod_lt _ (by omega)
theorem ub_get (l : List Nat) (k i : Nat) (h : i < k) : (ub l k).getD i 0 = num 16 ((l.drop (2 * i)).take 2) % 256 := by
  simp [ub, List.getD, List.getElem?_range h]
theorem ub_flat {b : List Nat} (h : ∀ x ∈ b, x < 256) : ub (flat b) b.length = b := by
  refine List.ext_getElem (ub_length _ _) fun i h1 h2 => ?_
  have hp : ∀ (b : List Nat) (i : Nat) (h : i < b.length), ((flat b).drop (2 * i)).take 2 = pair b[i] := by
    intro b
    induction b with
    | nil => intro i h; cases h
    | cons x b ih =>
      intro i h
      cases i with
      | zero => rfl
      | succ i =>
        rw [flat_cons, show 2 * (i + 1) = (pair x).length + 2 * i by rw [pair_length]; omega, List.drop_append, List.drop_eq_nil_of_le (by omega), List.nil_append, Nat.add_sub_cancel_left, ih i (by simpa using h)]
        rfl
  have hi := h _ (List.getElem_mem h2)
  simp only [ub, List.getElem_map, List.getElem_range]
  rw [hp b i h2, num_pair hi]
  omega
theorem unbytes_code (l : List Nat) : unbytes l = if bytes (ub l (l.length / 2)) = l then (ub l (l.length / 2), 0) else ([], 3) := by
  by_cases e : bytes (ub l (l.length / 2)) = l
  · rw [if_pos e]; exact unbytes_of (ub_byte _ _) e
  · rw [if_neg e]
    refine unbytes_none fun b hb eb => e ?_
    by_cases hn : b = []
    · subst hn
      rw [← eb]; rfl
    · rw [bytes_ne hn] at eb
      have hlen : l.length / 2 = b.length := by rw [← eb, flat_length]; omega
      rw [hlen]
      rw [← eb, ub_flat hb, bytes_ne hn]

/-! ### the reference's bytes -/
theorem hx_two (k u : Nat) : hx (k + 2) u = hx k (u / 256) ++ pair (u % 256) := by
  rw [hx_succ, hx_succ, List.append_assoc, Nat.div_div_eq_div_mul]
  unfold pair
  rw [show u / 16 % 16 = u % 256 / 16 by omega, show u % 16 = u % 256 % 16 by omega]
  rfl
/-- k bytes of u, the greatest first -/
def be : Nat → Nat → List Nat
  | 0, _ => []
  | k + 1, u => be k (u / 256) ++ [u % 256]
theorem be_length (k : Nat) : ∀ u, (be k u).length = k := by
  induction k with
  | zero => intro u; rfl
  | succ k ih => intro u; simp [be, ih]
theorem be_byte (k : Nat) : ∀ u, ∀ x ∈ be k u, x < 256 := by
  induction k with
  | zero => intro u x hx; cases hx
  | succ k ih =>
    intro u x hx
    rcases List.mem_append.1 hx with hx | hx
    · exact ih _ x hx
    · simp at hx; omega
theorem flat_be (k : Nat) : ∀ u, flat (be k u) = hx (2 * k) u := by
  induction k with
  | zero => intro u; rfl
  | succ k ih =>
    intro u
    show flat (be k (u / 256) ++ [u % 256]) = _
    rw [flat_snoc, ih, show 2 * (k + 1) = 2 * k + 2 by omega, hx_two]
def joined (b : List Nat) : Nat := b.foldl (fun n c => n * 256 + c) 0
theorem joined_snoc (b : List Nat) (x : Nat) : joined (b ++ [x]) = joined b * 256 + x := foldl_snoc _ _ _ _
theorem joined_hx {b : List Nat} (h : ∀ x ∈ b, x < 256) : hx (2 * b.length) (joined b) = flat b := by
  induction b using snoc_ind with
  | h0 => rfl
  | h1 b x ih =>
    have hx' := h x (by simp)
    rw [List.length_append, List.length_singleton, show 2 * (b.length + 1) = 2 * b.length + 2 by omega, hx_two, joined_snoc, flat_snoc, show (joined b * 256 + x) / 256 = joined b by omega, show (joined b * 256 + x) % 256 = x by omega, ih (fun y hy => h y (by simp [hy]))]
theorem joined_lt {b : List Nat} (h : ∀ x ∈ b, x < 256) : joined b < 256 ^ b.length := by
  induction b using snoc_ind with
  | h0 => decide
  | h1 b x ih =>
    have hx' := h x (by simp)
    have := ih (fun y hy => h y (by simp [hy]))
    rw [joined_snoc, List.length_append, List.length_singleton, Nat.pow_succ]
    omega
theorem joined_next {b : List Nat} {j : Nat} (h : j < b.length) : joined (b.take (j + 1)) = joined (b.take j) * 256 + b.getD j 0 := by rw [take_next h, joined_snoc]
theorem unhex_ref (l : List Nat) : unhex l = if (unbytes l).2 = 0 ∧ (unbytes l).1.length = 8 then (joined (unbytes l).1, 0) else (0, 3) := by
  split
  · rename_i h
    rcases unbytes_cases l with ⟨_, h1, h2⟩ | ⟨h1, _⟩
    · have hn : (unbytes l).1 ≠ [] := by intro e; rw [e] at h; simp at h
      rw [bytes_ne hn] at h2
      have hj := joined_hx h1
      have hl := joined_lt h1
      rw [h.2] at hj hl
      generalize joined (unbytes l).1 = u at *
      have e : (256 : Nat) ^ 8 = 18446744073709551616 := by decide
      rw [e] at hl
      refine unhex_of hl ?_
      rw [← h2, ← hj]
      unfold hex
      rfl
    · omega
  · rename_i h
    refine unhex_none fun u hu e => h ?_
    have hb : bytes (be 8 u) = l := by
      rw [bytes_ne (by intro e; have := be_length 8 u; rw [e] at this; cases this), flat_be 8 u, ← e]; rfl
    rw [unbytes_of (be_byte 8 u) hb]
    exact ⟨rfl, be_length 8 u⟩
/-- a beginning of a text that goes on with what is no pair -/
theorem unbytes_bad {l b : List Nat} (hb : ∀ x ∈ b, x < 256) (hl : flat b = l.take (2 * b.length)) (hlt : 2 * b.length < l.length) (h45 : l ≠ [45]) (h : ∀ c, c < 256 → pair c ≠ (l.drop (2 * b.length)).take 2) : unbytes l = ([], 3) := by
  refine unbytes_none fun d hd e => ?_
  by_cases hn : d = []
  · subst hn; exact h45 e.symm
  · rw [bytes_ne hn] at e
    have hbd : b.length < d.length := by
      have := congrArg List.length e
      rw [flat_length] at this; omega
    have e1 : d = d.take b.length ++ d.drop b.length := (List.take_append_drop _ _).symm
    have hdr : d.drop b.length = d[b.length] :: d.drop (b.length + 1) := List.drop_eq_getElem_cons hbd
    refine h d[b.length] (hd _ (List.getElem_mem hbd)) ?_
    have e2 : l.drop (2 * b.length) = flat (d.drop b.length) := by
      conv => lhs; rw [← e, e1, flat_append]
      rw [List.drop_append, List.drop_eq_nil_of_le (by rw [flat_length, List.length_take]; omega), List.nil_append, flat_length, List.length_take, show 2 * b.length - 2 * min b.length d.length = 0 by omega, List.drop_zero]
    rw [e2, hdr, flat_cons]
    rfl
theorem unbytes_empty : unbytes [] = ([], 3) := by
  refine unbytes_none fun b hb e => ?_
  have h := congrArg List.length e
  unfold bytes at h
  split at h
  · simp at h
  · rename_i hn
    rw [flat_length] at h
    exact hn (List.eq_nil_of_length_eq_zero (by simp at h; omega))
theorem unbytes_dash : unbytes [45] = ([], 0) := unbytes_of (by simp) rfl
theorem unbytes_flat {b l : List Nat} (hb : ∀ x ∈ b, x < 256) (hn : b ≠ []) (h : flat b = l) : unbytes l = (b, 0) := unbytes_of hb (by rw [bytes_ne hn, h])
end Go.Proofs.Ytjomchehnlnfcaa.Nm
/- Plain mathematics of layer 24: sets of versions. -/
namespace Go.Proofs.Ytjomchehnlnfcaa
set_option linter.unusedVariables false
set_option linter.unusedSimpArgs false
namespace Vs
/-- is v one of the set's versions -/
def has (s : Nat) (v : Int) : Bool := decide (1 ≤ v ∧ v ≤ 16) && s.testBit (v - 1).toNat
theorem has_nat (s k : Nat) (h : k < 16) : has s ((k : Int) + 1) = s.testBit k := by
  unfold has
  rw [decide_eq_true (by omega), show ((k : Int) + 1 - 1).toNat = k by omega]
  rfl
theorem has_out {s : Nat} {v : Int} (h : ¬ (1 ≤ v ∧ v ≤ 16)) : has s v = false := by unfold has; rw [decide_eq_false h]; rfl
/-- the set of the versions up to k among the numbers l -/
def setN (l : List Int) : Nat → Nat
  | 0 => 0
  | k + 1 => if l.contains ((k : Int) + 1) = true then setN l k + 2 ^ k else setN l k
def set (l : List Int) : Nat := setN l 16
theorem setN_lt (l : List Int) : ∀ k, setN l k < 2 ^ k
  | 0 => by simp [setN]
  | k + 1 => by
    have := setN_lt l k
    rw [setN, Nat.pow_succ]
    split <;> omega
theorem set_lt (l : List Int) : set l < 65536 := setN_lt l 16
theorem setN_bit (l : List Int) : ∀ k j, (setN l k).testBit j = (decide (j < k) && l.contains ((j : Int) + 1))
  | 0, j => by simp [setN]
  | k + 1, j => by
    have ih := setN_bit l k j
    have hlt := setN_lt l k
    rw [setN]
    split
    · rename_i hh
      rw [Nat.add_comm, show 2 ^ k + setN l k = 2 ^ k * 1 + setN l k by omega, Nat.testBit_two_pow_mul_add 1 hlt]
      by_cases hj : j < k
      · rw [if_pos hj, ih]
        simp [hj, show j < k + 1 by omega]
      · rw [if_neg hj]
        by_cases hq : j = k
        · subst hq
          have hm : ((j : Int) + 1) ∈ l := by simpa using hh
          simp [hm]
        · have h1 := Nat.testBit_two_pow (n := 0) (m := j - k)
          simp only [Nat.pow_zero] at h1
          rw [h1]
          simp [show ¬ 0 = j - k by omega, show ¬ j < k + 1 by omega]
    · rename_i hh
      rw [ih]
      by_cases hq : j = k
      · subst hq
        have hm : ¬ ((j : Int) + 1) ∈ l := by simpa using hh
        simp [hm]
      · have : decide (j < k + 1) = decide (j < k) := decide_eq_decide.2 (by omega)
        rw [this]
/-- the greatest version up to k that both have -/
def bestN (a b : Nat) : Nat → Nat
  | 0 => 0
  | k + 1 => if (has a ((k : Int) + 1) && has b ((k : Int) + 1)) = true then k + 1 else bestN a b k
def best (a b : Nat) : Nat := bestN a b 16
theorem bestN_comm (a b : Nat) : ∀ k, bestN a b k = bestN b a k
  | 0 => rfl
  | k + 1 => by rw [bestN, bestN, bestN_comm a b k, Bool.and_comm]
theorem best_comm (a b : Nat) : best a b = best b a := bestN_comm a b 16
theorem bestN_le (a b : Nat) : ∀ k, bestN a b k ≤ k
  | 0 => Nat.le_refl _
  | k + 1 => by
    have := bestN_le a b k
    rw [bestN]
    split <;> omega
theorem bestN_has (a b : Nat) : ∀ k, bestN a b k = 0 ∨ (has a (bestN a b k : Nat) = true ∧ has b (bestN a b k : Nat) = true)
  | 0 => .inl rfl
  | k + 1 => by
    rw [bestN]
    split
    · rename_i h
      rw [Bool.and_eq_true] at h
      exact .inr ⟨by simpa using h.1, by simpa using h.2⟩
    · exact bestN_has a b k
theorem best_has (a b : Nat) : best a b = 0 ∨ (has a (best a b : Nat) = true ∧ has b (best a b : Nat) = true) := bestN_has a b 16
def mode (v : Int) : Nat := if v < 1 ∨ 16 < v then 0 else (v - 1).toNat % 3 + 1
/-! ### texts -/
def textN (s : Nat) : Nat → List Nat
  | 0 => []
  | k + 1 => if has s ((k : Int) + 1) = true then textN s k ++ ((if textN s k = [] then [] else [44]) ++ Nm.put ((k : Int) + 1)) else textN s k
def text (s : Nat) : List Nat := if textN s 16 = [] then [45] else textN s 16
/-- the versions up to k -/
def versN (s : Nat) : Nat → List Int
  | 0 => []
  | k + 1 => if has s ((k : Int) + 1) = true then versN s k ++ [(k : Int) + 1] else versN s k
theorem versN_mem (s : Nat) : ∀ k (v : Int), v ∈ versN s k ↔ (1 ≤ v ∧ v ≤ k ∧ has s v = true)
  | 0, v => by simp [versN]; omega
  | k + 1, v => by
    have ih := versN_mem s k v
    rw [versN]
    split
    · rename_i h
      rw [List.mem_append, ih]
      simp only [List.mem_singleton]
      constructor
      · rintro (⟨h1, h2, h3⟩ | rfl)
        · exact ⟨h1, by omega, h3⟩
        · exact ⟨by omega, by omega, h⟩
      · rintro ⟨h1, h2, h3⟩
        by_cases e : v = (k : Int) + 1
        · exact .inr e
        · exact .inl ⟨h1, by omega, h3⟩
    · rename_i h
      rw [ih]
      constructor
      · rintro ⟨h1, h2, h3⟩
        exact ⟨h1, by omega, h3⟩
      · rintro ⟨h1, h2, h3⟩
        refine ⟨h1, ?_, h3⟩
        by_cases e : v = (k : Int) + 1
        · rw [e] at h3; exact absurd h3 h
        · omega
theorem set_vers {s : Nat} (hs : s < 65536) : set (versN s 16) = s := by
  apply Nat.eq_of_testBit_eq
  intro j
  unfold set
  rw [setN_bit]
  by_cases hj : j < 16
  · rw [decide_eq_true hj, Bool.true_and, ← has_nat s j hj]
    rw [Bool.eq_iff_iff, List.contains_iff_mem, versN_mem]
    constructor
    · rintro ⟨_, _, h⟩; exact h
    · intro h; exact ⟨by omega, by omega, h⟩
  · rw [decide_eq_false hj, Bool.false_and]
    have h := Nat.pow_le_pow_right (n := 2) (by decide) (show 16 ≤ j by omega)
    exact (Nat.testBit_lt_two_pow (Nat.lt_of_lt_of_le hs h)).symm
/-- the versions whose text is the word -/
def same (word : List Nat) : Nat → List Int
  | 0 => []
  | k + 1 => if Nm.put ((k : Int) + 1) = word then same word k ++ [(k : Int) + 1] else same word k
/-- the versions whose texts stand in a text, word by word -/
def words : List Nat → List Nat → List Int
  | [], word => same word 16
  | c :: r, word => if c = 44 then same word 16 ++ words r [] else words r (word ++ [c])
theorem words_comma : ∀ (a b w : List Nat), words (a ++ 44 :: b) w = words a w ++ words b []
  | [], b, w => by simp [words]
  | c :: r, b, w => by
    rw [List.cons_append, words, words]
    split
    · rw [words_comma r b []]; simp
    · exact words_comma r b _
theorem words_plain : ∀ (d w : List Nat), (∀ c ∈ d, c ≠ 44) → words d w = same (w ++ d) 16
  | [], w, _ => by simp [words]
  | c :: r, w, h => by
    rw [words, if_neg (h c (by simp)), words_plain r _ (fun x hx => h x (by simp [hx]))]
    simp
/-- the texts of the versions -/
def p16 (v : Nat) : List Nat := if v < 9 then [49 + v] else [49, 39 + v]
theorem put16 {v : Nat} (hv : v < 16) : Nm.put ((v : Int) + 1) = p16 v := by
  rw [Nm.put_pos (by omega), show ((v : Int) + 1).natAbs = v + 1 by omega]
  unfold p16
  split
  · rw [Nm.dec_low (by omega), show 48 + (v + 1) = 49 + v by omega]
  · rw [Nm.dec_high (by omega), show (v + 1) / 10 = 1 by omega, Nm.dec_low (by omega), show 48 + (v + 1) % 10 = 39 + v by omega]
    rfl
def same16 (word : List Nat) : Nat → List Int
  | 0 => []
  | k + 1 => if p16 k = word then same16 word k ++ [(k : Int) + 1] else same16 word k
theorem same_same16 (word : List Nat) : ∀ k, k ≤ 16 → same word k = same16 word k
  | 0, _ => rfl
  | k + 1, h => by rw [same, same16, put16 (by omega), same_same16 word k (by omega)]
theorem same_put (v : Nat) (hv : v < 16) : same (Nm.put ((v : Int) + 1)) 16 = [(v : Int) + 1] := by
  rw [put16 hv, same_same16 _ _ (Nat.le_refl _)]
  revert v
  decide +kernel
theorem put_no44 (v : Nat) (hv : v < 16) : ∀ c ∈ Nm.put ((v : Int) + 1), c ≠ 44 := by
  rw [put16 hv]
  revert v
  decide +kernel
theorem same_nil : same [] 16 = [] := by rw [same_same16 _ _ (Nat.le_refl _)]; decide +kernel
theorem same_dash : same [45] 16 = [] := by rw [same_same16 _ _ (Nat.le_refl _)]; decide +kernel
theorem put_ne16 (v : Nat) (hv : v < 16) : Nm.put ((v : Int) + 1) ≠ [] := Nm.put_ne _
theorem words_text (s : Nat) : ∀ k, k ≤ 16 → words (textN s k) [] = versN s k
  | 0, _ => same_nil
  | k + 1, h => by
    have ih := words_text s k (by omega)
    rw [textN, versN]
    split
    · by_cases e : textN s k = []
      · rw [if_pos e, e, List.nil_append, List.nil_append, words_plain _ _ (put_no44 k (by omega)), List.nil_append, same_put k (by omega)]
        rw [e, show words [] [] = [] from same_nil] at ih
        rw [← ih]; rfl
      · rw [if_neg e, List.singleton_append, words_comma, ih, words_plain _ _ (put_no44 k (by omega)), List.nil_append, same_put k (by omega)]
    · exact ih
theorem textN_nil (s : Nat) : ∀ k, textN s k = [] → versN s k = []
  | 0, _ => rfl
  | k + 1, h => by
    rw [textN] at h
    rw [versN]
    split
    · rename_i hh
      rw [if_pos hh] at h
      have h1 := (List.append_eq_nil_iff.1 h).2
      have h2 := (List.append_eq_nil_iff.1 h1).2
      exact absurd h2 (Nm.put_ne _)
    · rename_i hh
      rw [if_neg hh] at h
      exact textN_nil s k h
/-- a set's text is read back -/
theorem back {s : Nat} (hs : s < 65536) : set (words (text s) []) = s := by
  unfold text
  split
  · rename_i e
    have h := textN_nil s 16 e
    have h2 : words [45] [] = [] := by rw [words_plain _ _ (by decide)]; exact same_dash
    rw [h2, ← h]
    exact set_vers hs
  · rw [words_text s 16 (Nat.le_refl _)]; exact set_vers hs
/-- the set whose text it is, or that there is none -/
def read (l : List Nat) : Nat × Nat := if text (set (words l [])) = l then (set (words l []), 0) else (0, 3)
theorem read_text {s : Nat} (hs : s < 65536) : read (text s) = (s, 0) := by unfold read; rw [back hs, if_pos rfl]
theorem read_some {l : List Nat} {s : Nat} (hs : s < 65536) (h : text s = l) : read l = (s, 0) := by rw [← h]; exact read_text hs
theorem read_none {l : List Nat} (h : ∀ s < 65536, text s ≠ l) : read l = (0, 3) := by unfold read; rw [if_neg (h _ (set_lt _))]
theorem put_len16 {v : Nat} (hv : v < 16) : (Nm.put ((v : Int) + 1)).length ≤ 2 := by
  rw [put16 hv]
  unfold p16
  split <;> simp
theorem textN_len (s : Nat) : ∀ k, k ≤ 16 → (textN s k).length ≤ 3 * k
  | 0, _ => Nat.le_refl _
  | k + 1, h => by
    have ih := textN_len s k (by omega)
    have h2 := put_len16 (v := k) (by omega)
    rw [textN]
    split
    · rw [List.length_append, List.length_append]
      have h3 : (if textN s k = [] then ([] : List Nat) else [44]).length ≤ 1 := by split <;> simp
      omega
    · omega
theorem text_len (s : Nat) : (text s).length ≤ 48 := by
  have := textN_len s 16 (Nat.le_refl _)
  unfold text
  split
  · simp
  · omega
theorem textN_byte (s : Nat) : ∀ k, ∀ c ∈ textN s k, c < 256
  | 0, c, h => by cases h
  | k + 1, c, h => by
    rw [textN] at h
    split at h
    · rcases List.mem_append.1 h with h | h
      · exact textN_byte s k c h
      · rcases List.mem_append.1 h with h | h
        · split at h
          · cases h
          · simp at h; omega
        · exact Nm.put_byte _ c h
    · exact textN_byte s k c h
theorem text_byte (s : Nat) : ∀ c ∈ text s, c < 256 := by
  unfold text
  split
  · intro c h; simp at h; omega
  · exact textN_byte s 16
theorem textN_not {s k : Nat} (h : has s ((k : Int) + 1) = false) : textN s (k + 1) = textN s k := by rw [textN, if_neg (by rw [h]; simp)]
theorem textN_one {s k : Nat} (h : has s ((k : Int) + 1) = true) (e : textN s k = []) : textN s (k + 1) = textN s k ++ Nm.put ((k : Int) + 1) := by rw [textN, if_pos h, if_pos e, List.nil_append]
theorem textN_more {s k : Nat} (h : has s ((k : Int) + 1) = true) (e : ¬ textN s k = []) : textN s (k + 1) = (textN s k ++ [44]) ++ Nm.put ((k : Int) + 1) := by rw [textN, if_pos h, if_neg e, List.append_assoc]
end Vs
end Go.Proofs.Ytjomchehnlnfcaa
/- A slice of numbers with a sign, as an argument. -/
namespace Go.Proofs.Ytjomchehnlnfcaa
open Go.ChangeShapes Go.WideShapes Go.ChangeAt Go.RowKit
set_option linter.unusedVariables false

/-- what a walk is told of a slice of int -/
structure RowI (w : World) (a : Option Addr) (len cap : Nat) (l : List Int) : Prop where
  len_eq : l.length = len
  sees : 0 < l.length → ∃ b off, a = some ⟨b, off, none⟩ ∧ b < w.heap.size ∧ ∀ i (h : i < l.length), w.cell? ⟨b, off + i, none⟩ = some (.int .i64 l[i])
  ok : ∀ x ∈ l, -9223372036854775808 ≤ x ∧ x ≤ 9223372036854775807
  le : len ≤ cap
  max : cap ≤ maxLen
  null : a = none → cap = 0
theorem rowI_of {w : World} {x : Addr} {len cap : Nat} {zs : List Int} (hl : len ≤ cap) (hm : cap ≤ maxLen) (hz : zs.length = cap)
    (hc : ∀ i, i < zs.length → w.cell? (x.add i) = some (.int .i64 (zs.getD i 0))) (hw : ∀ n ∈ zs, (Lit.int .i64 n).wf = true) : RowI w (some x) len cap (zs.take len) := by
  refine ⟨by rw [List.length_take]; omega, ?_, fun y hy => bounds_i64 (hw y (List.mem_of_mem_take hy)), hl, hm, fun h => by cases h⟩
  intro hp
  rw [List.length_take] at hp
  obtain ⟨b, off, spot⟩ := x
  have hc0 := hc 0 (by omega)
  have hspot : spot = none := by simpa [Addr.add] using World.cell?_spot hc0
  subst hspot
  have hb : b < w.heap.size := by
    rcases Nat.lt_or_ge b w.heap.size with h | h
    · exact h
    · simp [World.cell?, Addr.add, Array.getElem?_eq_none h] at hc0
  refine ⟨b, off, rfl, hb, fun i hi => ?_⟩
  rw [List.length_take] at hi
  have hi' : i < zs.length := by omega
  have e := hc i hi'
  have ha : (⟨b, off, none⟩ : Addr).add i = ⟨b, off + i, none⟩ := by unfold Addr.add; split <;> simp_all
  rw [ha] at e
  rw [e]
  simp [List.getD, List.getElem?_eq_getElem hi']
theorem rowI_none (w : World) : RowI w none 0 0 [] := ⟨rfl, fun h => absurd h (by simp), fun _ h => by simp at h, by omega, by unfold maxLen; omega, fun _ => rfl⟩
theorem open_rowI {H : Type} {enc : TypeId × Value → H} {P : Program} {w : World} {base : Nat} {held : Bool} {t e : TypeId} {a : Option Addr} {len cap : Nat} {d : DataW H} {ps : List MemPlace}
    (ht : P.underlying t = some (.slice e)) (he : P.underlying e = some (.int .i64)) (ce : P.cellsOf e = 1) (hd : DataW.Trod enc P w base (fun _ => true) held t (.slice a len cap) d ps) : ∃ l, RowI w a len cap l := by
  obtain ⟨fuel, hf⟩ := hd
  rcases open_ints ht he ce hf with ⟨hcs, _⟩ | ⟨x, l, c, zs, hcs, _, hl, hm, hz, _, hcell, hwz⟩
  · simp [Value.cells] at hcs
    obtain ⟨rfl, rfl, rfl⟩ := hcs
    exact ⟨[], rowI_none _⟩
  · simp [Value.cells] at hcs
    obtain ⟨rfl, rfl, rfl⟩ := hcs
    exact ⟨_, rowI_of hl hm (by simpa using hz) hcell hwz⟩
theorem RowI.at_ {w w' : World} {a : Option Addr} {len cap : Nat} {l : List Int} (h : RowI w a len cap l) (hb : Below w.heap.size w w') {i : Nat} (hi : i < l.length) :
    ∃ b off, a = some ⟨b, off, none⟩ ∧ b < w.heap.size ∧ w'.cell? ⟨b, off + i, none⟩ = some (.int .i64 l[i]) := by
  obtain ⟨b, off, e, hlt, hc⟩ := h.sees (by omega)
  exact ⟨b, off, e, hlt, (hb.cell (p := ⟨b, off + i, none⟩) hlt).trans (hc i hi)⟩
theorem RowI.kept {w w' : World} {a : Option Addr} {len cap : Nat} {l : List Int} (h : RowI w a len cap l) (hb : Below w.heap.size w w') : RowI w' a len cap l :=
  ⟨h.len_eq, fun hp => by
    obtain ⟨b, off, e, hlt, hc⟩ := h.sees hp
    exact ⟨b, off, e, Nat.lt_of_lt_of_le hlt hb.size, fun i hi => (hb.cell (p := ⟨b, off + i, none⟩) hlt).trans (hc i hi)⟩, h.ok, h.le, h.max, h.null⟩
end Go.Proofs.Ytjomchehnlnfcaa
/- Contracts of layer 24's reference: Has, Best, Mode, Set. -/
namespace Go.Proofs.Ytjomchehnlnfcaa
open Go.RowKit
set_option linter.unusedVariables false
set_option maxRecDepth 100000
set_option linter.unusedSimpArgs false

theorem odd24 (q : Nat) : ((q : Int) % 2 == 1) = decide (q % 2 = 1) := by
  by_cases h : q % 2 = 1
  · rw [decide_eq_true h, beq_iff_eq]; omega
  · rw [decide_eq_false h, beq_eq_false_iff_ne]; omega
set_option maxHeartbeats 1000000 in
theorem rhas24_any {w : World} {s : Nat} {v : Int} (hs : s < 65536) (h1 : -9223372036854775808 ≤ v) (h2 : v ≤ 9223372036854775807) :
    Calls Try.prog 28 #[.int .u16 (s : Int), .int .i64 v] w fun e w' => e = .returned (.bool (Vs.has s v)) ∧ w' = w := by
  have hcv : IntKind.i64.wrap (s : Int) = (s : Int) := by rw [IntKind.wrap_i64]; omega
  have HOut := Lib.hid (fun h => Vs.has_out (s := s) (v := v) h)
  have HIn : Hid (1 ≤ v → v ≤ 16 → Vs.has s v = decide (s / 2 ^ (v.toNat - 1) % 2 = 1)) := Lib.hid (fun a b => by
    obtain ⟨k, rfl⟩ : ∃ k : Nat, v = (k : Int) + 1 := ⟨(v - 1).toNat, by omega⟩
    rw [Vs.has_nat s k (by omega), Nat.testBit_eq_decide_div_mod_eq, show ((k : Int) + 1).toNat - 1 = k by omega])
  obtain ⟨R, hR⟩ : ∃ R, Hid (Vs.has s v = R) := ⟨_, Lib.hid rfl⟩
  rw [hR.out] at HOut HIn ⊢
  go_enter Try.func28, Try.ntmps28
  go_wp2_with fail
  go_loopw [5, 6] (fun n x wr => ∃ j : Nat, 1 ≤ j ∧ j ≤ 17 ∧ ((j : Int) ≤ v ∨ j = 1) ∧ x = .int .i64 (j : Int) ∧ n = .int .i64 ((s / 2 ^ (j - 1) : Nat) : Int) ∧ wr = w) (fun _ x _ => 17 - (intOf x).toNat)
  case atStart => exact ⟨1, by omega, by omega, .inr rfl, rfl, by simp, rfl⟩
  case round =>
    obtain ⟨j, hj1, hj17, hjv, rfl, rfl, rfl⟩ := hrel
    obtain ⟨q, Hq⟩ : ∃ q, Hid (s / 2 ^ (j - 1) = q) := ⟨_, Lib.hid rfl⟩
    rw [Hq.out]
    have hqs : q ≤ s := by rw [← Hq.out]; exact Nat.div_le_self _ _
    by_cases p1 : (j : Int) < v
    · by_cases p2 : j < 17
      · have HQ : Hid (s / 2 ^ (j + 1 - 1) = q / 2) := Lib.hid (by rw [← Hq.out, show j + 1 - 1 = (j - 1) + 1 by omega, Nat.pow_succ, Nat.div_div_eq_div_mul])
        have hw2 : (q : Int).tdiv 2 = ((q / 2 : Nat) : Int) := by rw [Int.tdiv_eq_ediv_of_nonneg (by omega)]; omega
        go_wp2_with fail
        go_roundw
        case rel => exact ⟨j + 1, by omega, by omega, .inl (by omega), by go_num, by rw [HQ.out]; first | rfl | go_num, by first | rfl | trivial⟩
        case measure => simp [intOf]; omega
      · have HF : Hid (R = false) := Lib.hid (HOut.out (by omega))
        have p3 : ¬ v < 17 := by omega
        go_wp2_with fail
        go_ret
        exact ⟨ret_bool HF.out.symm, by first | rfl | trivial⟩
    · by_cases p3 : 0 < v
      · have hvj : v = (j : Int) := by omega
        subst hvj
        by_cases p4 : j < 17
        · have HF : Hid (R = decide (q % 2 = 1)) := Lib.hid (by rw [HIn.out (by omega) (by omega), Int.toNat_natCast, Hq.out])
          go_wp2_with fail
          go_ret
          exact ⟨ret_bool (by rw [HF.out]; exact odd24 q), by first | rfl | trivial⟩
        · have HF : Hid (R = false) := Lib.hid (HOut.out (by omega))
          go_wp2_with fail
          go_ret
          exact ⟨ret_bool HF.out.symm, by first | rfl | trivial⟩
      · have HF : Hid (R = false) := Lib.hid (HOut.out (by omega))
        go_wp2_with fail
        go_ret
        exact ⟨ret_bool HF.out.symm, by first | rfl | trivial⟩
theorem Vs.bestN_top (a b k : Nat) (h : (Vs.has a ((k : Int) + 1) && Vs.has b ((k : Int) + 1)) = true) : Vs.bestN a b (k + 1) = k + 1 := by rw [Vs.bestN, if_pos h]
theorem Vs.bestN_next (a b k : Nat) (h : (Vs.has a ((k : Int) + 1) && Vs.has b ((k : Int) + 1)) = false) : Vs.bestN a b (k + 1) = Vs.bestN a b k := by rw [Vs.bestN, if_neg (by rw [h]; simp)]
set_option maxHeartbeats 1000000 in
theorem rbest24_any {w : World} {a b : Nat} (ha : a < 65536) (hb : b < 65536) :
    Calls Try.prog 20 #[.int .u16 (a : Int), .int .u16 (b : Int)] w fun e w' => e = .returned (.int .i64 ((Vs.best a b : Nat) : Int)) ∧ w' = w := by
  have HA := Lib.hid (fun W (k : Nat) (hk : k < 16) => rhas24_any (w := W) (s := a) (v := (k : Int) + 1) ha (by omega) (by omega))
  have HB := Lib.hid (fun W (k : Nat) (hk : k < 16) => rhas24_any (w := W) (s := b) (v := (k : Int) + 1) hb (by omega) (by omega))
  obtain ⟨R, hR⟩ : ∃ R, Hid (Vs.best a b = R) := ⟨_, Lib.hid rfl⟩
  rw [hR.out]
  have HR : Hid (Vs.bestN a b 16 = R) := Lib.hid hR.out
  go_enter Try.func20, Try.ntmps20
  go_wp2_with fail
  go_loopw [5] (fun x wr => ∃ j : Nat, j ≤ 16 ∧ x = .int .i64 (j : Int) ∧ Hid (Vs.bestN a b j = R) ∧ wr = w) (fun x _ => (intOf x).toNat)
  case atStart => exact ⟨16, by omega, rfl, HR, rfl⟩
  case round =>
    obtain ⟨j, hj, rfl, HJ, rfl⟩ := hrel
    cases j with
    | zero =>
      go_wp2_with fail
      go_ret
      exact ⟨by rw [← HJ.out]; rfl, by first | rfl | trivial⟩
    | succ k =>
      have HT := Lib.hid (Vs.bestN_top a b k)
      have HN := Lib.hid (Vs.bestN_next a b k)
      have C1 := Lib.hid (HA.out wr k (by omega))
      have C2 := Lib.hid (HB.out wr k (by omega))
      obtain ⟨x, hx⟩ : ∃ x, Hid (Vs.has a ((k : Int) + 1) = x) := ⟨_, Lib.hid rfl⟩
      obtain ⟨y, hy⟩ : ∃ y, Hid (Vs.has b ((k : Int) + 1) = y) := ⟨_, Lib.hid rfl⟩
      rw [hx.out] at HT HN C1
      rw [hy.out] at HT HN C2
      have hcast : ((k + 1 : Nat) : Int) = (k : Int) + 1 := by omega
      cases x
      · go_wp2_with fail
        refine (C1.out).mono ?_
        rintro e w1 ⟨rfl, rfl⟩
        go_wp2_with fail
        go_roundw
        case rel => exact ⟨k, by omega, by go_num, Lib.hid (by rw [← HJ.out, HN.out rfl]), by first | rfl | trivial⟩
        case measure => simp [intOf]
      · go_wp2_with fail
        refine (C1.out).mono ?_
        rintro e w1 ⟨rfl, rfl⟩
        go_wp2_with fail
        refine (C2.out).mono ?_
        rintro e w2 ⟨rfl, rfl⟩
        cases y
        · go_wp2_with fail
          go_roundw
          case rel => exact ⟨k, by omega, by go_num, Lib.hid (by rw [← HJ.out, HN.out rfl]), by first | rfl | trivial⟩
          case measure => simp [intOf]
        · go_wp2_with fail
          go_ret
          exact ⟨by rw [← HJ.out, HT.out rfl]; first | rfl | simp, by first | rfl | trivial⟩
theorem Vs.setN_in (l : List Int) (k : Nat) (h : l.contains ((k : Int) + 1) = true) : Vs.setN l (k + 1) = Vs.setN l k + 2 ^ k := by rw [Vs.setN, if_pos h]
theorem Vs.setN_not (l : List Int) (k : Nat) (h : l.contains ((k : Int) + 1) = false) : Vs.setN l (k + 1) = Vs.setN l k := by rw [Vs.setN, if_neg (by rw [h]; simp)]
theorem take_contains {l : List Int} {i : Nat} (h : i < l.length) (v : Int) : (l.take (i + 1)).contains v = ((l.take i).contains v || l[i] == v) := by
  rw [List.take_succ_eq_append_getElem h, List.contains_append]
  congr 1
  rw [List.contains_cons, List.contains_nil, Bool.or_false, Bool.eq_iff_iff, beq_iff_eq, beq_iff_eq]
  exact eq_comm
end Go.Proofs.Ytjomchehnlnfcaa
/- Plain mathematics of layer 24's code: a version's bit, sets as numbers, words that stand in a text. -/
namespace Go.Proofs.Ytjomchehnlnfcaa
set_option linter.unusedVariables false
set_option linter.unusedSimpArgs false
namespace Vs
/-- the set of v alone -/
def bit (v : Int) : Nat := if 1 ≤ v ∧ v ≤ 16 then 2 ^ (v - 1).toNat else 0
theorem bit_in (k : Nat) (h : k < 16) : bit ((k : Int) + 1) = 2 ^ k := by
  unfold bit
  rw [if_pos (by omega), show ((k : Int) + 1 - 1).toNat = k by omega]
theorem bit_out {v : Int} (h : ¬ (1 ≤ v ∧ v ≤ 16)) : bit v = 0 := if_neg h
theorem bit_lt (v : Int) : bit v < 65536 := by
  unfold bit
  split
  · have := Nat.pow_lt_pow_right (a := 2) (by decide) (show (v - 1).toNat < 16 by omega)
    exact this
  · decide
theorem bit_test (v : Int) (j : Nat) : (bit v).testBit j = (decide (j < 16) && decide (v = (j : Int) + 1)) := by
  unfold bit
  split
  · rw [Nat.testBit_two_pow, Bool.eq_iff_iff]
    simp only [decide_eq_true_eq, Bool.and_eq_true]
    omega
  · rename_i h
    rw [Nat.zero_testBit]
    symm
    rw [Bool.and_eq_false_iff]
    simp only [decide_eq_false_iff_not]
    omega
theorem and_bit (s : Nat) (v : Int) : (decide (s &&& bit v = 0)) = !has s v := by
  by_cases h : 1 ≤ v ∧ v ≤ 16
  · obtain ⟨k, rfl⟩ : ∃ k : Nat, v = (k : Int) + 1 := ⟨(v - 1).toNat, by omega⟩
    rw [bit_in k (by omega), has_nat s k (by omega)]
    have e : (s &&& 2 ^ k).testBit k = s.testBit k := by rw [Nat.testBit_and, Nat.testBit_two_pow, decide_eq_true rfl, Bool.and_true]
    by_cases h0 : s &&& 2 ^ k = 0
    · rw [h0, Nat.zero_testBit] at e
      rw [← e, decide_eq_true h0]; rfl
    · rw [decide_eq_false h0]
      cases hb : s.testBit k
      · refine absurd (Nat.eq_of_testBit_eq fun j => ?_) h0
        rw [Nat.testBit_and, Nat.testBit_two_pow, Nat.zero_testBit]
        by_cases hj : k = j
        · rw [← hj, hb]; rfl
        · rw [decide_eq_false hj, Bool.and_false]
      · rfl
  · rw [bit_out h, has_out h, Nat.and_zero]; rfl
/-- numbers, one behind the other, added to a set -/
def orN (l : List Int) (a : Nat) : Nat := l.foldl (fun s v => s ||| bit v) a
theorem orN_snoc (l : List Int) (v : Int) (a : Nat) : orN (l ++ [v]) a = orN l a ||| bit v := by simp [orN]
theorem orN_append (l k : List Int) (a : Nat) : orN (l ++ k) a = orN k (orN l a) := by simp [orN]
theorem orN_test : ∀ (l : List Int) (a j : Nat), (orN l a).testBit j = (a.testBit j || (decide (j < 16) && l.contains ((j : Int) + 1)))
  | [], a, j => by simp [orN]
  | v :: r, a, j => by
    show (orN r (a ||| bit v)).testBit j = _
    rw [orN_test r, Nat.testBit_or, bit_test, List.contains_cons, Bool.or_assoc, ← Bool.and_or_distrib_left]
    congr 3
    rw [Bool.eq_iff_iff, decide_eq_true_eq, beq_iff_eq]
    exact eq_comm
theorem orN_set (l : List Int) : orN l 0 = set l := by
  apply Nat.eq_of_testBit_eq
  intro j
  unfold set
  rw [orN_test, setN_bit, Nat.zero_testBit, Bool.false_or]
theorem orN_lt (l : List Int) : orN l 0 < 65536 := by rw [orN_set]; exact set_lt l
theorem orN_zero (l : List Int) (a : Nat) : orN l a = a ||| orN l 0 := by
  apply Nat.eq_of_testBit_eq
  intro j
  rw [Nat.testBit_or, orN_test, orN_test, Nat.zero_testBit, Bool.false_or]
/-! ### the greatest version of both -/
theorem bits_top : ∀ (f x k : Nat), x < 2 ^ k → k ≤ f → Go.Lib.bitLenAux f x ≤ k ∧ (2 ^ (k - 1) ≤ x → 0 < k → Go.Lib.bitLenAux f x = k)
  | 0, x, k, h, hf => by
    obtain rfl : k = 0 := by omega
    exact ⟨Nat.le_refl _, fun _ h => absurd h (by omega)⟩
  | f + 1, x, k, h, hf => by
    rw [Go.Lib.bitLenAux]
    cases k with
    | zero =>
      have : x = 0 := by simpa using h
      rw [if_pos this]
      exact ⟨Nat.le_refl _, fun _ h => absurd h (by omega)⟩
    | succ k =>
      have ih := bits_top f (x / 2) k (by rw [Nat.pow_succ] at h; omega) (by omega)
      split
      · rename_i h0
        refine ⟨by omega, fun h1 _ => ?_⟩
        have := Nat.two_pow_pos (k + 1 - 1)
        omega
      · rename_i h0
        refine ⟨by omega, fun h1 _ => ?_⟩
        rw [Nat.add_sub_cancel] at h1
        cases k with
        | zero =>
          have h2 := ih.1
          omega
        | succ k =>
          have h3 := ih.2 (by rw [Nat.add_sub_cancel]; rw [Nat.pow_succ] at h1; omega) (by omega)
          omega
theorem bestN_bits (a b : Nat) : ∀ k, k ≤ 16 → (a &&& b) < 2 ^ k → bestN a b k = Go.Lib.bitLen (a &&& b)
  | 0, _, h => by
    have : a &&& b = 0 := by simpa using h
    rw [this]; rfl
  | k + 1, hk, h => by
    rw [bestN, has_nat a k (by omega), has_nat b k (by omega), ← Nat.testBit_and]
    have ht := bits_top 64 (a &&& b) (k + 1) h (by omega)
    by_cases hb : (a &&& b).testBit k = true
    · rw [if_pos hb]
      exact (ht.2 (by rw [Nat.add_sub_cancel]; exact Nat.ge_two_pow_of_testBit hb) (by omega)).symm
    · rw [if_neg hb]
      refine bestN_bits a b k (by omega) ?_
      rcases Nat.lt_or_ge (a &&& b) (2 ^ k) with h2 | h2
      · exact h2
      · exact absurd (Nat.testBit_of_two_pow_le_and_two_pow_add_one_gt h2 h) hb
theorem best_bits {a b : Nat} (ha : a < 65536) : best a b = Go.Lib.bitLen (a &&& b) :=
  bestN_bits a b 16 (Nat.le_refl _) (Nat.lt_of_le_of_lt Nat.and_le_left ha)
theorem mode_in {k : Nat} (h : k < 16) : mode ((k : Int) + 1) = k % 3 + 1 := by
  unfold mode
  rw [if_neg (by omega), show ((k : Int) + 1 - 1).toNat = k by omega]
theorem mode_out {v : Int} (h : ¬ (1 ≤ v ∧ v ≤ 16)) : mode v = 0 := by
  unfold mode
  rw [if_pos (by omega)]
/-! ### words -/
theorem same_mem (p : List Nat) : ∀ (k : Nat) (v : Int), v ∈ same p k ↔ ∃ i, i < k ∧ v = (i : Int) + 1 ∧ Nm.put ((i : Int) + 1) = p
  | 0, v => by simp [same]
  | k + 1, v => by
    rw [same]
    split
    · rename_i h
      rw [List.mem_append, same_mem p k v, List.mem_singleton]
      constructor
      · rintro (⟨i, h1, h2⟩ | rfl)
        · exact ⟨i, by omega, h2⟩
        · exact ⟨k, by omega, rfl, h⟩
      · rintro ⟨i, h1, h2, h3⟩
        by_cases e : i = k
        · subst e; exact .inr h2
        · exact .inl ⟨i, by omega, h2, h3⟩
    · rename_i h
      rw [same_mem p k v]
      constructor
      · rintro ⟨i, h1, h2⟩
        exact ⟨i, by omega, h2⟩
      · rintro ⟨i, h1, h2, h3⟩
        by_cases e : i = k
        · subst e; exact absurd h3 h
        · exact ⟨i, by omega, h2, h3⟩
/-- what the code adds for a word is what the word is -/
theorem word_bit (p : List Nat) : bit (Nm.get p).1 = orN (same p 16) 0 := by
  apply Nat.eq_of_testBit_eq
  intro j
  rw [bit_test, orN_test, Nat.zero_testBit, Bool.false_or]
  by_cases hj : j < 16
  · rw [decide_eq_true hj, Bool.true_and, Bool.true_and, Bool.eq_iff_iff, decide_eq_true_eq, List.contains_iff_mem, same_mem]
    constructor
    · intro h
      rcases Nm.get_cases p with ⟨h0, h1, h2⟩ | ⟨_, h1⟩ | ⟨_, h1⟩
      · exact ⟨j, hj, rfl, by rw [← h]; exact h2⟩
      · omega
      · omega
    · rintro ⟨i, h1, h2, h3⟩
      rw [← h3, Nm.get_put ⟨by omega, by omega⟩]
      exact h2.symm
  · rw [decide_eq_false hj]; rfl
theorem words_last {r : List Nat} (h : ∀ c ∈ r, c ≠ 44) : words r [] = same r 16 := by rw [words_plain r [] h, List.nil_append]
theorem words_first {r : List Nat} {i : Nat} (hi : i < r.length) (h0 : r.getD i 0 = 44) (h : ∀ j, j < i → r.getD j 0 ≠ 44) : words r [] = same (r.take i) 16 ++ words (r.drop (i + 1)) [] := by
  have e : r = r.take i ++ 44 :: r.drop (i + 1) := by
    have h1 : r.drop i = 44 :: r.drop (i + 1) := by
      rw [List.drop_eq_getElem_cons hi]
      congr 1
      rw [← h0]
      simp [List.getD, List.getElem?_eq_getElem hi]
    rw [← h1, List.take_append_drop]
  have hp : ∀ c ∈ r.take i, c ≠ 44 := by
    intro c hc
    obtain ⟨j, hj, rfl⟩ := List.getElem_of_mem hc
    rw [List.length_take] at hj
    have := h j (by omega)
    rw [List.getElem_take]
    simpa [List.getD, List.getElem?_eq_getElem (show j < r.length by omega)] using this
  rw [← words_last hp, ← words_comma, ← e]
/-- the sets of some words, one behind the other -/
def gotN (ps : List (List Nat)) : Nat := orN ((ps.map fun p => same p 16).flatten) 0
theorem gotN_snoc (ps : List (List Nat)) (p : List Nat) : gotN (ps ++ [p]) = gotN ps ||| bit (Nm.get p).1 := by
  unfold gotN
  rw [List.map_append, List.flatten_append, orN_append, orN_zero, word_bit]
  simp
theorem gotN_lt (ps : List (List Nat)) : gotN ps < 65536 := orN_lt _
end Vs
end Go.Proofs.Ytjomchehnlnfcaa
