/- Texts Nm, Num, Numget, Ref7, in one. -/
import Derived.Test.YtocgoibohfjgjaaDoorPA
/- Plain mathematics of numbers and bytes as texts: no program in it. -/
namespace Go.Proofs.YtocgoibohfjgjaaDoor.Nm
set_option linter.unusedVariables false

/-- the byte of the digit n -/
def dig (n : Nat) : Nat := if n < 10 then 48 + n else 87 + n
theorem dig_low {n : Nat} (h : n < 10) : dig n = 48 + n := if_pos h
theorem dig_high {n : Nat} (h : ¬ n < 10) : dig n = 87 + n := if_neg h
theorem dig_lt {n : Nat} (h : n < 16) : 48 ≤ dig n ∧ dig n < 103 := by
  unfold dig; split <;> omega
theorem dig_inj {a b : Nat} (ha : a < 16) (hb : b < 16) (h : dig a = dig b) : a = b := by
  unfold dig at h; split at h <;> split at h <;> omega

/-- what the code takes any byte for -/
def dv (c : Nat) : Nat := if 97 ≤ c then c - 97 + 10 else (c + 208) % 256
theorem dv_dig {n : Nat} (h : n < 16) : dv (dig n) = n := by
  unfold dv dig; split <;> split <;> omega
theorem dv_lt {c : Nat} (h : c < 256) : dv c < 256 := by
  unfold dv; split <;> omega

theorem snoc_ind {P : List Nat → Prop} (h0 : P []) (h1 : ∀ l c, P l → P (l ++ [c])) (l : List Nat) : P l := by
  rw [← List.reverse_reverse l]
  induction l.reverse with
  | nil => exact h0
  | cons c r ih => rw [List.reverse_cons]; exact h1 _ _ ih
/-- any bytes as a number to any base, and the same modulo 2^64 -/
def val (b : Nat) (l : List Nat) : Nat := l.foldl (fun n c => n * b + dv c) 0
def num (b : Nat) (l : List Nat) : Nat := l.foldl (fun n c => (n * b + dv c) % 18446744073709551616) 0
theorem foldl_snoc {α β : Type} (f : β → α → β) (x : β) (l : List α) (a : α) : (l ++ [a]).foldl f x = f (l.foldl f x) a := by rw [List.foldl_append]; rfl
theorem val_snoc (b : Nat) (l : List Nat) (c : Nat) : val b (l ++ [c]) = val b l * b + dv c := foldl_snoc _ _ _ _
theorem num_snoc (b : Nat) (l : List Nat) (c : Nat) : num b (l ++ [c]) = (num b l * b + dv c) % 18446744073709551616 := foldl_snoc (fun n c => (n * b + dv c) % 18446744073709551616) _ _ _
theorem num_nil (b : Nat) : num b [] = 0 := rfl
theorem num_next (b : Nat) {l : List Nat} {j : Nat} (h : j < l.length) : num b (l.take (j + 1)) = (num b (l.take j) * b + dv (l.getD j 0)) % 18446744073709551616 := by
  rw [take_next h, num_snoc]
/-- a step modulo m -/
theorem step_mod (m a b d : Nat) : (a % m * b + d) % m = (a * b + d) % m := by
  rw [Nat.add_mod, Nat.mul_mod, Nat.mod_mod, ← Nat.mul_mod, ← Nat.add_mod]
theorem num_val (b : Nat) (l : List Nat) : num b l = val b l % 18446744073709551616 := by
  induction l using snoc_ind with
  | h0 => rfl
  | h1 l c ih => rw [num_snoc, val_snoc, ih, step_mod]
theorem num_lt (b : Nat) (l : List Nat) : num b l < 18446744073709551616 := by rw [num_val]; exact Nat.mod_lt _ (by omega)

/-! ### decimal -/

/-- the digits of n -/
def dec (n : Nat) : List Nat := if n < 10 then [48 + n] else dec (n / 10) ++ [48 + n % 10]
termination_by n
decreasing_by omega
theorem dec_low {n : Nat} (h : n < 10) : dec n = [48 + n] := by rw [dec, if_pos h]
theorem dec_high {n : Nat} (h : ¬ n < 10) : dec n = dec (n / 10) ++ [48 + n % 10] := by rw [dec, if_neg h]
theorem dec_digit (n : Nat) : ∀ c ∈ dec n, 48 ≤ c ∧ c ≤ 57 := by
  induction n using Nat.strongRecOn with
  | ind n ih =>
    by_cases h : n < 10
    · rw [dec_low h]; intro c hc; simp at hc; omega
    · rw [dec_high h]; intro c hc
      rcases List.mem_append.1 hc with hc | hc
      · exact ih _ (by omega) c hc
      · simp at hc; omega
theorem dec_ne (n : Nat) : dec n ≠ [] := by
  by_cases h : n < 10
  · rw [dec_low h]; simp
  · rw [dec_high h]; simp
theorem dv_low {c : Nat} (h1 : 48 ≤ c) (h2 : c ≤ 57) : dv c = c - 48 := by unfold dv; rw [if_neg (by omega)]; omega
theorem val_dec (n : Nat) : val 10 (dec n) = n := by
  induction n using Nat.strongRecOn with
  | ind n ih =>
    by_cases h : n < 10
    · rw [dec_low h, show [48 + n] = [] ++ [48 + n] from rfl, val_snoc, dv_low (by omega) (by omega)]; show 0 * 10 + _ = _; omega
    · rw [dec_high h, val_snoc, ih _ (by omega), dv_low (by omega) (by omega)]; omega
theorem dec_length (k : Nat) : ∀ n, n < 10 ^ (k + 1) → (dec n).length ≤ k + 1 := by
  induction k with
  | zero => intro n h; rw [dec_low (by simpa using h)]; simp
  | succ k ih =>
    intro n h
    by_cases h10 : n < 10
    · rw [dec_low h10]; simp
    · rw [dec_high h10]
      have := ih (n / 10) (by rw [Nat.pow_succ] at h; omega)
      simp; omega
theorem dec_two {n : Nat} (h : ¬ n < 10) : 2 ≤ (dec n).length := by
  rw [dec_high h]
  have := List.length_pos_iff.2 (dec_ne (n / 10))
  simp; omega

/-- the text of a number with a sign -/
def put (n : Int) : List Nat := if n < 0 then 45 :: dec n.natAbs else dec n.natAbs
theorem put_neg {n : Int} (h : n < 0) : put n = 45 :: dec n.natAbs := if_pos h
theorem put_pos {n : Int} (h : ¬ n < 0) : put n = dec n.natAbs := if_neg h
theorem put_byte (n : Int) : ∀ c ∈ put n, c < 256 := by
  intro c hc
  unfold put at hc
  split at hc
  · rcases List.mem_cons.1 hc with rfl | hc
    · omega
    · have := dec_digit _ c hc; omega
  · have := dec_digit _ c hc; omega
theorem put_ne (n : Int) : put n ≠ [] := by
  unfold put; split
  · simp
  · exact dec_ne _
theorem put_length {n : Int} (h1 : -9223372036854775808 ≤ n) (h2 : n ≤ 9223372036854775807) : (put n).length ≤ 20 := by
  have := dec_length 18 n.natAbs (by have : (10 : Nat) ^ (18 + 1) = 10000000000000000000 := by decide
                                     omega)
  unfold put; split
  · simp; omega
  · omega

/-- int64 -/
def In (n : Int) : Prop := -9223372036854775808 ≤ n ∧ n ≤ 9223372036854775807
def w64 (n : Int) : Int := (n + 9223372036854775808) % 18446744073709551616 - 9223372036854775808
theorem w64_in (n : Int) : In (w64 n) := by unfold In w64; omega
theorem w64_self {n : Int} (h : In n) : w64 n = n := by unfold In at h; unfold w64; omega

/-- the number whose text a text is, as the document has it -/
noncomputable def get (l : List Nat) : Int × Nat :=
  open Classical in if l = [] then (0, 2) else if h : ∃ n, In n ∧ put n = l then (Classical.choose h, 0) else (0, 3)

/-- what is read without looking -/
def gv (l : List Nat) : Int := if l.head? = some 45 then w64 (- w64 (num 10 l.tail)) else w64 (num 10 l)
theorem gv_put {n : Int} (h : In n) : gv (put n) = n := by
  unfold In at h
  by_cases hn : n < 0
  · rw [put_neg hn]
    unfold gv
    rw [if_pos (show (45 :: dec n.natAbs).head? = some 45 from rfl), List.tail_cons, num_val, val_dec]
    unfold w64; omega
  · rw [put_pos hn]
    unfold gv
    have : (dec n.natAbs).head? ≠ some 45 := by
      intro e
      have := dec_digit n.natAbs 45 (List.mem_of_mem_head? e)
      omega
    rw [if_neg this, num_val, val_dec]
    unfold w64; omega
theorem put_inj {n m : Int} (hn : In n) (hm : In m) (h : put n = put m) : n = m := by rw [← gv_put hn, ← gv_put hm, h]
theorem gv_in (l : List Nat) : In (gv l) := by unfold gv; split <;> exact w64_in _
theorem get_nil : get [] = (0, 2) := if_pos rfl
theorem get_of {n : Int} {l : List Nat} (hn : In n) (h : put n = l) : get l = (n, 0) := by
  have hl : l ≠ [] := by rw [← h]; exact put_ne n
  have hx : ∃ n, In n ∧ put n = l := ⟨n, hn, h⟩
  have hc := Classical.choose_spec hx
  unfold get
  rw [if_neg hl, dif_pos hx, put_inj hc.1 hn (hc.2.trans h.symm)]
theorem get_none {l : List Nat} (hl : l ≠ []) (h : ∀ n, In n → put n ≠ l) : get l = (0, 3) := by
  unfold get
  rw [if_neg hl, dif_neg (fun ⟨n, h1, h2⟩ => h n h1 h2)]
/-- whoever reads each text of a number as that number, and looks whether the text is that one's -/
theorem get_by (v : List Nat → Int) (hv : ∀ l, In (v l)) (h : ∀ n, In n → v (put n) = n) {l : List Nat} (hl : l ≠ []) : get l = if put (v l) = l then (v l, 0) else (0, 3) := by
  by_cases e : put (v l) = l
  · rw [if_pos e]; exact get_of (hv l) e
  · rw [if_neg e]
    refine get_none hl fun n hn en => e ?_
    rw [← en, h n hn]
theorem get_code {l : List Nat} (hl : l ≠ []) : get l = if put (gv l) = l then (gv l, 0) else (0, 3) := get_by gv gv_in (fun _ => gv_put) hl
theorem get_put {n : Int} (h : In n) : get (put n) = (n, 0) := get_of h rfl
theorem get_cases (l : List Nat) : ((get l).2 = 0 ∧ In (get l).1 ∧ put (get l).1 = l) ∨ ((get l).2 = 2 ∧ (get l).1 = 0) ∨ ((get l).2 = 3 ∧ (get l).1 = 0) := by
  by_cases hl : l = []
  · rw [hl, get_nil]; exact .inr (.inl ⟨rfl, rfl⟩)
  · rw [get_code hl]
    split
    · rename_i h; exact .inl ⟨rfl, gv_in l, h⟩
    · exact .inr (.inr ⟨rfl, rfl⟩)

/-- read below 0, digit by digit -/
def rn (l : List Nat) : Int := l.foldl (fun (n : Int) (c : Nat) => w64 (n * 10 - ((c : Int) - 48))) 0
theorem rn_snoc (l : List Nat) (c : Nat) : rn (l ++ [c]) = w64 (rn l * 10 - ((c : Int) - 48)) := foldl_snoc (fun (n : Int) (c : Nat) => w64 (n * 10 - ((c : Int) - 48))) _ _ _
theorem rn_in (l : List Nat) : In (rn l) := by
  induction l using snoc_ind with
  | h0 => unfold In; show -9223372036854775808 ≤ (0 : Int) ∧ (0 : Int) ≤ _; omega
  | h1 l c ih => rw [rn_snoc]; exact w64_in _
theorem rn_val {l : List Nat} (h : ∀ c ∈ l, 48 ≤ c ∧ c ≤ 57) : rn l = w64 (-(val 10 l : Int)) := by
  induction l using snoc_ind with
  | h0 => rfl
  | h1 l c ih =>
    have hc := h c (by simp)
    rw [rn_snoc, val_snoc, ih (fun c hc => h c (by simp [hc])), dv_low hc.1 hc.2]
    generalize val 10 l = v
    unfold w64; omega
/-- what the reference reads: behind a minus that isn't all, or not -/
def rv (l : List Nat) : Int := if l.head? = some 45 then rn l.tail else w64 (- rn l)
theorem rv_in (l : List Nat) : In (rv l) := by unfold rv; split; exact rn_in _; exact w64_in _
theorem rv_put {n : Int} (h : In n) : rv (put n) = n := by
  unfold In at h
  by_cases hn : n < 0
  · rw [put_neg hn]
    unfold rv
    rw [if_pos (show (45 :: dec n.natAbs).head? = some 45 from rfl), List.tail_cons, rn_val (dec_digit _), val_dec]
    unfold w64; omega
  · rw [put_pos hn]
    unfold rv
    have : (dec n.natAbs).head? ≠ some 45 := by
      intro e
      have := dec_digit n.natAbs 45 (List.mem_of_mem_head? e)
      omega
    rw [if_neg this, rn_val (dec_digit _), val_dec]
    unfold w64; omega
theorem get_ref {l : List Nat} (hl : l ≠ []) : get l = if put (rv l) = l then (rv l, 0) else (0, 3) := get_by rv rv_in (fun _ => rv_put) hl
/-- a byte that no text of a number has there -/
theorem get_bad {l : List Nat} {j : Nat} (hj : j < l.length) (h : ¬ (48 ≤ l.getD j 0 ∧ l.getD j 0 ≤ 57 ∧ j ≤ 20)) (h45 : ¬ (l.getD j 0 = 45 ∧ j = 0 ∧ 1 < l.length)) : get l = (0, 3) := by
  refine get_none (by rintro rfl; simp at hj) fun n hn e => ?_
  have hle := put_length hn.1 hn.2
  rw [e] at hle
  have hm : l.getD j 0 ∈ l := by simp [List.getD, List.getElem?_eq_getElem hj]
  have key : (l = 45 :: dec n.natAbs) ∨ l = dec n.natAbs := by
    rw [← e]; unfold put; split; exact .inl rfl; exact .inr rfl
  rcases key with key | key
  · cases j with
    | zero =>
      refine h45 ⟨by rw [key]; rfl, rfl, ?_⟩
      rw [key]
      have := List.length_pos_iff.2 (dec_ne n.natAbs)
      simp; omega
    | succ j =>
      have : l.getD (j + 1) 0 ∈ dec n.natAbs := by
        rw [key] at hj ⊢
        have hj' : j < (dec n.natAbs).length := by simpa using hj
        simp [List.getD, List.getElem?_eq_getElem hj']
      have := dec_digit _ _ this
      omega
  · have hm' : l.getD j 0 ∈ dec n.natAbs := key ▸ hm
    have := dec_digit _ _ hm'
    omega

/-- what the reference has read behind i bytes -/
def rr (l : List Nat) (i : Nat) : Int := if l.head? = some 45 then rn (l.take i).tail else rn (l.take i)
theorem rr_zero (l : List Nat) : rr l 0 = 0 := by unfold rr; split <;> rfl
theorem rr_in (l : List Nat) (i : Nat) : In (rr l i) := by unfold rr; split <;> exact rn_in _
theorem rr_skip {l : List Nat} (h : l.head? = some 45) : rr l 1 = 0 := by
  unfold rr; rw [if_pos h]
  cases l with
  | nil => rfl
  | cons a t => rfl
theorem rr_next {l : List Nat} {i : Nat} (hi : i < l.length) (h : l.getD i 0 ≠ 45) {a b : Int} (ha : w64 (rr l i * 10) = a) (hb : w64 (a - ((l.getD i 0 : Int) - 48)) = b) : b = rr l (i + 1) := by
  have e : ∀ x y : Int, w64 (w64 (x * 10) - y) = w64 (x * 10 - y) := fun x y => by unfold w64; omega
  rw [← hb, ← ha, e]
  unfold rr
  split
  · rename_i h45
    cases l with
    | nil => simp at hi
    | cons y t =>
      cases i with
      | zero => simp at h45; subst h45; exact absurd rfl h
      | succ i =>
        simp only [List.take_succ_cons, List.tail_cons, List.getD_cons_succ]
        rw [take_next (by simpa using hi), rn_snoc]
  · rw [take_next hi, rn_snoc]
theorem rr_all (l : List Nat) : rv l = if l.head? = some 45 then rr l l.length else w64 (- rr l l.length) := by
  unfold rv rr
  rw [List.take_length]
  split
  · rfl
  · rfl

/-! ### hexadecimal -/

/-- the last k digits of u -/
def hx : Nat → Nat → List Nat
  | 0, _ => []
  | k + 1, u => hx k (u / 16) ++ [dig (u % 16)]
theorem hx_zero (u : Nat) : hx 0 u = [] := rfl
theorem hx_succ (k u : Nat) : hx (k + 1) u = hx k (u / 16) ++ [dig (u % 16)] := rfl
theorem hx_length (k : Nat) : ∀ u, (hx k u).length = k := by
  induction k with
  | zero => intro u; rfl
  | succ k ih => intro u; rw [hx_succ, List.length_append, ih]; rfl
theorem hx_byte (k : Nat) : ∀ u, ∀ c ∈ hx k u, c < 256 := by
  induction k with
  | zero => intro u c hc; cases hc
  | succ k ih =>
    intro u c hc
    rw [hx_succ] at hc
    rcases List.mem_append.1 hc with hc | hc
    · exact ih _ c hc
    · have := dig_lt (show u % 16 < 16 by omega)
      simp at hc; omega
theorem val_hx (k : Nat) : ∀ u, u < 16 ^ k → val 16 (hx k u) = u := by
  induction k with
  | zero => intro u h; have : u = 0 := by simpa using h
            subst this; rfl
  | succ k ih =>
    intro u h
    rw [hx_succ, val_snoc, ih (u / 16) (by rw [Nat.pow_succ] at h; omega), dv_dig (by omega)]
    omega
def hex (u : Nat) : List Nat := hx 16 u
theorem num_hex {u : Nat} (h : u < 18446744073709551616) : num 16 (hex u) = u := by
  rw [num_val]; unfold hex; rw [val_hx 16 u (by have : (16 : Nat) ^ 16 = 18446744073709551616 := by decide
                                                omega)]
  omega
theorem hex_inj {u v : Nat} (hu : u < 18446744073709551616) (hv : v < 18446744073709551616) (h : hex u = hex v) : u = v := by rw [← num_hex hu, ← num_hex hv, h]
theorem hex_length (u : Nat) : (hex u).length = 16 := hx_length 16 u
theorem hex_byte (u : Nat) : ∀ c ∈ hex u, c < 256 := hx_byte 16 u

noncomputable def unhex (l : List Nat) : Nat × Nat :=
  open Classical in if h : ∃ u, u < 18446744073709551616 ∧ hex u = l then (Classical.choose h, 0) else (0, 3)
theorem unhex_of {u : Nat} {l : List Nat} (hu : u < 18446744073709551616) (h : hex u = l) : unhex l = (u, 0) := by
  have hx : ∃ u, u < 18446744073709551616 ∧ hex u = l := ⟨u, hu, h⟩
  have hc := Classical.choose_spec hx
  unfold unhex
  rw [dif_pos hx, hex_inj hc.1 hu (hc.2.trans h.symm)]
theorem unhex_none {l : List Nat} (h : ∀ u, u < 18446744073709551616 → hex u ≠ l) : unhex l = (0, 3) := by
  unfold unhex
  rw [dif_neg (fun ⟨n, h1, h2⟩ => h n h1 h2)]
theorem unhex_code (l : List Nat) : unhex l = if hex (num 16 l) = l then (num 16 l, 0) else (0, 3) := by
  by_cases e : hex (num 16 l) = l
  · rw [if_pos e]; exact unhex_of (num_lt _ _) e
  · rw [if_neg e]
    refine unhex_none fun u hu eu => e ?_
    rw [← eu, num_hex hu]
theorem unhex_hex {u : Nat} (h : u < 18446744073709551616) : unhex (hex u) = (u, 0) := unhex_of h rfl
theorem unhex_cases (l : List Nat) : ((unhex l).2 = 0 ∧ (unhex l).1 < 18446744073709551616 ∧ hex (unhex l).1 = l) ∨ ((unhex l).2 = 3 ∧ (unhex l).1 = 0) := by
  rw [unhex_code]
  split
  · rename_i h; exact .inl ⟨rfl, num_lt _ _, h⟩
  · exact .inr ⟨rfl, rfl⟩

/-! ### bytes -/

def pair (c : Nat) : List Nat := [dig (c / 16), dig (c % 16)]
theorem pair_length (c : Nat) : (pair c).length = 2 := rfl
theorem pair_byte {c : Nat} (h : c < 256) : ∀ x ∈ pair c, x < 256 := by
  intro x hx
  have h1 := dig_lt (show c / 16 < 16 by omega)
  have h2 := dig_lt (show c % 16 < 16 by omega)
  simp [pair] at hx
  omega
theorem num_pair {c : Nat} (h : c < 256) : num 16 (pair c) = c := by
  show ((0 * 16 + dv (dig (c / 16))) % 18446744073709551616 * 16 + dv (dig (c % 16))) % 18446744073709551616 = c
  rw [dv_dig (by omega), dv_dig (by omega)]; omega
theorem pair_inj {a b : Nat} (ha : a < 256) (hb : b < 256) (h : pair a = pair b) : a = b := by rw [← num_pair ha, ← num_pair hb, h]

def flat (b : List Nat) : List Nat := (b.map pair).flatten
theorem flat_nil : flat [] = [] := rfl
theorem flat_cons (x : Nat) (b : List Nat) : flat (x :: b) = pair x ++ flat b := rfl
theorem flat_append (a b : List Nat) : flat (a ++ b) = flat a ++ flat b := by simp [flat]
theorem flat_snoc (a : List Nat) (x : Nat) : flat (a ++ [x]) = flat a ++ pair x := by rw [flat_append]; simp [flat]
theorem flat_length (b : List Nat) : (flat b).length = 2 * b.length := by
  induction b with
  | nil => rfl
  | cons x b ih => rw [flat_cons, List.length_append, ih, pair_length, List.length_cons]; omega
theorem flat_byte {b : List Nat} (h : ∀ x ∈ b, x < 256) : ∀ x ∈ flat b, x < 256 := by
  induction b with
  | nil => intro x hx; cases hx
  | cons y b ih =>
    intro x hx
    rcases List.mem_append.1 hx with hx | hx
    · exact pair_byte (h y (by simp)) x hx
    · exact ih (fun z hz => h z (by simp [hz])) x hx
theorem flat_inj : ∀ {a b : List Nat}, (∀ x ∈ a, x < 256) → (∀ x ∈ b, x < 256) → flat a = flat b → a = b
  | [], [], _, _, _ => rfl
  | [], y :: b, _, _, h => by have := congrArg List.length h; rw [flat_length, flat_length] at this; simp at this
  | x :: a, [], _, _, h => by have := congrArg List.length h; rw [flat_length, flat_length] at this; simp at this
  | x :: a, y :: b, ha, hb, h => by
    rw [flat_cons, flat_cons] at h
    have h1 := List.append_inj h rfl
    rw [pair_inj (ha x (by simp)) (hb y (by simp)) h1.1, flat_inj (fun z hz => ha z (by simp [hz])) (fun z hz => hb z (by simp [hz])) h1.2]
theorem flat_ne_dash (b : List Nat) : flat b ≠ [45] := by
  intro e
  have := congrArg List.length e
  rw [flat_length, List.length_singleton] at this
  omega
def bytes (b : List Nat) : List Nat := if b = [] then [45] else flat b
theorem bytes_nil : bytes [] = [45] := rfl
theorem bytes_ne {b : List Nat} (h : b ≠ []) : bytes b = flat b := if_neg h
theorem bytes_inj {a b : List Nat} (ha : ∀ x ∈ a, x < 256) (hb : ∀ x ∈ b, x < 256) (h : bytes a = bytes b) : a = b := by
  by_cases h1 : a = []
  · by_cases h2 : b = []
    · rw [h1, h2]
    · rw [h1, bytes_nil, bytes_ne h2] at h; exact absurd h.symm (flat_ne_dash b)
  · by_cases h2 : b = []
    · rw [h2, bytes_nil, bytes_ne h1] at h; exact absurd h (flat_ne_dash a)
    · rw [bytes_ne h1, bytes_ne h2] at h; exact flat_inj ha hb h
theorem bytes_byte {b : List Nat} (h : ∀ x ∈ b, x < 256) : ∀ x ∈ bytes b, x < 256 := by
  unfold bytes; split
  · intro x hx; simp at hx; omega
  · exact flat_byte h
theorem bytes_length (b : List Nat) : (bytes b).length ≤ 2 * b.length + 1 := by
  unfold bytes; split
  · simp
  · rw [flat_length]; omega

noncomputable def unbytes (l : List Nat) : List Nat × Nat :=
  open Classical in if h : ∃ b, (∀ x ∈ b, x < 256) ∧ bytes b = l then (Classical.choose h, 0) else ([], 3)
theorem unbytes_of {b l : List Nat} (hb : ∀ x ∈ b, x < 256) (h : bytes b = l) : unbytes l = (b, 0) := by
  have hx : ∃ b, (∀ x ∈ b, x < 256) ∧ bytes b = l := ⟨b, hb, h⟩
  have hc := Classical.choose_spec hx
  unfold unbytes
  rw [dif_pos hx, bytes_inj hc.1 hb (hc.2.trans h.symm)]
theorem unbytes_none {l : List Nat} (h : ∀ b, (∀ x ∈ b, x < 256) → bytes b ≠ l) : unbytes l = ([], 3) := by
  unfold unbytes
  rw [dif_neg (fun ⟨n, h1, h2⟩ => h n h1 h2)]
theorem unbytes_bytes {b : List Nat} (h : ∀ x ∈ b, x < 256) : unbytes (bytes b) = (b, 0) := unbytes_of h rfl
theorem unbytes_cases (l : List Nat) : ((unbytes l).2 = 0 ∧ (∀ x ∈ (unbytes l).1, x < 256) ∧ bytes (unbytes l).1 = l) ∨ ((unbytes l).2 = 3 ∧ (unbytes l).1 = []) := by
  by_cases h : ∃ b, (∀ x ∈ b, x < 256) ∧ bytes b = l
  · obtain ⟨b, h1, h2⟩ := h
    rw [unbytes_of h1 h2]; exact .inl ⟨rfl, h1, h2⟩
  · rw [unbytes_none (fun b h1 h2 => h ⟨b, h1, h2⟩)]; exact .inr ⟨rfl, rfl⟩
theorem unbytes_length (l : List Nat) : 2 * (unbytes l).1.length ≤ l.length := by
  rcases unbytes_cases l with ⟨_, _, h⟩ | ⟨_, h⟩
  · by_cases e : (unbytes l).1 = []
    · rw [e]; simp
    · rw [bytes_ne e] at h
      have := congrArg List.length h
      rw [flat_length] at this; omega
  · rw [h]; simp

/-- the code's way: pair by pair, without looking -/
def ub (l : List Nat) (k : Nat) : List Nat := (List.range k).map fun i => num 16 ((l.drop (2 * i)).take 2) % 256
theorem ub_length (l : List Nat) (k : Nat) : (ub l k).length = k := by simp [ub]
theorem ub_byte (l : List Nat) (k : Nat) : ∀ x ∈ ub l k, x < 256 := by
  intro x hx
  simp only [ub, List.mem_map] at hx
  obtain ⟨i, _, rfl⟩ := hx
  exact Nat.mod_lt _ (by omega)
theorem ub_get (l : List Nat) (k i : Nat) (h : i < k) : (ub l k).getD i 0 = num 16 ((l.drop (2 * i)).take 2) % 256 := by
  simp [ub, List.getD, List.getElem?_range h]
theorem ub_flat {b : List Nat} (h : ∀ x ∈ b, x < 256) : ub (flat b) b.length = b := by
  refine List.ext_getElem (ub_length _ _) fun i h1 h2 => ?_
  have hp : ∀ (b : List Nat) (i : Nat) (h : i < b.length), ((flat b).drop (2 * i)).take 2 = pair b[i] := by
    intro b
    induction b with
    | nil => intro i h; cases h
    | cons x b ih =>
      intro i h
      cases i with
      | zero => rfl
      | succ i =>
        rw [flat_cons, show 2 * (i + 1) = (pair x).length + 2 * i by rw [pair_length]; omega, List.drop_append, List.drop_eq_nil_of_le (by omega), List.nil_append, Nat.add_sub_cancel_left, ih i (by simpa using h)]
        rfl
  have hi := h _ (List.getElem_mem h2)
  simp only [ub, List.getElem_map, List.getElem_range]
  rw [hp b i h2, num_pair hi]
  omega
theorem unbytes_code (l : List Nat) : unbytes l = if bytes (ub l (l.length / 2)) = l then (ub l (l.length / 2), 0) else ([], 3) := by
  by_cases e : bytes (ub l (l.length / 2)) = l
  · rw [if_pos e]; exact unbytes_of (ub_byte _ _) e
  · rw [if_neg e]
    refine unbytes_none fun b hb eb => e ?_
    by_cases hn : b = []
    · subst hn
      rw [← eb]; rfl
    · rw [bytes_ne hn] at eb
      have hlen : l.length / 2 = b.length := by rw [← eb, flat_length]; omega
      rw [hlen]
      rw [← eb, ub_flat hb, bytes_ne hn]

/-! ### the reference's bytes -/
theorem hx_two (k u : Nat) : hx (k + 2) u = hx k (u / 256) ++ pair (u % 256) := by
  rw [hx_succ, hx_succ, List.append_assoc, Nat.div_div_eq_div_mul]
  unfold pair
  rw [show u / 16 % 16 = u % 256 / 16 by omega, show u % 16 = u % 256 % 16 by omega]
  rfl
/-- k bytes of u, the greatest first -/
def be : Nat → Nat → List Nat
  | 0, _ => []
  | k + 1, u => be k (u / 256) ++ [u % 256]
theorem be_length (k : Nat) : ∀ u, (be k u).length = k := by
  induction k with
  | zero => intro u; rfl
  | succ k ih => intro u; simp [be, ih]
theorem be_byte (k : Nat) : ∀ u, ∀ x ∈ be k u, x < 256 := by
  induction k with
  | zero => intro u x hx; cases hx
  | succ k ih =>
    intro u x hx
    rcases List.mem_append.1 hx with hx | hx
    · exact ih _ x hx
    · simp at hx; omega
theorem flat_be (k : Nat) : ∀ u, flat (be k u) = hx (2 * k) u := by
  induction k with
  | zero => intro u; rfl
  | succ k ih =>
    intro u
    show flat (be k (u / 256) ++ [u % 256]) = _
    rw [flat_snoc, ih, show 2 * (k + 1) = 2 * k + 2 by omega, hx_two]
def joined (b : List Nat) : Nat := b.foldl (fun n c => n * 256 + c) 0
theorem joined_snoc (b : List Nat) (x : Nat) : joined (b ++ [x]) = joined b * 256 + x := foldl_snoc _ _ _ _
theorem joined_hx {b : List Nat} (h : ∀ x ∈ b, x < 256) : hx (2 * b.length) (joined b) = flat b := by
  induction b using snoc_ind with
  | h0 => rfl
  | h1 b x ih =>
    have hx' := h x (by simp)
    rw [List.length_append, List.length_singleton, show 2 * (b.length + 1) = 2 * b.length + 2 by omega, hx_two, joined_snoc, flat_snoc, show (joined b * 256 + x) / 256 = joined b by omega, show (joined b * 256 + x) % 256 = x by omega, ih (fun y hy => h y (by simp [hy]))]
theorem joined_lt {b : List Nat} (h : ∀ x ∈ b, x < 256) : joined b < 256 ^ b.length := by
  induction b using snoc_ind with
  | h0 => decide
  | h1 b x ih =>
    have hx' := h x (by simp)
    have := ih (fun y hy => h y (by simp [hy]))
    rw [joined_snoc, List.length_append, List.length_singleton, Nat.pow_succ]
    omega
theorem joined_next {b : List Nat} {j : Nat} (h : j < b.length) : joined (b.take (j + 1)) = joined (b.take j) * 256 + b.getD j 0 := by rw [take_next h, joined_snoc]
theorem unhex_ref (l : List Nat) : unhex l = if (unbytes l).2 = 0 ∧ (unbytes l).1.length = 8 then (joined (unbytes l).1, 0) else (0, 3) := by
  split
  · rename_i h
    rcases unbytes_cases l with ⟨_, h1, h2⟩ | ⟨h1, _⟩
    · have hn : (unbytes l).1 ≠ [] := by intro e; rw [e] at h; simp at h
      rw [bytes_ne hn] at h2
      have hj := joined_hx h1
      have hl := joined_lt h1
      rw [h.2] at hj hl
      generalize joined (unbytes l).1 = u at *
      have e : (256 : Nat) ^ 8 = 18446744073709551616 := by decide
      rw [e] at hl
      refine unhex_of hl ?_
      rw [← h2, ← hj]
      unfold hex
      rfl
    · omega
  · rename_i h
    refine unhex_none fun u hu e => h ?_
    have hb : bytes (be 8 u) = l := by
      rw [bytes_ne (by intro e; have := be_length 8 u; rw [e] at this; cases this), flat_be 8 u, ← e]; rfl
    rw [unbytes_of (be_byte 8 u) hb]
    exact ⟨rfl, be_length 8 u⟩
/-- a beginning of a text that goes on with what is no pair -/
theorem unbytes_bad {l b : List Nat} (hb : ∀ x ∈ b, x < 256) (hl : flat b = l.take (2 * b.length)) (hlt : 2 * b.length < l.length) (h45 : l ≠ [45]) (h : ∀ c, c < 256 → pair c ≠ (l.drop (2 * b.length)).take 2) : unbytes l = ([], 3) := by
  refine unbytes_none fun d hd e => ?_
  by_cases hn : d = []
  · subst hn; exact h45 e.symm
  · rw [bytes_ne hn] at e
    have hbd : b.length < d.length := by
      have := congrArg List.length e
      rw [flat_length] at this; omega
    have e1 : d = d.take b.length ++ d.drop b.length := (List.take_append_drop _ _).symm
    have hdr : d.drop b.length = d[b.length] :: d.drop (b.length + 1) := List.drop_eq_getElem_cons hbd
    refine h d[b.length] (hd _ (List.getElem_mem hbd)) ?_
    have e2 : l.drop (2 * b.length) = flat (d.drop b.length) := by
      conv => lhs; rw [← e, e1, flat_append]
      rw [List.drop_append, List.drop_eq_nil_of_le (by rw [flat_length, List.length_take]; omega), List.nil_append, flat_length, List.length_take, show 2 * b.length - 2 * min b.length d.length = 0 by omega, List.drop_zero]
    rw [e2, hdr, flat_cons]
    rfl
theorem unbytes_empty : unbytes [] = ([], 3) := by
  refine unbytes_none fun b hb e => ?_
  have h := congrArg List.length e
  unfold bytes at h
  split at h
  · simp at h
  · rename_i hn
    rw [flat_length] at h
    exact hn (List.eq_nil_of_length_eq_zero (by simp at h; omega))
theorem unbytes_dash : unbytes [45] = ([], 0) := unbytes_of (by simp) rfl
theorem unbytes_flat {b l : List Nat} (hb : ∀ x ∈ b, x < 256) (hn : b ≠ []) (h : flat b = l) : unbytes l = (b, 0) := unbytes_of hb (by rw [bytes_ne hn, h])
end Go.Proofs.YtocgoibohfjgjaaDoor.Nm
/- Contracts of num.digitValue, number, Put, Get, Hex, Unhex. -/
namespace Go.Proofs.YtocgoibohfjgjaaDoor
open Go.RowKit
set_option linter.unusedVariables false

/-- the digits, one by one and cut out -/
theorem digs_at (n : Nat) (h : n < (⟨#[48, 49, 50, 51, 52, 53, 54, 55, 56, 57, 97, 98, 99, 100, 101, 102]⟩ : ByteArray).size) : ((⟨#[48, 49, 50, 51, 52, 53, 54, 55, 56, 57, 97, 98, 99, 100, 101, 102]⟩ : ByteArray)[n]'h).toNat = Nm.dig n := by
  have h' : n < 16 := h
  have : n = 0 ∨ n = 1 ∨ n = 2 ∨ n = 3 ∨ n = 4 ∨ n = 5 ∨ n = 6 ∨ n = 7 ∨ n = 8 ∨ n = 9 ∨ n = 10 ∨ n = 11 ∨ n = 12 ∨ n = 13 ∨ n = 14 ∨ n = 15 := by omega
  rcases this with rfl | rfl | rfl | rfl | rfl | rfl | rfl | rfl | rfl | rfl | rfl | rfl | rfl | rfl | rfl | rfl <;> rfl
theorem digs_cut (n : Nat) (h : n < 16) : (⟨#[48, 49, 50, 51, 52, 53, 54, 55, 56, 57, 97, 98, 99, 100, 101, 102]⟩ : ByteArray).extract n (n + 1) = strOf [Nm.dig n] := by
  have : n = 0 ∨ n = 1 ∨ n = 2 ∨ n = 3 ∨ n = 4 ∨ n = 5 ∨ n = 6 ∨ n = 7 ∨ n = 8 ∨ n = 9 ∨ n = 10 ∨ n = 11 ∨ n = 12 ∨ n = 13 ∨ n = 14 ∨ n = 15 := by omega
  rcases this with rfl | rfl | rfl | rfl | rfl | rfl | rfl | rfl | rfl | rfl | rfl | rfl | rfl | rfl | rfl | rfl <;> decide +kernel

/-- an array in block g of n cells, the last of which hold acc -/
def Back (w : World) (g t n : Nat) (acc : List Nat) : Prop := ∃ c, Whole w g t c ∧ c.size = n ∧ acc.length ≤ n ∧ ∀ i, i < acc.length → c[n - acc.length + i]? = some (.int .u8 ((acc.getD i 0 : Nat) : Int))
section
variable {w w' : World} {g t n : Nat} {acc : List Nat}
theorem Back.start {c : Array Value} (h : Whole w g t c) (hc : c.size = n) : Back w g t n [] := ⟨c, h, hc, by simp, fun _ h => by simp at h⟩
theorem Back.lt (h : Back w g t n acc) : g < w.heap.size := by obtain ⟨c, h1, _⟩ := h; exact h1.lt
theorem Back.cell (h : Back w g t n acc) (i : Nat) (hi : i < n) : (∃ u, w.cell? ⟨g, i, none⟩ = some u) ∧ w.frozen? ⟨g, i, none⟩ = false := by
  obtain ⟨c, h1, h2, _⟩ := h
  exact ⟨⟨c[i], by rw [h1.at_]; exact Array.getElem?_eq_getElem (by omega)⟩, h1.free i⟩
theorem Back.next (h : Back w g t n acc) {i x : Nat} {y : Int} (hi : i + acc.length + 1 = n) (hy : y = (x : Int)) : Back (w.setCell ⟨g, i, none⟩ (.int .u8 y)) g t n (x :: acc) := by
  obtain ⟨c, h1, h2, h3, h4⟩ := h
  subst hy
  refine ⟨_, h1.put i _, by simpa using h2, by simp; omega, fun j hj => ?_⟩
  rw [List.length_cons] at hj ⊢
  rw [Array.getElem?_setIfInBounds]
  cases j with
  | zero =>
    rw [if_pos (by omega), if_pos (by omega)]
    rfl
  | succ j =>
    rw [if_neg (by omega), show n - (acc.length + 1) + (j + 1) = n - acc.length + j by omega, h4 j (by omega)]
    rfl
theorem Back.sees (h : Back w g t n acc) {i : Nat} (hi : i + acc.length = n) : Sees .u8 w (g + 1) (some ⟨g, i, none⟩) acc := by
  obtain ⟨c, h1, h2, h3, h4⟩ := h
  intro _
  refine ⟨g, i, rfl, by omega, fun j hj => ?_⟩
  rw [h1.at_, ← h4 j hj]
  congr 1
  omega
end

theorem cut20 (g f : Nat) (hf : f < 20) (W : World) : (Instr.sliceAt 53 (.pointer (some ⟨g, 0, none⟩)) (some (.int .i64 (f : Int))) none none).run Tryd.prog W = .ok (.slice (some ⟨g, f, none⟩) (20 - f) (20 - f)) W := by
  have hl : Tryd.prog.arrayLen 53 = 20 := by kernel_rfl
  have he : Tryd.prog.elem 53 = 5 := by kernel_rfl
  rw [run_sliceAt_array_l W 53 _ (by kernel_rfl) .i64 f (by omega) (by rw [hl]; omega), hl, he]
  have hs : (sizeOf 5).run Tryd.prog W = .ok 1 W := by
    go_simp
  rw [hs]
  simp [slicedAt, Addr.add, show ¬ 20 = f by omega]
  exact fun h => h.symm
set_option maxRecDepth 100000 in
theorem nd_any (c : Nat) (hc : c < 256) (w : World) :
    Calls Tryd.prog 36 #[.int .u8 (c : Int)] w fun e w' => e = .returned (.int .u64 (Nm.dv c : Int)) ∧ w' = w := by
  by_cases h : 97 ≤ c
  · have e : Nm.dv c = c - 97 + 10 := if_pos h
    have hd : ((c - 97 + 10 : Nat) : Int) = (c : Int) - 97 + 10 := by omega
    rw [e, hd]
    clear e hd
    go_enter Tryd.func36, Tryd.ntmps36
    go_wp2_with fail
    go_ret
    exact ⟨rfl, rfl⟩
  · have e : Nm.dv c = (c + 208) % 256 := if_neg h
    have hd : ((c : Int) - 48) % 256 = (((c + 208) % 256 : Nat) : Int) := by omega
    rw [e]
    clear e
    obtain ⟨d, Hd⟩ : ∃ d, Hid ((c + 208) % 256 = d) := ⟨_, rfl⟩
    rw [Hd.out] at hd ⊢
    have hd' : d < 256 := by have := Hd.out; omega
    go_enter Tryd.func36, Tryd.ntmps36
    go_wp2_with fail
    go_ret
    exact ⟨rfl, rfl⟩

set_option maxRecDepth 100000 in
set_option maxHeartbeats 400000 in
theorem number_any {s : ByteArray} {l : List Nat} (T : Txt s l) (b : Nat) (hb : b < 100) (hl : l.length ≤ 10000000000) (w : World) :
    Calls Tryd.prog 29 #[.string s, .int .u64 (b : Int)] w fun e w' => e = .returned (.int .u64 (Nm.num b l : Int)) ∧ w' = w := by
  have hsz := T.size
  go_enter Tryd.func29, Tryd.ntmps29
  go_wp2_with fail
  go_loop [5, 9] (fun r i => ∃ (j a : Nat), j ≤ l.length ∧ i = .int .i64 j ∧ r = .int .u64 a ∧ a < 18446744073709551616 ∧ Hid (a = Nm.num b (l.take j))) (fun _ i => l.length - (intOf i).toNat)
  case atStart => exact ⟨0, 0, by omega, rfl, rfl, by omega, Lib.hid rfl⟩
  case round =>
    obtain ⟨j, a, hj, rfl, rfl, ha, He⟩ := hrel
    by_cases hlt : j < l.length
    · obtain ⟨c, Hc⟩ : ∃ c, Hid (l.getD j 0 = c) := ⟨_, rfl⟩
      have hat : ∀ (h : j < s.size), (s[j]'h).toNat = c := fun h => by rw [← Hc.out]; exact T.at_ j h
      have hc := getD_lt T.byte j
      rw [Hc.out] at hc
      have Hn := Lib.hid (Nm.num_next b hlt)
      rw [Hc.out, ← He.out] at Hn
      obtain ⟨p, Hp⟩ : ∃ p, Hid (a * b % 18446744073709551616 = p) := ⟨_, rfl⟩
      have hp : IntKind.u64.wrap ((a : Int) * (b : Int)) = (p : Int) := by
        rw [IntKind.wrap_u64, ← Int.natCast_mul, ← Hp.out]; rfl
      have hpl : p < 18446744073709551616 := by rw [← Hp.out]; exact Nat.mod_lt _ (by omega)
      obtain ⟨d, Hd⟩ : ∃ d, Hid (Nm.dv c = d) := ⟨_, rfl⟩
      have hdl := Nm.dv_lt hc
      rw [Hd.out] at hdl Hn
      have C := Lib.hid (fun W => nd_any c hc W)
      rw [Hd.out] at C
      obtain ⟨q, Hq⟩ : ∃ q, Hid ((p + d) % 18446744073709551616 = q) := ⟨_, rfl⟩
      have hq : IntKind.u64.wrap ((p : Int) + (d : Int)) = (q : Int) := by
        rw [IntKind.wrap_u64, ← Hq.out]; omega
      have hql : q < 18446744073709551616 := by have := Hq.out; omega
      have Hnext : Hid (q = Nm.num b (l.take (j + 1))) := Lib.hid (by rw [Hn.out, ← Hq.out, ← Hp.out]; omega)
      go_wp2_with fail
      refine (C.out _).mono ?_
      rintro e w1 ⟨rfl, rfl⟩
      go_wp2_with fail
      go_round
      case rel => exact ⟨j + 1, q, by omega, by go_num, rfl, hql, Hnext⟩
      case measure => simp [intOf]; omega
    · go_wp2_with fail
      go_ret
      have hj' : j = l.length := by omega
      exact ⟨ret_int (by rw [He.out, hj', List.take_length]), rfl⟩

set_option maxRecDepth 100000 in
set_option maxHeartbeats 800000 in
theorem nput_any (n : Int) (h1 : -9223372036854775808 ≤ n) (h2 : n ≤ 9223372036854775807) (w : World) :
    Calls Tryd.prog 26 #[.int .i64 n] w fun e w' => e = .returned (.string (strOf (Nm.put n))) ∧ Below w.heap.size w w' := by
  obtain ⟨N, HN⟩ : ∃ N, Hid (n.natAbs = N) := ⟨_, rfl⟩
  obtain ⟨m, Hm⟩ : ∃ m : Nat, Hid (n % 18446744073709551616 = (m : Int)) := ⟨(n % 18446744073709551616).toNat, by show _ = _; omega⟩
  have hm : IntKind.u64.wrap n = (m : Int) := by rw [IntKind.wrap_u64]; exact Hm.out
  have hml : m < 18446744073709551616 := by have := Hm.out; omega
  have Hlen : Hid ((Nm.dec N).length ≤ 19) := Lib.hid (Nm.dec_length 18 N (by
    have : (10 : Nat) ^ (18 + 1) = 10000000000000000000 := by decide
    have := HN.out
    omega))
  have hNl : N < 18446744073709551616 := by have := HN.out; omega
  have hstart : ∀ W : World, Back (W.alloc (.cells (Array.replicate 20 (.int .u8 0)) 53)) W.heap.size 53 20 [] := fun W => Back.start (Whole.made _ _ _) (by simp)
  have Hstart := Lib.hid hstart
  clear hstart
  have hfew : ∀ (f r : Nat) (acc : List Nat), Hid (Nm.dec N = Nm.dec r ++ acc) → f + acc.length = 19 → (¬ r < 10 → 2 ≤ f) ∧ 1 ≤ f := fun f r acc h1 h2 => by
    have e := congrArg List.length h1.out
    rw [List.length_append] at e
    have hl := Hlen.out
    have h3 := List.length_pos_iff.2 (Nm.dec_ne r)
    exact ⟨fun hr => by have := Nm.dec_two hr; omega, by omega⟩
  have Hfew := Lib.hid hfew
  clear hfew
  have hdig := digs_at
  by_cases hn : n < 0
  · have hneg : IntKind.u64.wrap (-(m : Int)) = (N : Int) := by rw [IntKind.wrap_u64]; have := Hm.out; have := HN.out; omega
    have Hput : Hid (Nm.put n = 45 :: Nm.dec N) := Lib.hid (by rw [Nm.put_neg hn, HN.out])
    go_enter Tryd.func26, Tryd.ntmps26
    go_wp2_with fail
    go_loopw [3, 5] (fun v u wr => ∃ (r f : Nat) (acc : List Nat), v = .int .u64 r ∧ u = .int .i64 f ∧ r < 18446744073709551616 ∧ f + acc.length = 19 ∧ Hid (Nm.dec N = Nm.dec r ++ acc) ∧ Hid (Back wr w.heap.size 53 20 acc) ∧ Hid (Below w.heap.size w wr)) (fun v _ _ => (intOf v).toNat)
    case atStart => exact ⟨N, 19, [], rfl, rfl, hNl, rfl, Lib.hid (by rw [List.append_nil]), Lib.hid (Hstart.out w), Lib.hid ((Below.refl _ _).alloc (Nat.le_refl _) _)⟩
    case round =>
      obtain ⟨r, f, acc, rfl, rfl, hr, hf, HD, HB, HW⟩ := hrel
      obtain ⟨hf2, hf1⟩ := Hfew.out f r acc HD hf
      obtain ⟨⟨u, hcu⟩, hfu⟩ := HB.out.cell f (by omega)
      by_cases hr10 : r < 10
      · have HB' := Lib.hid (HB.out.next (i := f) (x := Nm.dig r) (by omega) rfl)
        have HD' : Hid (Nm.dec N = Nm.dig r :: acc) := Lib.hid (by
          rw [HD.out, Nm.dec_low hr10, Nm.dig_low (by omega)]; rfl)
        have hr16 : r < 16 := by omega
        have HW' := Lib.hid (HW.out.setCell (p := ⟨w.heap.size, f, none⟩) (Nat.le_refl _) (.int .u8 (Nm.dig r : Int)))
        obtain ⟨f', rfl⟩ : ∃ f', f = f' + 1 := ⟨f - 1, by omega⟩
        obtain ⟨⟨u2, hcu2⟩, hfu2⟩ := HB'.out.cell f' (by omega)
        have HB2 := Lib.hid (HB'.out.next (i := f') (x := 45) (y := 45) (by simp; omega) rfl)
        have HW2 := Lib.hid (HW'.out.setCell (p := ⟨w.heap.size, f', none⟩) (Nat.le_refl _) (.int .u8 45))
        have hcut := cut20 w.heap.size f' (by omega)
        have hcv := conv_sees (dst := 9) Tryd.underlying52 Tryd.underlying5 Tryd.underlying9 (20 - f') (20 - f') (by simp; omega) (HB2.out.sees (i := f') (by simp; omega))
        go_wp2_with fail
        go_ret
        exact ⟨by rw [Hput.out, HD'.out]; rfl, HW2.out⟩
      · replace hf2 := hf2 hr10
        obtain ⟨q, Hq⟩ : ∃ q, Hid (r % 10 = q) := ⟨_, rfl⟩
        have hq : (r : Int) % 10 = (q : Int) := by have := Hq.out; omega
        have hq' : (r : Int).tmod 10 = (q : Int) := by rw [Int.tmod_eq_emod_of_nonneg (by omega)]; exact hq
        have hql : q < 16 := by have := Hq.out; omega
        obtain ⟨p, Hp⟩ : ∃ p, Hid (r / 10 = p) := ⟨_, rfl⟩
        have hp : (r : Int) / 10 = (p : Int) := by have := Hp.out; omega
        have hpl : p < r := by have := Hp.out; omega
        obtain ⟨f', rfl⟩ : ∃ f', f = f' + 1 := ⟨f - 1, by omega⟩
        have HD' : Hid (Nm.dec N = Nm.dec p ++ (Nm.dig q :: acc)) := Lib.hid (by
          rw [HD.out, Nm.dec_high hr10, Hp.out, Hq.out, Nm.dig_low (by have := Hq.out; omega), List.append_assoc]; rfl)
        have HB' := Lib.hid (HB.out.next (i := f' + 1) (x := Nm.dig q) (by omega) rfl)
        have HW' := Lib.hid (HW.out.setCell (p := ⟨w.heap.size, f' + 1, none⟩) (Nat.le_refl _) (.int .u8 (Nm.dig q : Int)))
        go_wp2_with fail
        go_roundw
        case rel => exact ⟨p, f', Nm.dig q :: acc, rfl, by go_num, by omega, by simp; omega, HD', HB', HW'⟩
        case measure => simp [intOf]; omega
  · have hmN : m = N := by have := Hm.out; have := HN.out; omega
    subst hmN
    have Hput : Hid (Nm.put n = Nm.dec m) := Lib.hid (by rw [Nm.put_pos hn, HN.out])
    go_enter Tryd.func26, Tryd.ntmps26
    go_wp2_with fail
    go_loopw [3, 5] (fun v u wr => ∃ (r f : Nat) (acc : List Nat), v = .int .u64 r ∧ u = .int .i64 f ∧ r < 18446744073709551616 ∧ f + acc.length = 19 ∧ Hid (Nm.dec m = Nm.dec r ++ acc) ∧ Hid (Back wr w.heap.size 53 20 acc) ∧ Hid (Below w.heap.size w wr)) (fun v _ _ => (intOf v).toNat)
    case atStart => exact ⟨m, 19, [], rfl, rfl, hNl, rfl, Lib.hid (by rw [List.append_nil]), Lib.hid (Hstart.out w), Lib.hid ((Below.refl _ _).alloc (Nat.le_refl _) _)⟩
    case round =>
      obtain ⟨r, f, acc, rfl, rfl, hr, hf, HD, HB, HW⟩ := hrel
      obtain ⟨hf2, hf1⟩ := Hfew.out f r acc HD hf
      obtain ⟨⟨u, hcu⟩, hfu⟩ := HB.out.cell f (by omega)
      by_cases hr10 : r < 10
      · have HB' := Lib.hid (HB.out.next (i := f) (x := Nm.dig r) (by omega) rfl)
        have HD' : Hid (Nm.dec m = Nm.dig r :: acc) := Lib.hid (by
          rw [HD.out, Nm.dec_low hr10, Nm.dig_low (by omega)]; rfl)
        have hr16 : r < 16 := by omega
        have HW' := Lib.hid (HW.out.setCell (p := ⟨w.heap.size, f, none⟩) (Nat.le_refl _) (.int .u8 (Nm.dig r : Int)))
        have hcut := cut20 w.heap.size f (by omega)
        have hcv := conv_sees (dst := 9) Tryd.underlying52 Tryd.underlying5 Tryd.underlying9 (20 - f) (20 - f) (by simp; omega) (HB'.out.sees (i := f) (by simp; omega))
        go_wp2_with fail
        go_ret
        exact ⟨by rw [Hput.out, HD'.out]; rfl, HW'.out⟩
      · replace hf2 := hf2 hr10
        obtain ⟨q, Hq⟩ : ∃ q, Hid (r % 10 = q) := ⟨_, rfl⟩
        have hq : (r : Int) % 10 = (q : Int) := by have := Hq.out; omega
        have hq' : (r : Int).tmod 10 = (q : Int) := by rw [Int.tmod_eq_emod_of_nonneg (by omega)]; exact hq
        have hql : q < 16 := by have := Hq.out; omega
        obtain ⟨p, Hp⟩ : ∃ p, Hid (r / 10 = p) := ⟨_, rfl⟩
        have hp : (r : Int) / 10 = (p : Int) := by have := Hp.out; omega
        have hpl : p < r := by have := Hp.out; omega
        obtain ⟨f', rfl⟩ : ∃ f', f = f' + 1 := ⟨f - 1, by omega⟩
        have HD' : Hid (Nm.dec m = Nm.dec p ++ (Nm.dig q :: acc)) := Lib.hid (by
          rw [HD.out, Nm.dec_high hr10, Hp.out, Hq.out, Nm.dig_low (by have := Hq.out; omega), List.append_assoc]; rfl)
        have HB' := Lib.hid (HB.out.next (i := f' + 1) (x := Nm.dig q) (by omega) rfl)
        have HW' := Lib.hid (HW.out.setCell (p := ⟨w.heap.size, f' + 1, none⟩) (Nat.le_refl _) (.int .u8 (Nm.dig q : Int)))
        go_wp2_with fail
        go_roundw
        case rel => exact ⟨p, f', Nm.dig q :: acc, rfl, by go_num, by omega, by simp; omega, HD', HB', HW'⟩
        case measure => simp [intOf]; omega

theorem shift_digit (u j m : Nat) (hm : 4 * j = m) : (u : Int) / 2 ^ m % 16 = ((u / 16 ^ j % 16 : Nat) : Int) := by
  subst hm
  rw [show (16 : Nat) ^ j = 2 ^ (4 * j) by rw [Nat.pow_mul], Int.natCast_emod, Int.natCast_ediv, Int.natCast_pow]
  rfl

end Go.Proofs.YtocgoibohfjgjaaDoor
/- Contracts of num.Get, Unhex. -/
namespace Go.Proofs.YtocgoibohfjgjaaDoor
open Go.RowKit
set_option linter.unusedVariables false

theorem wrap_w64 (n : Int) : IntKind.i64.wrap n = Nm.w64 n := by rw [IntKind.wrap_i64]; unfold Nm.w64; omega
theorem Txt.tail {s : ByteArray} {l : List Nat} (T : Txt s l) : Txt (s.extract 1 l.length) l.tail := by
  have := T.cut 1 l.length
  rw [List.take_of_length_le (by rw [List.length_drop]; exact Nat.le_refl _)] at this
  rw [← List.drop_one]
  exact this
theorem head_getD (l : List Nat) (hl : l ≠ []) : l.head? = some (l.getD 0 0) := by
  cases l with
  | nil => exact absurd rfl hl
  | cons a t => rfl

set_option maxRecDepth 100000 in
set_option maxHeartbeats 800000 in
theorem nget_any {s : ByteArray} {l : List Nat} (T : Txt s l) (hl : l.length ≤ 10000000000) (w : World) :
    Calls Tryd.prog 24 #[.string s] w fun e w' => e = .returned (.tuple #[.int .i64 (Nm.get l).1, .int .i64 ((Nm.get l).2 : Int)]) ∧ Below w.heap.size w w' := by
  have hsz := T.size
  by_cases hl0 : l = []
  · subst hl0
    have he : (s.toList == []) = true := by exact (T.eql_lit []).trans (decide_eq_true rfl)
    rw [Nm.get_nil]
    go_enter Tryd.func24, Tryd.ntmps24
    go_wp2_with fail
    go_ret2
    exact ⟨rfl, Below.refl _ _⟩
  · have he : (s.toList == []) = false := by exact (T.eql_lit []).trans (decide_eq_false hl0)
    have hpos : 0 < l.length := List.length_pos_iff.2 hl0
    obtain ⟨c, Hc⟩ : ∃ c, Hid (l.getD 0 0 = c) := ⟨_, rfl⟩
    have hat : ∀ (h : 0 < s.size), (s[0]'h).toNat = c := fun h => by rw [← Hc.out]; exact T.at_ 0 h
    have hc := getD_lt T.byte 0
    rw [Hc.out] at hc
    have Hget := Lib.hid (Nm.get_code hl0)
    have hin := Nm.gv_in l
    have Hgv : Hid (Nm.gv l = if l.head? = some 45 then Nm.w64 (- Nm.w64 (Nm.num 10 l.tail)) else Nm.w64 (Nm.num 10 l)) := Lib.hid rfl
    rw [head_getD l hl0, Hc.out] at Hgv
    obtain ⟨g, Hg⟩ : ∃ g, Hid (Nm.gv l = g) := ⟨_, rfl⟩
    rw [Hg.out] at Hget hin Hgv
    have hin1 := hin.1
    have hin2 := hin.2
    have CP := Lib.hid (fun W => nput_any g hin1 hin2 W)
    have heq := (Txt.of (Nm.put_byte g)).eql T
    by_cases h45 : c = 45
    · subst h45
      rw [if_pos rfl] at Hgv
      have C : Hid (∀ W, Calls Tryd.prog 29 #[.string (s.extract 1 l.length), .int .u64 10] W fun e w' => e = .returned (.int .u64 (Nm.num 10 l.tail : Int)) ∧ w' = W) := Lib.hid (fun W => number_any T.tail 10 (by omega) (by rw [List.length_tail]; omega) W)
      have hnl := Nm.num_lt 10 l.tail
      obtain ⟨q, Hq⟩ : ∃ q, Hid (Nm.num 10 l.tail = q) := ⟨_, rfl⟩
      rw [Hq.out] at C Hgv hnl
      obtain ⟨x, Hx⟩ : ∃ x, Hid (Nm.w64 (q : Int) = x) := ⟨_, rfl⟩
      have hx : IntKind.i64.wrap (q : Int) = x := by rw [wrap_w64, Hx.out]
      have hxin := Nm.w64_in (q : Int)
      rw [Hx.out] at hxin
      have hx1 := hxin.1
      have hx2 := hxin.2
      clear hxin hin
      have hg : IntKind.i64.wrap (-x) = g := by rw [wrap_w64, Hgv.out, Hx.out]
      by_cases hp : Nm.put g = l
      · rw [decide_eq_true hp] at heq
        rw [Hget.out, if_pos hp]
        clear hp Hget
        go_enter Tryd.func24, Tryd.ntmps24
        go_wp2_with fail
        refine (C.out _).mono ?_
        rintro e w1 ⟨rfl, rfl⟩
        go_wp2_with fail
        refine (CP.out _).mono ?_
        rintro e w2 ⟨rfl, hb⟩
        have HB := Lib.hid hb
        clear hb
        go_wp2_with fail
        go_ret2
        exact ⟨rfl, HB.out⟩
      · rw [decide_eq_false hp] at heq
        rw [Hget.out, if_neg hp]
        clear hp Hget
        go_enter Tryd.func24, Tryd.ntmps24
        go_wp2_with fail
        refine (C.out _).mono ?_
        rintro e w1 ⟨rfl, rfl⟩
        go_wp2_with fail
        refine (CP.out _).mono ?_
        rintro e w2 ⟨rfl, hb⟩
        have HB := Lib.hid hb
        clear hb
        go_wp2_with fail
        go_ret2
        exact ⟨rfl, HB.out⟩
    · have hne : ((c : Int) == 45) = false := by simp; omega
      rw [if_neg (by intro e; injection e with e; exact h45 e)] at Hgv
      have C : Hid (∀ W, Calls Tryd.prog 29 #[.string s, .int .u64 10] W fun e w' => e = .returned (.int .u64 (Nm.num 10 l : Int)) ∧ w' = W) := Lib.hid (fun W => number_any T 10 (by omega) hl W)
      have hnl := Nm.num_lt 10 l
      obtain ⟨q, Hq⟩ : ∃ q, Hid (Nm.num 10 l = q) := ⟨_, rfl⟩
      rw [Hq.out] at C Hgv hnl
      have hg : IntKind.i64.wrap (q : Int) = g := by rw [wrap_w64, Hgv.out]
      by_cases hp : Nm.put g = l
      · rw [decide_eq_true hp] at heq
        rw [Hget.out, if_pos hp]
        clear hp Hget
        go_enter Tryd.func24, Tryd.ntmps24
        go_wp2_with fail
        refine (C.out _).mono ?_
        rintro e w1 ⟨rfl, rfl⟩
        go_wp2_with fail
        refine (CP.out _).mono ?_
        rintro e w2 ⟨rfl, hb⟩
        have HB := Lib.hid hb
        clear hb
        go_wp2_with fail
        go_ret2
        exact ⟨rfl, HB.out⟩
      · rw [decide_eq_false hp] at heq
        rw [Hget.out, if_neg hp]
        clear hp Hget
        go_enter Tryd.func24, Tryd.ntmps24
        go_wp2_with fail
        refine (C.out _).mono ?_
        rintro e w1 ⟨rfl, rfl⟩
        go_wp2_with fail
        refine (CP.out _).mono ?_
        rintro e w2 ⟨rfl, hb⟩
        have HB := Lib.hid hb
        clear hb
        go_wp2_with fail
        go_ret2
        exact ⟨rfl, HB.out⟩

end Go.Proofs.YtocgoibohfjgjaaDoor
/- Contracts of the reference of layer 7: two, Put, Get. -/
namespace Go.Proofs.YtocgoibohfjgjaaDoor
open Go.RowKit
set_option linter.unusedVariables false

set_option maxRecDepth 100000 in
set_option maxHeartbeats 800000 in
theorem nrput_any (k : Nat) : ∀ (n : Int), 2 * n.natAbs + (if n < 0 then 1 else 0) < k → -9223372036854775808 ≤ n → n ≤ 9223372036854775807 → ∀ w : World,
    Calls Tryd.prog 25 #[.int .i64 n] w fun e w' => e = .returned (.string (strOf (Nm.put n))) ∧ Below w.heap.size w w' := by
  induction k with
  | zero => intro n h; omega
  | succ k ih =>
    intro n hk h1 h2 w
    by_cases hn : n < -9
    · rw [if_pos (by omega)] at hk
      obtain ⟨m, Hm⟩ : ∃ m, Hid (n.tdiv 10 = m) := ⟨_, rfl⟩
      obtain ⟨d, Hd⟩ : ∃ d, Hid (-(n.tmod 10) = d) := ⟨_, rfl⟩
      have hme : m = -((n.natAbs / 10 : Nat) : Int) := by
        rw [← Hm.out]
        have : n = -((n.natAbs : Nat) : Int) := by omega
        conv => lhs; rw [this]
        rw [Int.neg_tdiv, Int.tdiv_eq_ediv_of_nonneg (by omega)]
        rfl
      have hde : d = ((n.natAbs % 10 : Nat) : Int) := by
        rw [← Hd.out]
        have : n = -((n.natAbs : Nat) : Int) := by omega
        conv => lhs; rw [this]
        rw [Int.neg_tmod, Int.neg_neg, Int.tmod_eq_emod_of_nonneg (by omega)]
        rfl
      have C1 := Lib.hid (fun W => ih m (by rw [if_pos (by omega)]; omega) (by omega) (by omega) W)
      have C2 := Lib.hid (fun W => ih d (by rw [if_neg (by omega)]; omega) (by omega) (by omega) W)
      have hdec := Nm.dec_high (show ¬ n.natAbs < 10 by omega)
      have Hput : Hid (Nm.put n = Nm.put m ++ Nm.put d) := Lib.hid (by
        rw [Nm.put_neg (by omega), Nm.put_neg (show m < 0 by omega), Nm.put_pos (show ¬ d < 0 by omega), hdec, show m.natAbs = n.natAbs / 10 by omega, show d.natAbs = n.natAbs % 10 by omega, Nm.dec_low (show n.natAbs % 10 < 10 by omega)]
        rfl)
      have hl1 := Nm.put_length (n := m) (by omega) (by omega)
      have hl2 := Nm.put_length (n := d) (by omega) (by omega)
      have s1 : (strOf (Nm.put m)).size ≤ 20 := by rw [strOf_size]; exact hl1
      have s2 : (strOf (Nm.put d)).size ≤ 20 := by rw [strOf_size]; exact hl2
      have Hj : Hid (strOf (Nm.put m) ++ strOf (Nm.put d) = strOf (Nm.put n)) := Lib.hid (by rw [strOf_append, Hput.out])
      obtain ⟨a, Ha⟩ : ∃ a, Hid (strOf (Nm.put m) = a) := ⟨_, rfl⟩
      obtain ⟨b, Hb⟩ : ∃ b, Hid (strOf (Nm.put d) = b) := ⟨_, rfl⟩
      rw [Ha.out] at C1 s1 Hj
      rw [Hb.out] at C2 s2 Hj
      have hd0 : 0 ≤ d ∧ d < 10 := by omega
      have hm0 : -9223372036854775808 ≤ m ∧ m ≤ 0 := by omega
      have hm := Hm.out
      have hd := Hd.out
      clear hme hde hdec hl1 hl2 ih hk
      go_enter Tryd.func25, Tryd.ntmps25
      go_wp2_with fail
      refine (C1.out _).mono ?_
      rintro e w1 ⟨rfl, hb⟩
      have HB1 := Lib.hid hb
      clear hb
      go_wp2_with fail
      refine (C2.out _).mono ?_
      rintro e w2 ⟨rfl, hb⟩
      have HB2 := Lib.hid (HB1.out.trans (hb.mono HB1.out.size))
      clear hb
      go_wp2_with fail
      go_ret
      exact ⟨by rw [Hj.out]; rfl, HB2.out⟩
    · by_cases hn0 : n < 0
      · rw [if_pos hn0] at hk
        have C1 := Lib.hid (fun W => ih (-n) (by rw [if_neg (by omega)]; omega) (by omega) (by omega) W)
        have hl1 := Nm.put_length (n := -n) (by omega) (by omega)
        have s1 : (strOf (Nm.put (-n))).size ≤ 20 := by rw [strOf_size]; exact hl1
        have Hj : Hid ((⟨#[45]⟩ : ByteArray) ++ strOf (Nm.put (-n)) = strOf (Nm.put n)) := Lib.hid (by
          rw [show (⟨#[45]⟩ : ByteArray) = strOf [45] from rfl, strOf_append, Nm.put_neg hn0, Nm.put_pos (show ¬ -n < 0 by omega), Int.natAbs_neg]; rfl)
        obtain ⟨a, Ha⟩ : ∃ a, Hid (strOf (Nm.put (-n)) = a) := ⟨_, rfl⟩
        rw [Ha.out] at C1 s1 Hj
        clear hl1 ih hk
        go_enter Tryd.func25, Tryd.ntmps25
        go_wp2_with fail
        refine (C1.out _).mono ?_
        rintro e w1 ⟨rfl, hb⟩
        have HB1 := Lib.hid hb
        clear hb
        go_wp2_with fail
        go_ret
        exact ⟨by rw [Hj.out]; rfl, HB1.out⟩
      · rw [if_neg hn0] at hk
        by_cases hn9 : 9 < n
        · obtain ⟨N, rfl⟩ : ∃ N : Nat, n = (N : Int) := ⟨n.toNat, by omega⟩
          obtain ⟨m, Hm⟩ : ∃ m, Hid (N / 10 = m) := ⟨_, rfl⟩
          obtain ⟨d, Hd⟩ : ∃ d, Hid (N % 10 = d) := ⟨_, rfl⟩
          have hm : (N : Int) / 10 = (m : Int) := by have := Hm.out; omega
          have hm' : (N : Int).tdiv 10 = (m : Int) := by rw [Int.tdiv_eq_ediv_of_nonneg (by omega)]; exact hm
          have hd : (N : Int) % 10 = (d : Int) := by have := Hd.out; omega
          have hd' : (N : Int).tmod 10 = (d : Int) := by rw [Int.tmod_eq_emod_of_nonneg (by omega)]; exact hd
          have C1 := Lib.hid (fun W => ih (m : Int) (by rw [if_neg (by omega)]; have := Hm.out; omega) (by omega) (by omega) W)
          have C2 := Lib.hid (fun W => ih (d : Int) (by rw [if_neg (by omega)]; have := Hd.out; omega) (by omega) (by omega) W)
          have Hput : Hid (Nm.put (N : Int) = Nm.put (m : Int) ++ Nm.put (d : Int)) := Lib.hid (by
            rw [Nm.put_pos (show ¬ (N : Int) < 0 by omega), Nm.put_pos (show ¬ (m : Int) < 0 by omega), Nm.put_pos (show ¬ (d : Int) < 0 by omega), Int.natAbs_natCast, Int.natAbs_natCast, Int.natAbs_natCast, Nm.dec_high (show ¬ N < 10 by omega), Hm.out, Hd.out, Nm.dec_low (show d < 10 by have := Hd.out; omega)])
          have hl1 := Nm.put_length (n := (m : Int)) (by omega) (by omega)
          have hl2 := Nm.put_length (n := (d : Int)) (by omega) (by omega)
          have s1 : (strOf (Nm.put (m : Int))).size ≤ 20 := by rw [strOf_size]; exact hl1
          have s2 : (strOf (Nm.put (d : Int))).size ≤ 20 := by rw [strOf_size]; exact hl2
          have Hj : Hid (strOf (Nm.put (m : Int)) ++ strOf (Nm.put (d : Int)) = strOf (Nm.put (N : Int))) := Lib.hid (by rw [strOf_append, Hput.out])
          obtain ⟨a, Ha⟩ : ∃ a, Hid (strOf (Nm.put (m : Int)) = a) := ⟨_, rfl⟩
          obtain ⟨b, Hb⟩ : ∃ b, Hid (strOf (Nm.put (d : Int)) = b) := ⟨_, rfl⟩
          rw [Ha.out] at C1 s1 Hj
          rw [Hb.out] at C2 s2 Hj
          clear hl1 hl2 ih hk
          go_enter Tryd.func25, Tryd.ntmps25
          go_wp2_with fail
          refine (C1.out _).mono ?_
          rintro e w1 ⟨rfl, hb⟩
          have HB1 := Lib.hid hb
          clear hb
          go_wp2_with fail
          refine (C2.out _).mono ?_
          rintro e w2 ⟨rfl, hb⟩
          have HB2 := Lib.hid (HB1.out.trans (hb.mono HB1.out.size))
          clear hb
          go_wp2_with fail
          go_ret
          exact ⟨by rw [Hj.out]; rfl, HB2.out⟩
        · obtain ⟨N, rfl⟩ : ∃ N : Nat, n = (N : Int) := ⟨n.toNat, by omega⟩
          have hN : N < 10 := by omega
          have Hput : Hid (Nm.put (N : Int) = [48 + N]) := Lib.hid (by rw [Nm.put_pos (by omega), Int.natAbs_natCast, Nm.dec_low hN])
          obtain ⟨c, Hc⟩ : ∃ c, Hid (48 + N = c) := ⟨_, rfl⟩
          have hc : 48 + (N : Int) = (c : Int) := by have := Hc.out; omega
          have hcl : c < 58 := by have := Hc.out; omega
          rw [Hc.out] at Hput
          have hcv := conv_sees (dst := 9) Tryd.underlying52 Tryd.underlying5 Tryd.underlying9 1 1 (by rfl) (sees_new w.heap.size [c] #[.int .u8 (c : Int)] 5 (w := w) (fr := (0, 0)) rfl rfl)
          have Hb : Hid (Below w.heap.size w (w.alloc (.cells #[.int .u8 (c : Int)] 5))) := Lib.hid ((Below.refl _ _).alloc (Nat.le_refl _) _)
          clear ih hk
          go_enter Tryd.func25, Tryd.ntmps25
          go_wp2_with fail
          go_ret
          exact ⟨by rw [Hput.out]; rfl, Hb.out⟩
theorem rput_any' (n : Int) (h1 : -9223372036854775808 ≤ n) (h2 : n ≤ 9223372036854775807) (w : World) :
    Calls Tryd.prog 25 #[.int .i64 n] w fun e w' => e = .returned (.string (strOf (Nm.put n))) ∧ Below w.heap.size w w' := nrput_any _ n (Nat.lt_succ_self _) h1 h2 w

end Go.Proofs.YtocgoibohfjgjaaDoor
