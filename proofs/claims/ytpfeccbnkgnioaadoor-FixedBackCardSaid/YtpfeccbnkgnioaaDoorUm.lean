/- Plain arithmetic for layer 1: groups of seven bits, with the bit operations that the walks meet. No program. -/
import Derived.Laws.BitsAllLaws
import Derived.Laws.DeepNot64
import Derived.Laws.Closers25b
import Derived.WalkSmall
namespace Go.Proofs.YtpfeccbnkgnioaaDoor.Um

/-- the groups of n, at most f of them ahead of the last one -/
def enc : Nat → Nat → List Nat
  | 0, n => [n]
  | f + 1, n => if n < 128 then [n] else (n % 128 + 128) :: enc f (n / 128)

def put (n : Nat) : List Nat := enc 9 n

def fits (f m : Nat) : Prop := m < 2 * 128 ^ f

theorem fits9 {n : Nat} (h : n < 18446744073709551616) : fits 9 n := by unfold fits; omega
theorem fits_div {f m : Nat} (h : fits (f + 1) m) : fits f (m / 128) := by
  unfold fits at *; rw [Nat.pow_succ] at h; omega
theorem fits_u64 {f m : Nat} (h : fits f m) (hf : f ≤ 9) : m < 18446744073709551616 := by
  unfold fits at h
  have : 128 ^ f ≤ 128 ^ 9 := Nat.pow_le_pow_right (by omega) hf
  omega

theorem enc_pos (f n : Nat) : 0 < (enc f n).length := by
  cases f with
  | zero => simp [enc]
  | succ f => unfold enc; split <;> simp
theorem enc_le : ∀ (f n : Nat), (enc f n).length ≤ f + 1
  | 0, n => by simp [enc]
  | f + 1, n => by unfold enc; split <;> simp; exact enc_le f _

theorem enc_small {f n : Nat} (h : n < 128) : enc f n = [n] := by
  cases f with
  | zero => rfl
  | succ f => rw [enc, if_pos h]
theorem enc_great {f n : Nat} (h : 128 ≤ n) : enc (f + 1) n = (n % 128 + 128) :: enc f (n / 128) := by rw [enc, if_neg (by omega)]
theorem enc_one {f n : Nat} (hf : fits f n) (h : (enc f n).length = 1) : n < 128 ∧ enc f n = [n] := by
  cases f with
  | zero => unfold fits at hf; exact ⟨by omega, rfl⟩
  | succ f =>
    by_cases hn : n < 128
    · exact ⟨hn, enc_small hn⟩
    · rw [enc_great (by omega)] at h
      have := enc_pos f (n / 128)
      rw [List.length_cons] at h; omega
theorem enc_more {f n : Nat} (h : 1 < (enc f n).length) : ∃ g, f = g + 1 ∧ 128 ≤ n := by
  cases f with
  | zero => simp [enc] at h
  | succ f =>
    refine ⟨f, rfl, ?_⟩
    by_cases hn : n < 128
    · rw [enc_small hn] at h; simp at h
    · omega
theorem enc_byte : ∀ (f n : Nat), fits f n → ∀ x ∈ enc f n, x < 256
  | 0, n, h, x, hx => by simp [enc] at hx; unfold fits at h; omega
  | f + 1, n, h, x, hx => by
    by_cases hn : n < 128
    · rw [enc_small hn] at hx; simp at hx; omega
    · rw [enc_great (by omega)] at hx
      rcases List.mem_cons.1 hx with rfl | hx
      · omega
      · exact enc_byte f _ (fits_div h) x hx

/-! ### reading -/

def lead : List Nat → Nat
  | [] => 0
  | b :: l => if 128 ≤ b then lead l + 1 else 0
def val : List Nat → Nat
  | [] => 0
  | b :: l => b % 128 + 128 * val l
def okEnd (b s : Nat) : Bool := if s = 0 then true else if s = 9 then b == 1 else b != 0
/-- the number, how many bytes, and the error -/
def get (l : List Nat) : Nat × Nat × Nat :=
  if 10 ≤ lead l then (0, 0, 3) else if lead l = l.length then (0, 0, 2) else if okEnd (l.getD (lead l) 0) (lead l) = true then (val (l.take (lead l + 1)), lead l + 1, 0) else (0, 0, 3)

theorem lead_le : ∀ l : List Nat, lead l ≤ l.length
  | [] => by simp [lead]
  | b :: l => by unfold lead; have := lead_le l; split <;> simp; omega
theorem lead_high : ∀ (l : List Nat) (i : Nat), i < lead l → 128 ≤ l.getD i 0
  | [], i, h => by simp [lead] at h
  | b :: l, i, h => by
    unfold lead at h
    split at h
    · cases i with
      | zero => simpa
      | succ i => simpa using lead_high l i (by omega)
    · omega
theorem lead_low : ∀ (l : List Nat), lead l < l.length → l.getD (lead l) 0 < 128
  | [], h => by simp at h
  | b :: l, h => by
    by_cases hb : 128 ≤ b
    · have e : lead (b :: l) = lead l + 1 := by simp [lead, hb]
      rw [e] at h ⊢
      simpa using lead_low l (by simpa using h)
    · have e : lead (b :: l) = 0 := by simp [lead, hb]
      rw [e]; simp; omega
theorem lead_of_high (l : List Nat) (i : Nat) (hi : i ≤ lead l) (hl : i < l.length) (h : 128 ≤ l.getD i 0) : i + 1 ≤ lead l := by
  rcases Nat.lt_or_ge i (lead l) with h1 | h1
  · omega
  · have e : lead l = i := by omega
    have := lead_low l (by omega)
    rw [e] at this; omega
theorem lead_of_low (l : List Nat) (i : Nat) (hi : i ≤ lead l) (h : l.getD i 0 < 128) : lead l = i := by
  rcases Nat.lt_or_ge i (lead l) with h1 | h1
  · have := lead_high l i h1; omega
  · omega

theorem val_snoc : ∀ (l : List Nat) (b : Nat), val (l ++ [b]) = val l + b % 128 * 128 ^ l.length
  | [], b => by simp [val]
  | a :: l, b => by
    have h := val_snoc l b
    simp only [List.cons_append, val, List.length_cons, h, Nat.pow_succ]
    rw [Nat.mul_add, Nat.add_assoc, Nat.mul_comm (128 ^ l.length) 128, Nat.mul_left_comm]
theorem val_lt : ∀ (l : List Nat), val l < 128 ^ l.length
  | [] => by simp [val]
  | a :: l => by
    have h := val_lt l
    simp only [val, List.length_cons, Nat.pow_succ]
    omega
theorem val_take (l : List Nat) (i : Nat) (h : i < l.length) : val (l.take (i + 1)) = val (l.take i) + l.getD i 0 % 128 * 128 ^ i := by
  rw [List.take_succ_eq_append_getElem h, val_snoc, List.length_take, Nat.min_eq_left (by omega)]
  simp [List.getD, List.getElem?_eq_getElem h]
theorem val_take_lt (l : List Nat) (i : Nat) (h : i ≤ l.length) : val (l.take i) < 128 ^ i := by
  have := val_lt (l.take i)
  rwa [List.length_take, Nat.min_eq_left h] at this

theorem get_long {l : List Nat} (h : 10 ≤ lead l) : get l = (0, 0, 3) := by unfold get; rw [if_pos h]
theorem get_short {l : List Nat} (h : lead l < 10) (e : lead l = l.length) : get l = (0, 0, 2) := by unfold get; rw [if_neg (by omega), if_pos e]
theorem get_bad {l : List Nat} (h : lead l < 10) (e : lead l < l.length) (ho : okEnd (l.getD (lead l) 0) (lead l) = false) : get l = (0, 0, 3) := by
  unfold get; rw [if_neg (by omega), if_neg (by omega), if_neg (by rw [ho]; decide)]
theorem get_good {l : List Nat} (h : lead l < 10) (e : lead l < l.length) (ho : okEnd (l.getD (lead l) 0) (lead l) = true) : get l = (val (l.take (lead l + 1)), lead l + 1, 0) := by
  unfold get; rw [if_neg (by omega), if_neg (by omega), if_pos ho]
theorem get_used (l : List Nat) : (get l).2.1 ≤ l.length := by
  have := lead_le l
  unfold get
  split
  · simp
  · split
    · simp
    · split
      · simp; omega
      · simp
theorem get_num (l : List Nat) : (get l).1 < 18446744073709551616 := by
  have := lead_le l
  unfold get
  split
  · simp
  · split
    · simp
    · split
      · rename_i h1 h2 h3
        show val (l.take (lead l + 1)) < _
        have hv := val_take_lt l (lead l + 1) (by omega)
        rcases Nat.lt_or_ge (lead l) 9 with h9 | h9
        · have : 128 ^ (lead l + 1) ≤ 128 ^ 9 := Nat.pow_le_pow_right (by omega) (by omega)
          omega
        · have e9 : lead l = 9 := by omega
          rw [e9] at h3 ⊢
          have hb : l.getD 9 0 = 1 := by simpa [okEnd] using h3
          rw [val_take l 9 (by omega), hb]
          have := val_take_lt l 9 (by omega)
          omega
      · simp
theorem get_err (l : List Nat) : (get l).2.2 = 0 ∨ (get l).2.2 = 2 ∨ (get l).2.2 = 3 := by
  unfold get
  split
  · simp
  · split
    · simp
    · split <;> simp

/-! ### many -/

def getAll : Nat → List Nat → Nat → List Nat → List Nat × Nat × Nat
  | 0, _, k, acc => (acc, k, 0)
  | f + 1, l, k, acc => if l.length = 0 then (acc, k, 0) else if (get l).2.2 = 0 then getAll f (l.drop (get l).2.1) (k + (get l).2.1) (acc ++ [(get l).1]) else ([], k, (get l).2.2)
theorem get_pos {l : List Nat} (h : (get l).2.2 = 0) : 0 < (get l).2.1 := by
  unfold get at h ⊢
  split at h
  · simp at h
  · split at h
    · simp at h
    · split at h
      · rename_i h1 h2 h3
        rw [if_neg h1, if_neg h2, if_pos h3]
        show 0 < lead l + 1
        omega
      · simp at h
theorem getAll_end (f : Nat) {l : List Nat} (k : Nat) (acc : List Nat) (h : l.length = 0) : getAll f l k acc = (acc, k, 0) := by
  cases f with
  | zero => rfl
  | succ f => rw [getAll, if_pos h]
theorem getAll_bad (f : Nat) {l : List Nat} (k : Nat) (acc : List Nat) (h : 0 < l.length) (hf : l.length ≤ f) (he : (get l).2.2 ≠ 0) : getAll f l k acc = ([], k, (get l).2.2) := by
  cases f with
  | zero => omega
  | succ f => rw [getAll, if_neg (by omega), if_neg he]
theorem getAll_good (f : Nat) {l : List Nat} (k : Nat) (acc : List Nat) (h : 0 < l.length) (hf : l.length ≤ f + 1) (he : (get l).2.2 = 0) : getAll (f + 1) l k acc = getAll f (l.drop (get l).2.1) (k + (get l).2.1) (acc ++ [(get l).1]) ∧ (l.drop (get l).2.1).length ≤ f := by
  refine ⟨by rw [getAll, if_neg (by omega), if_pos he], ?_⟩
  have := get_pos he
  rw [List.length_drop]; omega

theorem getAll_small : ∀ (f : Nat) (l : List Nat) (k : Nat) (acc : List Nat), (getAll f l k acc).1.length ≤ f + acc.length
  | 0, _, _, acc => by simp [getAll]
  | f + 1, l, k, acc => by
    rw [getAll]
    split
    · simp
    · split
      · have := getAll_small f (l.drop (get l).2.1) (k + (get l).2.1) (acc ++ [(get l).1])
        rw [List.length_append] at this
        simp at this ⊢
        omega
      · simp

/-! ### there and back -/

theorem lead_put : ∀ (f n : Nat) (r : List Nat), fits f n → lead (enc f n ++ r) = (enc f n).length - 1
  | 0, n, r, h => by unfold fits at h; simp [enc, lead]; omega
  | f + 1, n, r, h => by
    by_cases hn : n < 128
    · rw [enc_small hn]; simp [lead]; omega
    · rw [enc_great (by omega)]
      have := lead_put f (n / 128) r (fits_div h)
      have hp := enc_pos f (n / 128)
      simp only [List.cons_append, lead]
      rw [if_pos (by omega), this]
      simp; omega
theorem val_put : ∀ (f n : Nat), fits f n → val (enc f n) = n
  | 0, n, h => by unfold fits at h; simp [enc, val]; omega
  | f + 1, n, h => by
    by_cases hn : n < 128
    · rw [enc_small hn]; simp [val]; omega
    · rw [enc_great (by omega)]
      simp only [val, val_put f _ (fits_div h)]
      omega
theorem last_put : ∀ (f n : Nat), fits f n → 1 < (enc f n).length → (enc f n).getD ((enc f n).length - 1) 0 ≠ 0 ∧ ((enc f n).length = f + 1 → (enc f n).getD ((enc f n).length - 1) 0 = 1)
  | 0, n, h, hl => by simp [enc] at hl
  | f + 1, n, h, hl => by
    obtain ⟨g, hg, hn⟩ := enc_more hl
    rw [enc_great hn]
    have hp := enc_pos f (n / 128)
    have hf := fits_div h
    have e : ((n % 128 + 128) :: enc f (n / 128)).getD (((n % 128 + 128) :: enc f (n / 128)).length - 1) 0 = (enc f (n / 128)).getD ((enc f (n / 128)).length - 1) 0 := by
      obtain ⟨k, hk⟩ : ∃ k, (enc f (n / 128)).length = k + 1 := ⟨(enc f (n / 128)).length - 1, by omega⟩
      simp [hk]
    rw [e]
    by_cases h1 : (enc f (n / 128)).length = 1
    · obtain ⟨hs, he⟩ := enc_one hf h1
      rw [he]
      refine ⟨by simp; omega, fun hl' => ?_⟩
      simp at hl'
      have : f = 0 := by omega
      subst this
      unfold fits at hf
      simp; omega
    · obtain ⟨i1, i2⟩ := last_put f (n / 128) hf (by omega)
      refine ⟨i1, fun hl' => i2 ?_⟩
      simp at hl'; omega
theorem get_put (n : Nat) (r : List Nat) (h : n < 18446744073709551616) : get (put n ++ r) = (n, (put n).length, 0) := by
  have hf := fits9 h
  have hl := lead_put 9 n r hf
  have hp := enc_pos 9 n
  have hle := enc_le 9 n
  have hlen : (enc 9 n ++ r).length = (enc 9 n).length + r.length := by simp
  have hg : (enc 9 n ++ r).getD ((enc 9 n).length - 1) 0 = (enc 9 n).getD ((enc 9 n).length - 1) 0 := by
    simp [List.getD, List.getElem?_append_left (show (enc 9 n).length - 1 < (enc 9 n).length by omega)]
  have ho : okEnd ((put n ++ r).getD (lead (put n ++ r)) 0) (lead (put n ++ r)) = true := by
    show okEnd ((enc 9 n ++ r).getD (lead (enc 9 n ++ r)) 0) (lead (enc 9 n ++ r)) = true
    rw [hl, hg]
    unfold okEnd
    by_cases h0 : (enc 9 n).length - 1 = 0
    · rw [if_pos h0]
    · rw [if_neg h0]
      obtain ⟨i1, i2⟩ := last_put 9 n hf (by omega)
      by_cases h9 : (enc 9 n).length - 1 = 9
      · rw [if_pos h9, i2 (by omega)]; rfl
      · rw [if_neg h9]; simpa using i1
  rw [get_good (show lead (put n ++ r) < 10 by show lead (enc 9 n ++ r) < 10; omega) (show lead (put n ++ r) < (put n ++ r).length by show lead (enc 9 n ++ r) < (enc 9 n ++ r).length; omega) ho]
  have e1 : lead (put n ++ r) + 1 = (put n).length := by show lead (enc 9 n ++ r) + 1 = (enc 9 n).length; omega
  rw [e1, List.take_append_of_le_length (Nat.le_refl _), List.take_length]
  show (val (enc 9 n), _, _) = _
  rw [val_put 9 n hf]

/-- bytes that are all but the last at least 128, whose last one is no idle 0, are the groups of their number -/
theorem enc_val : ∀ (f : Nat) (l : List Nat), l.length ≤ f + 1 → 0 < l.length → (∀ i, i + 1 < l.length → 128 ≤ l.getD i 0) → (∀ x ∈ l, x < 256) → l.getD (l.length - 1) 0 < 128 → (1 < l.length → l.getD (l.length - 1) 0 ≠ 0) → enc f (val l) = l
  | f, [], _, h, _, _, _, _ => by simp at h
  | f, [b], _, _, _, _, h, _ => by
    have hb : b < 128 := by simpa using h
    have : val [b] = b := by simp [val]; omega
    rw [this, enc_small hb]
  | 0, b :: c :: l, h, _, _, _, _, _ => by simp at h
  | f + 1, b :: c :: l, h, _, hh, hb, hlast, hz => by
    have h0 : 128 ≤ b := by simpa using hh 0 (by simp)
    have hb' : b < 256 := hb b (by simp)
    have el : (b :: c :: l).getD ((b :: c :: l).length - 1) 0 = (c :: l).getD ((c :: l).length - 1) 0 := by simp
    have ih := enc_val f (c :: l) (by simpa using h) (by simp) (fun i hi => by simpa using hh (i + 1) (by simpa using hi)) (fun x hx => hb x (List.mem_cons_of_mem _ hx)) (by rw [← el]; exact hlast) (fun _ => by rw [← el]; exact hz (by simp))
    have hv : val (b :: c :: l) = b % 128 + 128 * val (c :: l) := rfl
    have hpos : 0 < val (c :: l) := by
      rcases Nat.eq_zero_or_pos (val (c :: l)) with hz0 | hz0
      · rw [hz0, enc_small (by omega)] at ih
        have := hz (by simp)
        rw [el, ← ih] at this
        simp at this
      · exact hz0
    rw [enc_great (by omega), show val (b :: c :: l) / 128 = val (c :: l) by omega, ih, show val (b :: c :: l) % 128 + 128 = b by omega]
theorem put_get (l : List Nat) (hb : ∀ x ∈ l, x < 256) (h : (get l).2.2 = 0) : put (get l).1 = l.take (get l).2.1 := by
  have hle := lead_le l
  unfold get at h ⊢
  split at h
  · simp at h
  · split at h
    · simp at h
    · split at h
      · rename_i h1 h2 h3
        rw [if_neg h1, if_neg h2, if_pos h3]
        show enc 9 (val (l.take (lead l + 1))) = l.take (lead l + 1)
        have hlen : (l.take (lead l + 1)).length = lead l + 1 := by rw [List.length_take]; omega
        have hg : ∀ i, i ≤ lead l → (l.take (lead l + 1)).getD i 0 = l.getD i 0 := fun i hi => by
          simp [List.getD, List.getElem?_take_of_lt (show i < lead l + 1 by omega)]
        refine enc_val 9 _ (by omega) (by omega) (fun i hi => ?_) (fun x hx => hb x (List.mem_of_mem_take hx)) ?_ (fun hi => ?_)
        · rw [hg i (by omega)]; exact lead_high l i (by omega)
        · rw [hlen, hg _ (by omega)]; exact lead_low l (by omega)
        · rw [hlen, hg _ (by omega)]
          show l.getD (lead l) 0 ≠ 0
          unfold okEnd at h3
          rw [if_neg (by omega)] at h3
          split at h3
          · have : l.getD (lead l) 0 = 1 := by simpa using h3
            omega
          · simpa using h3
      · simp at h

/-! ### bit operations as the walks spell them -/

theorem not_u64 (a : Int) (h0 : 0 ≤ a) (h1 : a ≤ 18446744073709551615) : bits .xor .u64 IntKind.u64.max a = 18446744073709551615 - a := by
  obtain ⟨n, rfl⟩ := Int.eq_ofNat_of_zero_le h0
  show IntKind.u64.wrap ((BitVec.ofInt 64 IntKind.u64.max ^^^ BitVec.ofInt 64 (n : Int)).toNat : Int) = _
  have hm : BitVec.ofInt 64 IntKind.u64.max = BitVec.allOnes 64 := by decide
  rw [hm, BitVec.allOnes_xor, BitVec.toNat_not, ofInt_u64 n (by omega), IntKind.wrap_u64]
  omega
theorem and127 (a : Int) (h0 : 0 ≤ a) (h1 : a < 256) : bits .and .u8 a 127 = a % 128 := bits_mask .u8 8 (by decide) wraps_u8 7 (by decide) a h0 h1
theorem or128 (a : Int) (h0 : 0 ≤ a) (h1 : a < 256) : bits .or .u8 a 128 = a % 128 + 128 := by
  obtain ⟨n, rfl⟩ := Int.eq_ofNat_of_zero_le h0
  have e := u8_or_nat n 128 (by omega) (by omega)
  rw [show ((128 : Nat) : Int) = 128 from rfl] at e
  rw [e]
  have h : ∀ m : Fin 256, m.val ||| 128 = m.val % 128 + 128 := by decide +kernel
  have := h ⟨n, by omega⟩
  simp only at this
  rw [this]; omega
theorem or_join (x y : Nat) (i : Nat) (hx : x < 2 ^ i) (hy : y % 2 ^ i = 0) (h1 : x < 18446744073709551616) (h2 : y < 18446744073709551616) : bits .or .u64 (x : Int) (y : Int) = ((x + y : Nat) : Int) := by
  rw [bits_or_u64_nat x y h1 h2, Nat.or_comm, nat_join i y x hy hx, Nat.add_comm]
theorem okEnd_last {x j : Nat} (hj : j ≤ 9) (h : okEnd x j = true) : j ≤ 8 ∨ x ≤ 1 := by
  by_cases h9 : j = 9
  · subst h9; simp [okEnd] at h; omega
  · omega
theorem pow7 (j : Nat) : (2 : Nat) ^ (7 * j) = 128 ^ j := by rw [Nat.pow_mul]
/-- what a round of Get adds -/
theorem acc_next {l : List Nat} {j a x : Nat} (hv : j ≤ 9 → a = val (l.take j)) (hj : j ≤ 9) (hl : j < l.length) (hx : l.getD j 0 = x) (hs : j ≤ 8 ∨ x ≤ 1) :
    bits .or .u64 (a : Int) (IntKind.u64.wrap ((x : Int) % 128 * 2 ^ (7 * j))) = ((val (l.take (j + 1)) : Nat) : Int) := by
  have e := val_take l j hl
  rw [hx] at e
  have ha : a = val (l.take j) := hv hj
  have hlt := val_take_lt l j (by omega)
  rw [← ha] at e hlt
  have hp : 0 < 128 ^ j := Nat.pow_pos (by omega)
  have hy : x % 128 * 128 ^ j ≤ 9223372036854775808 := by
    rcases hs with h | h
    · have h1 : 128 ^ j ≤ 128 ^ 8 := Nat.pow_le_pow_right (by omega) h
      have h2 : x % 128 ≤ 128 := by omega
      have := Nat.mul_le_mul h2 h1
      omega
    · have h1 : 128 ^ j ≤ 128 ^ 9 := Nat.pow_le_pow_right (by omega) hj
      have h2 : x % 128 ≤ 1 := by omega
      have := Nat.mul_le_mul h2 h1
      omega
  have h9 : 128 ^ j ≤ 128 ^ 9 := Nat.pow_le_pow_right (by omega) hj
  have ec : ((x : Int) % 128 * 2 ^ (7 * j)) = ((x % 128 * 128 ^ j : Nat) : Int) := by
    rw [← pow7]; simp
  rw [ec, IntKind.wrap_u64, show (((x % 128 * 128 ^ j : Nat) : Int) % 18446744073709551616) = ((x % 128 * 128 ^ j : Nat) : Int) by omega]
  rw [or_join a (x % 128 * 128 ^ j) (7 * j) (by rw [pow7]; exact hlt) (by rw [pow7]; exact Nat.mul_mod_left _ _) (by omega) (by omega), e]
/-- what a round of the reference's second loop adds -/
theorem acc_next' {l : List Nat} {i a p x : Nat} (ha : a = val (l.take i)) (hp : i ≤ 9 → p = 128 ^ i) (hi : i ≤ 9) (hl : i < l.length) (hx : l.getD i 0 = x) (hs : i ≤ 8 ∨ x % 128 ≤ 1) :
    IntKind.u64.wrap ((a : Int) + IntKind.u64.wrap ((x : Int) % 128 * (p : Int))) = ((val (l.take (i + 1)) : Nat) : Int) ∧ val (l.take (i + 1)) < 18446744073709551616 := by
  have e := val_take l i hl
  rw [hx] at e
  have hlt := val_take_lt l i (by omega)
  rw [← ha] at e hlt
  rw [hp hi]
  have h9 : 128 ^ i ≤ 128 ^ 9 := Nat.pow_le_pow_right (by omega) hi
  have hy : a + x % 128 * 128 ^ i < 18446744073709551616 := by
    rcases hs with h | h
    · have h1 : 128 ^ i ≤ 128 ^ 8 := Nat.pow_le_pow_right (by omega) h
      have h2 : x % 128 ≤ 128 := by omega
      have := Nat.mul_le_mul h2 h1
      omega
    · have := Nat.mul_le_mul h h9
      omega
  have ec : ((x : Int) % 128 * ((128 ^ i : Nat) : Int)) = ((x % 128 * 128 ^ i : Nat) : Int) := by simp
  rw [ec, e]
  generalize x % 128 * 128 ^ i = y at *
  refine ⟨?_, by omega⟩
  rw [IntKind.wrap_u64, IntKind.wrap_u64]
  omega
theorem pow_next {i p : Nat} (hp : i ≤ 9 → p = 128 ^ i) (hi : i ≤ 9) : ∃ q : Nat, IntKind.u64.wrap ((p : Int) * 128) = (q : Int) ∧ q < 18446744073709551616 ∧ (i + 1 ≤ 9 → q = 128 ^ (i + 1)) := by
  refine ⟨(IntKind.u64.wrap ((p : Int) * 128)).toNat, ?_, ?_, fun h => ?_⟩
  · rw [IntKind.wrap_u64]; omega
  · rw [IntKind.wrap_u64]; omega
  · rw [hp hi, IntKind.wrap_u64]
    have h8 : 128 ^ i ≤ 128 ^ 8 := Nat.pow_le_pow_right (by omega) (show i ≤ 8 by omega)
    rw [Nat.pow_succ]
    generalize 128 ^ i = y at *
    omega
/-- how the reference's two loops end -/
theorem end_bad9 {l : List Nat} {j x : Nat} (hj : j = 9) (hl : j < l.length) (e : lead l = j) (hx : l.getD j 0 = x) (h : 1 < x % 128) : get l = (0, 0, 3) := by
  refine get_bad (by omega) (by omega) ?_
  rw [e, hx, hj]; simp [okEnd]; omega
theorem end_bad0 {l : List Nat} {j x : Nat} (hj : j < 10) (h0 : 0 < j) (hl : j < l.length) (e : lead l = j) (hx : l.getD j 0 = x) (h : x = 0) : get l = (0, 0, 3) := by
  refine get_bad (by omega) (by omega) ?_
  rw [e, hx, h]
  unfold okEnd
  rw [if_neg (by omega)]
  split <;> rfl
theorem end_good {l : List Nat} {j x : Nat} (hj : j < 10) (hl : j < l.length) (e : lead l = j) (hx : l.getD j 0 = x) (h0 : 0 < j → x ≠ 0) (h9 : j = 9 → x ≤ 1) : get l = (val (l.take (j + 1)), j + 1, 0) := by
  rw [get_good (by omega) (by omega), e]
  rw [e, hx]
  unfold okEnd
  split
  · rfl
  · have := h0 (by omega)
    split
    · have := h9 (by assumption); simp; omega
    · simpa using this
theorem acc_some (a b : Int) : ∃ c : Nat, bits .or .u64 a b = (c : Int) ∧ c < 18446744073709551616 := by
  have h0 := bits_lo_u64 .or a b
  have h1 := bits_hi_u64 .or a b
  exact ⟨(bits .or .u64 a b).toNat, by omega, by omega⟩
end Go.Proofs.YtpfeccbnkgnioaaDoor.Um
