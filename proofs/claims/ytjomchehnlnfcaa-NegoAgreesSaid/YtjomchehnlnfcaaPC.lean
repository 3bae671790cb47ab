/- Texts Um, Zig, Uvar, Ref1, Bm, Rd, Rdm, Rdt, Buf, Piece, in one. -/
import Derived.Laws.BitsAllLaws
import Derived.Laws.DeepNot64
import Derived.Laws.Closers25b
import Derived.WalkSmall
import Derived.Test.YtjomchehnlnfcaaPA
import Derived.WalkKit
import Derived.ProofKit
import Derived.WalkLawsBesides
import Derived.WalkSpells
import Derived.IntWalk
import Derived.PlainAid
import Derived.Lib.Hide
import Derived.OwnWalk
import Derived.Maps.AppendAt
import Derived.Outline
import Derived.Lib.SliceRun
import Derived.Lib.ConvBytes
/- Plain arithmetic for layer 1: groups of seven bits, with the bit operations that the walks meet. No program. -/
namespace Go.Proofs.Ytjomchehnlnfcaa.Um

/-- the groups of n, at most f of them ahead of the last one -/
def enc : Nat → Nat → List Nat
  | 0, n => [n]
  | f + 1, n => if n < 128 then [n] else (n % 128 + 128) :: enc f (n / 128)

def put (n : Nat) : List Nat := enc 9 n

def fits (f m : Nat) : Prop := m < 2 * 128 ^ f

theorem fits9 {n : Nat} (h : n < 18446744073709551616) : fits 9 n := by unfold fits; omega
theorem fits_div {f m : Nat} (h : fits (f + 1) m) : fits f (m / 128) := by
  unfold fits at *; rw [Nat.pow_succ] at h; omega
theorem fits_u64 {f m : Nat} (h : fits f m) (hf : f ≤ 9) : m < 18446744073709551616 := by
  unfold fits at h
  have : 128 ^ f ≤ 128 ^ 9 := Nat.pow_le_pow_right (by omega) hf
  omega

theorem enc_pos (f n : Nat) : 0 < (enc f n).length := by
  cases f with
  | zero => simp [enc]
  | succ f => unfold enc; split <;> simp
theorem enc_le : ∀ (f n : Nat), (enc f n).length ≤ f + 1
  | 0, n => by simp [enc]
  | f + 1, n => by unfold enc; split <;> simp; exact enc_le f _

theorem enc_small {f n : Nat} (h : n < 128) : enc f n = [n] := by
  cases f with
  | zero => rfl
  | succ f => rw [enc, if_pos h]
theorem enc_great {f n : Nat} (h : 128 ≤ n) : enc (f + 1) n = (n % 128 + 128) :: enc f (n / 128) := by rw [enc, if_neg (by omega)]
theorem enc_one {f n : Nat} (hf : fits f n) (h : (enc f n).length = 1) : n < 128 ∧ enc f n = [n] := by
  cases f with
  | zero => unfold fits at hf; exact ⟨by omega, rfl⟩
  | succ f =>
    by_cases hn : n < 128
    · exact ⟨hn, enc_small hn⟩
    · rw [enc_great (by omega)] at h
      have := enc_pos f (n / 128)
      rw [List.length_cons] at h; omega
theorem enc_more {f n : Nat} (h : 1 < (enc f n).length) : ∃ g, f = g + 1 ∧ 128 ≤ n := by
  cases f with
  | zero => simp [enc] at h
  | succ f =>
    refine ⟨f, rfl, ?_⟩
    by_cases hn : n < 128
    · rw [enc_small hn] at h; simp at h
    · omega
theorem enc_byte : ∀ (f n : Nat), fits f n → ∀ x ∈ enc f n, x < 256
  | 0, n, h, x, hx => by simp [enc] at hx; unfold fits at h; omega
  | f + 1, n, h, x, hx => by
    by_cases hn : n < 128
    · rw [enc_small hn] at hx; simp at hx; omega
    · rw [enc_great (by omega)] at hx
      rcases List.mem_cons.1 hx with rfl | hx
      · omega
      · exact enc_byte f _ (fits_div h) x hx

/-! ### reading -/

def lead : List Nat → Nat
  | [] => 0
  | b :: l => if 128 ≤ b then lead l + 1 else 0
def val : List Nat → Nat
  | [] => 0
  | b :: l => b % 128 + 128 * val l
def okEnd (b s : Nat) : Bool := if s = 0 then true else if s = 9 then b == 1 else b != 0
/-- the number, how many bytes, and the error -/
def get (l : List Nat) : Nat × Nat × Nat :=
  if 10 ≤ lead l then (0, 0, 3) else if lead l = l.length then (0, 0, 2) else if okEnd (l.getD (lead l) 0) (lead l) = true then (val (l.take (lead l + 1)), lead l + 1, 0) else (0, 0, 3)

theorem lead_le : ∀ l : List Nat, lead l ≤ l.length
  | [] => by simp [lead]
  | b :: l => by unfold lead; have := lead_le l; split <;> simp; omega
theorem lead_high : ∀ (l : List Nat) (i : Nat), i < lead l → 128 ≤ l.getD i 0
  | [], i, h => by simp [lead] at h
  | b :: l, i, h => by
    unfold lead at h
    split at h
    · cases i with
      | zero => simpa
      | succ i => simpa using lead_high l i (by omega)
    · omega
theorem lead_low : ∀ (l : List Nat), lead l < l.length → l.getD (lead l) 0 < 128
  | [], h => by simp at h
  | b :: l, h => by
    by_cases hb : 128 ≤ b
    · have e : lead (b :: l) = lead l + 1 := by simp [lead, hb]
      rw [e] at h ⊢
      simpa using lead_low l (by simpa using h)
    · have e : lead (b :: l) = 0 := by simp [lead, hb]
      rw [e]; simp; omega
theorem lead_of_high (l : List Nat) (i : Nat) (hi : i ≤ lead l) (hl : i < l.length) (h : 128 ≤ l.getD i 0) : i + 1 ≤ lead l := by
  rcases Nat.lt_or_ge i (lead l) with h1 | h1
  · omega
  · have e : lead l = i := by omega
    have := lead_low l (by omega)
    rw [e] at this; omega
theorem lead_of_low (l : List Nat) (i : Nat) (hi : i ≤ lead l) (h : l.getD i 0 < 128) : lead l = i := by
  rcases Nat.lt_or_ge i (lead l) with h1 | h1
  · have := lead_high l i h1; omega
  · omega

theorem val_snoc : ∀ (l : List Nat) (b : Nat), val (l ++ [b]) = val l + b % 128 * 128 ^ l.length
  | [], b => by simp [val]
  | a :: l, b => by
    have h := val_snoc l b
    simp only [List.cons_append, val, List.length_cons, h, Nat.pow_succ]
    rw [Nat.mul_add, Nat.add_assoc, Nat.mul_comm (128 ^ l.length) 128, Nat.mul_left_comm]
theorem val_lt : ∀ (l : List Nat), val l < 128 ^ l.length
  | [] => by simp [val]
  | a :: l => by
    have h := val_lt l
    simp only [val, List.length_cons, Nat.pow_succ]
    omega
theorem val_take (l : List Nat) (i : Nat) (h : i < l.length) : val (l.take (i + 1)) = val (l.take i) + l.getD i 0 % 128 * 128 ^ i := by
  rw [List.take_succ_eq_append_getElem h, val_snoc, List.length_take, Nat.min_eq_left (by omega)]
  simp [List.getD, List.getElem?_eq_getElem h]
theorem val_take_lt (l : List Nat) (i : Nat) (h : i ≤ l.length) : val (l.take i) < 128 ^ i := by
  have := val_lt (l.take i)
  rwa [List.length_take, Nat.min_eq_left h] at this

theorem get_long {l : List Nat} (h : 10 ≤ lead l) : get l = (0, 0, 3) := by unfold get; rw [if_pos h]
theorem get_short {l : List Nat} (h : lead l < 10) (e : lead l = l.length) : get l = (0, 0, 2) := by unfold get; rw [if_neg (by omega), if_pos e]
theorem get_bad {l : List Nat} (h : lead l < 10) (e : lead l < l.length) (ho : okEnd (l.getD (lead l) 0) (lead l) = false) : get l = (0, 0, 3) := by
  unfold get; rw [if_neg (by omega), if_neg (by omega), if_neg (by rw [ho]; decide)]
theorem get_good {l : List Nat} (h : lead l < 10) (e : lead l < l.length) (ho : okEnd (l.getD (lead l) 0) (lead l) = true) : get l = (val (l.take (lead l + 1)), lead l + 1, 0) := by
  unfold get; rw [if_neg (by omega), if_neg (by omega), if_pos ho]
theorem get_used (l : List Nat) : (get l).2.1 ≤ l.length := by
  have := lead_le l
  unfold get
  split
  · simp
  · split
    · simp
    · split
      · simp; omega
      · simp
theorem get_num (l : List Nat) : (get l).1 < 18446744073709551616 := by
  have := lead_le l
  unfold get
  split
  · simp
  · split
    · simp
    · split
      · rename_i h1 h2 h3
        show val (l.take (lead l + 1)) < _
        have hv := val_take_lt l (lead l + 1) (by omega)
        rcases Nat.lt_or_ge (lead l) 9 with h9 | h9
        · have : 128 ^ (lead l + 1) ≤ 128 ^ 9 := Nat.pow_le_pow_right (by omega) (by omega)
          omega
        · have e9 : lead l = 9 := by omega
          rw [e9] at h3 ⊢
          have hb : l.getD 9 0 = 1 := by simpa [okEnd] using h3
          rw [val_take l 9 (by omega), hb]
          have := val_take_lt l 9 (by omega)
          omega
      · simp
theorem get_err (l : List Nat) : (get l).2.2 = 0 ∨ (get l).2.2 = 2 ∨ (get l).2.2 = 3 := by
  unfold get
  split
  · simp
  · split
    · simp
    · split <;> simp

/-! ### many -/

def getAll : Nat → List Nat → Nat → List Nat → List Nat × Nat × Nat
  | 0, _, k, acc => (acc, k, 0)
  | f + 1, l, k, acc => if l.length = 0 then (acc, k, 0) else if (get l).2.2 = 0 then getAll f (l.drop (get l).2.1) (k + (get l).2.1) (acc ++ [(get l).1]) else ([], k, (get l).2.2)
theorem get_pos {l : List Nat} (h : (get l).2.2 = 0) : 0 < (get l).2.1 := by
  unfold get at h ⊢
  split at h
  · simp at h
  · split at h
    · simp at h
    · split at h
      · rename_i h1 h2 h3
        rw [if_neg h1, if_neg h2, if_pos h3]
        show 0 < lead l + 1
        omega
      · simp at h
theorem getAll_end (f : Nat) {l : List Nat} (k : Nat) (acc : List Nat) (h : l.length = 0) : getAll f l k acc = (acc, k, 0) := by
  cases f with
  | zero => rfl
  | succ f => rw [getAll, if_pos h]
theorem getAll_bad (f : Nat) {l : List Nat} (k : Nat) (acc : List Nat) (h : 0 < l.length) (hf : l.length ≤ f) (he : (get l).2.2 ≠ 0) : getAll f l k acc = ([], k, (get l).2.2) := by
  cases f with
  | zero => omega
  | succ f => rw [getAll, if_neg (by omega), if_neg he]
theorem getAll_good (f : Nat) {l : List Nat} (k : Nat) (acc : List Nat) (h : 0 < l.length) (hf : l.length ≤ f + 1) (he : (get l).2.2 = 0) : getAll (f + 1) l k acc = getAll f (l.drop (get l).2.1) (k + (get l).2.1) (acc ++ [(get l).1]) ∧ (l.drop (get l).2.1).length ≤ f := by
  refine ⟨by rw [getAll, if_neg (by omega), if_pos he], ?_⟩
  have := get_pos he
  rw [List.length_drop]; omega

theorem getAll_small : ∀ (f : Nat) (l : List Nat) (k : Nat) (acc : List Nat), (getAll f l k acc).1.length ≤ f + acc.length
  | 0, _, _, acc => by simp [getAll]
  | f + 1, l, k, acc => by
    rw [getAll]
    split
    · simp
    · split
      · have := getAll_small f (l.drop (get l).2.1) (k + (get l).2.1) (acc ++ [(get l).1])
        rw [List.length_append] at this
        simp at this ⊢
        omega
      · simp

/-! ### there and back -/

theorem lead_put : ∀ (f n : Nat) (r : List Nat), fits f n → lead (enc f n ++ r) = (enc f n).length - 1
  | 0, n, r, h => by unfold fits at h; simp [enc, lead]; omega
  | f + 1, n, r, h => by
    by_cases hn : n < 128
    · rw [enc_small hn]; simp [lead]; omega
    · rw [enc_great (by omega)]
      have := lead_put f (n / 128) r (fits_div h)
      have hp := enc_pos f (n / 128)
      simp only [List.cons_append, lead]
      rw [if_pos (by omega), this]
      simp; omega
theorem val_put : ∀ (f n : Nat), fits f n → val (enc f n) = n
  | 0, n, h => by unfold fits at h; simp [enc, val]; omega
  | f + 1, n, h => by
    by_cases hn : n < 128
    · rw [enc_small hn]; simp [val]; omega
    · rw [enc_great (by omega)]
      simp only [val, val_put f _ (fits_div h)]
      omega
theorem last_put : ∀ (f n : Nat), fits f n → 1 < (enc f n).length → (enc f n).getD ((enc f n).length - 1) 0 ≠ 0 ∧ ((enc f n).length = f + 1 → (enc f n).getD ((enc f n).length - 1) 0 = 1)
  | 0, n, h, hl => by simp [enc] at hl
  | f + 1, n, h, hl => by
    obtain ⟨g, hg, hn⟩ := enc_more hl
    rw [enc_great hn]
    have hp := enc_pos f (n / 128)
    have hf := fits_div h
    have e : ((n % 128 + 128) :: enc f (n / 128)).getD (((n % 128 + 128) :: enc f (n / 128)).length - 1) 0 = (enc f (n / 128)).getD ((enc f (n / 128)).length - 1) 0 := by
      obtain ⟨k, hk⟩ : ∃ k, (enc f (n / 128)).length = k + 1 := ⟨(enc f (n / 128)).length - 1, by omega⟩
      simp [hk]
    rw [e]
    by_cases h1 : (enc f (n / 128)).length = 1
    · obtain ⟨hs, he⟩ := enc_one hf h1
      rw [he]
      refine ⟨by simp; omega, fun hl' => ?_⟩
      simp at hl'
      have : f = 0 := by omega
      subst this
      unfold fits at hf
      simp; omega
    · obtain ⟨i1, i2⟩ := last_put f (n / 128) hf (by omega)
      refine ⟨i1, fun hl' => i2 ?_⟩
      simp at hl'; omega
theorem get_put (n : Nat) (r : List Nat) (h : n < 18446744073709551616) : get (put n ++ r) = (n, (put n).length, 0) := by
  have hf := fits9 h
  have hl := lead_put 9 n r hf
  have hp := enc_pos 9 n
  have hle := enc_le 9 n
  have hlen : (enc 9 n ++ r).length = (enc 9 n).length + r.length := by simp
  have hg : (enc 9 n ++ r).getD ((enc 9 n).length - 1) 0 = (enc 9 n).getD ((enc 9 n).length - 1) 0 := by
    simp [List.getD, List.getElem?_append_left (show (enc 9 n).length - 1 < (enc 9 n).length by omega)]
  have ho : okEnd ((put n ++ r).getD (lead (put n ++ r)) 0) (lead (put n ++ r)) = true := by
    show okEnd ((enc 9 n ++ r).getD (lead (enc 9 n ++ r)) 0) (lead (enc 9 n ++ r)) = true
    rw [hl, hg]
    unfold okEnd
    by_cases h0 : (enc 9 n).length - 1 = 0
    · rw [if_pos h0]
    · rw [if_neg h0]
      obtain ⟨i1, i2⟩ := last_put 9 n hf (by omega)
      by_cases h9 : (enc 9 n).length - 1 = 9
      · rw [if_pos h9, i2 (by omega)]; rfl
      · rw [if_neg h9]; simpa using i1
  rw [get_good (show lead (put n ++ r) < 10 by show lead (enc 9 n ++ r) < 10; omega) (show lead (put n ++ r) < (put n ++ r).length by show lead (enc 9 n ++ r) < (enc 9 n ++ r).length; omega) ho]
  have e1 : lead (put n ++ r) + 1 = (put n).length := by show lead (enc 9 n ++ r) + 1 = (enc 9 n).length; omega
  rw [e1, List.take_append_of_le_length (Nat.le_refl _), List.take_length]
  show (val (enc 9 n), _, _) = _
  rw [val_put 9 n hf]

/-- bytes that are all but the last at least 128, whose last one is no idle 0, are the groups of their number -/
theorem enc_val : ∀ (f : Nat) (l : List Nat), l.length ≤ f + 1 → 0 < l.length → (∀ i, i + 1 < l.length → 128 ≤ l.getD i 0) → (∀ x ∈ l, x < 256) → l.getD (l.length - 1) 0 < 128 → (1 < l.length → l.getD (l.length - 1) 0 ≠ 0) → enc f (val l) = l
  | f, [], _, h, _, _, _, _ => by simp at h
  | f, [b], _, _, _, _, h, _ => by
    have hb : b < 128 := by simpa using h
    have : val [b] = b := by simp [val]; omega
    rw [this, enc_small hb]
  | 0, b :: c :: l, h, _, _, _, _, _ => by simp at h
  | f + 1, b :: c :: l, h, _, hh, hb, hlast, hz => by
    have h0 : 128 ≤ b := by simpa using hh 0 (by simp)
    have hb' : b < 256 := hb b (by simp)
    have el : (b :: c :: l).getD ((b :: c :: l).length - 1) 0 = (c :: l).getD ((c :: l).length - 1) 0 := by simp
    have ih := enc_val f (c :: l) (by simpa using h) (by simp) (fun i hi => by simpa using hh (i + 1) (by simpa using hi)) (fun x hx => hb x (List.mem_cons_of_mem _ hx)) (by rw [← el]; exact hlast) (fun _ => by rw [← el]; exact hz (by simp))
    have hv : val (b :: c :: l) = b % 128 + 128 * val (c :: l) := rfl
    have hpos : 0 < val (c :: l) := by
      rcases Nat.eq_zero_or_pos (val (c :: l)) with hz0 | hz0
      · rw [hz0, enc_small (by omega)] at ih
        have := hz (by simp)
        rw [el, ← ih] at this
        simp at this
      · exact hz0
    rw [enc_great (by omega), show val (b :: c :: l) / 128 = val (c :: l) by omega, ih, show val (b :: c :: l) % 128 + 128 = b by omega]
theorem put_get (l : List Nat) (hb : ∀ x ∈ l, x < 256) (h : (get l).2.2 = 0) : put (get l).1 = l.take (get l).2.1 := by
  have hle := lead_le l
  unfold get at h ⊢
  split at h
  · simp at h
  · split at h
    · simp at h
    · split at h
      · rename_i h1 h2 h3
        rw [if_neg h1, if_neg h2, if_pos h3]
        show enc 9 (val (l.take (lead l + 1))) = l.take (lead l + 1)
        have hlen : (l.take (lead l + 1)).length = lead l + 1 := by rw [List.length_take]; omega
        have hg : ∀ i, i ≤ lead l → (l.take (lead l + 1)).getD i 0 = l.getD i 0 := fun i hi => by
          simp [List.getD, List.getElem?_take_of_lt (show i < lead l + 1 by omega)]
        refine enc_val 9 _ (by omega) (by omega) (fun i hi => ?_) (fun x hx => hb x (List.mem_of_mem_take hx)) ?_ (fun hi => ?_)
        · rw [hg i (by omega)]; exact lead_high l i (by omega)
        · rw [hlen, hg _ (by omega)]; exact lead_low l (by omega)
        · rw [hlen, hg _ (by omega)]
          show l.getD (lead l) 0 ≠ 0
          unfold okEnd at h3
          rw [if_neg (by omega)] at h3
          split at h3
          · have : l.getD (lead l) 0 = 1 := by simpa using h3
            omega
          · simpa using h3
      · simp at h

/-! ### bit operations as the walks spell them -/

theorem not_u64 (a : Int) (h0 : 0 ≤ a) (h1 : a ≤ 18446744073709551615) : bits .xor .u64 IntKind.u64.max a = 18446744073709551615 - a := by
  obtain ⟨n, rfl⟩ := Int.eq_ofNat_of_zero_le h0
  show IntKind.u64.wrap ((BitVec.ofInt 64 IntKind.u64.max ^^^ BitVec.ofInt 64 (n : Int)).toNat : Int) = _
  have hm : BitVec.ofInt 64 IntKind.u64.max = BitVec.allOnes 64 := by decide
  rw [hm, BitVec.allOnes_xor, BitVec.toNat_not, ofInt_u64 n (by omega), IntKind.wrap_u64]
  omega
theorem and127 (a : Int) (h0 : 0 ≤ a) (h1 : a < 256) : bits .and .u8 a 127 = a % 128 := bits_mask .u8 8 (by decide) wraps_u8 7 (by decide) a h0 h1
theorem or128 (a : Int) (h0 : 0 ≤ a) (h1 : a < 256) : bits .or .u8 a 128 = a % 128 + 128 := by
  obtain ⟨n, rfl⟩ := Int.eq_ofNat_of_zero_le h0
  have e := u8_or_nat n 128 (by omega) (by omega)
  rw [show ((128 : Nat) : Int) = 128 from rfl] at e
  rw [e]
  have h : ∀ m : Fin 256, m.val ||| 128 = m.val % 128 + 128 := by decide +kernel
  have := h ⟨n, by omega⟩
  simp only at this
  rw [this]; omega
theorem or_join (x y : Nat) (i : Nat) (hx : x < 2 ^ i) (hy : y % 2 ^ i = 0) (h1 : x < 18446744073709551616) (h2 : y < 18446744073709551616) : bits .or .u64 (x : Int) (y : Int) = ((x + y : Nat) : Int) := by
  rw [bits_or_u64_nat x y h1 h2, Nat.or_comm, nat_join i y x hy hx, Nat.add_comm]
theorem okEnd_last {x j : Nat} (hj : j ≤ 9) (h : okEnd x j = true) : j ≤ 8 ∨ x ≤ 1 := by
  by_cases h9 : j = 9
  · subst h9; simp [okEnd] at h; omega
  · omega
theorem pow7 (j : Nat) : (2 : Nat) ^ (7 * j) = 128 ^ j := by rw [Nat.pow_mul]
/-- what a round of Get adds -/
theorem acc_next {l : List Nat} {j a x : Nat} (hv : j ≤ 9 → a = val (l.take j)) (hj : j ≤ 9) (hl : j < l.length) (hx : l.getD j 0 = x) (hs : j ≤ 8 ∨ x ≤ 1) :
    bits .or .u64 (a : Int) (IntKind.u64.wrap ((x : Int) % 128 * 2 ^ (7 * j))) = ((val (l.take (j + 1)) : Nat) : Int) := by
  have e := val_take l j hl
  rw [hx] at e
  have ha : a = val (l.take j) := hv hj
  have hlt := val_take_lt l j (by omega)
  rw [← ha] at e hlt
  have hp : 0 < 128 ^ j := Nat.pow_pos (by omega)
  have hy : x % 128 * 128 ^ j ≤ 9223372036854775808 := by
    rcases hs with h | h
    · have h1 : 128 ^ j ≤ 128 ^ 8 := Nat.pow_le_pow_right (by omega) h
      have h2 : x % 128 ≤ 128 := by omega
      have := Nat.mul_le_mul h2 h1
      omega
    · have h1 : 128 ^ j ≤ 128 ^ 9 := Nat.pow_le_pow_right (by omega) hj
      have h2 : x % 128 ≤ 1 := by omega
      have := Nat.mul_le_mul h2 h1
      omega
  have h9 : 128 ^ j ≤ 128 ^ 9 := Nat.pow_le_pow_right (by omega) hj
  have ec : ((x : Int) % 128 * 2 ^ (7 * j)) = ((x % 128 * 128 ^ j : Nat) : Int) := by
    rw [← pow7]; simp
  rw [ec, IntKind.wrap_u64, show (((x % 128 * 128 ^ j : Nat) : Int) % 18446744073709551616) = ((x % 128 * 128 ^ j : Nat) : Int) by omega]
  rw [or_join a (x % 128 * 128 ^ j) (7 * j) (by rw [pow7]; exact hlt) (by rw [pow7]; exact Nat.mul_mod_left _ _) (by omega) (by omega), e]
/-- what a round of the reference's second loop adds -/
theorem acc_next' {l : List Nat} {i a p x : Nat} (ha : a = val (l.take i)) (hp : i ≤ 9 → p = 128 ^ i) (hi : i ≤ 9) (hl : i < l.length) (hx : l.getD i 0 = x) (hs : i ≤ 8 ∨ x % 128 ≤ 1) :
    IntKind.u64.wrap ((a : Int) + IntKind.u64.wrap ((x : Int) % 128 * (p : Int))) = ((val (l.take (i + 1)) : Nat) : Int) ∧ val (l.take (i + 1)) < 18446744073709551616 := by
  have e := val_take l i hl
  rw [hx] at e
  have hlt := val_take_lt l i (by omega)
  rw [← ha] at e hlt
  rw [hp hi]
  have h9 : 128 ^ i ≤ 128 ^ 9 := Nat.pow_le_pow_right (by omega) hi
  have hy : a + x % 128 * 128 ^ i < 18446744073709551616 := by
    rcases hs with h | h
    · have h1 : 128 ^ i ≤ 128 ^ 8 := Nat.pow_le_pow_right (by omega) h
      have h2 : x % 128 ≤ 128 := by omega
      have := Nat.mul_le_mul h2 h1
      omega
    · have := Nat.mul_le_mul h h9
      omega
  have ec : ((x : Int) % 128 * ((128 ^ i : Nat) : Int)) = ((x % 128 * 128 ^ i : Nat) : Int) := by simp
  rw [ec, e]
  generalize x % 128 * 128 ^ i = y at *
  refine ⟨?_, by omega⟩
  rw [IntKind.wrap_u64, IntKind.wrap_u64]
  omega
theorem pow_next {i p : Nat} (hp : i ≤ 9 → p = 128 ^ i) (hi : i ≤ 9) : ∃ q : Nat, IntKind.u64.wrap ((p : Int) * 128) = (q : Int) ∧ q < 18446744073709551616 ∧ (i + 1 ≤ 9 → q = 128 ^ (i + 1)) := by
  refine ⟨(IntKind.u64.wrap ((p : Int) * 128)).toNat, ?_, ?_, fun h => ?_⟩
  · rw [IntKind.wrap_u64]; omega
  · rw [IntKind.wrap_u64]; omega
  · rw [hp hi, IntKind.wrap_u64]
    have h8 : 128 ^ i ≤ 128 ^ 8 := Nat.pow_le_pow_right (by omega) (show i ≤ 8 by omega)
    rw [Nat.pow_succ]
    generalize 128 ^ i = y at *
    omega
/-- how the reference's two loops end -/
theorem end_bad9 {l : List Nat} {j x : Nat} (hj : j = 9) (hl : j < l.length) (e : lead l = j) (hx : l.getD j 0 = x) (h : 1 < x % 128) : get l = (0, 0, 3) := by
  refine get_bad (by omega) (by omega) ?_
  rw [e, hx, hj]; simp [okEnd]; omega
theorem end_bad0 {l : List Nat} {j x : Nat} (hj : j < 10) (h0 : 0 < j) (hl : j < l.length) (e : lead l = j) (hx : l.getD j 0 = x) (h : x = 0) : get l = (0, 0, 3) := by
  refine get_bad (by omega) (by omega) ?_
  rw [e, hx, h]
  unfold okEnd
  rw [if_neg (by omega)]
  split <;> rfl
theorem end_good {l : List Nat} {j x : Nat} (hj : j < 10) (hl : j < l.length) (e : lead l = j) (hx : l.getD j 0 = x) (h0 : 0 < j → x ≠ 0) (h9 : j = 9 → x ≤ 1) : get l = (val (l.take (j + 1)), j + 1, 0) := by
  rw [get_good (by omega) (by omega), e]
  rw [e, hx]
  unfold okEnd
  split
  · rfl
  · have := h0 (by omega)
    split
    · have := h9 (by assumption); simp; omega
    · simpa using this
theorem acc_some (a b : Int) : ∃ c : Nat, bits .or .u64 a b = (c : Int) ∧ c < 18446744073709551616 := by
  have h0 := bits_lo_u64 .or a b
  have h1 := bits_hi_u64 .or a b
  exact ⟨(bits .or .u64 a b).toNat, by omega, by omega⟩
end Go.Proofs.Ytjomchehnlnfcaa.Um
/- Contracts of uvar.Zig, uvar.Zag, uvar.Size and uvar.canEnd. -/
namespace Go.Proofs.Ytjomchehnlnfcaa
open Go.RowKit
set_option linter.unusedVariables false

/-- what Zig comes to -/
def zigI (n : Int) : Int := if 0 ≤ n then 2 * n else -2 * n - 1
/-- what Zag comes to -/
def zagI (u : Int) : Int := if u % 2 = 0 then u / 2 else -((u + 1) / 2)

theorem zig_neg (n : Int) (h : n < 0) (h1 : -9223372036854775808 ≤ n) : bits .xor .u64 IntKind.u64.max (IntKind.u64.wrap (IntKind.u64.wrap n * 2)) = zigI n := by
  have e1 : IntKind.u64.wrap n = n + 18446744073709551616 := by rw [IntKind.wrap_u64]; omega
  have e2 : IntKind.u64.wrap ((n + 18446744073709551616) * 2) = 2 * n + 18446744073709551616 := by rw [IntKind.wrap_u64]; omega
  rw [e1, e2, Um.not_u64 _ (by omega) (by omega)]
  unfold zigI
  rw [if_neg (by omega)]; omega
theorem zig_pos (n : Int) (h : 0 ≤ n) : n * 2 = zigI n := by unfold zigI; rw [if_pos h]; omega
theorem zig_bounds (n : Int) (h1 : -9223372036854775808 ≤ n) (h2 : n ≤ 9223372036854775807) : 0 ≤ zigI n ∧ zigI n ≤ 18446744073709551615 := by unfold zigI; split <;> omega
theorem zag_bounds (u : Int) (h1 : 0 ≤ u) (h2 : u ≤ 18446744073709551615) : -9223372036854775808 ≤ zagI u ∧ zagI u ≤ 9223372036854775807 := by unfold zagI; split <;> omega
theorem zag_zig (n : Int) : zagI (zigI n) = n := by unfold zagI zigI; repeat' split <;> omega
theorem zig_zag (u : Int) (h1 : 0 ≤ u) : zigI (zagI u) = u := by unfold zagI zigI; repeat' split <;> omega
theorem zag_odd (u : Int) (h1 : 0 ≤ u) (h2 : u ≤ 18446744073709551615) (h : u % 2 = 1) : bits .xor .i64 (-1) (u / 2) = zagI u := by
  obtain ⟨a, ha⟩ := Int.eq_ofNat_of_zero_le (show 0 ≤ u / 2 by omega)
  rw [ha, i64_not a (by omega)]
  unfold zagI
  rw [if_neg (by omega)]; omega
theorem zag_even (u : Int) (h : u % 2 = 0) : u / 2 = zagI u := by unfold zagI; rw [if_pos h]

theorem size_end {L j a : Nat} (h0 : a < 128) (h : L = j + (Um.enc (9 - j) a).length) : ((j : Int) + 1) = (L : Int) := by
  rw [Um.enc_small h0] at h; simp at h; omega
theorem size_ten {L j a : Nat} (hj : j = 9) (h : L = j + (Um.enc (9 - j) a).length) : (10 : Int) = (L : Int) := by
  subst hj; simp [Um.enc] at h; omega
theorem size_next {L j a : Nat} (hj : j < 9) (h0 : ¬ a < 128) (hf : Um.fits (9 - j) a) (h : L = j + (Um.enc (9 - j) a).length) : Um.fits (9 - (j + 1)) (a / 128) ∧ L = j + 1 + (Um.enc (9 - (j + 1)) (a / 128)).length := by
  obtain ⟨f, hf9⟩ : ∃ f, 9 - j = f + 1 := ⟨8 - j, by omega⟩
  have e : 9 - (j + 1) = f := by omega
  rw [hf9] at h hf
  rw [e]
  rw [Um.enc_great (by omega)] at h
  simp at h
  exact ⟨Um.fits_div hf, by omega⟩
theorem beq_nat (b c : Nat) : ((b : Int) == (c : Int)) = (b == c) := by rw [Bool.eq_iff_iff]; simp; omega
theorem bne_nat (b c : Nat) : ((b : Int) != (c : Int)) = (b != c) := by rw [Bool.eq_iff_iff]; simp; omega
end Go.Proofs.Ytjomchehnlnfcaa
/- Contracts of uvar.Put, uvar.Get. -/
namespace Go.Proofs.Ytjomchehnlnfcaa
open Go.RowKit
set_option linter.unusedVariables false

/-- what a loop that writes the groups of n behind xs has done, when ys of them stand there -/
structure Puts (base : Nat) (xs : List Nat) (n : Nat) (w : World) (ys : List Nat) (j m : Nat) (v : Value) (wr : World) : Prop where
  len : ys.length = j
  le : j ≤ 9
  fits : Um.fits (9 - j) m
  put : Um.put n = ys ++ Um.enc (9 - j) m
  own : wr.ownsRow base 5 1 v (xs.length + j) (ints .u8 (xs ++ ys))
  below : Below base w wr
  size : base ≤ wr.heap.size

section
variable {base : Nat} {xs : List Nat} {n : Nat} {w : World} {ys : List Nat} {j m : Nat} {v v' : Value} {wr w1 : World} {o : Obj}
theorem Puts.long (h : Puts base xs n w ys j m v wr) : (Um.put n).length = j + (Um.enc (9 - j) m).length := by rw [h.put, List.length_append, h.len]
theorem Puts.start (hn : n < 18446744073709551616) (ho : w.ownsRow base 5 1 v xs.length (ints .u8 xs)) (hb : base ≤ w.heap.size) : Puts base xs n w [] 0 n v w :=
  ⟨rfl, by omega, Um.fits9 hn, rfl, by simpa using ho, Below.refl _ _, hb⟩
theorem Puts.great (h : Puts base xs n w ys j m v wr) (hl : j + 1 < (Um.put n).length) : 128 ≤ m := by
  obtain ⟨_, _, h2⟩ := Um.enc_more (f := 9 - j) (n := m) (by have := h.long; omega)
  exact h2
theorem Puts.small (h : Puts base xs n w ys j m v wr) (hl : (Um.put n).length = j + 1) : m < 128 := (Um.enc_one h.fits (by have := h.long; omega)).1
theorem Puts.next (h : Puts base xs n w ys j m v wr) (hm : 128 ≤ m) {x : Int} (hx : x = (m : Int) % 128 + 128)
    (ho : w1.ownsRow base 5 1 v' (xs.length + j + 1) (ints .u8 (xs ++ ys) ++ [.int .u8 x])) (hg : (wr.alloc o).grownBy w1 v.ownBlock) : Puts base xs n w (ys ++ [m % 128 + 128]) (j + 1) (m / 128) v' w1 := by
  obtain ⟨h1, h2, h3, h4, h5, h6, h7⟩ := h
  have h9 : j < 9 := by
    rcases Nat.lt_or_ge j 9 with h | h
    · exact h
    · have : j = 9 := by omega
      subst this
      unfold Um.fits at h3; omega
  obtain ⟨f, hf⟩ : ∃ f, 9 - j = f + 1 := ⟨8 - j, by omega⟩
  have hf' : 9 - (j + 1) = f := by omega
  rw [hf] at h3 h4
  have ex : x = ((m % 128 + 128 : Nat) : Int) := by omega
  refine ⟨by simp [h1], by omega, ?_, ?_, ?_, ?_, ?_⟩
  · rw [hf']; exact Um.fits_div h3
  · rw [hf', List.append_assoc, h4, Um.enc_great hm]; rfl
  · rw [← List.append_assoc, ints_append]; rw [ex] at ho; exact ho
  · exact (h6.alloc h7 o).grown hg (by simp; omega) (fun k hk => (h5.lt k hk).1)
  · have := hg.size; simp at this; omega
theorem Puts.done (h : Puts base xs n w ys j m v wr) (hl : (Um.put n).length = j + 1) {x : Int} (hx : x = (m : Int))
    (ho : w1.ownsRow base 5 1 v' (xs.length + j + 1) (ints .u8 (xs ++ ys) ++ [.int .u8 x])) (hg : (wr.alloc o).grownBy w1 v.ownBlock) : Made .u8 5 base (xs ++ Um.put n) w (.returned v') w1 := by
  have hone : (Um.enc (9 - j) m).length = 1 := by have := h.long; omega
  obtain ⟨h1, h2, h3, h4, h5, h6, h7⟩ := h
  obtain ⟨_, e⟩ := Um.enc_one h3 hone
  subst hx
  refine ⟨v', rfl, ?_, ?_⟩
  · rw [h4, e, ← List.append_assoc, ints_append, List.length_append, List.length_append, h1]
    exact ho
  · exact (h6.alloc h7 o).grown hg (by simp; omega) (fun k hk => (h5.lt k hk).1)
end

end Go.Proofs.Ytjomchehnlnfcaa
/- Contracts of the reference's functions of layer 1. -/
namespace Go.Proofs.Ytjomchehnlnfcaa
open Go.RowKit
set_option linter.unusedVariables false

theorem zigr_neg (n : Int) (h : n < 0) : 2 * -(n + 1) + 1 = zigI n := by unfold zigI; rw [if_neg (by omega)]; omega
end Go.Proofs.Ytjomchehnlnfcaa
/- Plain mathematics for layer 6: numbers in a fixed count of bytes, and what a reader of bytes answers. No program. -/
namespace Go.Proofs.Ytjomchehnlnfcaa.Bm

/-- the s lowest bytes of n, the greatest first -/
def fix : Nat → Nat → List Nat
  | 0, _ => []
  | s + 1, n => fix s (n / 256) ++ [n % 256]
theorem fix_length : ∀ (s n : Nat), (fix s n).length = s
  | 0, _ => rfl
  | s + 1, n => by simp [fix, fix_length s]
theorem fix_byte : ∀ (s n : Nat), ∀ x ∈ fix s n, x < 256
  | 0, _, x, h => by simp [fix] at h
  | s + 1, n, x, h => by
    simp only [fix, List.mem_append, List.mem_singleton] at h
    rcases h with h | h
    · exact fix_byte s _ x h
    · omega
theorem fix_front : ∀ (s n : Nat), fix (s + 1) n = (n / 256 ^ s % 256) :: fix s n
  | 0, n => by simp [fix]
  | s + 1, n => by
    rw [fix, fix_front s (n / 256), Nat.div_div_eq_div_mul, Nat.pow_succ, Nat.mul_comm (256 ^ s) 256]
    rfl
theorem fix_get : ∀ (s n i : Nat), i < s → (fix s n).getD i 0 = n / 256 ^ (s - 1 - i) % 256
  | 0, _, i, h => by omega
  | s + 1, n, 0, _ => by rw [fix_front]; simp
  | s + 1, n, i + 1, h => by
    rw [fix_front]
    have ih := fix_get s n i (by omega)
    rw [show s + 1 - 1 - (i + 1) = s - 1 - i by omega, ← ih]
    simp [List.getD]
/-- the same for any size: none outside 1 to 8 -/
def fixI (n : Nat) (s : Int) : List Nat := if 1 ≤ s ∧ s ≤ 8 then fix s.toNat n else []
theorem fixI_good {n k : Nat} (h1 : 1 ≤ k) (h8 : k ≤ 8) : fixI n (k : Int) = fix k n := by unfold fixI; rw [if_pos (by omega), Int.toNat_natCast]
theorem fixI_bad {n : Nat} {s : Int} (h : s < 1 ∨ 8 < s) : fixI n s = [] := if_neg (by omega)
theorem fixI_le (n : Nat) (s : Int) : (fixI n s).length ≤ 8 := by
  unfold fixI
  split
  · rw [fix_length]; omega
  · simp
theorem fixI_byte (n : Nat) (s : Int) : ∀ x ∈ fixI n s, x < 256 := by
  unfold fixI
  split
  · exact fix_byte _ _
  · simp
/-- the number that bytes are, the greatest first -/
def be (l : List Nat) : Nat := l.foldl (fun a x => a * 256 + x) 0
theorem be_snoc (l : List Nat) (x : Nat) : be (l ++ [x]) = be l * 256 + x := by simp [be]
theorem be_fix : ∀ (s n : Nat), be (fix s n) = n % 256 ^ s
  | 0, n => by simp [fix, be, Nat.mod_one]
  | s + 1, n => by
    rw [fix, be_snoc, be_fix s, Nat.pow_succ, Nat.mul_comm (256 ^ s) 256, Nat.mod_mul]
    omega
theorem be_take (l : List Nat) (hb : ∀ x ∈ l, x < 256) : ∀ i, i ≤ l.length → be (l.take i) < 256 ^ i
  | 0, _ => by simp [be]
  | i + 1, h => by
    have ih := be_take l hb i (by omega)
    have hx := hb l[i] (List.getElem_mem (by omega))
    rw [List.take_succ_eq_append_getElem (by omega), be_snoc, Nat.pow_succ]
    omega
theorem be_next (l : List Nat) (i : Nat) (h : i < l.length) : be (l.take (i + 1)) = be (l.take i) * 256 + l.getD i 0 := by
  rw [List.take_succ_eq_append_getElem h, be_snoc]
  simp [List.getD, List.getElem?_eq_getElem h]
theorem pow7 {i : Nat} (h : i ≤ 7) : 256 ^ i ≤ 256 ^ 7 := Nat.pow_le_pow_right (by omega) h
theorem pow8 {i : Nat} (h : i ≤ 8) : 256 ^ i ≤ 256 ^ 8 := Nat.pow_le_pow_right (by omega) h

/-! ### what a reader answers: the bytes that are left, the error, then the answer, what is left, the error -/

def take (l : List Nat) (e n : Int) : List Nat × List Nat × Int :=
  if e ≠ 0 then ([], l, e) else if n < 0 then ([], l, 1) else if (l.length : Int) < n then ([], l, 2) else (l.take n.toNat, l.drop n.toNat, 0)
def rfix (l : List Nat) (e s : Int) : Nat × List Nat × Int :=
  if e ≠ 0 then (0, l, e) else if s < 1 ∨ 8 < s then (0, l, 1) else if (l.length : Int) < s then (0, l, 2) else (be (l.take s.toNat), l.drop s.toNat, 0)
def uvar (l : List Nat) (e : Int) (most : Nat) : Nat × List Nat × Int :=
  if e ≠ 0 then (0, l, e) else if (Um.get l).2.2 ≠ 0 then (0, l, ((Um.get l).2.2 : Int)) else if most < (Um.get l).1 then (0, l, 5) else ((Um.get l).1, l.drop (Um.get l).2.1, 0)
def flag (l : List Nat) (e : Int) : Bool × List Nat × Int :=
  if e ≠ 0 then (false, l, e) else if l.length = 0 then (false, l, 2) else if 1 < l.getD 0 0 then (false, l, 3) else (l.getD 0 0 == 1, l.drop 1, 0)
def text (l : List Nat) (e most : Int) : List Nat × List Nat × Int :=
  if e ≠ 0 then ([], l, e) else if (Um.get l).2.2 ≠ 0 then ([], l, ((Um.get l).2.2 : Int)) else if most < ((Um.get l).1 : Int) then ([], l, 5)
  else if l.length - (Um.get l).2.1 < (Um.get l).1 then ([], l, 2) else ((l.drop (Um.get l).2.1).take (Um.get l).1, (l.drop (Um.get l).2.1).drop (Um.get l).1, 0)
def left (l : List Nat) (e : Int) : Nat := if e ≠ 0 then 0 else l.length
def fail (e x : Int) : Int := if e ≠ 0 then e else x
def fin (l : List Nat) (e : Int) : Int := if e ≠ 0 then e else if 0 < l.length then 4 else 0

section
variable {l : List Nat} {e n s most : Int} {m : Nat}
theorem take_err (he : e ≠ 0) : take l e n = ([], l, e) := if_pos he
theorem take_neg (hn : n < 0) : take l 0 n = ([], l, 1) := by simp [take, hn]
theorem take_short (hn : (l.length : Int) < n) : take l 0 n = ([], l, 2) := by
  have : ¬ n < 0 := by omega
  simp [take, hn, this]
theorem take_good {k : Nat} (hk : k ≤ l.length) : take l 0 (k : Int) = (l.take k, l.drop k, 0) := by
  have h1 : ¬ (k : Int) < 0 := by omega
  have h2 : ¬ (l.length : Int) < (k : Int) := by omega
  simp [take, h1, h2]
theorem take_small (l : List Nat) (e n : Int) : (take l e n).1.length ≤ l.length ∧ (take l e n).2.1.length ≤ l.length := by
  unfold take
  split
  · simp
  · split
    · simp
    · split
      · simp
      · simp; omega
theorem rfix_small (l : List Nat) (e n : Int) : (rfix l e n).2.1.length ≤ l.length := by
  unfold rfix
  repeat' split
  all_goals simp
theorem uvar_small (l : List Nat) (e : Int) (m : Nat) : (uvar l e m).2.1.length ≤ l.length := by
  unfold uvar
  repeat' split
  all_goals simp
theorem flag_small (l : List Nat) (e : Int) : (flag l e).2.1.length ≤ l.length := by
  unfold flag
  repeat' split
  all_goals simp
theorem text_small (l : List Nat) (e m : Int) : (text l e m).1.length ≤ l.length ∧ (text l e m).2.1.length ≤ l.length := by
  unfold text
  repeat' split
  all_goals simp
  all_goals omega
theorem rfix_err (he : e ≠ 0) : rfix l e s = (0, l, e) := if_pos he
theorem rfix_arg (hs : s < 1 ∨ 8 < s) : rfix l 0 s = (0, l, 1) := by simp [rfix, hs]
theorem rfix_short {k : Nat} (h1 : 1 ≤ k) (h8 : k ≤ 8) (hl : l.length < k) : rfix l 0 (k : Int) = (0, l, 2) := by
  have h2 : ¬ ((k : Int) < 1 ∨ 8 < (k : Int)) := by omega
  have h3 : (l.length : Int) < (k : Int) := by omega
  simp [rfix, h2, h3]
theorem rfix_good {k : Nat} (h1 : 1 ≤ k) (h8 : k ≤ 8) (hl : k ≤ l.length) : rfix l 0 (k : Int) = (be (l.take k), l.drop k, 0) := by
  have h2 : ¬ ((k : Int) < 1 ∨ 8 < (k : Int)) := by omega
  have h3 : ¬ (l.length : Int) < (k : Int) := by omega
  simp [rfix, h2, h3]
theorem uvar_err (he : e ≠ 0) : uvar l e m = (0, l, e) := if_pos he
theorem uvar_get {q u x : Nat} (hg : Um.get l = (q, u, x)) (hx : x ≠ 0) : uvar l 0 m = (0, l, (x : Int)) := by simp [uvar, hg, hx]
theorem uvar_long {q u : Nat} (hg : Um.get l = (q, u, 0)) (hx : m < q) : uvar l 0 m = (0, l, 5) := by simp [uvar, hg, hx]
theorem uvar_good {q u : Nat} (hg : Um.get l = (q, u, 0)) (hx : ¬ m < q) : uvar l 0 m = (q, l.drop u, 0) := by simp [uvar, hg, hx]
theorem flag_err (he : e ≠ 0) : flag l e = (false, l, e) := if_pos he
theorem flag_short (h : l.length = 0) : flag l 0 = (false, l, 2) := by simp only [flag, h]; rfl
theorem flag_form (h : l.length ≠ 0) (hx : 1 < l.getD 0 0) : flag l 0 = (false, l, 3) := by simp only [flag, h, if_pos hx]; rfl
theorem flag_good (h : l.length ≠ 0) (hx : ¬ 1 < l.getD 0 0) : flag l 0 = (l.getD 0 0 == 1, l.drop 1, 0) := by simp only [flag, h, if_neg hx]; rfl
theorem text_err (he : e ≠ 0) : text l e most = ([], l, e) := if_pos he
theorem text_get {q u x : Nat} (hg : Um.get l = (q, u, x)) (hx : x ≠ 0) : text l 0 most = ([], l, (x : Int)) := by simp [text, hg, hx]
theorem text_long {q u : Nat} (hg : Um.get l = (q, u, 0)) (hx : most < (q : Int)) : text l 0 most = ([], l, 5) := by simp [text, hg, hx]
theorem text_short {q u : Nat} (hg : Um.get l = (q, u, 0)) (hx : ¬ most < (q : Int)) (hs : l.length - u < q) : text l 0 most = ([], l, 2) := by simp [text, hg, hx, hs]
theorem text_good {q u : Nat} (hg : Um.get l = (q, u, 0)) (hx : ¬ most < (q : Int)) (hs : ¬ l.length - u < q) : text l 0 most = ((l.drop u).take q, (l.drop u).drop q, 0) := by
  simp only [text, hg]
  rw [if_neg (by simp), if_neg (by simp), if_neg hx, if_neg hs]
theorem left_err (he : e ≠ 0) : left l e = 0 := if_pos he
theorem left_ok : left l 0 = l.length := rfl
theorem fail_err {x : Int} (he : e ≠ 0) : fail e x = e := if_pos he
theorem fail_ok {x : Int} : fail 0 x = x := rfl
theorem fin_err (he : e ≠ 0) : fin l e = e := if_pos he
theorem fin_more (h : 0 < l.length) : fin l 0 = 4 := by simp [fin, h]
theorem fin_ok (h : l.length = 0) : fin l 0 = 0 := by simp [fin, h]

theorem text_put (p rest : List Nat) (hp : p.length < 18446744073709551616) (h : (p.length : Int) ≤ most) : text (Um.put p.length ++ p ++ rest) 0 most = (p, rest, 0) := by
  have hg := Um.get_put p.length (p ++ rest) hp
  rw [← List.append_assoc] at hg
  have e1 : (Um.put p.length ++ p ++ rest).drop (Um.put p.length).length = p ++ rest := by rw [List.append_assoc]; exact List.drop_left
  rw [text_good hg (by omega) (by simp only [List.length_append]; omega), e1, List.take_left, List.drop_left]
theorem rfix_put (n k : Nat) (rest : List Nat) (h1 : 1 ≤ k) (h8 : k ≤ 8) : rfix (fix k n ++ rest) 0 (k : Int) = (n % 256 ^ k, rest, 0) := by
  rw [rfix_good h1 h8 (by rw [List.length_append, fix_length]; omega), List.take_left' (fix_length k n), List.drop_left' (fix_length k n), be_fix]
/-- two numbers that agree in their i lowest bytes, moved up by one -/
theorem move_up {N M i : Nat} (hi : i ≤ 7) (h : N % 256 ^ i = M % 256 ^ i) : N * 256 % 18446744073709551616 % 256 ^ (i + 1) = M * 256 % 18446744073709551616 % 256 ^ (i + 1) := by
  have hd : 256 ^ (i + 1) ∣ 18446744073709551616 := by
    rw [show (18446744073709551616 : Nat) = 256 ^ 8 by decide]
    exact Nat.pow_dvd_pow 256 (by omega)
  rw [Nat.mod_mod_of_dvd _ hd, Nat.mod_mod_of_dvd _ hd, Nat.pow_succ, Nat.mul_mod_mul_right, Nat.mul_mod_mul_right, h]
/-- what a deed makes of the bytes that are left and of the error -/
def next (k N : Int) (U : Nat) (l : List Nat) (e : Int) : List Nat × Int :=
  if k = 0 then (rfix l e N).2 else if k = 1 then (uvar l e U).2 else if k = 2 then (flag l e).2 else if k = 3 then (take l e N).2 else if k = 4 then (text l e N).2 else if k = 6 then (l, fail e N) else (l, e)
theorem next0 {N : Int} {U : Nat} : next 0 N U l e = (rfix l e N).2 := rfl
theorem next1 {N : Int} {U : Nat} : next 1 N U l e = (uvar l e U).2 := rfl
theorem next2 {N : Int} {U : Nat} : next 2 N U l e = (flag l e).2 := rfl
theorem next3 {N : Int} {U : Nat} : next 3 N U l e = (take l e N).2 := rfl
theorem next4 {N : Int} {U : Nat} : next 4 N U l e = (text l e N).2 := rfl
theorem next6 {N : Int} {U : Nat} : next 6 N U l e = (l, fail e N) := rfl
theorem next5 {k N : Int} {U : Nat} (h : k ≠ 0 ∧ k ≠ 1 ∧ k ≠ 2 ∧ k ≠ 3 ∧ k ≠ 4 ∧ k ≠ 6) : next k N U l e = (l, e) := by
  obtain ⟨h0, h1, h2, h3, h4, h6⟩ := h
  unfold next
  rw [if_neg h0, if_neg h1, if_neg h2, if_neg h3, if_neg h4, if_neg h6]
theorem next_small (k N : Int) (U : Nat) (l : List Nat) (e : Int) : (next k N U l e).1.length ≤ l.length := by
  unfold next
  split
  · exact rfix_small l e N
  · split
    · exact uvar_small l e U
    · split
      · exact flag_small l e
      · split
        · exact (take_small l e N).2
        · split
          · exact (text_small l e N).2
          · split
            · exact Nat.le_refl _
            · exact Nat.le_refl _
end
end Go.Proofs.Ytjomchehnlnfcaa.Bm
/- The reader of layer 6 as memory, and contracts of its methods Err, Left, Fail, End, next. -/
namespace Go.Proofs.Ytjomchehnlnfcaa
open Go.RowKit
set_option linter.unusedVariables false

/-- the reader in block g has the bytes l left, in A, and the error e -/
structure RdAt (w : World) (g : Nat) (A : Option Addr) (c : Nat) (l : List Nat) (e : Int) : Prop where
  whole : Whole w g 76 #[.bool true, .slice A l.length c, .int .i64 e]
  sees : Sees .u8 w g A l
  byte : ∀ x ∈ l, x < 256
  le : l.length ≤ c
  max : c ≤ maxLen
  null : A = none → c = 0
def Rd (w : World) (g : Nat) (l : List Nat) (e : Int) : Prop := ∃ A c, RdAt w g A c l e
section
variable {w w' : World} {g h c B : Nat} {A : Option Addr} {l : List Nat} {e x : Int}
theorem RdAt.made (h : RdAt w g A c l e) : w.cell? ⟨g, 0, none⟩ = some (.bool true) := h.whole.at_ 0
theorem RdAt.rest (h : RdAt w g A c l e) : w.cell? ⟨g, 1, none⟩ = some (.slice A l.length c) := h.whole.at_ 1
theorem RdAt.err (h : RdAt w g A c l e) : w.cell? ⟨g, 2, none⟩ = some (.int .i64 e) := h.whole.at_ 2
theorem RdAt.free (h : RdAt w g A c l e) (i : Nat) : w.frozen? ⟨g, i, none⟩ = false := h.whole.free i
theorem RdAt.size (h : RdAt w g A c l e) : l.length ≤ 9223372036854775807 := by
  have h1 := h.le
  have h2 := h.max
  unfold maxLen at h2
  omega
theorem RdAt.only (h : RdAt w g A c l e) (k : Only B w w') (hg : g < B) : RdAt w' g A c l e := ⟨h.whole.only k (by omega), h.sees.only k (by omega), h.byte, h.le, h.max, h.null⟩
theorem RdAt.below (h : RdAt w g A c l e) (k : Below B w w') (hg : g < B) : RdAt w' g A c l e := ⟨h.whole.below k hg, h.sees.below (k.mono (by omega)), h.byte, h.le, h.max, h.null⟩
theorem RdAt.fail (h : RdAt w g A c l e) (x : Int) : RdAt (w.setCell ⟨g, 2, none⟩ (.int .i64 x)) g A c l x :=
  ⟨h.whole.put 2 _, h.sees.only ((Only.refl g w).setCell 2 _) (Nat.le_refl _), h.byte, h.le, h.max, h.null⟩
theorem RdAt.pass (h : RdAt w g A c l e) {j : Nat} (hj : j ≤ l.length) : RdAt (w.setCell ⟨g, 1, none⟩ (.slice (cutAt A c j) (l.length - j) (c - j))) g (cutAt A c j) (c - j) (l.drop j) e := by
  have hle := h.le
  have hm := h.max
  refine ⟨?_, (h.sees.cut hj h.le).only ((Only.refl g w).setCell 1 _) (Nat.le_refl _), fun x hx => h.byte x (List.mem_of_mem_drop hx), by rw [List.length_drop]; omega, by omega, cutAt_null h.null⟩
  have := h.whole.put 1 (.slice (cutAt A c j) (l.length - j) (c - j))
  rw [List.length_drop]
  exact this
theorem RdAt.lt (h : RdAt w g A c l e) : g < w.heap.size := h.whole.lt
theorem Rd.only (h : Rd w g l e) (k : Only B w w') (hg : g < B) : Rd w' g l e := by obtain ⟨A, c, h⟩ := h; exact ⟨A, c, h.only k hg⟩
theorem Rd.below (h : Rd w g l e) (k : Below B w w') (hg : g < B) : Rd w' g l e := by obtain ⟨A, c, h⟩ := h; exact ⟨A, c, h.below k hg⟩
theorem Rd.lt (h : Rd w g l e) : g < w.heap.size := by obtain ⟨A, c, h⟩ := h; exact h.lt
theorem Rd.byte (h : Rd w g l e) : ∀ x ∈ l, x < 256 := by obtain ⟨A, c, h⟩ := h; exact h.byte
theorem Rd.size (h : Rd w g l e) : l.length ≤ 9223372036854775807 := by obtain ⟨A, c, h⟩ := h; exact h.size
end

set_option maxRecDepth 100000 in
theorem rerr_any {w : World} {g : Nat} {l : List Nat} {e : Int} (h : Rd w g l e) :
    Calls Try.prog 40 #[.pointer (some ⟨g, 0, none⟩)] w fun en w' => en = .returned (.int .i64 e) ∧ w = w' := by
  obtain ⟨A, c, h⟩ := h
  have h0 := h.made
  have h2 := h.err
  have H := Lib.hid h
  clear h
  go_enter Try.func40, Try.ntmps40
  go_wp2_with fail
  go_ret
  exact ⟨rfl, rfl⟩
theorem rerr_nil (w : World) :
    Calls Try.prog 40 #[.pointer none] w fun en w' => en = .returned (.int .i64 14) ∧ w = w' := by
  go_enter Try.func40, Try.ntmps40
  go_wp2_with fail
  go_ret
  exact ⟨rfl, rfl⟩
theorem rfail_any {w : World} {g : Nat} {l : List Nat} {e : Int} (x : Int) (h : Rd w g l e) :
    Calls Try.prog 36 #[.pointer (some ⟨g, 0, none⟩), .int .i64 x] w fun en w' => en = .returned (.tuple #[]) ∧ Rd w' g l (Bm.fail e x) ∧ Only g w w' := by
  by_cases he : e = 0
  · subst he
    rw [Bm.fail_ok]
    obtain ⟨A, c, h⟩ := h
    have h2 := h.err
    have hf := h.free 2
    have H := Lib.hid h
    clear h
    go_enter Try.func36, Try.ntmps36
    go_wp2_with fail
    refine (rerr_any ⟨A, c, H.out⟩).mono ?_
    rintro e w1 ⟨rfl, rfl⟩
    go_wp2_with fail
    go_end0
    exact ⟨rfl, ⟨A, c, H.out.fail x⟩, (Only.refl _ _).setCell _ _⟩
  · rw [Bm.fail_err he]
    have hne : (e == 0) = false := by simpa using he
    have H := Lib.hid h
    clear h he
    go_enter Try.func36, Try.ntmps36
    go_wp2_with fail
    refine (rerr_any H.out).mono ?_
    rintro e w1 ⟨rfl, rfl⟩
    go_wp2_with fail
    go_end0
    exact ⟨rfl, H.out, Only.refl _ _⟩
/-- a slice v whose bytes p lie below B -/
def Piece (w : World) (B : Nat) (v : Value) (p : List Nat) : Prop := ∃ A c, v = .slice A p.length c ∧ Sees .u8 w B A p ∧ (A = none → c = 0) ∧ p.length ≤ c ∧ c ≤ maxLen
theorem Piece.nil (w : World) (B : Nat) : Piece w B (.slice none 0 0) [] := ⟨none, 0, rfl, fun h => absurd h (by simp), fun _ => rfl, by simp, by simp [maxLen]⟩

set_option maxRecDepth 100000 in
theorem rnext_any {w : World} {g : Nat} {l : List Nat} {e : Int} (k : Nat) (hk : k ≤ 9223372036854775807) (h : Rd w g l e) :
    Calls Try.prog 37 #[.pointer (some ⟨g, 0, none⟩), .int .i64 (k : Int)] w fun en w' => ∃ v, en = .returned v ∧ Piece w' g v (Bm.take l e k).1 ∧ Rd w' g (Bm.take l e k).2.1 (Bm.take l e k).2.2 ∧ Only g w w' := by
  by_cases he : e = 0
  · subst he
    by_cases hkl : k ≤ l.length
    · rw [Bm.take_good hkl]
      obtain ⟨A, c, h⟩ := h
      have h1 := h.rest
      have hf := h.free 1
      have hs := h.size
      have hle := h.le
      have hmax := h.max
      unfold maxLen at hmax
      have H := Lib.hid h
      have HP := Lib.hid (h.pass hkl)
      have hA : (if c = k then A else A.map (fun x => x.add k)) = cutAt A c k := rfl
      obtain ⟨n, Hn⟩ : ∃ n, Hid (l.length = n) := ⟨_, rfl⟩
      rw [Hn.out] at h1 hs hle hkl HP
      clear h
      go_enter Try.func37, Try.ntmps37
      go_wp2_with fail
      refine (rerr_any ⟨A, c, H.out⟩).mono ?_
      rintro e w1 ⟨rfl, rfl⟩
      go_wp2_with fail
      go_ret
      refine ⟨_, rfl, ⟨A, c, by rw [List.length_take, Hn.out, Nat.min_eq_left hkl]; rfl, ((H.out.sees).only ((Only.refl g w).setCell 1 _) (Nat.le_refl _)).take k, H.out.null, by rw [List.length_take, Hn.out]; omega, H.out.max⟩, ⟨_, _, HP.out⟩, (Only.refl _ _).setCell _ _⟩
    · rw [Bm.take_short (by omega)]
      obtain ⟨A, c, h⟩ := h
      have h1 := h.rest
      have hs := h.size
      have H := Lib.hid h
      obtain ⟨n, Hn⟩ : ∃ n, Hid (l.length = n) := ⟨_, rfl⟩
      rw [Hn.out] at h1 hs hkl
      clear h
      go_enter Try.func37, Try.ntmps37
      go_wp2_with fail
      refine (rerr_any ⟨A, c, H.out⟩).mono ?_
      rintro e w1 ⟨rfl, rfl⟩
      go_wp2_with fail
      refine (rfail_any 2 ⟨A, c, H.out⟩).mono ?_
      rintro e w1 ⟨rfl, h2, ho⟩
      rw [Bm.fail_ok] at h2
      have H2 := Lib.hid h2
      have HO := Lib.hid ho
      clear h2 ho
      go_wp2_with fail
      go_ret
      exact ⟨_, rfl, Piece.nil _ _, H2.out, HO.out⟩
  · rw [Bm.take_err he]
    have hne : (e != 0) = true := by simpa using he
    have H := Lib.hid h
    clear h he
    go_enter Try.func37, Try.ntmps37
    go_wp2_with fail
    refine (rerr_any H.out).mono ?_
    rintro e w1 ⟨rfl, rfl⟩
    go_wp2_with fail
    go_ret
    exact ⟨_, rfl, Piece.nil _ _, H.out, Only.refl _ _⟩
end Go.Proofs.Ytjomchehnlnfcaa
/- Contracts of the reader's methods Fix, Uvar, Flag. -/
namespace Go.Proofs.Ytjomchehnlnfcaa
open Go.RowKit
set_option linter.unusedVariables false

theorem isSize_any (s : Int) (w : World) :
    Calls Try.prog 35 #[.int .i64 s] w fun en w' => en = .returned (.bool (decide (1 ≤ s ∧ s ≤ 8))) ∧ w = w' := by
  by_cases h1 : 1 ≤ s
  · by_cases h8 : s ≤ 8
    all_goals
      go_enter Try.func35, Try.ntmps35
      go_wp2_with fail
      go_ret
      exact ⟨ret_bool (by simp; omega), rfl⟩
  · go_enter Try.func35, Try.ntmps35
    go_wp2_with fail
    go_ret
    exact ⟨ret_bool (by simp; omega), rfl⟩

theorem fix_acc {a x : Nat} (ha : a < 256 ^ 7) (hx : x < 256) : bits .or .u64 ((a : Int) * 256) (x : Int) = ((a * 256 + x : Nat) : Int) := by
  rw [show (a : Int) * 256 = ((a * 256 : Nat) : Int) by omega, u64_or_nat _ _ (by omega) (by omega)]
  have := Nat.two_pow_add_eq_or_of_lt (i := 8) (b := x) hx a
  rw [Nat.mul_comm a 256, show (256 : Nat) = 2 ^ 8 by decide, this]

set_option maxRecDepth 100000 in
theorem rfix_any {w : World} {g : Nat} {l : List Nat} {e : Int} (s : Int) (h1 : -9223372036854775808 ≤ s) (h2 : s ≤ 9223372036854775807) (h : Rd w g l e) :
    Calls Try.prog 25 #[.pointer (some ⟨g, 0, none⟩), .int .i64 s] w fun en w' => en = .returned (.int .u64 ((Bm.rfix l e s).1 : Int)) ∧ Rd w' g (Bm.rfix l e s).2.1 (Bm.rfix l e s).2.2 ∧ Only g w w' := by
  have H := Lib.hid h
  clear h
  by_cases hs : 1 ≤ s ∧ s ≤ 8
  · obtain ⟨k, rfl⟩ : ∃ k : Nat, s = (k : Int) := ⟨s.toNat, by omega⟩
    have hdec : decide (1 ≤ (k : Int) ∧ (k : Int) ≤ 8) = true := by simpa using hs
    obtain ⟨hs1, hs8⟩ := hs
    have Hr : Hid (∃ p, (Bm.take l e k).1 = p ∧ p.length ≤ 8 ∧ (∀ x ∈ p, x < 256) ∧ Bm.rfix l e k = (Bm.be p, (Bm.take l e k).2.1, (Bm.take l e k).2.2)) := by
      refine ⟨_, rfl, ?_⟩
      by_cases he : e = 0
      · subst he
        by_cases hl : k ≤ l.length
        · rw [Bm.take_good hl, Bm.rfix_good (by omega) (by omega) hl]
          exact ⟨by rw [List.length_take]; omega, fun x hx => H.out.byte x (List.mem_of_mem_take hx), rfl⟩
        · rw [Bm.take_short (by omega), Bm.rfix_short (by omega) (by omega) (by omega)]
          exact ⟨by simp, by simp, rfl⟩
      · rw [Bm.take_err he, Bm.rfix_err he]
        exact ⟨by simp, by simp, rfl⟩
    obtain ⟨p, hp⟩ := Hr.out
    have hp8 := hp.2.1
    have Hp := Lib.hid hp
    clear hp
    go_enter Try.func25, Try.ntmps25
    go_wp2_with fail
    refine (isSize_any _ _).mono ?_
    rintro en w1 ⟨rfl, rfl⟩
    rw [hdec]
    go_wp2_with fail
    refine (rnext_any k (by omega) H.out).mono ?_
    rintro en w1 ⟨v, rfl, ⟨A, c, rfl, hsee, -, -, -⟩, hr, ho⟩
    rw [Hp.out.1] at hsee ⊢
    have HS := Lib.hid hsee
    have HR := Lib.hid hr
    have HO := Lib.hid ho
    clear hsee hr ho
    obtain ⟨n, Hn⟩ : ∃ n, Hid (p.length = n) := ⟨_, rfl⟩
    rw [Hn.out] at hp8 ⊢
    go_wp2_with fail
    go_loop [5, 17] (fun m i => ∃ (j a : Nat), j ≤ n ∧ i = .int .i64 j ∧ m = .int .u64 a ∧ Hid (a = Bm.be (p.take j))) (fun _ i => n - (intOf i).toNat)
    case atStart => exact ⟨0, 0, by omega, rfl, rfl, Lib.hid (by simp [Bm.be])⟩
    case round =>
      obtain ⟨j, a, hj, rfl, rfl, Ha⟩ := hrel
      by_cases hlt : j < n
      · obtain ⟨b, off, rfl, _, hcell⟩ := HS.out.at_ (i := j) (by rw [Hn.out]; exact hlt)
        have hx : p.getD j 0 < 256 := getD_lt Hp.out.2.2.1 j
        have hlt2 : a < 256 ^ 7 := by
          have := Bm.be_take p Hp.out.2.2.1 j (by rw [Hn.out]; omega)
          rw [← Ha.out] at this
          exact Nat.lt_of_lt_of_le this (Bm.pow7 (by omega))
        have Hnext := Lib.hid (Bm.be_next p j (by rw [Hn.out]; exact hlt))
        obtain ⟨x, Hx⟩ : ∃ x, Hid (p.getD j 0 = x) := ⟨_, rfl⟩
        rw [Hx.out] at hcell hx Hnext
        have Hacc := Lib.hid (fix_acc hlt2 hx)
        go_wp2_with fail
        go_round
        case rel => exact ⟨j + 1, a * 256 + x, by omega, by go_num, by rw [Hacc.out], Lib.hid (by rw [Hnext.out, ← Ha.out])⟩
        case measure => simp [intOf]; omega
      · go_wp2_with fail
        go_ret
        have hjn : j = p.length := by rw [Hn.out]; omega
        refine ⟨ret_int ?_, ?_, HO.out⟩
        · rw [Hp.out.2.2.2, Ha.out, hjn, List.take_length]
        · rw [Hp.out.2.2.2]; exact HR.out
  · have hdec : decide (1 ≤ s ∧ s ≤ 8) = false := by simpa using hs
    have Hr : Hid (Bm.rfix l e s = (0, l, Bm.fail e 1)) := by
      by_cases he : e = 0
      · subst he
        show Bm.rfix l 0 s = _
        rw [Bm.rfix_arg (by omega)]
        rfl
      · show Bm.rfix l e s = _
        rw [Bm.rfix_err he, Bm.fail_err he]
    clear hs
    go_enter Try.func25, Try.ntmps25
    go_wp2_with fail
    refine (isSize_any _ _).mono ?_
    rintro en w1 ⟨rfl, rfl⟩
    rw [hdec]
    go_wp2_with fail
    refine (rfail_any 1 H.out).mono ?_
    rintro en w1 ⟨rfl, hr, ho⟩
    have HR := Lib.hid hr
    have HO := Lib.hid ho
    clear hr ho
    go_wp2_with fail
    go_ret
    rw [Hr.out]
    exact ⟨rfl, HR.out, HO.out⟩

theorem left_pos {l : List Nat} {e : Int} (he : e = 0) (h : 0 < l.length) : 0 < Bm.left l e := by subst he; exact h

end Go.Proofs.Ytjomchehnlnfcaa
/- Contracts of the reader's methods Take, Text, of bytes.Clone and of buf.Open. -/
namespace Go.Proofs.Ytjomchehnlnfcaa
open Go.RowKit
set_option linter.unusedVariables false

theorem bclone_any {w : World} {B : Nat} {v : Value} {p : List Nat} (h : Piece w B v p) (hp : p.length ≤ 1000000000000) :
    Calls Try.prog 34 #[v] w (Made .u8 5 w.heap.size p w) := by
  have q22 : ∀ (w : World) (a : Option Addr) (n c n' c' : Nat), (binOp .eql 34 (.slice a n c) (.slice none n' c')).run Try.prog w = .ok (.bool a.isNone) w := fun w a n c n' c' => Lib.run_eql_slice_nil w _ _ a n c n' c' Try.underlying34
  obtain ⟨A, c, rfl, hs, hnull, hle, hmax⟩ := h
  unfold maxLen at hmax
  cases A with
  | none =>
    have h0 : p = [] := by
      have := hnull rfl
      exact List.eq_nil_of_length_eq_zero (by omega)
    subst h0
    have hc := hnull rfl
    subst hc
    clear hnull hs
    go_enter Try.func34, Try.ntmps34
    go_wp2_with fail
    go_ret
    exact ⟨_, rfl, World.ownsRow_nil _ _ 5 1, Below.refl _ _⟩
  | some a =>
    have Hs := Lib.hid hs
    have ho0 : (w.alloc (.cells #[] 5)).ownsRow w.heap.size 5 1 (.slice (some ⟨w.heap.size, 0, none⟩) 0 0) 0 [] := World.ownsRow_lit w #[] 0 (Nat.le_refl _) (by decide) rfl
    have Ho0 := Lib.hid ho0
    obtain ⟨n, Hn⟩ : ∃ n, Hid (p.length = n) := ⟨_, rfl⟩
    rw [Hn.out] at hp hle ⊢
    clear hs ho0 hnull
    go_enter Try.func34, Try.ntmps34
    go_wp2_with (at_builtin; refine wpList_append_row byteT _ _ rfl rfl w.heap.size _ 0 [] rfl Ho0.out n c rfl Hn.out (fun h => by cases h) ((Hs.out.lower.below ((Below.refl _ _).alloc (Nat.min_le_right _ _) _))) (by omega) (by simp) ?_; intro v2 w2 ho2 hg2)
    go_ret
    rw [Nat.zero_add, List.nil_append, ← Hn.out] at ho2
    exact ⟨_, rfl, ho2, (((Below.refl _ _).alloc (Nat.le_refl _) _)).grown hg2 (by simp) (fun k hk => (Ho0.out.lt k hk).1)⟩

theorem open_any {w : World} {B : Nat} {v : Value} {p : List Nat} (h : Piece w B v p) (hp : p.length ≤ 1000000000000) (hb : ∀ x ∈ p, x < 256) :
    Calls Try.prog 24 #[v] w fun en w' => ∃ g, en = .returned (.pointer (some ⟨g, 0, none⟩)) ∧ w.heap.size ≤ g ∧ Rd w' g p 0 ∧ Below w.heap.size w w' := by
  have H := Lib.hid h
  have Hb := Lib.hid hb
  clear h hb
  go_enter Try.func24, Try.ntmps24
  go_wp2_with fail
  refine (bclone_any H.out hp).mono ?_
  rintro en w1 ⟨v1, rfl, ho, hbel⟩
  obtain ⟨A, c, rfl⟩ := own_shape ho
  have HO := Lib.hid ho
  have HB := Lib.hid hbel
  clear ho hbel
  obtain ⟨n, Hn⟩ : ∃ n, Hid (p.length = n) := ⟨_, rfl⟩
  rw [Hn.out]
  go_wp2_with fail
  go_ret
  have hs : Sees .u8 w1 w1.heap.size A p := by
    have h := HO.out
    rw [Hn.out] at h
    exact Sees.of_own (by rw [Hn.out]; exact h)
  have hlc : n ≤ c ∧ c ≤ maxLen := by
    rcases (HO.out).2 with ⟨hv, h0⟩ | ⟨g, cap, cur, hv, _, _, hnc, hm, _, _⟩
    · injection hv with _ _ hc
      rw [← Hn.out, h0, hc]
      exact ⟨Nat.le_refl _, by unfold maxLen; omega⟩
    · injection hv with _ _ hc
      rw [← Hn.out, hc]
      exact ⟨hnc, hm⟩
  refine ⟨_, rfl, HB.out.size, ⟨A, c, ?_, (hs.below (Below.refl _ _ |>.alloc (Nat.le_refl _) _)), Hb.out, by rw [Hn.out]; exact hlc.1, hlc.2, own_nil HO.out⟩, HB.out.alloc HB.out.size _⟩
  rw [Hn.out]
  exact Whole.made _ _ _

end Go.Proofs.Ytjomchehnlnfcaa
/- Contracts of buf.Fix, buf.Text and of the reference's Fix, Text. -/
namespace Go.Proofs.Ytjomchehnlnfcaa
open Go.RowKit
set_option linter.unusedVariables false

/-- what a loop has done that writes ps behind xs, when the first j of them stand there -/
structure Wrote (base : Nat) (xs ps : List Nat) (w : World) (j : Nat) (v : Value) (wr : World) : Prop where
  own : wr.ownsRow base 5 1 v (xs.length + j) (ints .u8 (xs ++ ps.take j))
  below : Below base w wr
  size : base ≤ wr.heap.size
section
variable {base : Nat} {xs ps : List Nat} {j : Nat} {v v' : Value} {w wr w1 : World} {o : Obj} {x : Int}
theorem Wrote.start (ho : w.ownsRow base 5 1 v xs.length (ints .u8 xs)) (hb : base ≤ w.heap.size) : Wrote base xs ps w 0 v w :=
  ⟨by simpa using ho, Below.refl _ _, hb⟩
theorem Wrote.next (h : Wrote base xs ps w j v wr) (hj : j < ps.length) (hx : x = ((ps.getD j 0 : Nat) : Int))
    (ho : w1.ownsRow base 5 1 v' (xs.length + j + 1) (ints .u8 (xs ++ ps.take j) ++ [.int .u8 x])) (hg : (wr.alloc o).grownBy w1 v.ownBlock) : Wrote base xs ps w (j + 1) v' w1 := by
  obtain ⟨h1, h2, h3⟩ := h
  subst hx
  refine ⟨?_, (h2.alloc h3 o).grown hg (by simp; omega) (fun k hk => (h1.lt k hk).1), ?_⟩
  · rw [take_next hj, ← List.append_assoc, ints_append]
    exact ho
  · have := hg.size; simp at this; omega
end

theorem shift_byte {n m d q : Nat} (hm : 8 * d = m) (hd : q = d) : (n : Int) / 2 ^ m % 256 = ((n / 256 ^ q % 256 : Nat) : Int) := by
  subst hd hm
  rw [show (256 : Nat) ^ q = 2 ^ (8 * q) by rw [Nat.pow_mul], Int.natCast_emod, Int.natCast_ediv, Int.natCast_pow]
  rfl

set_option maxRecDepth 100000 in
theorem fix_any (base : Nat) (v : Value) (xs : List Nat) (n : Nat) (s : Int) (w : World) (hn : n < 18446744073709551616) (h1 : -9223372036854775808 ≤ s) (h2 : s ≤ 9223372036854775807) (ho : w.ownsRow base 5 1 v xs.length (ints .u8 xs)) (hb : base ≤ w.heap.size) (hx : xs.length ≤ 1000000000000) :
    Calls Try.prog 27 #[v, .int .u64 (n : Int), .int .i64 s] w (Made .u8 5 base (xs ++ Bm.fixI n s) w) := by
  by_cases hs : 1 ≤ s ∧ s ≤ 8
  · obtain ⟨k, rfl⟩ : ∃ k : Nat, s = (k : Int) := ⟨s.toNat, by omega⟩
    have hdec : decide (1 ≤ (k : Int) ∧ (k : Int) ≤ 8) = true := by simpa using hs
    have hk1 : 1 ≤ k := by omega
    have hk8 : k ≤ 8 := by omega
    clear hs
    rw [Bm.fixI_good hk1 hk8]
    have HS := Lib.hid (Wrote.start (ps := Bm.fix k n) ho hb)
    have Hlen := Lib.hid (Bm.fix_length k n)
    have Hget := Lib.hid (Bm.fix_get k n)
    obtain ⟨ps, Hps⟩ : ∃ ps, Hid (Bm.fix k n = ps) := ⟨_, rfl⟩
    rw [Hps.out] at HS Hlen Hget ⊢
    clear ho Hps
    go_enter Try.func27, Try.ntmps27
    go_wp2_with fail
    refine (isSize_any _ _).mono ?_
    rintro e w' ⟨rfl, rfl⟩
    rw [hdec]
    go_wp2_with fail
    go_loopw [0, 7, 13] (fun v _ i wr => ∃ (j : Nat), i = .int .i64 j ∧ j ≤ k ∧ Hid (Wrote base xs ps w j v wr)) (fun _ _ i _ => k - (intOf i).toNat)
    case atStart => exact ⟨0, rfl, by omega, HS⟩
    case round =>
      obtain ⟨j, rfl, hj, HP⟩ := hrel
      by_cases hlt : j < k
      · obtain ⟨d, Hd⟩ : ∃ d, Hid (k - 1 - j = d) := ⟨_, rfl⟩
        have hd : (k : Int) - 1 - (j : Int) = (d : Int) := by have := Hd.out; omega
        have hd7 : d ≤ 7 := by have := Hd.out; omega
        obtain ⟨m, Hm⟩ : ∃ m, Hid (8 * d = m) := ⟨_, rfl⟩
        have hm : 8 * (d : Int) = (m : Int) := by have := Hm.out; omega
        have hm56 : m ≤ 56 := by have := Hm.out; omega
        go_wp2_with (at_builtin; refine wpList_append1 byteT _ _ rfl rfl base _ (xs.length + j) (ints .u8 (xs ++ ps.take j)) rfl rfl rfl HP.out.own (by omega) HP.out.size ?_; intro v' w1 ho1 hg1)
        go_roundw
        case rel => exact ⟨j + 1, by go_num, by omega, Lib.hid (HP.out.next (by rw [Hlen.out]; exact hlt) (by rw [Hget.out _ hlt]; exact shift_byte Hm.out Hd.out) ho1 hg1)⟩
        case measure => simp [intOf]; omega
      · go_wp2_with fail
        go_ret
        have hjk : j = ps.length := by rw [Hlen.out]; omega
        have h := HP.out.own
        rw [hjk, List.take_length, ← List.length_append] at h
        exact ⟨_, rfl, h, HP.out.below⟩
  · have hdec : decide (1 ≤ s ∧ s ≤ 8) = false := by simpa using hs
    rw [Bm.fixI_bad (by omega), List.append_nil]
    have Ho := Lib.hid ho
    clear ho hs
    go_enter Try.func27, Try.ntmps27
    go_wp2_with fail
    refine (isSize_any _ _).mono ?_
    rintro e w' ⟨rfl, rfl⟩
    rw [hdec]
    go_wp2_with fail
    go_ret
    exact ⟨_, rfl, Ho.out, Below.refl _ _⟩

/-- '[]byte(s)' of a string -/
theorem conv_str {w : World} {s : ByteArray} {l : List Nat} (T : Txt s l) (n : Nat) (hn : l.length = n) :
    ∃ c w', (convert 9 34 (.string s)).run Try.prog w = .ok (.slice (some ⟨w.heap.size, 0, none⟩) n c) w' ∧ Sees .u8 w' (w.heap.size + 1) (some ⟨w.heap.size, 0, none⟩) l ∧ Below w.heap.size w w' := by
  refine ⟨_, _, by rw [Lib.run_convert_string_bytes w _ _ 5 s Try.underlying9 Try.underlying34 Try.underlying5, T.size, hn], ?_, ?_⟩
  · intro hl
    refine ⟨_, 0, rfl, by omega, fun i hi => ?_⟩
    rw [Nat.zero_add, Lib.bytesWorld_cell w _ s i (by rw [T.size]; exact hi)]
    have h := T.at_ i (by rw [T.size]; exact hi)
    rw [← h]
    have hi' : i < s.data.toList.length := by
      have e : s.data.toList.length = s.size := Array.length_toList
      rw [e, T.size]
      exact hi
    simp [List.getD, List.getElem?_eq_getElem hi']
    rfl
  · exact ⟨by unfold Lib.bytesWorld World.freeze; split <;> rfl, by unfold Lib.bytesWorld World.freeze; split <;> rfl, by unfold Lib.bytesWorld World.freeze; split <;> rfl, by rw [Lib.bytesWorld_size]; omega, fun i hi => Lib.bytesWorld_at_old w _ s i hi⟩

/-- what the reference's loop has done: it writes from the last byte on, ahead of what stands there -/
structure WroteR (base n : Nat) (w : World) (j m : Nat) (v : Value) (wr : World) : Prop where
  num : m = n / 256 ^ j
  own : wr.ownsRow base 5 1 v j (ints .u8 (Bm.fix j n))
  below : Below base w wr
  size : base ≤ wr.heap.size
section
variable {base n j m : Nat} {v v' : Value} {w wr w1 : World} {x : Int}
theorem WroteR.start (n : Nat) (w : World) : WroteR w.heap.size n w 0 n (.slice none 0 0) w := ⟨by simp, World.ownsRow_nil w _ 5 1, Below.refl _ _, Nat.le_refl _⟩
theorem WroteR.one (h : WroteR base n w j m v wr) (x : Int) : (wr.alloc (.cells #[.int .u8 x] 5)).ownsRow base 5 1 (.slice (some ⟨wr.heap.size, 0, none⟩) 1 1) 1 [.int .u8 x] :=
  ⟨rfl, .inr ⟨wr.heap.size, 1, _, rfl, h.size, heap_alloc_new _ _, Nat.le_refl _, by unfold maxLen; omega, rfl, rfl⟩⟩
theorem WroteR.next (h : WroteR base n w j m v wr) {x : Int} (hx : x = (m : Int) % 256)
    (ho : w1.ownsRow base 5 1 v' (1 + j) ([.int .u8 x] ++ ints .u8 (Bm.fix j n))) (hb : Below base wr w1) : WroteR base n w (j + 1) (m / 256) v' w1 := by
  obtain ⟨h1, h2, h3, h4⟩ := h
  refine ⟨by rw [h1, Nat.pow_succ, Nat.div_div_eq_div_mul], ?_, h3.trans (hb.mono (Nat.le_refl _)), Nat.le_trans h4 hb.size⟩
  rw [Bm.fix_front, ← h1, Nat.add_comm j 1]
  subst hx
  rw [show (m : Int) % 256 = ((m % 256 : Nat) : Int) by omega] at ho
  exact ho
end

end Go.Proofs.Ytjomchehnlnfcaa
/- A row of the call's own as bytes that are read. -/
namespace Go.Proofs.Ytjomchehnlnfcaa
open Go.RowKit
set_option linter.unusedVariables false

theorem own_piece {w : World} {base : Nat} {v : Value} {l : List Nat} (ho : w.ownsRow base 5 1 v l.length (ints .u8 l)) : Piece w w.heap.size v l := by
  obtain ⟨A, c, rfl⟩ := own_shape ho
  have hlc : l.length ≤ c ∧ c ≤ maxLen := by
    rcases ho.2 with ⟨hv, h0⟩ | ⟨g, cap, cur, hv, _, _, hnc, hm, _, _⟩
    · injection hv with _ _ hc
      rw [h0, hc]
      exact ⟨Nat.le_refl _, by unfold maxLen; omega⟩
    · injection hv with _ _ hc
      rw [hc]
      exact ⟨hnc, hm⟩
  exact ⟨A, c, rfl, Sees.of_own ho, own_nil ho, hlc.1, hlc.2⟩
theorem cell_lt {w : World} {b off : Nat} {u : Value} (h : w.cell? ⟨b, off, none⟩ = some u) : b < w.heap.size := by
  rcases Nat.lt_or_ge b w.heap.size with h1 | h1
  · exact h1
  · simp [World.cell?, Array.getElem?_eq_none h1] at h
theorem Piece.below {w w' : World} {B : Nat} {v : Value} {l : List Nat} (h : Piece w B v l) (hb : Below B w w') : Piece w' B v l := by
  obtain ⟨A, c, e, h1, k⟩ := h
  exact ⟨A, c, e, h1.below hb, k⟩
theorem Piece.more {w : World} {B B' : Nat} {v : Value} {l : List Nat} (h : Piece w B v l) (hB : B ≤ B') : Piece w B' v l := by
  obtain ⟨A, c, e, h1, k⟩ := h
  exact ⟨A, c, e, h1.more hB, k⟩
theorem Piece.all {w : World} {B : Nat} {v : Value} {l : List Nat} (h : Piece w B v l) : Piece w w.heap.size v l := by
  obtain ⟨A, c, e, h1, k⟩ := h
  refine ⟨A, c, e, fun hl => ?_, k⟩
  obtain ⟨b, off, e1, _, hc⟩ := h1 hl
  exact ⟨b, off, e1, cell_lt (hc 0 hl), hc⟩
theorem Piece.kept {w w' : World} {B : Nat} {v : Value} {p : List Nat} (h : Piece w B v p) (hb : Below w.heap.size w w') : Piece w' w'.heap.size v p := (h.all.below hb).more hb.size
theorem Piece.conv {w : World} {B : Nat} {v : Value} {l : List Nat} (h : Piece w B v l) : (convert 34 9 v).run Try.prog w = .ok (.string (strOf l)) w := by
  obtain ⟨A, c, rfl, hs, _⟩ := h
  exact conv_sees Try.underlying34 Try.underlying5 Try.underlying9 l.length c rfl hs
theorem strOf_ne {a b : List Nat} (ha : ∀ x ∈ a, x < 256) (hb : ∀ x ∈ b, x < 256) : ((strOf a).toList == (strOf b).toList) = decide (a = b) := by
  rw [Bool.eq_iff_iff]
  simp only [beq_iff_eq, decide_eq_true_eq]
  constructor
  · intro h; exact strOf_inj ha hb (toList_inj h)
  · intro h; rw [h]
theorem piece_lit (w : World) (cs : Array Value) (l : List Nat) (n : Nat) (hn : l.length = n) (h : cs.toList = ints .u8 l) (hm : n ≤ 1000) : Piece (w.alloc (.cells cs 5)) (w.heap.size + 1) (.slice (some ⟨w.heap.size, 0, none⟩) n n) l := by
  subst hn
  exact ⟨_, _, rfl, sees_new _ l cs _ rfl h, (fun h => by cases h), Nat.le_refl _, (by unfold maxLen; omega)⟩
theorem piece_litf (w : World) (cs : Array Value) (l : List Nat) (n : Nat) (fr : Nat × Nat) (hn : l.length = n) (h : cs.toList = ints .u8 l) (hm : n ≤ 1000) : Piece (w.alloc (.cells cs 5 fr)) (w.heap.size + 1) (.slice (some ⟨w.heap.size, 0, none⟩) n n) l := by
  subst hn
  exact ⟨_, _, rfl, sees_new _ l cs _ rfl h, (fun h => by cases h), Nat.le_refl _, (by unfold maxLen; omega)⟩
theorem row_piece {w : World} {a : Option Addr} {len cap : Nat} {l : List Nat} (R : Row .u8 w a len cap l) : Piece w w.heap.size (.slice a len cap) l ∧ l.length = len ∧ (∀ x ∈ l, x < 256) :=
  ⟨⟨a, cap, by rw [R.len_eq], R.sees, R.null, by rw [R.len_eq]; exact R.le, R.max⟩, R.len_eq, R.byte⟩
end Go.Proofs.Ytjomchehnlnfcaa
