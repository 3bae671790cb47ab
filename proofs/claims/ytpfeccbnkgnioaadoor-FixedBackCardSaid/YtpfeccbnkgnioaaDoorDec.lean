/- What ranging over a string yields, in the words of Tm. -/
import Derived.Test.YtpfeccbnkgnioaaDoorTm
namespace Go.Proofs.YtpfeccbnkgnioaaDoor.Tm
open Go.Proofs.YtpfeccbnkgnioaaDoor
set_option linter.unusedVariables false

theorem get_any {s : ByteArray} {l : List Nat} (T : Txt s l) (i k : Nat) : (s.get! (i + k)).toNat = (l.drop i).getD k 0 := by
  have e : (l.drop i).getD k 0 = l.getD (i + k) 0 := by simp [List.getD]
  rw [e]
  by_cases h : i + k < l.length
  · exact T.get! _ h
  · rw [getD_out (by omega)]
    have h' : ¬ (i + k < s.size) := by rw [T.size]; exact h
    obtain ⟨d⟩ := s
    have h2 : ¬ (i + k < d.size) := h'
    simp [ByteArray.get!, getElem!_neg, h2]
    rfl
theorem take1 {r : List Nat} (h : 1 ≤ r.length) : r.take 1 = [r.getD 0 0] := by
  match r, h with
  | a :: _, _ => simp
theorem take2 {r : List Nat} (h : 2 ≤ r.length) : r.take 2 = [r.getD 0 0, r.getD 1 0] := by
  match r, h with
  | a :: b :: _, _ => simp
theorem take3 {r : List Nat} (h : 3 ≤ r.length) : r.take 3 = [r.getD 0 0, r.getD 1 0, r.getD 2 0] := by
  match r, h with
  | a :: b :: c :: _, _ => simp
theorem take4 {r : List Nat} (h : 4 ≤ r.length) : r.take 4 = [r.getD 0 0, r.getD 1 0, r.getD 2 0, r.getD 3 0] := by
  match r, h with
  | a :: b :: c :: d :: _, _ => simp

def num2 (c0 c1 : Nat) : Nat := c0 % 32 * 64 + c1 % 64
def num3 (c0 c1 c2 : Nat) : Nat := c0 % 16 * 4096 + c1 % 64 * 64 + c2 % 64
def num4 (c0 c1 c2 c3 : Nat) : Nat := c0 % 8 * 262144 + c1 % 64 * 4096 + c2 % 64 * 64 + c3 % 64

theorem valid_nat (c : Nat) : Utf8.valid (c : Int) = decide (c < 55296 ∨ (57344 ≤ c ∧ c ≤ 1114111)) := by
  unfold Utf8.valid
  rw [Bool.eq_iff_iff]
  simp only [Bool.or_eq_true, Bool.and_eq_true, decide_eq_true_eq]
  omega

theorem encode_nat {c : Nat} (h : c < 55296 ∨ (57344 ≤ c ∧ c ≤ 1114111)) : Utf8.encode (c : Int) = if c < 128 then strOf [c] else if c < 2048 then strOf [192 + c / 64, 128 + c % 64] else if c < 65536 then strOf [224 + c / 4096, 128 + c / 64 % 64, 128 + c % 64] else strOf [240 + c / 262144, 128 + c / 4096 % 64, 128 + c / 64 % 64, 128 + c % 64] := by
  have hv : Utf8.valid (c : Int) = true := by rw [valid_nat]; simpa using h
  unfold Utf8.encode
  simp only [hv, if_true, Int.toNat_natCast]
  rfl

theorem drop_ne {l : List Nat} {i : Nat} (hi : i < l.length) : l.drop i ≠ [] := by
  intro e
  have := congrArg List.length e
  rw [List.length_drop, List.length_nil] at this; omega
theorem piece_first (l : List Nat) (i : Nat) : ((l.drop i).take (step (l.drop i))).getD 0 0 = (l.drop i).getD 0 0 := getD_take (step_pos _)

section
variable {s : ByteArray} {l : List Nat} (T : Txt s l) {i : Nat} (hi : i < l.length)
include T hi
theorem decode_form : Utf8.decode s i = (let c0 := (l.drop i).getD 0 0; let c1 := (l.drop i).getD 1 0; let c2 := (l.drop i).getD 2 0; let c3 := (l.drop i).getD 3 0; let n := (l.drop i).length
    if c0 < 128 then (c0, 1)
    else if c0 / 32 = 6 ∧ 1 < n ∧ c1 / 64 = 2 then (if 128 ≤ num2 c0 c1 then (num2 c0 c1, 2) else (65533, 1))
    else if (c0 / 16 = 14 ∧ 1 < n ∧ c1 / 64 = 2) ∧ 2 < n ∧ c2 / 64 = 2 then (if 2048 ≤ num3 c0 c1 c2 ∧ (num3 c0 c1 c2 < 55296 ∨ (57344 ≤ num3 c0 c1 c2 ∧ num3 c0 c1 c2 ≤ 1114111)) then (num3 c0 c1 c2, 3) else (65533, 1))
    else if ((c0 / 8 = 30 ∧ 1 < n ∧ c1 / 64 = 2) ∧ 2 < n ∧ c2 / 64 = 2) ∧ 3 < n ∧ c3 / 64 = 2 then (if 65536 ≤ num4 c0 c1 c2 c3 ∧ (num4 c0 c1 c2 c3 < 55296 ∨ (57344 ≤ num4 c0 c1 c2 c3 ∧ num4 c0 c1 c2 c3 ≤ 1114111)) then (num4 c0 c1 c2 c3, 4) else (65533, 1))
    else (65533, 1)) := by
  have hn : ∀ k, (i + k < s.size) ↔ (k < (l.drop i).length) := fun k => by rw [T.size, List.length_drop]; omega
  simp only [Utf8.decode, get_any T, Utf8.runeError, Bool.and_eq_true, beq_iff_eq, decide_eq_true_eq, ge_iff_le, valid_nat, hn, num2, num3, num4]
  rfl
theorem decode_wid : (wid (l.drop i) = 1 ∧ Utf8.decode s i = ((l.drop i).getD 0 0, 1)) ∨
    (wid (l.drop i) = 2 ∧ Utf8.decode s i = (num2 ((l.drop i).getD 0 0) ((l.drop i).getD 1 0), 2)) ∨
    (wid (l.drop i) = 3 ∧ Utf8.decode s i = (num3 ((l.drop i).getD 0 0) ((l.drop i).getD 1 0) ((l.drop i).getD 2 0), 3)) ∨
    (wid (l.drop i) = 4 ∧ Utf8.decode s i = (num4 ((l.drop i).getD 0 0) ((l.drop i).getD 1 0) ((l.drop i).getD 2 0) ((l.drop i).getD 3 0), 4)) ∨
    (wid (l.drop i) = 0 ∧ Utf8.decode s i = (65533, 1)) := by
  rw [decode_form T hi]
  have hb : ∀ x ∈ l.drop i, x < 256 := fun x hx => T.byte x (List.mem_of_mem_drop hx)
  have b0 := getD_lt hb 0
  have b1 := getD_lt hb 1
  have b2 := getD_lt hb 2
  have b3 := getD_lt hb 3
  generalize l.drop i = r at *
  dsimp only
  rcases wid_cases r with ⟨e, q⟩ | ⟨e, q⟩ | ⟨e, q⟩ | ⟨e, q⟩ | ⟨e, q0, q2, q3, q4⟩
  · exact .inl ⟨e, by rw [if_pos q]⟩
  · refine .inr (.inl ⟨e, ?_⟩)
    rw [if_neg (by omega), if_pos (by omega), if_pos (by unfold num2; omega)]
  · refine .inr (.inr (.inl ⟨e, ?_⟩))
    rw [if_neg (by omega), if_neg (by omega), if_pos (by omega), if_pos (by unfold num3; omega)]
  · refine .inr (.inr (.inr (.inl ⟨e, ?_⟩)))
    rw [if_neg (by omega), if_neg (by omega), if_neg (by omega), if_pos (by omega), if_pos (by unfold num4; omega)]
  · refine .inr (.inr (.inr (.inr ⟨e, ?_⟩)))
    rw [if_neg q0]
    by_cases h2 : r.getD 0 0 / 32 = 6 ∧ 1 < r.length ∧ r.getD 1 0 / 64 = 2
    · rw [if_pos h2, if_neg (by unfold num2; omega)]
    rw [if_neg h2]
    by_cases h3 : (r.getD 0 0 / 16 = 14 ∧ 1 < r.length ∧ r.getD 1 0 / 64 = 2) ∧ 2 < r.length ∧ r.getD 2 0 / 64 = 2
    · rw [if_pos h3, if_neg (by unfold num3; omega)]
    rw [if_neg h3]
    by_cases h4 : ((r.getD 0 0 / 8 = 30 ∧ 1 < r.length ∧ r.getD 1 0 / 64 = 2) ∧ 2 < r.length ∧ r.getD 2 0 / 64 = 2) ∧ 3 < r.length ∧ r.getD 3 0 / 64 = 2
    · rw [if_pos h4, if_neg (by unfold num4; omega)]
    rw [if_neg h4]

theorem decode_step : (Utf8.decode s i).2 = step (l.drop i) := by
  unfold step
  rcases decode_wid T hi with ⟨e, q⟩ | ⟨e, q⟩ | ⟨e, q⟩ | ⟨e, q⟩ | ⟨e, q⟩ <;> rw [q, e] <;> simp
theorem decode_stray : ((Utf8.decode s i).1 = 65533 ∧ (l.drop i).take 3 ≠ [239, 191, 189]) ↔ wid (l.drop i) = 0 := by
  have hb : ∀ x ∈ l.drop i, x < 256 := fun x hx => T.byte x (List.mem_of_mem_drop hx)
  have b0 := getD_lt hb 0
  have b1 := getD_lt hb 1
  have b2 := getD_lt hb 2
  rcases decode_wid T hi with ⟨e, q⟩ | ⟨e, q⟩ | ⟨e, q⟩ | ⟨e, q⟩ | ⟨e, q⟩ <;> rw [q, e] <;> dsimp only <;> rcases wid_cases (l.drop i) with ⟨e', k⟩ | ⟨e', k⟩ | ⟨e', k⟩ | ⟨e', k⟩ | ⟨e', k⟩ <;> first | omega | skip
  · unfold num2; omega
  · rw [take3 k.2.2.1]
    constructor
    · intro ⟨h1, h2⟩
      unfold num3 at h1
      exfalso; apply h2
      rw [show (l.drop i).getD 0 0 = 239 by omega, show (l.drop i).getD 1 0 = 191 by omega, show (l.drop i).getD 2 0 = 189 by omega]
    · omega
  · unfold num4; omega
  · simp only [true_and, iff_true]
    intro h
    have hl : 3 ≤ (l.drop i).length := by have := congrArg List.length h; rw [List.length_take] at this; simp at this ⊢; omega
    rw [take3 hl] at h
    injection h with h0 h
    injection h with h1 h
    injection h with h2 h
    omega
theorem decode_left : left ((l.drop i).take (step (l.drop i))) = true ↔ ¬ ((Utf8.decode s i).1 ≤ 32 ∨ (Utf8.decode s i).1 = 127 ∨ (Utf8.decode s i).1 = 37) ∧ wid (l.drop i) ≠ 0 := by
  unfold left
  rw [piece_first l i, wid_piece (drop_ne hi), decide_eq_true_iff]
  rcases decode_wid T hi with ⟨e, q⟩ | ⟨e, q⟩ | ⟨e, q⟩ | ⟨e, q⟩ | ⟨e, q⟩ <;> rw [q, e] <;> dsimp only <;> rcases wid_cases (l.drop i) with ⟨e', k⟩ | ⟨e', k⟩ | ⟨e', k⟩ | ⟨e', k⟩ | ⟨e', k⟩ <;> first | omega | skip
  · unfold num2; omega
  · unfold num3; omega
  · unfold num4; omega
theorem encode_left (h : wid (l.drop i) ≠ 0) : Utf8.encode ((Utf8.decode s i).1 : Int) = strOf ((l.drop i).take (step (l.drop i))) := by
  have hb : ∀ x ∈ l.drop i, x < 256 := fun x hx => T.byte x (List.mem_of_mem_drop hx)
  have hst : step (l.drop i) = wid (l.drop i) := by unfold step; rw [if_neg h]
  rw [hst]
  have hl := wid_le (drop_ne hi)
  rcases decode_wid T hi with ⟨e, q⟩ | ⟨e, q⟩ | ⟨e, q⟩ | ⟨e, q⟩ | ⟨e, q⟩ <;> rw [q, e] <;> rw [e] at hl <;> dsimp only <;> rcases wid_cases (l.drop i) with ⟨e', k⟩ | ⟨e', k⟩ | ⟨e', k⟩ | ⟨e', k⟩ | ⟨e', k⟩ <;> first | omega | skip
  · rw [take1 hl]
    rw [encode_nat (by omega), if_pos k]
  · rw [take2 hl]
    have hn : 128 ≤ num2 ((l.drop i).getD 0 0) ((l.drop i).getD 1 0) ∧ num2 ((l.drop i).getD 0 0) ((l.drop i).getD 1 0) < 2048 := by unfold num2; omega
    have x0 : 192 + num2 ((l.drop i).getD 0 0) ((l.drop i).getD 1 0) / 64 = (l.drop i).getD 0 0 := by unfold num2; omega
    have x1 : 128 + num2 ((l.drop i).getD 0 0) ((l.drop i).getD 1 0) % 64 = (l.drop i).getD 1 0 := by unfold num2; omega
    rw [encode_nat (by omega), if_neg (by omega), if_pos hn.2, x0, x1]
  · rw [take3 hl]
    have hn : 2048 ≤ num3 ((l.drop i).getD 0 0) ((l.drop i).getD 1 0) ((l.drop i).getD 2 0) ∧ num3 ((l.drop i).getD 0 0) ((l.drop i).getD 1 0) ((l.drop i).getD 2 0) < 65536 ∧ (num3 ((l.drop i).getD 0 0) ((l.drop i).getD 1 0) ((l.drop i).getD 2 0) < 55296 ∨ 57344 ≤ num3 ((l.drop i).getD 0 0) ((l.drop i).getD 1 0) ((l.drop i).getD 2 0)) := by unfold num3; omega
    have x0 : 224 + num3 ((l.drop i).getD 0 0) ((l.drop i).getD 1 0) ((l.drop i).getD 2 0) / 4096 = (l.drop i).getD 0 0 := by unfold num3; omega
    have x1 : 128 + num3 ((l.drop i).getD 0 0) ((l.drop i).getD 1 0) ((l.drop i).getD 2 0) / 64 % 64 = (l.drop i).getD 1 0 := by unfold num3; omega
    have x2 : 128 + num3 ((l.drop i).getD 0 0) ((l.drop i).getD 1 0) ((l.drop i).getD 2 0) % 64 = (l.drop i).getD 2 0 := by unfold num3; omega
    rw [encode_nat (by omega), if_neg (by omega), if_neg (by omega), if_pos (by omega), x0, x1, x2]
  · rw [take4 hl]
    have hn : 65536 ≤ num4 ((l.drop i).getD 0 0) ((l.drop i).getD 1 0) ((l.drop i).getD 2 0) ((l.drop i).getD 3 0) ∧ num4 ((l.drop i).getD 0 0) ((l.drop i).getD 1 0) ((l.drop i).getD 2 0) ((l.drop i).getD 3 0) ≤ 1114111 := by unfold num4; omega
    have x0 : 240 + num4 ((l.drop i).getD 0 0) ((l.drop i).getD 1 0) ((l.drop i).getD 2 0) ((l.drop i).getD 3 0) / 262144 = (l.drop i).getD 0 0 := by unfold num4; omega
    have x1 : 128 + num4 ((l.drop i).getD 0 0) ((l.drop i).getD 1 0) ((l.drop i).getD 2 0) ((l.drop i).getD 3 0) / 4096 % 64 = (l.drop i).getD 1 0 := by unfold num4; omega
    have x2 : 128 + num4 ((l.drop i).getD 0 0) ((l.drop i).getD 1 0) ((l.drop i).getD 2 0) ((l.drop i).getD 3 0) / 64 % 64 = (l.drop i).getD 2 0 := by unfold num4; omega
    have x3 : 128 + num4 ((l.drop i).getD 0 0) ((l.drop i).getD 1 0) ((l.drop i).getD 2 0) ((l.drop i).getD 3 0) % 64 = (l.drop i).getD 3 0 := by unfold num4; omega
    rw [encode_nat (by omega), if_neg (by omega), if_neg (by omega), if_neg (by omega), x0, x1, x2, x3]
end
end Go.Proofs.YtpfeccbnkgnioaaDoor.Tm
