/- Layer 21 as plain mathematics: parts that come in order, and the other way. -/
import Derived.Test.YtlbejddmnflmbaaPm
namespace Go.Proofs.Ytlbejddmnflmbaa.Pm
set_option linter.unusedVariables false

/-- the first k parts came, in order -/
def fwd (l : List (List Nat)) (k : Nat) : S := ⟨l.length, (List.range k).map (fun i => (i, l.getD i []))⟩
/-- the last k parts came, the last one first -/
def bwd (l : List (List Nat)) (k : Nat) : S := ⟨l.length, (List.range k).map (fun i => (l.length - 1 - i, l.getD (l.length - 1 - i) []))⟩
section
variable (l : List (List Nat)) (k : Nat)
theorem fwd_len : (fwd l k).l.length = k := by simp [fwd]
theorem bwd_len : (bwd l k).l.length = k := by simp [bwd]
theorem fwd_has (i : Nat) : (fwd l k).has i = decide (i < k) := by
  rw [Bool.eq_iff_iff, S.has_iff]
  simp [S.idx, fwd]
theorem bwd_has (i : Nat) (hk : k ≤ l.length) (hi : i < l.length) : (bwd l k).has i = decide (l.length - k ≤ i) := by
  rw [Bool.eq_iff_iff, S.has_iff]
  simp only [S.idx, bwd, List.map_map, List.mem_map, List.mem_range, Function.comp, decide_eq_true_eq]
  constructor
  · rintro ⟨j, hj, rfl⟩; omega
  · intro h; exact ⟨l.length - 1 - i, by omega, by omega⟩
theorem fwd_err (hk : k < l.length) : (fwd l k).err (k : Int) = 0 := by
  unfold S.err
  rw [if_neg (by show ¬ ((k : Int) < 0 ∨ (l.length : Int) ≤ (k : Int)); omega), if_neg (by rw [Int.toNat_natCast, fwd_has]; simp)]
theorem bwd_err (hk : k < l.length) : (bwd l k).err ((l.length - 1 - k : Nat) : Int) = 0 := by
  unfold S.err
  rw [if_neg (by show ¬ (((l.length - 1 - k : Nat) : Int) < 0 ∨ (l.length : Int) ≤ ((l.length - 1 - k : Nat) : Int)); omega), if_neg (by rw [Int.toNat_natCast, bwd_has l k _ (by omega) (by omega)]; simp; omega)]
theorem fwd_put (hk : k < l.length) : (fwd l k).put (k : Int) (l.getD k []) = fwd l (k + 1) := by
  unfold S.put
  rw [if_pos (fwd_err l k hk), Int.toNat_natCast]
  simp [S.add, fwd, List.range_succ]
theorem bwd_put (hk : k < l.length) : (bwd l k).put ((l.length - 1 - k : Nat) : Int) (l.getD (l.length - 1 - k) []) = bwd l (k + 1) := by
  unfold S.put
  rw [if_pos (bwd_err l k hk), Int.toNat_natCast]
  simp [S.add, bwd, List.range_succ]
theorem fwd_at (hk : k ≤ l.length) : ∀ i, i < k → (fwd l k).at_ i = l.getD i [] := by
  induction k with
  | zero => intro i hi; omega
  | succ k ih =>
    intro i hi
    have e : fwd l (k + 1) = (fwd l k).add k (l.getD k []) := by simp [S.add, fwd, List.range_succ]
    rw [e, S.at_add _ _ _ (by rw [fwd_has]; simp)]
    by_cases h : i = k
    · rw [if_pos h, h]
    · rw [if_neg h]; exact ih (by omega) i (by omega)
theorem bwd_at (hk : k ≤ l.length) : ∀ i, l.length - k ≤ i → i < l.length → (bwd l k).at_ i = l.getD i [] := by
  induction k with
  | zero => intro i hi h2; omega
  | succ k ih =>
    intro i hi h2
    have e : bwd l (k + 1) = (bwd l k).add (l.length - 1 - k) (l.getD (l.length - 1 - k) []) := by simp [S.add, bwd, List.range_succ]
    rw [e, S.at_add _ _ _ (by rw [bwd_has l k _ (by omega) (by omega)]; simp; omega)]
    by_cases h : i = l.length - 1 - k
    · rw [if_pos h, h]
    · rw [if_neg h]; exact ih (by omega) i (by omega) h2
theorem first_flat (s : S) (h : ∀ i, i < l.length → s.at_ i = l.getD i []) : ∀ k, k ≤ l.length → s.first k = (l.take k).flatten := by
  intro k
  induction k with
  | zero => intro _; simp [S.first]
  | succ k ih =>
    intro hk
    rw [S.first_succ, ih (by omega), h k (by omega), List.take_succ_eq_append_getElem (by omega), List.flatten_append]
    simp [List.getD, List.getElem?_eq_getElem (show k < l.length by omega)]
theorem told_flat (s : S) (hc : s.count = l.length) (hl : s.l.length = l.length) (h : ∀ i, i < l.length → s.at_ i = l.getD i []) : s.full = true ∧ (if s.full then s.whole else []) = l.flatten := by
  have hf : s.full = true := by unfold S.full; rw [hl, hc]; simp
  refine ⟨hf, ?_⟩
  rw [hf, if_pos rfl, ← S.first_all, hc, first_flat l s h _ (Nat.le_refl _), List.take_length]
theorem fwd_size (hk : k ≤ l.length) : (fwd l k).size = ((l.take k).flatten).length := by
  induction k with
  | zero => simp [fwd, S.size]
  | succ k ih =>
    have e : fwd l (k + 1) = (fwd l k).add k (l.getD k []) := by simp [S.add, fwd, List.range_succ]
    rw [e, S.size_add, ih (by omega), List.take_succ_eq_append_getElem (by omega), List.flatten_append, List.length_append]
    simp [List.getD, List.getElem?_eq_getElem (show k < l.length by omega)]
theorem bwd_size (m : Nat) (hm : ∀ i, (l.getD i []).length ≤ m) : (bwd l k).size ≤ k * m := by
  induction k with
  | zero => simp [bwd, S.size]
  | succ k ih =>
    have e : bwd l (k + 1) = (bwd l k).add (l.length - 1 - k) (l.getD (l.length - 1 - k) []) := by simp [S.add, bwd, List.range_succ]
    rw [e, S.size_add, Nat.add_mul]
    have := hm (l.length - 1 - k)
    omega
theorem fwd_size_le (m : Nat) (hm : ∀ i, i < k → (l.getD i []).length ≤ m) : (fwd l k).size ≤ k * m := by
  induction k with
  | zero => simp [fwd, S.size]
  | succ k ih =>
    have e : fwd l (k + 1) = (fwd l k).add k (l.getD k []) := by simp [S.add, fwd, List.range_succ]
    rw [e, S.size_add, Nat.add_mul]
    have := hm k (by omega)
    have := ih (fun i hi => hm i (by omega))
    omega
end
end Go.Proofs.Ytlbejddmnflmbaa.Pm
