/- More plain mathematics of layer 24: the chapter's examples, and the list of a set's versions. -/
import Derived.Test.YtocgoibohfjgjaaDoorFc24
namespace Go.Proofs.YtocgoibohfjgjaaDoor
set_option linter.unusedVariables false
set_option linter.unusedSimpArgs false
namespace Vs
def text16N (s : Nat) : Nat → List Nat
  | 0 => []
  | k + 1 => if has s ((k : Int) + 1) = true then text16N s k ++ ((if text16N s k = [] then [] else [44]) ++ p16 k) else text16N s k
theorem textN_16 (s : Nat) : ∀ k, k ≤ 16 → textN s k = text16N s k
  | 0, _ => rfl
  | k + 1, h => by rw [textN, text16N, textN_16 s k (by omega), put16 (by omega)]
def text16 (s : Nat) : List Nat := if text16N s 16 = [] then [45] else text16N s 16
theorem text_16 (s : Nat) : text s = text16 s := by unfold text text16; rw [textN_16 s 16 (Nat.le_refl _)]
def words16 : List Nat → List Nat → List Int
  | [], word => same16 word 16
  | c :: r, word => if c = 44 then same16 word 16 ++ words16 r [] else words16 r (word ++ [c])
theorem words_16 : ∀ l w, words l w = words16 l w
  | [], w => same_same16 w 16 (Nat.le_refl _)
  | c :: r, w => by rw [words, words16, words_16 r [], words_16 r (w ++ [c]), same_same16 w 16 (Nat.le_refl _)]
def read16 (l : List Nat) : Nat × Nat := if text16 (set (words16 l [])) = l then (set (words16 l []), 0) else (0, 3)
theorem read_16 (l : List Nat) : read l = read16 l := by unfold read read16; rw [words_16, text_16]
theorem read_a : read [51, 44, 50] = (0, 3) := by rw [read_16]; decide +kernel
theorem read_b : read [49, 44, 49, 50] = (2049, 0) := by rw [read_16]; decide +kernel
theorem text_b : text 2049 = [49, 44, 49, 50] := by rw [text_16]; decide +kernel
theorem set_a : set [1, 3, 4] = 13 := by decide +kernel
theorem set_b : set [2, 3] = 6 := by decide +kernel
theorem set_c : set [12, 1] = 2049 := by decide +kernel
theorem best_a : best 13 6 = 3 := by decide +kernel
theorem has_a : has 2049 12 = true := by decide +kernel
theorem mode_a : mode 4 = 1 := by decide +kernel
theorem mode_b : mode 0 = 0 := by decide +kernel
theorem list_a : (versK 2049 16).length = 2 := by decide +kernel
/-! ### the list -/
theorem versK_len (s : Nat) : ∀ k, (versK s k).length ≤ k
  | 0 => Nat.le_refl _
  | k + 1 => by
    have := versK_len s k
    rw [versK]
    split
    · rw [List.length_append]; simp; omega
    · omega
theorem versK_in {s k : Nat} (h : s.testBit k = true) : versK s (k + 1) = versK s k ++ [k + 1] := by rw [versK, if_pos h]
theorem versK_not {s k : Nat} (h : s.testBit k = false) : versK s (k + 1) = versK s k := by rw [versK, if_neg (by rw [h]; simp)]
theorem versK_pre (s : Nat) : ∀ d k, ∃ r, versK s (k + d) = versK s k ++ r
  | 0, k => ⟨[], by simp⟩
  | d + 1, k => by
    obtain ⟨r, hr⟩ := versK_pre s d k
    rw [show k + (d + 1) = (k + d) + 1 by omega, versK, hr]
    split
    · exact ⟨r ++ [k + d + 1], by simp⟩
    · exact ⟨r, rfl⟩
/-- version k + 1 stands where the versions ahead of it end -/
theorem versK_at {s k : Nat} (h : s.testBit k = true) (hk : k < 16) : (versK s k).length < (versK s 16).length ∧ (versK s 16).getD (versK s k).length 0 = k + 1 := by
  obtain ⟨r, hr⟩ := versK_pre s (15 - k) (k + 1)
  rw [show k + 1 + (15 - k) = 16 by omega, versK_in h, List.append_assoc] at hr
  rw [hr]
  refine ⟨by simp, ?_⟩
  simp [List.getD]
end Vs
end Go.Proofs.YtocgoibohfjgjaaDoor
