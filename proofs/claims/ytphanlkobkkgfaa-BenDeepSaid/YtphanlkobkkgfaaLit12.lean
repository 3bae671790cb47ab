/- What the constants of layer 12's awake come to. No program. -/
import Derived.Test.YtphanlkobkkgfaaRlist12
import Derived.Test.YtphanlkobkkgfaaBn3
namespace Go.Proofs.Ytphanlkobkkgfaa
open Go.RowKit
set_option linter.unusedVariables false
set_option maxRecDepth 100000
namespace Bn
theorem put_1 : Nm.put 1 = [49] := by rw [Nm.put_pos (by omega)]; exact Nm.dec_low (by decide)
theorem put_2 : Nm.put 2 = [50] := by rw [Nm.put_pos (by omega)]; exact Nm.dec_low (by decide)
theorem put_5 : Nm.put 5 = [53] := by rw [Nm.put_pos (by omega)]; exact Nm.dec_low (by decide)
abbrev t5ab : Tn := .mk 3 0 ⟨#[]⟩ [] [.mk 1 5 ⟨#[]⟩ [] [], .mk 2 0 ⟨#[97, 98]⟩ [] []]
abbrev dab : Tn := .mk 4 0 ⟨#[]⟩ [⟨#[97]⟩, ⟨#[98]⟩] [.mk 1 1 ⟨#[]⟩ [] [], .mk 1 2 ⟨#[]⟩ [] []]
theorem ben_int {n : Int} : ben (.mk 1 n ⟨#[]⟩ [] []) = 105 :: (Nm.put n ++ [101]) := by rw [ben, if_pos rfl]
theorem text_a : text ⟨#[97]⟩ = [49, 58, 97] := by
  unfold text
  rw [show ((⟨#[97]⟩ : ByteArray).size : Int) = 1 from rfl, put_1]; decide +kernel
theorem text_b : text ⟨#[98]⟩ = [49, 58, 98] := by
  unfold text
  rw [show ((⟨#[98]⟩ : ByteArray).size : Int) = 1 from rfl, put_1]; decide +kernel
theorem text_ab : text ⟨#[97, 98]⟩ = [50, 58, 97, 98] := by
  unfold text
  rw [show ((⟨#[97, 98]⟩ : ByteArray).size : Int) = 2 from rfl, put_2]; decide +kernel
theorem ben_t5ab : ben t5ab = [108, 105, 53, 101, 50, 58, 97, 98, 101] := by
  have h2 : ben (.mk 2 0 ⟨#[97, 98]⟩ [] []) = [50, 58, 97, 98] := by rw [ben, if_neg (by omega), if_pos rfl, text_ab]
  rw [ben, bens, bens, bens, ben_int, h2, put_5]
  rfl
theorem ben_dab : ben dab = [100, 49, 58, 97, 105, 49, 101, 49, 58, 98, 105, 50, 101, 101] := by
  rw [ben, bens, bens, bens, ben_int, ben_int, put_1, put_2, if_neg (by omega), if_neg (by omega), if_pos rfl, show decide ((4 : Int) = 4) = true from rfl, body, body, body, if_pos rfl, if_pos rfl, text_a, text_b]
  rfl
theorem right_t5ab : t5ab.right 0 = 0 := by decide +kernel
theorem right_dab : dab.right 0 = 0 := by decide +kernel
theorem print_t5ab : print t5ab = ([108, 105, 53, 101, 50, 58, 97, 98, 101], 0) := by unfold print; rw [if_pos right_t5ab, ben_t5ab]
theorem ints_leaf {k n : Int} {s : ByteArray} (h : Nm.In n) : Ints (.mk k n s [] []) := .mk h (fun u hu => by cases hu)
theorem ints_dab : Ints dab := .mk (by show Nm.In 0; unfold Nm.In; omega) (fun u hu => by
  have hu : u = .mk 1 1 ⟨#[]⟩ [] [] ∨ u = .mk 1 2 ⟨#[]⟩ [] [] := by simpa [Tn.kids] using hu
  rcases hu with rfl | rfl
  · exact ints_leaf (by unfold Nm.In; omega)
  · exact ints_leaf (by unfold Nm.In; omega))
theorem parse_dab : parse [100, 49, 58, 97, 105, 49, 101, 49, 58, 98, 105, 50, 101, 101] = (dab, 0) := by rw [← ben_dab]; exact parse_ben ints_dab right_dab
theorem parse_bad' {l : List Nat} {e : Nat} (h : value 8 l = .bad e) : parse l = (.mk 0 0 ⟨#[]⟩ [] [], e) := by unfold parse; rw [h]
theorem get_m0 : Nm.get [45, 48] = (0, 3) := by
  rw [Nm.get_code (by simp)]
  have h : ¬ Nm.put (Nm.gv [45, 48]) = [45, 48] := by
    have e : Nm.gv [45, 48] = 0 := by decide +kernel
    rw [e, Nm.put_pos (by omega)]
    rw [show (0 : Int).natAbs = 0 from rfl, Nm.dec_low (by decide)]
    decide
  rw [if_neg h]
theorem parse_m0 : parse [105, 45, 48, 101] = (.mk 0 0 ⟨#[]⟩ [] [], 3) := by
  refine parse_bad' ?_
  rw [value_int rfl]
  have h : number 101 [45, 48, 101] = .bad 3 := by
    unfold number
    rw [show List.findIdx (fun x => decide (x = 101)) [45, 48, 101] = 2 by decide, if_pos (by decide), show List.take 2 [45, 48, 101] = [45, 48] from rfl, get_m0]
    rfl
  rw [h]
theorem word_at {s : ByteArray} {l r : List Nat} (hs : s.size ≤ 1048576) (h : text s ++ r = l) : word l = .ok s r := by rw [← h]; exact word_text hs r
theorem number_at {c : Nat} {n : Int} {l r : List Nat} (hn : Nm.In n) (hc : c ≠ 45 ∧ ¬ (48 ≤ c ∧ c ≤ 57)) (h : Nm.put n ++ c :: r = l) : number c l = .ok n r := by rw [← h]; exact number_put hn hc r
theorem parse_2a : parse [50, 58, 97] = (.mk 0 0 ⟨#[]⟩ [] [], 2) := by
  refine parse_bad' ?_
  rw [value_word (by decide)]
  have h : word [50, 58, 97] = .bad 2 := by
    unfold word
    rw [number_at (n := 2) (r := [97]) (by unfold Nm.In; omega) (by omega) (by rw [put_2]; rfl)]
    simp
  rw [h]
theorem parse_le5 : parse [108, 101, 53] = (.mk 0 0 ⟨#[]⟩ [] [], 4) := by
  have h : value 8 [108, 101, 53] = .ok (.mk 3 0 ⟨#[]⟩ [] []) [53] := by
    rw [value_list (.inl rfl)]
    exact loop_hit rfl
  unfold parse
  rw [h]
  simp
theorem parse_dba : parse [100, 49, 58, 98, 105, 49, 101, 49, 58, 97, 105, 49, 101, 101] = (.mk 0 0 ⟨#[]⟩ [] [], 3) := by
  refine parse_bad' ?_
  rw [value_list (.inr rfl)]
  have e1 : entry true [] [49, 58, 98, 105, 49, 101, 49, 58, 97, 105, 49, 101, 101] = .ok [⟨#[98]⟩] [105, 49, 101, 49, 58, 97, 105, 49, 101, 101] :=
    entry_ok (by decide) (word_at (by decide) (by rw [text_b]; rfl)) (by simp)
  have v1 : value 7 [105, 49, 101, 49, 58, 97, 105, 49, 101, 101] = .ok (.mk 1 1 ⟨#[]⟩ [] []) [49, 58, 97, 105, 49, 101, 101] := by
    rw [value_int rfl, number_at (n := 1) (r := [49, 58, 97, 105, 49, 101, 101]) (by unfold Nm.In; omega) (by omega) (by rw [put_1]; rfl)]
  have e2 : entry true [⟨#[98]⟩] [49, 58, 97, 105, 49, 101, 101] = .bad 3 :=
    entry_less (by decide) (word_at (s := ⟨#[97]⟩) (r := [105, 49, 101, 101]) (by decide) (by rw [text_a]; rfl)) ⟨⟨#[98]⟩, rfl, by decide +kernel⟩
  rw [show decide ((100 : Nat) = 100) = true from rfl, loop_step (value_len 7) (by simp) e1 v1]
  exact loop_entry (by simp) e2
end Bn
end Go.Proofs.Ytphanlkobkkgfaa
