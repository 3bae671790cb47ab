/- Contract of bytes.Equal. -/
import Derived.Test.YtjomchehnlnfcaaPC
namespace Go.Proofs.Ytjomchehnlnfcaa
open Go.RowKit
set_option linter.unusedVariables false
set_option maxRecDepth 100000

/-- two byte strings are held against each other -/
theorem bequal_any {w : World} {B B' : Nat} {v u : Value} {a b : List Nat} (h : Piece w B v a) (k : Piece w B' u b) (ha : ∀ x ∈ a, x < 256) (hb : ∀ x ∈ b, x < 256) :
    Calls Try.prog 26 #[v, u] w fun e w' => e = .returned (.bool (decide (a = b))) ∧ w = w' := by
  have HE := Lib.hid (strOf_ne ha hb)
  have v1 := h.conv
  have v2 := k.conv
  obtain ⟨A, c, rfl, _⟩ := h
  obtain ⟨A', c', rfl, _⟩ := k
  obtain ⟨s1, hs1⟩ : ∃ s, Hid (strOf a = s) := ⟨_, Lib.hid rfl⟩
  obtain ⟨s2, hs2⟩ : ∃ s, Hid (strOf b = s) := ⟨_, Lib.hid rfl⟩
  rw [hs1.out] at HE v1
  rw [hs2.out] at HE v2
  go_enter Try.func26, Try.ntmps26
  go_wp2_with fail
  go_ret
  exact ⟨by rw [← HE.out]; rfl, rfl⟩
end Go.Proofs.Ytjomchehnlnfcaa
