/- Plain mathematics of layer 10: how far a reading has come, for one that gives up at an error. No program. -/
import Derived.Test.YtjkjhnpemhlbpaaDoorPH
namespace Go.Proofs.YtjkjhnpemhlbpaaDoor
open Gm
set_option linter.unusedVariables false
namespace Tg

theorem uvar_none {l : List Nat} {e : Int} {most : Nat} (h : (Bm.uvar l e most).2.2 ≠ 0) : (Bm.uvar l e most).1 = 0 := by
  unfold Bm.uvar at h ⊢
  by_cases h1 : e ≠ 0
  · rw [if_pos h1]
  · rw [if_neg h1] at h ⊢
    by_cases h2 : (Um.get l).2.2 ≠ 0
    · rw [if_pos h2]
    · rw [if_neg h2] at h ⊢
      by_cases h3 : most < (Um.get l).1
      · rw [if_pos h3]
      · rw [if_neg h3] at h
        exact absurd rfl h
theorem fail_ne {e x : Int} (hx : x ≠ 0) : Bm.fail e x ≠ 0 := by unfold Bm.fail; split <;> assumption
theorem fail_as {e x : Int} (he : e ≠ 0) : Bm.fail e x = e := if_pos he
theorem read_err (t : Nat) (m : Ms) (l : List Nat) {e : Int} (he : e ≠ 0) : (read t m l e).2.2 = e := by
  have hu : ∀ L (x : Int) k, x ≠ 0 → (Bm.uvar L x k).2.2 = x := fun L x k hx => by rw [Bm.uvar_err hx]
  have ht : ∀ L (x : Int) k, x ≠ 0 → (Bm.text L x k).2.2 = x := fun L x k hx => by rw [Bm.text_err hx]
  have hp : ∀ L (x : Int), x ≠ 0 → (peer L x).2.2 = x := fun L x hx => by unfold peer; rw [Bm.uvar_err hx, Bm.uvar_err hx]
  have hl : ∀ {α : Type} (p : List Nat → Int → α × List Nat × Int) k L (x : Int), x ≠ 0 → (list p k L x).2.2 = x := fun p k L x hx => by unfold list; rw [Bm.uvar_err hx]; rfl
  unfold read
  repeat' split
  · exact hu _ _ _ he
  · exact hu _ _ _ he
  · rfl
  · exact hu _ _ _ he
  · exact ht _ _ _ he
  · exact ht _ _ _ he
  · exact hp _ _ he
  · exact hl _ _ _ _ he
  · exact hl _ _ _ _ he
  · rfl
theorem zeroE_err {t : Nat} {r : Ms × List Nat × Int} (h : r.2.2 ≠ 0) : zeroE t r = r.2.2 := if_neg (fun k => h k.1)
theorem zeroE_fail (t : Nat) (r : Ms × List Nat × Int) : zeroE t r = if has r.1 t = false then Bm.fail r.2.2 3 else r.2.2 := by
  unfold zeroE
  by_cases h : has r.1 t = false
  · rw [if_pos h]
    by_cases h2 : r.2.2 = 0
    · rw [if_pos ⟨h2, h⟩, h2]; rfl
    · rw [if_neg (fun k => h2 k.1), fail_as h2]
  · rw [if_neg (fun k => h k.2), if_neg h]
theorem loop_step {f last : Nat} {m : Ms} {l : List Nat} {e : Int} (h : Bm.left l e ≠ 0) : loop (f + 1) last m l e = loop f (Bm.uvar l e u64).1 (next last m l e).1 (next last m l e).2.1 (zeroE (Bm.uvar l e u64).1 (next last m l e)) := by
  show (if _ then _ else _) = _
  rw [if_neg h]

/-- a reading of p stands at the message m, with the bytes l and the error e left; behind an error nothing is said but the error -/
structure Lp (p : List Nat) (last : Nat) (m : Ms) (l : List Nat) (e : Int) : Prop where
  bytes : Fm.Bytes l
  good : e = 0 → last ≤ 9 ∧ OkT m ∧ (∀ s, last < s → has m s = false) ∧ ∃ f, l.length < f ∧ all p = loop f last m l 0
  bad : e ≠ 0 → (all p).2.2 = e
section
variable {p l : List Nat} {last : Nat} {m : Ms} {e : Int}
theorem has_bald (k s : Nat) : has (bald k) s = false := by
  unfold has
  repeat' split
  all_goals first | rfl | simp [bald, Fm.bald]
theorem Lp.start (hb : Fm.Bytes p) {K : Nat} (hK : 1 ≤ (Bm.uvar p 0 u64).1 → (Bm.uvar p 0 u64).1 ≤ 12 → K = (Bm.uvar p 0 u64).1) : Lp p 0 (bald K) (Bm.uvar p 0 u64).2.1 (kindE p) := by
  have hs := uvar_suf p 0 u64
  have hln := hs.length_le
  refine ⟨hb.suf hs, fun h => ?_, fun h => ?_⟩
  · obtain ⟨k1, k2, _⟩ := kindE_zero h
    refine ⟨by omega, okT_bald _, fun s _ => has_bald _ s, p.length + 1, by omega, ?_⟩
    unfold all
    rw [h, Nat.mod_eq_of_lt (by omega), ← hK k1 k2]
  · unfold all
    rw [loop_err _ _ _ _ h]
theorem Lp.halt (H : Lp p last m l e) (h : Bm.left l e = 0) : (e ≠ 0 → (all p).2.2 = e) ∧ (e = 0 → all p = (m, [], 0)) := by
  refine ⟨H.bad, fun he => ?_⟩
  obtain ⟨_, _, _, f, hf, ha⟩ := H.good he
  have hl : l = [] := by
    rcases left_zero.1 h with h1 | h1
    · exact absurd he h1
    · exact h1
  subst he hl
  obtain ⟨g, rfl⟩ : ∃ g, f = g + 1 := ⟨f - 1, by omega⟩
  rw [ha]
  unfold loop
  rw [if_pos (left_zero.2 (.inr rfl))]
theorem left_some (h : Bm.left l e ≠ 0) : e = 0 ∧ l ≠ [] := by
  by_cases he : e = 0
  · exact ⟨he, fun hl => h (left_zero.2 (.inr hl))⟩
  · exact absurd (left_zero.2 (.inl he)) h
/-- a tag that may not be: the error is there -/
theorem Lp.wrong (H : Lp p last m l e) (h : Bm.left l e ≠ 0) (ht : (Bm.uvar l e u64).1 ≤ last ∨ 9 < (Bm.uvar l e u64).1) {last' : Nat} {m' : Ms} {l' : List Nat} (hb : Fm.Bytes l') : Lp p last' m' l' (tagE last l e) ∧ tagE last l e ≠ 0 := by
  obtain ⟨he, _⟩ := left_some h
  subst he
  have hx : tagE last l 0 = Bm.fail (Bm.uvar l 0 u64).2.2 3 := if_pos ht
  have hne : tagE last l 0 ≠ 0 := by rw [hx]; exact fail_ne (by omega)
  refine ⟨⟨hb, fun h0 => absurd h0 hne, fun _ => ?_⟩, hne⟩
  obtain ⟨_, _, _, f, hf, ha⟩ := H.good rfl
  obtain ⟨g, rfl⟩ : ∃ g, f = g + 1 := ⟨f - 1, by omega⟩
  have hr : (next last m l 0).2.2 = tagE last l 0 := read_err _ _ _ hne
  rw [ha, loop_step h, zeroE_err (by rw [hr]; exact hne), hr, loop_err _ _ _ _ hne]
/-- a tag that may be, and its field -/
theorem Lp.right (H : Lp p last m l e) (h : Bm.left l e ≠ 0) (h1 : last < (Bm.uvar l e u64).1) (h9 : (Bm.uvar l e u64).1 ≤ 9) :
    tagE last l e = 0 ∧ has m (Bm.uvar l e u64).1 = false ∧ (Bm.uvar l e u64).2.1.length < l.length ∧
    Lp p (Bm.uvar l e u64).1 (read (Bm.uvar l e u64).1 m (Bm.uvar l e u64).2.1 0).1 (read (Bm.uvar l e u64).1 m (Bm.uvar l e u64).2.1 0).2.1 (zeroE (Bm.uvar l e u64).1 (read (Bm.uvar l e u64).1 m (Bm.uvar l e u64).2.1 0)) := by
  obtain ⟨he, hle⟩ := left_some h
  subst he
  obtain ⟨hl9, hok, hno, f, hf, ha⟩ := H.good rfl
  have h0 : (Bm.uvar l 0 u64).2.2 = 0 := by
    by_cases h0 : (Bm.uvar l 0 u64).2.2 = 0
    · exact h0
    · have := uvar_none h0
      omega
  have ht : tagE last l 0 = 0 := by
    unfold tagE
    rw [if_neg (by omega)]
    exact h0
  have hnx : next last m l 0 = read (Bm.uvar l 0 u64).1 m (Bm.uvar l 0 u64).2.1 0 := by unfold next; rw [ht]
  obtain ⟨g, rfl⟩ : ∃ g, f = g + 1 := ⟨f - 1, by omega⟩
  rw [loop_step h, hnx] at ha
  obtain ⟨_, hl, _⟩ := uvar_sound H.bytes h0
  have hsu := uvar_suf l 0 u64
  obtain ⟨t, hte⟩ : ∃ t, (Bm.uvar l 0 u64).1 = t := ⟨_, rfl⟩
  obtain ⟨l1, hle1⟩ : ∃ l1, (Bm.uvar l 0 u64).2.1 = l1 := ⟨_, rfl⟩
  rw [hte, hle1] at ha hl ⊢
  rw [hle1] at hsu
  rw [hte] at h1 h9
  have hput : Um.put t = [t] := Um.enc_small (by omega)
  have hlen : l1.length + 1 = l.length := by rw [hl, hput]; simp
  have hb1 := H.bytes.suf hsu
  have hs2 := read_suf t m l1 0
  refine ⟨ht, hno t h1, by omega, hb1.suf hs2, fun hz => ?_, fun hz => ?_⟩
  · have hr : (read t m l1 0).2.2 = 0 ∧ has (read t m l1 0).1 t = true := by
      rw [zeroE_fail] at hz
      split at hz
      · exact absurd hz (fail_ne (by omega))
      · rename_i hq
        exact ⟨hz, by simpa using hq⟩
    obtain ⟨_, _, r3, r4, _⟩ := read_sound (by omega) h9 hb1 hok (hno t h1) hr.1
    rw [hz] at ha
    exact ⟨h9, r3, fun s hs => by rw [(r4 s (by omega)).1]; exact hno s (by omega), g, by have := hs2.length_le; omega, ha⟩
  · rw [ha, loop_err _ _ _ _ hz]
end
end Tg
end Go.Proofs.YtjkjhnpemhlbpaaDoor
