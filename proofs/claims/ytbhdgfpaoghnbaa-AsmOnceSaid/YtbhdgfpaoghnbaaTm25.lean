/- Layer 22: what the program does with its list, held against the plain one. -/
import Derived.Test.YtbhdgfpaoghnbaaFc22b
import Derived.Test.YtbhdgfpaoghnbaaTm24
namespace Go.Proofs.Ytbhdgfpaoghnbaa
set_option linter.unusedVariables false

/-- the oldest ones but b go, as long as there are too many bytes: in one way through the list -/
def sweep (q b : Nat) : List (Tm.One × Nat) → List (Tm.One × Nat) → List (Tm.One × Nat)
  | kept, [] => kept
  | kept, x :: r => if x.2 = b ∨ Tm.held (ones (kept ++ x :: r)) ≤ q then sweep q b (kept ++ [x]) r else sweep q b kept r
section
variable {q b : Nat} {k : Tm.Key} {o : Tm.One}
theorem snds_append (a c : List (Tm.One × Nat)) : snds (a ++ c) = snds a ++ snds c := by simp [snds]
theorem ones_append (a c : List (Tm.One × Nat)) : ones (a ++ c) = ones a ++ ones c := by simp [ones]
theorem sweep_is (hk : o.key = k) (hs : o.s.size ≤ q) : ∀ (todo kept : List (Tm.One × Nat)) (f : Nat), (snds (kept ++ todo)).Nodup → ((ones (kept ++ todo)).map Tm.One.key).Nodup → (o, b) ∈ kept ++ todo →
    (kept = [] ∨ kept = [(o, b)] ∨ Tm.held (ones (kept ++ todo)) ≤ q) → (kept ++ todo).length ≤ f → ones (sweep q b kept todo) = Tm.shrink q k f (ones (kept ++ todo))
  | [], kept, f, _, _, _, hd, _ => by
    have h : Tm.held (ones (kept ++ [])) ≤ q := by
      rcases hd with rfl | rfl | h
      · simp [ones, Tm.held]
      · simpa [ones, Tm.held] using hs
      · exact h
    rw [Tm.shrink_done f q h, List.append_nil]
    rfl
  | x :: r, kept, f, hn, hkn, hm, hd, hl => by
    by_cases hh : Tm.held (ones (kept ++ x :: r)) ≤ q
    · rw [sweep, if_pos (.inr hh)]
      have e : kept ++ x :: r = (kept ++ [x]) ++ r := by simp
      rw [e] at hn hkn hm hl hh ⊢
      exact sweep_is hk hs r (kept ++ [x]) f hn hkn hm (.inr (.inr hh)) hl
    · have hd' : kept = [] ∨ kept = [(o, b)] := by
        rcases hd with h | h | h
        · exact .inl h
        · exact .inr h
        · exact absurd h hh
      by_cases hx : x.2 = b
      · have hxo : x = (o, b) := sndT_uniq (kept ++ x :: r) hn x (by simp) (o, b) hm hx
        have hke : kept = [] := by
          rcases hd' with h | h
          · exact h
          · subst h hxo
            simp [snds] at hn
        subst hke
        rw [sweep, if_pos (.inl hx)]
        have e : ([] : List (Tm.One × Nat)) ++ x :: r = ([] ++ [x]) ++ r := by simp
        rw [e] at hn hkn hm hl ⊢
        exact sweep_is hk hs r ([] ++ [x]) f hn hkn hm (.inr (.inl (by rw [hxo]; rfl))) hl
      · rw [sweep, if_neg (by rintro (h | h); exact hx h; exact hh h)]
        have hxk : x.1.key ≠ k := fun e => hx (by
          have := key_uniq (kept ++ x :: r) hkn x (by simp) (o, b) hm (by rw [e]; exact hk.symm)
          rw [this])
        have hsub : (kept ++ r).Sublist (kept ++ x :: r) := List.Sublist.append_left (List.Sublist.cons _ (List.Sublist.refl _)) _
        have hn' : (snds (kept ++ r)).Nodup := (hsub.map _).nodup hn
        have hkn' := sub_once hsub hkn
        have hm' : (o, b) ∈ kept ++ r := by
          rcases List.mem_append.1 hm with h | h
          · exact List.mem_append.2 (.inl h)
          · rcases List.mem_cons.1 h with h | h
            · exact absurd (by rw [← h]) hx
            · exact List.mem_append.2 (.inr h)
        cases f with
        | zero => simp at hl
        | succ f =>
          have hl' : (kept ++ r).length ≤ f := by simp at hl ⊢; omega
          rcases hd' with rfl | rfl
          · rw [sweep_is hk hs r [] f hn' hkn' hm' (.inl rfl) hl']
            exact (Tm.shrink_other hh hxk).symm
          · rw [sweep_is hk hs r [(o, b)] f hn' hkn' hm' (.inr (.inl rfl)) hl']
            exact (Tm.shrink_this (o := o) (r := x.1 :: ones r) hh hk).symm
theorem sweep_sub (q b : Nat) : ∀ (todo kept : List (Tm.One × Nat)), (sweep q b kept todo).Sublist (kept ++ todo)
  | [], kept => by rw [sweep, List.append_nil]; exact List.Sublist.refl _
  | x :: r, kept => by
    rw [sweep]
    split
    · have := sweep_sub q b r (kept ++ [x])
      rwa [List.append_assoc] at this
    · exact (sweep_sub q b r kept).trans (List.Sublist.append_left (List.Sublist.cons _ (List.Sublist.refl _)) _)
theorem sweep_mem (q b : Nat) (o : Tm.One) : ∀ (todo kept : List (Tm.One × Nat)), (o, b) ∈ kept ++ todo → (o, b) ∈ sweep q b kept todo
  | [], kept, h => by rw [sweep]; simpa using h
  | x :: r, kept, h => by
    rw [sweep]
    split
    · exact sweep_mem q b o r _ (by rw [List.append_assoc]; exact h)
    · rename_i hx
      refine sweep_mem q b o r _ ?_
      rcases List.mem_append.1 h with h | h
      · exact List.mem_append.2 (.inl h)
      · rcases List.mem_cons.1 h with h | h
        · exact absurd (.inl (by rw [← h])) hx
        · exact List.mem_append.2 (.inr h)
theorem less_mid (a r : List (Tm.One × Nat)) (x : Tm.One × Nat) (hn : (snds (a ++ x :: r)).Nodup) : less (a ++ x :: r) x.2 = a ++ r := by
  unfold less
  rw [snds_append] at hn
  have hn2 : (snds a ++ x.2 :: snds r).Nodup := hn
  rw [List.nodup_append] at hn2
  obtain ⟨_, h2, h3⟩ := hn2
  rw [List.nodup_cons] at h2
  rw [List.filter_append, List.filter_cons, if_neg (by simp)]
  congr 1
  · refine List.filter_eq_self.2 fun y hy => ?_
    have : y.2 ≠ x.2 := h3 y.2 (List.mem_map.2 ⟨y, hy, rfl⟩) x.2 List.mem_cons_self
    simp [this]
  · refine List.filter_eq_self.2 fun y hy => ?_
    have : y.2 ≠ x.2 := fun e => h2.1 (e ▸ List.mem_map.2 ⟨y, hy, rfl⟩)
    simp [this]
theorem less_none {L : List (Tm.One × Nat)} (h : ∀ x ∈ L, x.2 ≠ b) : less L b = L := by
  unfold less
  exact List.filter_eq_self.2 fun y hy => by simp [h y hy]
theorem less_wo {L : List (Tm.One × Nat)} (hn : (snds L).Nodup) (hkn : ((ones L).map Tm.One.key).Nodup) (hm : (o, b) ∈ L) (hk : o.key = k) : ones (less L b) = Tm.wo (ones L) k := by
  obtain ⟨a, r, rfl⟩ := List.append_of_mem hm
  rw [less_mid a r (o, b) hn]
  have e : ones (a ++ (o, b) :: r) = ones a ++ o :: ones r := by rw [ones_append]; rfl
  have hf : Tm.find (ones (a ++ (o, b) :: r)) k = some a.length := by
    refine Tm.find_is (by rw [ones_len]; simp) ?_ (fun j hj => ?_)
    · rw [ones_get (by rw [ones_len]; simp)]
      simpa using hk
    · intro e
      rw [ones_get (by rw [ones_len]; simp; omega), List.getElem_append_left hj] at e
      have := key_uniq _ hkn a[j] (List.mem_append.2 (.inl (List.getElem_mem hj))) (o, b) hm (by rw [e]; exact hk.symm)
      rw [snds_append, List.nodup_append] at hn
      exact hn.2.2 b (List.mem_map.2 ⟨a[j], List.getElem_mem hj, by rw [this]⟩) b List.mem_cons_self rfl
  unfold Tm.wo
  rw [hf]
  simp only
  rw [e, ones_append, List.eraseIdx_append_of_length_le (by rw [ones_len]; exact Nat.le_refl _), ones_len, Nat.sub_self]
  rfl
end
end Go.Proofs.Ytbhdgfpaoghnbaa
