/- Plain mathematics of layer 12: what is read is written; errors are errors; nested lists; how many bytes. No program. -/
import Derived.Test.YtphanlkobkkgfaaBn2
namespace Go.Proofs.Ytphanlkobkkgfaa
set_option linter.unusedVariables false
namespace Bn

theorem Bytes.suf {l m : List Nat} (h : Bytes l) (k : m <:+ l) : Bytes m := fun x hx => h x (k.subset hx)
theorem Bytes.tail {c : Nat} {l : List Nat} (h : Bytes (c :: l)) : Bytes l := fun x hx => h x (List.mem_cons_of_mem _ hx)
theorem Bytes.right {a l : List Nat} (h : Bytes (a ++ l)) : Bytes l := fun x hx => h x (List.mem_append_right _ hx)
theorem not_digit {c : Nat} (h : ¬ digit c = false) : digit c = true := by simpa using h
theorem rises_snoc {a : List ByteArray} {s : ByteArray} (h : Tn.rises a = true) (hk : ¬ ∃ k, a.getLast? = some k ∧ Tn.less k s = false) : Tn.rises (a ++ [s]) = true := by
  rw [Tn.rises_iff] at h ⊢
  intro i hi
  rw [List.length_append, List.length_singleton] at hi
  by_cases h1 : i + 1 < a.length
  · have := h i h1
    rw [List.getElem_append_left (by omega), List.getElem_append_left h1]
    exact this
  · have hia : i + 1 = a.length := by omega
    have hl : a.getLast? = some a[i] := by
      rw [List.getLast?_eq_getElem?, show a.length - 1 = i by omega, List.getElem?_eq_getElem (by omega)]
    rw [List.getElem_append_left (by omega), List.getElem_append_right (by omega)]
    simp only [hia, Nat.sub_self, List.getElem_cons_zero]
    cases hls : Tn.less a[i] s
    · exact absurd ⟨_, hl, hls⟩ hk
    · rfl
theorem entry_sound {d : Bool} {ks ks' : List ByteArray} {l r : List Nat} (hb : Bytes l) (h : entry d ks l = .ok ks' r) :
    (d = false → ks' = ks ∧ r = l) ∧ (d = true → ∃ s, ks' = ks ++ [s] ∧ l = text s ++ r ∧ s.size ≤ 1048576 ∧ (Tn.rises ks = true → Tn.rises (ks ++ [s]) = true)) := by
  unfold entry at h
  split at h
  · rename_i hd
    cases h
    exact ⟨fun _ => ⟨rfl, rfl⟩, fun h => by rw [hd] at h; cases h⟩
  · rename_i hd
    refine ⟨fun h => absurd h hd, fun _ => ?_⟩
    split at h
    · cases h
    · rename_i c m
      split at h
      · cases h
      · rename_i hc
        split at h
        · cases h
        · rename_i s r1 h1
          obtain ⟨a1, a2⟩ := word_sound hb ⟨c, m, rfl, not_digit hc⟩ h1
          split at h
          · cases h
          · rename_i h2
            cases h
            exact ⟨s, rfl, a2, a1, fun hr => rises_snoc hr h2⟩
theorem loop_sound {v : List Nat → Rs Tn} {d : Bool} {a : Nat} (hv : ∀ l t r, Bytes l → v l = .ok t r → l = ben t ++ r ∧ t.right a = 0 ∧ Ints t) : ∀ (f : Nat) (ks : List ByteArray) (ts : List Tn) (l : List Nat) {t : Tn} {r : List Nat}, Bytes l → loop v d f ks ts l = .ok t r →
    ∃ keys kids, t = .mk (if d = true then 4 else 3) 0 ⟨#[]⟩ (ks ++ keys) (ts ++ kids) ∧ l = body d keys (kids.map ben) ++ 101 :: r ∧ (d = true → keys.length = kids.length) ∧ (d = false → keys = []) ∧ (∀ u ∈ kids, u.right a = 0 ∧ Ints u) ∧ (∀ k ∈ keys, k.size ≤ 1048576) ∧ (Tn.rises ks = true → Tn.rises (ks ++ keys) = true)
  | 0, ks, ts, l, t, r, hb, h => by cases h
  | f + 1, ks, ts, l, t, r, hb, h => by
    rw [loop] at h
    split at h
    · rename_i h1
      cases h
      refine ⟨[], [], by simp, ?_, by simp, by simp, by simp, by simp, by simp⟩
      cases l with
      | nil => simp at h1
      | cons c l =>
        have : c = 101 := by simpa using h1
        subst this
        simp [body]
    · split at h
      · cases h
      · rename_i ks' r1 h1
        split at h
        · cases h
        · rename_i t1 r2 h2
          obtain ⟨e1, e2⟩ := entry_sound hb h1
          cases d with
          | false =>
            obtain ⟨rfl, rfl⟩ := e1 rfl
            obtain ⟨b1, b2, b3⟩ := hv _ _ _ hb h2
            obtain ⟨keys, kids, g1, g2, g3, g4, g5, g6, g7⟩ := loop_sound hv f _ _ _ (by rw [b1] at hb; exact hb.right) h
            have hk := g4 rfl
            subst hk
            refine ⟨[], t1 :: kids, by rw [g1]; simp, ?_, by simp, by simp, ?_, by simp, by simp⟩
            · rw [List.map_cons, body, List.append_assoc, ← g2]; exact b1
            · intro u hu
              rcases List.mem_cons.1 hu with rfl | hu
              · exact ⟨b2, b3⟩
              · exact g5 u hu
          | true =>
            obtain ⟨s, rfl, hl, hs, hr⟩ := e2 rfl
            have hb1 : Bytes r1 := by rw [hl] at hb; exact hb.right
            obtain ⟨b1, b2, b3⟩ := hv _ _ _ hb1 h2
            obtain ⟨keys, kids, g1, g2, g3, g4, g5, g6, g7⟩ := loop_sound hv f _ _ _ (by rw [b1] at hb1; exact hb1.right) h
            refine ⟨s :: keys, t1 :: kids, by rw [g1]; simp, ?_, ?_, by simp, ?_, ?_, ?_⟩
            · rw [List.map_cons, body, if_pos rfl, List.append_assoc, List.append_assoc, ← g2, ← b1]; exact hl
            · intro _
              simp [g3 rfl]
            · intro u hu
              rcases List.mem_cons.1 hu with rfl | hu
              · exact ⟨b2, b3⟩
              · exact g5 u hu
            · intro k hk
              rcases List.mem_cons.1 hk with rfl | hk
              · exact hs
              · exact g6 k hk
            · intro hrs
              have := g7 (hr hrs)
              simpa using this
theorem leaf_right {t : Tn} {a : Nat} (ha : a ≤ 7) (ho : t.own = 0) (hk : t.kids = []) : t.right a = 0 := by
  rw [Tn.right_eq, if_neg (by omega), if_neg (by simpa using ho), hk, Tn.rights]
theorem value_sound : ∀ (k : Nat) (l : List Nat) (t : Tn) (r : List Nat), k ≤ 8 → Bytes l → value k l = .ok t r → l = ben t ++ r ∧ t.right (8 - k) = 0 ∧ Ints t
  | k, [], t, r, hk, hb, h => by cases k <;> cases h
  | 0, c :: l, t, r, hk, hb, h => by
    rw [value] at h
    split at h <;> cases h
  | k + 1, c :: l, t, r, hk, hb, h => by
    rw [value] at h
    split at h
    · cases h
    · rename_i hc
      split at h
      · rename_i hd
        split at h
        · cases h
        · rename_i s r1 h1
          cases h
          obtain ⟨a1, a2⟩ := word_sound hb ⟨c, l, rfl, hd⟩ h1
          refine ⟨?_, leaf_right (by omega) ?_ rfl, .mk (by show Nm.In 0; unfold Nm.In; omega) (fun u hu => by cases hu)⟩
          · rw [ben_eq]; exact a2
          · refine Tn.own_zero.2 ⟨⟨by show (1 : Int) ≤ 2; omega, by show (2 : Int) ≤ 4; omega⟩, rfl, ?_, rfl⟩
            unfold Tn.isLong
            rw [decide_eq_false (show ¬ 1048576 < (Tn.mk 2 0 s [] []).s.size by show ¬ 1048576 < s.size; omega)]
            rfl
      · split at h
        · rename_i hd h105
          subst h105
          split at h
          · cases h
          · rename_i n r1 h1
            cases h
            obtain ⟨a1, a2⟩ := number_sound h1
            refine ⟨?_, leaf_right (by omega) ?_ rfl, .mk a1 (fun u hu => by cases hu)⟩
            · rw [ben_eq, if_pos (show (Tn.mk 1 n ⟨#[]⟩ [] []).kind = 1 from rfl), a2]
              show _ = 105 :: (Nm.put n ++ [101]) ++ _
              simp
            · exact Tn.own_zero.2 ⟨⟨by show (1 : Int) ≤ 1; omega, by show (1 : Int) ≤ 4; omega⟩, rfl, rfl, rfl⟩
        · rename_i hd h105
          have hd' : digit c = false := by simpa using hd
          obtain ⟨keys, kids, g1, g2, g3, g4, g5, g6, g7⟩ := loop_sound (a := 8 - k) (fun l t r hb h => value_sound k l t r (by omega) hb h) _ _ _ _ hb.tail h
          rw [List.nil_append, List.nil_append] at g1
          have hrs : Tn.rises keys = true := by simpa using g7 (by simp [Tn.rises])
          have hlg : keys.any (fun k => decide (1048576 < k.size)) = false := by
            rw [List.any_eq_false]
            intro x hx
            have := g6 x hx
            simpa using this
          by_cases h100 : c = 100
          · subst h100
            rw [decide_eq_true rfl, if_pos rfl] at g1
            rw [decide_eq_true rfl] at g2 g3
            subst g1
            have ho : (Tn.mk 4 0 ⟨#[]⟩ keys kids).own = 0 := by
              refine Tn.own_zero.2 ⟨⟨by show (1 : Int) ≤ 4; omega, by show (4 : Int) ≤ 4; omega⟩, (Tn.odd_four rfl).2 ⟨rfl, rfl, g3 rfl⟩, ?_, hrs⟩
              unfold Tn.isLong
              rw [show (Tn.mk 4 0 ⟨#[]⟩ keys kids).keys.any (fun k => decide (1048576 < k.size)) = false from hlg]
              rfl
            refine ⟨?_, ?_, .mk (by show Nm.In 0; unfold Nm.In; omega) (fun u hu => (g5 u hu).2)⟩
            · rw [ben_eq, g2]
              show _ = 100 :: (body true keys (kids.map ben) ++ [101]) ++ r
              simp
            · rw [Tn.right_eq, if_neg (by omega), if_neg (by simpa using ho), Tn.rights_zero, show 8 - (k + 1) + 1 = 8 - k by omega]
              exact fun u hu => (g5 u hu).1
          · have h108 : c = 108 := by
              by_cases h : c = 108
              · exact h
              · exact absurd ⟨hd', h105, h, h100⟩ hc
            subst h108
            rw [decide_eq_false h100] at g2 g4
            rw [decide_eq_false h100, if_neg (by simp)] at g1
            have hke := g4 rfl
            subst hke g1
            have ho : (Tn.mk 3 0 ⟨#[]⟩ [] kids).own = 0 := Tn.own_zero.2 ⟨⟨by show (1 : Int) ≤ 3; omega, by show (3 : Int) ≤ 4; omega⟩, rfl, rfl, rfl⟩
            refine ⟨?_, ?_, .mk (by show Nm.In 0; unfold Nm.In; omega) (fun u hu => (g5 u hu).2)⟩
            · rw [ben_eq, g2]
              show _ = 108 :: (body false [] (kids.map ben) ++ [101]) ++ r
              simp
            · rw [Tn.right_eq, if_neg (by omega), if_neg (by simpa using ho), Tn.rights_zero, show 8 - (k + 1) + 1 = 8 - k by omega]
              exact fun u hu => (g5 u hu).1

/-! ### errors are errors -/
theorem number_bad {c e : Nat} {l : List Nat} (h : number c l = .bad e) : e = 2 ∨ e = 3 := by
  unfold number at h
  split at h
  · split at h
    · cases h
    · cases h; exact .inr rfl
  · cases h; exact .inl rfl
theorem word_bad {e : Nat} {l : List Nat} (h : word l = .bad e) : e = 2 ∨ e = 3 ∨ e = 5 := by
  unfold word at h
  split at h
  · rename_i e' h1
    cases h
    rcases number_bad h1 with h | h <;> omega
  · split at h
    · cases h; omega
    · split at h
      · cases h; omega
      · cases h
theorem entry_bad {d : Bool} {ks : List ByteArray} {e : Nat} {l : List Nat} (h : entry d ks l = .bad e) : 1 ≤ e ∧ e ≤ 6 := by
  unfold entry at h
  split at h
  · cases h
  · split at h
    · cases h; omega
    · split at h
      · cases h; omega
      · split at h
        · rename_i e' h1
          cases h
          rcases word_bad h1 with h | h | h <;> omega
        · split at h
          · cases h; omega
          · cases h
theorem loop_bad {v : List Nat → Rs Tn} {d : Bool} (hv : ∀ l t r, v l = .ok t r → r.length < l.length) (hv2 : ∀ l e, v l = .bad e → 1 ≤ e ∧ e ≤ 6) : ∀ (f : Nat) (ks : List ByteArray) (ts : List Tn) (l : List Nat) {e : Nat}, l.length < f → loop v d f ks ts l = .bad e → 1 ≤ e ∧ e ≤ 6
  | 0, ks, ts, l, e, hf, h => by omega
  | f + 1, ks, ts, l, e, hf, h => by
    rw [loop] at h
    split at h
    · cases h
    · split at h
      · rename_i e' h1
        cases h
        exact entry_bad h1
      · rename_i ks' r1 h1
        have a1 := entry_len h1
        split at h
        · rename_i e' h2
          cases h
          exact hv2 _ _ h2
        · rename_i t1 r2 h2
          have a2 := hv _ _ _ h2
          exact loop_bad hv hv2 f _ _ _ (by omega) h
theorem value_bad : ∀ (k : Nat) (l : List Nat) (e : Nat), value k l = .bad e → 1 ≤ e ∧ e ≤ 6
  | k, [], e, h => by cases k <;> (cases h; omega)
  | 0, c :: l, e, h => by
    rw [value] at h
    split at h <;> (cases h; omega)
  | k + 1, c :: l, e, h => by
    rw [value] at h
    split at h
    · cases h; omega
    · split at h
      · split at h
        · rename_i e' h1
          cases h
          rcases word_bad h1 with h | h | h <;> omega
        · cases h
      · split at h
        · split at h
          · rename_i e' h1
            cases h
            rcases number_bad h1 with h | h <;> omega
          · cases h
        · exact loop_bad (value_len k) (value_bad k) _ _ _ _ (Nat.lt_succ_self _) h

/-! ### the whole -/
theorem parse_ben {t : Tn} (hi : Ints t) (hr : t.right 0 = 0) : parse (ben t) = (t, 0) := by
  have := value_ben 8 t hi (Nat.le_refl _) hr []
  rw [List.append_nil] at this
  unfold parse
  rw [this]
  rfl
theorem parse_sound {l : List Nat} (hb : Bytes l) (h : (parse l).2 = 0) : (parse l).1.right 0 = 0 ∧ ben (parse l).1 = l ∧ Ints (parse l).1 := by
  unfold parse at h ⊢
  split at h
  · rename_i e h1
    have := value_bad _ _ _ h1
    simp only [] at h
    omega
  · rename_i t r h1
    obtain ⟨a1, a2, a3⟩ := value_sound 8 l t r (Nat.le_refl _) hb h1
    split at h
    · rename_i hr
      subst hr
      rw [List.append_nil] at a1
      simp only [if_pos]
      exact ⟨a2, a1.symm, a3⟩
    · cases h
noncomputable def print (t : Tn) : List Nat × Nat := if t.right 0 = 0 then (ben t, 0) else ([], t.right 0)

/-! ### lists in one another -/
def nest : Nat → Tn
  | 0 => .mk 3 0 ⟨#[]⟩ [] []
  | n + 1 => .mk 3 0 ⟨#[]⟩ [] [nest n]
theorem nest_ben : ∀ n, ben (nest n) = List.replicate (n + 1) 108 ++ List.replicate (n + 1) 101
  | 0 => by rw [ben_eq]; rfl
  | n + 1 => by
    rw [ben_eq]
    show 108 :: (body false [] [ben (nest n)] ++ [101]) = _
    rw [body, body, nest_ben n, List.append_nil, List.replicate_succ (n := n + 1), List.replicate_succ' (n := n + 1) (a := 101)]
    simp
theorem nest_own (n : Nat) : (nest n).own = 0 := by
  cases n with
  | zero => exact Tn.own_zero.2 ⟨⟨by show (1 : Int) ≤ 3; omega, by show (3 : Int) ≤ 4; omega⟩, rfl, rfl, rfl⟩
  | succ n => exact Tn.own_zero.2 ⟨⟨by show (1 : Int) ≤ 3; omega, by show (3 : Int) ≤ 4; omega⟩, rfl, rfl, rfl⟩
theorem nest_right : ∀ (n a : Nat), n + a ≤ 7 → (nest n).right a = 0
  | 0, a, h => leaf_right (by omega) (nest_own 0) rfl
  | n + 1, a, h => by
    rw [Tn.right_eq, if_neg (by omega), if_neg (by simpa using nest_own (n + 1)), Tn.rights_zero]
    intro u hu
    have : u = nest n := by simpa [nest, Tn.kids] using hu
    subst this
    exact nest_right n (a + 1) (by omega)
theorem nest_ints : ∀ n, Ints (nest n)
  | 0 => .mk (by show Nm.In 0; unfold Nm.In; omega) (fun u hu => by cases hu)
  | n + 1 => .mk (by show Nm.In 0; unfold Nm.In; omega) (fun u hu => by
    have : u = nest n := by simpa [nest, Tn.kids] using hu
    subst this
    exact nest_ints n)
theorem deep_bad : ∀ (k n : Nat) (r : List Nat), k ≤ n → value k (List.replicate (n + 1) 108 ++ r) = .bad 6
  | 0, n, r, h => by
    rw [List.replicate_succ, List.cons_append, value, if_neg (by simp)]
  | k + 1, 0, r, h => by omega
  | k + 1, n + 1, r, h => by
    rw [List.replicate_succ, List.cons_append, value, if_neg (by simp), if_neg (by simp [digit]), if_neg (by omega), loop]
    rw [if_neg (by rw [List.replicate_succ]; simp)]
    have he : entry (decide ((108 : Nat) = 100)) [] (List.replicate (n + 1) 108 ++ r) = .ok [] (List.replicate (n + 1) 108 ++ r) := by unfold entry; rfl
    rw [he]
    simp only []
    rw [deep_bad k n r (by omega)]
theorem parse_deep (n : Nat) : (parse (List.replicate (n + 1) 108 ++ List.replicate (n + 1) 101)).2 = if n + 1 ≤ 8 then 0 else 6 := by
  by_cases h : n + 1 ≤ 8
  · rw [if_pos h, ← nest_ben, parse_ben (nest_ints n) (nest_right n 0 (by omega))]
  · rw [if_neg h]
    unfold parse
    rw [deep_bad 8 n _ (by omega)]
end Bn
end Go.Proofs.Ytphanlkobkkgfaa
