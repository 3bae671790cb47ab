/- Plain mathematics of layer 15: frames. -/
import Derived.Test.YtocnfibpkpplgaaPC
namespace Go.Proofs.Ytocnfibpkpplgaa
set_option linter.unusedVariables false
namespace Fr
/-- a frame -/
def put (b : List Nat) : List Nat := Um.put b.length ++ b
/-- the body with which bytes begin, the frame's size, the error -/
def next (l : List Nat) (most : Int) : List Nat × Nat × Nat :=
  if (Um.get l).2.2 = 0 then
    if most < ((Um.get l).1 : Int) then ([], 0, 5)
    else if l.length - (Um.get l).2.1 < (Um.get l).1 then ([], 0, 2)
    else ((l.drop (Um.get l).2.1).take (Um.get l).1, (Um.get l).2.1 + (Um.get l).1, 0)
  else ([], 0, (Um.get l).2.2)
theorem next_err {l : List Nat} {most : Int} (h : ¬ (Um.get l).2.2 = 0) : next l most = ([], 0, (Um.get l).2.2) := by unfold next; rw [if_neg h]
theorem next_long {l : List Nat} {most : Int} (h : (Um.get l).2.2 = 0) (k : most < ((Um.get l).1 : Int)) : next l most = ([], 0, 5) := by unfold next; rw [if_pos h, if_pos k]
theorem next_short {l : List Nat} {most : Int} (h : (Um.get l).2.2 = 0) (k : ¬ most < ((Um.get l).1 : Int)) (s : l.length - (Um.get l).2.1 < (Um.get l).1) : next l most = ([], 0, 2) := by
  unfold next; rw [if_pos h, if_neg k, if_pos s]
theorem next_good {l : List Nat} {most : Int} (h : (Um.get l).2.2 = 0) (k : ¬ most < ((Um.get l).1 : Int)) (s : ¬ l.length - (Um.get l).2.1 < (Um.get l).1) :
    next l most = ((l.drop (Um.get l).2.1).take (Um.get l).1, (Um.get l).2.1 + (Um.get l).1, 0) := by
  unfold next; rw [if_pos h, if_neg k, if_neg s]
/-- what is read lies within the bytes -/
theorem next_in {l : List Nat} {most : Int} (h : (next l most).2.2 = 0) : 0 < (next l most).2.1 ∧ (next l most).2.1 ≤ l.length ∧ (next l most).1.length ≤ (next l most).2.1 := by
  by_cases e : (Um.get l).2.2 = 0
  · by_cases k : most < ((Um.get l).1 : Int)
    · rw [next_long e k] at h; cases h
    · by_cases s : l.length - (Um.get l).2.1 < (Um.get l).1
      · rw [next_short e k s] at h; cases h
      · have h1 := Um.get_pos e
        have h2 := Um.get_used l
        rw [next_good e k s]
        simp only [List.length_take, List.length_drop]
        omega
  · rw [next_err e] at h
    exact absurd h e
theorem next_err2 {l : List Nat} {most : Int} : (next l most).2.2 = 0 ∨ (next l most).2.2 = 2 ∨ (next l most).2.2 = 3 ∨ (next l most).2.2 = 5 := by
  by_cases e : (Um.get l).2.2 = 0
  · by_cases k : most < ((Um.get l).1 : Int)
    · rw [next_long e k]; simp
    · by_cases s : l.length - (Um.get l).2.1 < (Um.get l).1
      · rw [next_short e k s]; simp
      · rw [next_good e k s]; simp
  · rw [next_err e]
    have := Um.get_err l
    simp only
    omega
theorem next_bad {l : List Nat} {most : Int} (h : ¬ (next l most).2.2 = 0) : next l most = ([], 0, (next l most).2.2) := by
  by_cases e : (Um.get l).2.2 = 0
  · by_cases k : most < ((Um.get l).1 : Int)
    · rw [next_long e k]
    · by_cases s : l.length - (Um.get l).2.1 < (Um.get l).1
      · rw [next_short e k s]
      · rw [next_good e k s] at h
        exact absurd rfl h
  · rw [next_err e]
theorem next_byte {l : List Nat} {most : Int} (hb : ∀ x ∈ l, x < 256) : ∀ x ∈ (next l most).1, x < 256 := by
  intro x hx
  by_cases e : (Um.get l).2.2 = 0
  · by_cases k : most < ((Um.get l).1 : Int)
    · rw [next_long e k] at hx; cases hx
    · by_cases s : l.length - (Um.get l).2.1 < (Um.get l).1
      · rw [next_short e k s] at hx; cases hx
      · rw [next_good e k s] at hx
        exact hb x (List.mem_of_mem_drop (List.mem_of_mem_take hx))
  · rw [next_err e] at hx; cases hx
/-- all frames: the bodies, the bytes, the error -/
def all : Nat → List Nat → Int → Nat → List (List Nat) → List (List Nat) × Nat × Nat
  | 0, _, _, k, acc => (acc, k, 0)
  | f + 1, l, most, k, acc => if l.length = 0 then (acc, k, 0) else if (next l most).2.2 = 0 then all f (l.drop (next l most).2.1) most (k + (next l most).2.1) (acc ++ [(next l most).1]) else (acc, k, (next l most).2.2)
theorem all_end (f : Nat) {l : List Nat} (most : Int) (k : Nat) (acc : List (List Nat)) (h : l.length = 0) : all f l most k acc = (acc, k, 0) := by
  cases f with
  | zero => rfl
  | succ f => rw [all, if_pos h]
theorem all_bad (f : Nat) {l : List Nat} {most : Int} (k : Nat) (acc : List (List Nat)) (h : 0 < l.length) (hf : l.length ≤ f) (he : ¬ (next l most).2.2 = 0) : all f l most k acc = (acc, k, (next l most).2.2) := by
  cases f with
  | zero => omega
  | succ f => rw [all, if_neg (by omega), if_neg he]
theorem all_good (f : Nat) {l : List Nat} {most : Int} (k : Nat) (acc : List (List Nat)) (h : 0 < l.length) (hf : l.length ≤ f + 1) (he : (next l most).2.2 = 0) :
    all (f + 1) l most k acc = all f (l.drop (next l most).2.1) most (k + (next l most).2.1) (acc ++ [(next l most).1]) ∧ (l.drop (next l most).2.1).length ≤ f := by
  refine ⟨by rw [all, if_neg (by omega), if_pos he], ?_⟩
  have := next_in he
  rw [List.length_drop]
  omega
/-- frames one behind the other -/
def flat (ls : List (List Nat)) : List Nat := (ls.map put).flatten
theorem flat_cons (b : List Nat) (ls : List (List Nat)) : flat (b :: ls) = put b ++ flat ls := rfl
theorem flat_snoc (ls : List (List Nat)) (b : List Nat) : flat (ls ++ [b]) = flat ls ++ put b := by simp [flat]
theorem put_pos (b : List Nat) : 0 < (put b).length := by
  unfold put
  have := Um.enc_pos 9 b.length
  rw [List.length_append]
  show 0 < (Um.enc 9 b.length).length + _
  omega
theorem put_le (b : List Nat) : (put b).length ≤ b.length + 10 := by
  unfold put
  have := Um.enc_le 9 b.length
  rw [List.length_append]
  show (Um.enc 9 b.length).length + _ ≤ _
  omega
theorem next_put (b r : List Nat) {most : Int} (h : (b.length : Int) ≤ most) (h64 : b.length < 18446744073709551616) : next (put b ++ r) most = (b, (put b).length, 0) := by
  have e : put b ++ r = Um.put b.length ++ (b ++ r) := by unfold put; rw [List.append_assoc]
  have hg := Um.get_put b.length (b ++ r) h64
  have hl : (put b).length = (Um.put b.length).length + b.length := by unfold put; rw [List.length_append]
  rw [e, next_good (by rw [hg]) (by rw [hg]; simp only; omega) (by rw [hg]; simp only [List.length_append]; omega), hg]
  simp only [List.drop_left, List.take_left, hl]
def Okl (most : Int) (ls : List (List Nat)) : Prop := ∀ b ∈ ls, (b.length : Int) ≤ most ∧ b.length < 18446744073709551616
theorem Okl.tail {most : Int} {b : List Nat} {ls : List (List Nat)} (h : Okl most (b :: ls)) : Okl most ls := fun x hx => h x (List.mem_cons_of_mem _ hx)
theorem all_flat (most : Int) : ∀ (ls : List (List Nat)) (f k : Nat) (acc : List (List Nat)), Okl most ls → (flat ls).length ≤ f → all f (flat ls) most k acc = (acc ++ ls, k + (flat ls).length, 0)
  | [], f, k, acc, _, _ => by rw [all_end f most k acc (by rfl)]; simp [flat]
  | b :: ls, f, k, acc, ok, hf => by
    rw [flat_cons] at hf ⊢
    have h0 := put_pos b
    rw [List.length_append] at hf
    obtain ⟨g, rfl⟩ : ∃ g, f = g + 1 := ⟨f - 1, by omega⟩
    have hn := next_put b (flat ls) (ok b List.mem_cons_self).1 (ok b List.mem_cons_self).2
    obtain ⟨e1, _⟩ := all_good g (l := put b ++ flat ls) (most := most) k acc (by rw [List.length_append]; omega) (by rw [List.length_append]; omega) (by rw [hn])
    rw [e1, hn]
    simp only [List.drop_left]
    rw [all_flat most ls g _ _ ok.tail (by omega)]
    simp only [List.append_assoc, List.singleton_append, List.length_append, Nat.add_assoc]
theorem lead_cut (n c : Nat) (hn : n < 18446744073709551616) (hc : c < (Um.put n).length) : Um.lead ((Um.put n).take c) = c := by
  have hlen : ((Um.put n).take c).length = c := by rw [List.length_take]; omega
  have hlead : Um.lead (Um.put n) = (Um.put n).length - 1 := by
    have := Um.lead_put 9 n [] (Um.fits9 hn)
    rw [List.append_nil] at this
    exact this
  have step : ∀ i, i ≤ c → i ≤ Um.lead ((Um.put n).take c) := by
    intro i
    induction i with
    | zero => intro _; omega
    | succ i ih =>
      intro hi
      refine Um.lead_of_high _ i (ih (by omega)) (by omega) ?_
      have := Um.lead_high (Um.put n) i (by omega)
      rw [List.getD, List.getElem?_take_of_lt (by omega)]
      exact this
  have h1 := step c (Nat.le_refl _)
  have h2 := Um.lead_le ((Um.put n).take c)
  omega
theorem get_cut (n c : Nat) (hn : n < 18446744073709551616) (hc : c < (Um.put n).length) : Um.get ((Um.put n).take c) = (0, 0, 2) := by
  have hle : (Um.put n).length ≤ 10 := Um.enc_le 9 n
  have h := lead_cut n c hn hc
  exact Um.get_short (by omega) (by rw [h, List.length_take]; omega)
theorem next_cut (b : List Nat) (c : Nat) {most : Int} (h : (b.length : Int) ≤ most) (h64 : b.length < 18446744073709551616) (hc : c < (put b).length) : next ((put b).take c) most = ([], 0, 2) := by
  have hl : (put b).length = (Um.put b.length).length + b.length := by unfold put; rw [List.length_append]
  by_cases hs : c < (Um.put b.length).length
  · have e : (put b).take c = (Um.put b.length).take c := by unfold put; rw [List.take_append_of_le_length (by omega)]
    have hg := get_cut b.length c h64 hs
    rw [e, next_err (by rw [hg]; simp), hg]
  · have e : (put b).take c = Um.put b.length ++ b.take (c - (Um.put b.length).length) := by
      unfold put
      rw [List.take_append, List.take_of_length_le (by omega)]
    have hg := Um.get_put b.length (b.take (c - (Um.put b.length).length)) h64
    rw [e, next_short (by rw [hg]) (by rw [hg]; simp only; omega) (by rw [hg]; simp only [List.length_append, List.length_take]; omega)]
theorem all_cut (most : Int) : ∀ (ls : List (List Nat)) (f k : Nat) (acc : List (List Nat)) (c : Nat), Okl most ls → c ≤ (flat ls).length → c ≤ f →
    ∃ m p, m ≤ ls.length ∧ p ≤ c ∧ all f ((flat ls).take c) most k acc = (acc ++ ls.take m, k + p, if p = c then 0 else 2)
  | [], f, k, acc, c, _, hc, _ => by
    have h0 : c = 0 := by simpa [flat] using hc
    subst h0
    exact ⟨0, 0, Nat.le_refl _, Nat.le_refl _, by rw [all_end f most k acc (by simp)]; simp⟩
  | b :: ls, f, k, acc, c, ok, hc, hf => by
    rw [flat_cons] at hc ⊢
    rw [List.length_append] at hc
    have hb := ok b List.mem_cons_self
    rcases Nat.eq_zero_or_pos c with h0 | h0
    · subst h0
      exact ⟨0, 0, Nat.zero_le _, Nat.le_refl _, by rw [all_end f most k acc (by simp)]; simp⟩
    obtain ⟨g, rfl⟩ : ∃ g, f = g + 1 := ⟨f - 1, by omega⟩
    by_cases hs : c < (put b).length
    · have e : (put b ++ flat ls).take c = (put b).take c := List.take_append_of_le_length (by omega)
      have hlen : ((put b).take c).length = c := by rw [List.length_take]; omega
      have hn := next_cut b c hb.1 hb.2 hs
      refine ⟨0, 0, Nat.zero_le _, Nat.zero_le _, ?_⟩
      rw [e, all_bad (g + 1) k acc (by omega) (by omega) (by rw [hn]; simp), hn, if_neg (by omega)]
      simp
    · have e : (put b ++ flat ls).take c = put b ++ (flat ls).take (c - (put b).length) := by rw [List.take_append, List.take_of_length_le (by omega)]
      have hn := next_put b ((flat ls).take (c - (put b).length)) hb.1 hb.2
      have hp := put_pos b
      obtain ⟨e1, _⟩ := all_good g (l := put b ++ (flat ls).take (c - (put b).length)) (most := most) k acc (by rw [List.length_append]; omega) (by rw [List.length_append, List.length_take]; omega) (by rw [hn])
      obtain ⟨m, p, hm, hpc, h⟩ := all_cut most ls g (k + (put b).length) (acc ++ [b]) (c - (put b).length) ok.tail (by omega) (by omega)
      refine ⟨m + 1, (put b).length + p, by simpa using hm, by omega, ?_⟩
      rw [e, e1, hn]
      simp only [List.drop_left]
      rw [h]
      simp only [List.take_succ_cons, List.append_assoc, List.singleton_append, Nat.add_assoc]
      congr 2
      by_cases hq : p = c - (put b).length
      · rw [if_pos hq, if_pos (by omega)]
      · rw [if_neg hq, if_neg (by omega)]
/-- what is read: few bodies, of few bytes -/
theorem all_few (most : Int) : ∀ (f : Nat) (l : List Nat) (k : Nat) (acc : List (List Nat)), (all f l most k acc).1.length ≤ f + acc.length ∧ (all f l most k acc).2.1 ≤ k + l.length
  | 0, l, k, acc => by rw [all]; exact ⟨by simp, by simp⟩
  | f + 1, l, k, acc => by
    by_cases h : l.length = 0
    · rw [all_end _ _ _ _ h]; exact ⟨by simp only; omega, by simp only; omega⟩
    · rw [all, if_neg h]
      by_cases he : (next l most).2.2 = 0
      · rw [if_pos he]
        have h1 := all_few most f (l.drop (next l most).2.1) (k + (next l most).2.1) (acc ++ [(next l most).1])
        have h2 := next_in he
        simp only [List.length_append, List.length_singleton, List.length_drop] at h1
        omega
      · rw [if_neg he]; exact ⟨by simp only; omega, by simp only; omega⟩
end Fr
end Go.Proofs.Ytocnfibpkpplgaa
