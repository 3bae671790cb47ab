/- Plain mathematics of a stable sort in place: insertion, rotation, merging by symmetry. -/
namespace Go.Proofs.Ytjkpkailcemjhaa
namespace Sm
set_option linter.unusedVariables false

/-! ### what is done within a range -/

/-- two places exchanged -/
def swap (l : List Nat) (i j : Nat) : List Nat := (l.set i (l.getD j 0)).set j (l.getD i 0)
theorem swap_length (l : List Nat) (i j : Nat) : (swap l i j).length = l.length := by simp [swap]
theorem getD_set (l : List Nat) (i p x : Nat) (hi : i < l.length) : (l.set i x).getD p 0 = if p = i then x else l.getD p 0 := by
  simp only [List.getD, List.getElem?_set]
  by_cases h : i = p
  · subst h; simp [hi]
  · rw [if_neg h, if_neg (by omega)]
theorem swap_at (l : List Nat) (i j p : Nat) (hi : i < l.length) (hj : j < l.length) : (swap l i j).getD p 0 = if p = j then l.getD i 0 else if p = i then l.getD j 0 else l.getD p 0 := by
  unfold swap
  rw [getD_set _ _ _ _ (by simpa using hj), getD_set _ _ _ _ hi]
theorem swap_perm (l : List Nat) (i j : Nat) (hi : i < l.length) (hj : j < l.length) : (swap l i j).Perm l := by
  unfold swap
  have e1 : l.getD i 0 = l[i] := by simp [List.getD, List.getElem?_eq_getElem hi]
  have e2 : l.getD j 0 = l[j] := by simp [List.getD, List.getElem?_eq_getElem hj]
  rw [e1, e2]
  exact List.set_set_perm hi hj

/-- l' is l, shuffled from a to b -/
structure Shuf (a b : Nat) (l l' : List Nat) : Prop where
  len : l'.length = l.length
  perm : l'.Perm l
  out : ∀ i, i < a ∨ b ≤ i → l'.getD i 0 = l.getD i 0
  mem : ∀ i, a ≤ i → i < b → ∃ j, a ≤ j ∧ j < b ∧ l'.getD i 0 = l.getD j 0
section
variable {a b c d : Nat} {l l' l'' : List Nat}
theorem Shuf.refl (a b : Nat) (l : List Nat) : Shuf a b l l := ⟨rfl, List.Perm.refl _, fun _ _ => rfl, fun i h1 h2 => ⟨i, h1, h2, rfl⟩⟩
theorem Shuf.trans (h : Shuf a b l l') (k : Shuf a b l' l'') : Shuf a b l l'' := by
  refine ⟨k.len.trans h.len, k.perm.trans h.perm, fun i hi => (k.out i hi).trans (h.out i hi), fun i h1 h2 => ?_⟩
  obtain ⟨j, j1, j2, e⟩ := k.mem i h1 h2
  obtain ⟨q, q1, q2, e'⟩ := h.mem j j1 j2
  exact ⟨q, q1, q2, e.trans e'⟩
theorem Shuf.mono (h : Shuf a b l l') (ha : c ≤ a) (hb : b ≤ d) : Shuf c d l l' := by
  refine ⟨h.len, h.perm, fun i hi => h.out i (by omega), fun i h1 h2 => ?_⟩
  by_cases hi : a ≤ i ∧ i < b
  · obtain ⟨j, j1, j2, e⟩ := h.mem i hi.1 hi.2
    exact ⟨j, by omega, by omega, e⟩
  · exact ⟨i, h1, h2, h.out i (by omega)⟩
theorem Shuf.swap (l : List Nat) {i j : Nat} (h1 : a ≤ i) (h2 : i < b) (h3 : a ≤ j) (h4 : j < b) (hb : b ≤ l.length) : Shuf a b l (Sm.swap l i j) := by
  refine ⟨swap_length _ _ _, swap_perm l i j (by omega) (by omega), fun p hp => ?_, fun p p1 p2 => ?_⟩
  · rw [swap_at l i j p (by omega) (by omega), if_neg (by omega), if_neg (by omega)]
  · rw [swap_at l i j p (by omega) (by omega)]
    by_cases e1 : p = j
    · rw [if_pos e1]; exact ⟨i, h1, h2, rfl⟩
    · rw [if_neg e1]
      by_cases e2 : p = i
      · rw [if_pos e2]; exact ⟨j, h3, h4, rfl⟩
      · rw [if_neg e2]; exact ⟨p, p1, p2, rfl⟩
theorem Shuf.small (h : Shuf a b l l') {M : Nat} (hl : ∀ x ∈ l, x < M) : ∀ x ∈ l', x < M := fun x hx => hl x (h.perm.mem_iff.1 hx)
end

/-- from a to b the keys rise -/
def Asc (k : Nat → Nat) (a b : Nat) (l : List Nat) : Prop := ∀ i j, a ≤ i → i < j → j < b → k (l.getD i 0) ≤ k (l.getD j 0)
section
variable {k : Nat → Nat} {a b c d : Nat} {l l' l'' : List Nat}
theorem Asc.apart (h : Asc k a b l) (hs : Shuf c d l l') (hd : b ≤ c ∨ d ≤ a) : Asc k a b l' := by
  intro i j h1 h2 h3
  rw [hs.out i (by omega), hs.out j (by omega)]
  exact h i j h1 h2 h3
theorem Asc.part (h : Asc k a b l) (ha : a ≤ c) (hb : d ≤ b) : Asc k c d l := fun i j h1 h2 h3 => h i j (by omega) h2 (by omega)
theorem Asc.tiny (h : b ≤ a + 1) : Asc k a b l := fun i j h1 h2 h3 => by omega
theorem Asc.le (h : Asc k a b l) {i j : Nat} (h1 : a ≤ i) (h2 : i ≤ j) (h3 : j < b) : k (l.getD i 0) ≤ k (l.getD j 0) := by
  rcases Nat.lt_or_ge i j with h4 | h4
  · exact h i j h1 h4 h3
  · rw [show i = j by omega]; exact Nat.le_refl _
/-- every key from a to m is at most every key from m to b -/
def Cross (k : Nat → Nat) (a m b : Nat) (l : List Nat) : Prop := ∀ i j, a ≤ i → i < m → m ≤ j → j < b → k (l.getD i 0) ≤ k (l.getD j 0)
theorem Cross.left {m : Nat} (h : Cross k a m b l) (hs : Shuf a m l l') : Cross k a m b l' := by
  intro i j h1 h2 h3 h4
  obtain ⟨q, q1, q2, e⟩ := hs.mem i h1 h2
  rw [e, hs.out j (by omega)]
  exact h q j q1 q2 h3 h4
theorem Cross.right {m : Nat} (h : Cross k a m b l) (hs : Shuf m b l l') : Cross k a m b l' := by
  intro i j h1 h2 h3 h4
  obtain ⟨q, q1, q2, e⟩ := hs.mem j h3 h4
  rw [e, hs.out i (by omega)]
  exact h i q h1 h2 q1 q2
theorem Asc.join {m : Nat} (h1 : Asc k a m l) (h2 : Asc k m b l) (h : Cross k a m b l) : Asc k a b l := by
  intro i j p q r
  by_cases c1 : j < m
  · exact h1 i j p q c1
  · by_cases c2 : i < m
    · exact h i j p c2 (by omega) r
    · exact h2 i j (by omega) q r
end

/-! ### insertion -/

/-- from a to i the keys rise, but for place j, which may lie farther down -/
structure Ins (k : Nat → Nat) (a i j : Nat) (l : List Nat) : Prop where
  lo : a ≤ j
  hi : j ≤ i
  rest : ∀ p q, a ≤ p → p < q → q ≤ i → p ≠ j → q ≠ j → k (l.getD p 0) ≤ k (l.getD q 0)
  up : ∀ q, j < q → q ≤ i → k (l.getD j 0) ≤ k (l.getD q 0)
section
variable {k : Nat → Nat} {a b i j : Nat} {l l' : List Nat}
theorem Ins.start (h : Asc k a i l) (ha : a ≤ i) : Ins k a i i l :=
  ⟨ha, Nat.le_refl _, fun p q h1 h2 h3 h4 h5 => h p q h1 h2 (by omega), fun q h1 h2 => by omega⟩
theorem Ins.done (h : Ins k a i j l) (hd : j = a ∨ k (l.getD (j - 1) 0) ≤ k (l.getD j 0)) : Asc k a (i + 1) l := by
  intro p q h1 h2 h3
  by_cases e1 : p = j
  · subst e1; exact h.up q h2 (by omega)
  · by_cases e2 : q = j
    · subst e2
      rcases hd with hd | hd
      · omega
      · by_cases e3 : p = q - 1
        · subst e3; exact hd
        · have := h.rest p (q - 1) h1 (by omega) (by have := h.hi; omega) e1 (by omega)
          omega
    · exact h.rest p q h1 h2 (by omega) e1 e2
theorem Ins.step (h : Ins k a i j l) (hj : a < j) (hi : i < l.length) (hlt : k (l.getD j 0) < k (l.getD (j - 1) 0)) : Ins k a i (j - 1) (swap l j (j - 1)) := by
  have hh := h.hi
  have sw := fun p => swap_at l j (j - 1) p (by omega) (by omega)
  refine ⟨by omega, by omega, fun p q h1 h2 h3 h4 h5 => ?_, fun q h1 h2 => ?_⟩
  · rw [sw p, sw q, if_neg h4, if_neg h5]
    by_cases e1 : p = j
    · rw [if_pos e1, if_neg (by omega)]; exact h.rest (j - 1) q (by omega) (by omega) h3 (by omega) (by omega)
    · rw [if_neg e1]
      by_cases e2 : q = j
      · rw [if_pos e2]; exact h.rest p (j - 1) h1 (by omega) (by omega) e1 (by omega)
      · rw [if_neg e2]; exact h.rest p q h1 h2 h3 e1 e2
  · rw [sw (j - 1), sw q, if_pos rfl, if_neg (by omega)]
    by_cases e1 : q = j
    · rw [if_pos e1]; omega
    · rw [if_neg e1]; exact h.up q (by omega) h2
end

/-! ### ranges exchanged, and rotation -/

/-- the n places from a on and those from b on are exchanged -/
structure Swapped (a b n : Nat) (l l' : List Nat) : Prop where
  len : l'.length = l.length
  fst : ∀ p, a ≤ p → p < a + n → l'.getD p 0 = l.getD (p - a + b) 0
  snd : ∀ p, b ≤ p → p < b + n → l'.getD p 0 = l.getD (p - b + a) 0
  out : ∀ p, ¬ (a ≤ p ∧ p < a + n) → ¬ (b ≤ p ∧ p < b + n) → l'.getD p 0 = l.getD p 0
theorem Swapped.start (a b : Nat) (l : List Nat) : Swapped a b 0 l l := ⟨rfl, fun p h1 h2 => by omega, fun p h1 h2 => by omega, fun _ _ _ => rfl⟩
theorem Swapped.next {a b n : Nat} {l l' : List Nat} (h : Swapped a b n l l') (hd : a + (n + 1) ≤ b) (hl : b + n < l.length) : Swapped a b (n + 1) l (swap l' (a + n) (b + n)) := by
  have hlen := h.len
  have sw := fun p => swap_at l' (a + n) (b + n) p (by omega) (by omega)
  refine ⟨by rw [swap_length]; exact hlen, fun p h1 h2 => ?_, fun p h1 h2 => ?_, fun p h1 h2 => ?_⟩
  · rw [sw p, if_neg (by omega)]
    by_cases e : p = a + n
    · rw [if_pos e, h.out (b + n) (by omega) (by omega)]; congr 1; omega
    · rw [if_neg e]; exact h.fst p h1 (by omega)
  · rw [sw p]
    by_cases e : p = b + n
    · rw [if_pos e, h.out (a + n) (by omega) (by omega)]; congr 1; omega
    · rw [if_neg e, if_neg (by omega)]; exact h.snd p h1 (by omega)
  · rw [sw p, if_neg (by omega), if_neg (by omega)]; exact h.out p (by omega) (by omega)

/-- what stands from a to m and what stands from m to b are exchanged -/
structure Rot (a m b : Nat) (l l' : List Nat) : Prop where
  len : l'.length = l.length
  low : ∀ p, a ≤ p → p < a + (b - m) → l'.getD p 0 = l.getD (p + (m - a)) 0
  high : ∀ p, a + (b - m) ≤ p → p < b → l'.getD p 0 = l.getD (p - (b - m)) 0
  out : ∀ p, p < a ∨ b ≤ p → l'.getD p 0 = l.getD p 0
theorem Rot.last {m i : Nat} {l l' : List Nat} (h : Swapped (m - i) m i l l') (hi : i ≤ m) : Rot (m - i) m (m + i) l l' := by
  refine ⟨h.len, fun p h1 h2 => ?_, fun p h1 h2 => ?_, fun p hp => h.out p (by omega) (by omega)⟩
  · rw [h.fst p h1 (by omega)]; congr 1; omega
  · rw [h.snd p (by omega) (by omega)]; congr 1; omega
theorem Rot.more {m i j : Nat} {l l1 l' : List Nat} (hs : Swapped (m - i) m j l l1) (hj : j < i) (hi : i ≤ m) (h : Rot (m - (i - j)) m (m + j) l1 l') : Rot (m - i) m (m + j) l l' := by
  refine ⟨h.len.trans hs.len, fun p h1 h2 => ?_, fun p h1 h2 => ?_, fun p hp => ?_⟩
  · rw [h.out p (by omega), hs.fst p h1 (by omega)]; congr 1; omega
  · by_cases e : p < m - (i - j) + (m + j - m)
    · rw [h.low p (by omega) e, hs.snd _ (by omega) (by omega)]; congr 1; omega
    · rw [h.high p (by omega) h2, hs.out _ (by omega) (by omega)]
  · rw [h.out p (by omega), hs.out p (by omega) (by omega)]
theorem Rot.less {m i j : Nat} {l l1 l' : List Nat} (hs : Swapped (m - i) (m + j - i) i l l1) (hj : i < j) (hi : i ≤ m) (h : Rot (m - i) m (m + (j - i)) l1 l') : Rot (m - i) m (m + j) l l' := by
  refine ⟨h.len.trans hs.len, fun p h1 h2 => ?_, fun p h1 h2 => ?_, fun p hp => ?_⟩
  · by_cases e : p < m - i + (m + (j - i) - m)
    · rw [h.low p h1 e]
      by_cases e2 : p + (m - (m - i)) < m + j - i
      · rw [hs.out _ (by omega) (by omega)]
      · omega
    · rw [h.high p (by omega) (by omega), hs.fst _ (by omega) (by omega)]; congr 1; omega
  · rw [h.out p (by omega), hs.snd p (by omega) (by omega)]; congr 1; omega
  · rw [h.out p (by omega), hs.out p (by omega) (by omega)]
theorem Rot.none {s m e : Nat} (l : List Nat) (h : s = m ∨ m = e) : Rot s m e l l := by
  refine ⟨rfl, fun p h1 h2 => ?_, fun p h1 h2 => ?_, fun _ _ => rfl⟩
  · congr 1; omega
  · congr 1; omega

/-! ### searching -/

/-- from lo to i all have P, from j to hi none has -/
structure Cut (P : Nat → Prop) (lo hi i j : Nat) : Prop where
  h1 : lo ≤ i
  h2 : i ≤ j
  h3 : j ≤ hi
  yes : ∀ p, lo ≤ p → p < i → P p
  no : ∀ p, j ≤ p → p < hi → ¬ P p
def Falls (P : Nat → Prop) (lo hi : Nat) : Prop := ∀ p q, lo ≤ p → p ≤ q → q < hi → P q → P p
section
variable {P : Nat → Prop} {lo hi i j c : Nat}
theorem Cut.start (P : Nat → Prop) (h : lo ≤ hi) : Cut P lo hi lo hi := ⟨Nat.le_refl _, h, Nat.le_refl _, fun p h1 h2 => by omega, fun p h1 h2 => by omega⟩
theorem Cut.right (h : Cut P lo hi i j) (hf : Falls P lo hi) (h1 : i ≤ c) (h2 : c < j) (hc : P c) : Cut P lo hi (c + 1) j :=
  ⟨by have := h.h1; omega, h2, h.h3, fun p p1 p2 => hf p c p1 (by omega) (by have := h.h3; omega) hc, h.no⟩
theorem Cut.left (h : Cut P lo hi i j) (hf : Falls P lo hi) (h1 : i ≤ c) (h2 : c < j) (hc : ¬ P c) : Cut P lo hi i c :=
  ⟨h.h1, h1, by have := h.h3; omega, h.yes, fun p p1 p2 hp => hc (hf c p (by have := h.h1; omega) p1 p2 hp)⟩
end
section
variable {k : Nat → Nat} {a m b : Nat} {l l' : List Nat}
theorem falls1 (h : Asc k m b l) : Falls (fun p => k (l.getD p 0) < k (l.getD a 0)) m b := fun p q h1 h2 h3 hq => by
  have := h.le h1 h2 h3; omega
theorem falls2 (h : Asc k a m l) : Falls (fun p => ¬ k (l.getD m 0) < k (l.getD p 0)) a m := fun p q h1 h2 h3 hq => by
  have := h.le h1 h2 h3; omega

/-! ### one that is carried to its place -/

/-- what stood at a stands at q, those between one place down -/
structure MovR (a q : Nat) (l l' : List Nat) : Prop where
  at_ : l'.getD q 0 = l.getD a 0
  low : ∀ p, a ≤ p → p < q → l'.getD p 0 = l.getD (p + 1) 0
  out : ∀ p, p < a ∨ q < p → l'.getD p 0 = l.getD p 0
theorem MovR.start (a : Nat) (l : List Nat) : MovR a a l l := ⟨rfl, fun p h1 h2 => by omega, fun _ _ => rfl⟩
theorem MovR.next {q : Nat} (h : MovR a q l l') (ha : a ≤ q) (hq : q + 1 < l'.length) : MovR a (q + 1) l (swap l' q (q + 1)) := by
  have sw := fun p => swap_at l' q (q + 1) p (by omega) hq
  refine ⟨by rw [sw, if_pos rfl]; exact h.at_, fun p h1 h2 => ?_, fun p hp => ?_⟩
  · rw [sw, if_neg (by omega)]
    by_cases e : p = q
    · rw [if_pos e, h.out (q + 1) (by omega), e]
    · rw [if_neg e]; exact h.low p h1 (by omega)
  · rw [sw, if_neg (by omega), if_neg (by omega)]; exact h.out p (by omega)
/-- what stood at m stands at q, those between one place up -/
structure MovL (m q : Nat) (l l' : List Nat) : Prop where
  at_ : l'.getD q 0 = l.getD m 0
  high : ∀ p, q < p → p ≤ m → l'.getD p 0 = l.getD (p - 1) 0
  out : ∀ p, p < q ∨ m < p → l'.getD p 0 = l.getD p 0
theorem MovL.start (m : Nat) (l : List Nat) : MovL m m l l := ⟨rfl, fun p h1 h2 => by omega, fun _ _ => rfl⟩
theorem MovL.next {q : Nat} (h : MovL m q l l') (h0 : 0 < q) (hm : q ≤ m) (hq : q < l'.length) : MovL m (q - 1) l (swap l' q (q - 1)) := by
  have sw := fun p => swap_at l' q (q - 1) p hq (by omega)
  refine ⟨by rw [sw, if_pos rfl]; exact h.at_, fun p h1 h2 => ?_, fun p hp => ?_⟩
  · rw [sw, if_neg (by omega)]
    by_cases e : p = q
    · rw [if_pos e, h.out (q - 1) (by omega), e]
    · rw [if_neg e]; exact h.high p (by omega) h2
  · rw [sw, if_neg (by omega), if_neg (by omega)]; exact h.out p (by omega)

theorem merge1 {i : Nat} (hm : m = a + 1) (h : Asc k m b l) (hc : Cut (fun p => k (l.getD p 0) < k (l.getD a 0)) m b i i) (hv : MovR a (i - 1) l l') : Asc k a b l' := by
  have c1 := hc.h1
  have c3 := hc.h3
  have left : ∀ p, a ≤ p → p < i - 1 → l'.getD p 0 = l.getD (p + 1) 0 ∧ k (l.getD (p + 1) 0) < k (l.getD a 0) := fun p h1 h2 => ⟨hv.low p h1 h2, hc.yes (p + 1) (by omega) (by omega)⟩
  have right : ∀ p, i - 1 < p → p < b → l'.getD p 0 = l.getD p 0 ∧ k (l.getD a 0) ≤ k (l.getD p 0) := fun p h1 h2 => ⟨hv.out p (by omega), by have := hc.no p (by omega) h2; omega⟩
  intro p q h1 h2 h3
  rcases Nat.lt_trichotomy p (i - 1) with hp | hp | hp
  · obtain ⟨e1, f1⟩ := left p h1 hp
    rw [e1]
    rcases Nat.lt_trichotomy q (i - 1) with hq | hq | hq
    · rw [(left q (by omega) hq).1]; exact h.le (by omega) (by omega) (by omega)
    · rw [hq, hv.at_]; omega
    · obtain ⟨e2, f2⟩ := right q hq h3
      rw [e2]; omega
  · obtain ⟨e2, f2⟩ := right q (by omega) h3
    rw [hp, hv.at_, e2]; exact f2
  · rw [(right p hp (by omega)).1, (right q (by omega) h3).1]; exact h.le (by omega) (by omega) h3
theorem merge2 {i : Nat} (hm : b = m + 1) (h : Asc k a m l) (hc : Cut (fun p => ¬ k (l.getD m 0) < k (l.getD p 0)) a m i i) (hv : MovL m i l l') : Asc k a b l' := by
  have c1 := hc.h1
  have c3 := hc.h3
  have left : ∀ p, a ≤ p → p < i → l'.getD p 0 = l.getD p 0 ∧ k (l.getD p 0) ≤ k (l.getD m 0) := fun p h1 h2 => ⟨hv.out p (by omega), by have := hc.yes p h1 h2; omega⟩
  have right : ∀ p, i < p → p < b → l'.getD p 0 = l.getD (p - 1) 0 ∧ k (l.getD m 0) < k (l.getD (p - 1) 0) := fun p h1 h2 => ⟨hv.high p h1 (by omega), by have := hc.no (p - 1) (by omega) (by omega); omega⟩
  intro p q h1 h2 h3
  rcases Nat.lt_trichotomy p i with hp | hp | hp
  · obtain ⟨e1, f1⟩ := left p h1 hp
    rw [e1]
    rcases Nat.lt_trichotomy q i with hq | hq | hq
    · rw [(left q (by omega) hq).1]; exact h.le (by omega) (by omega) (by omega)
    · rw [hq, hv.at_]; omega
    · obtain ⟨e2, f2⟩ := right q hq h3
      rw [e2]; omega
  · obtain ⟨e2, f2⟩ := right q (by omega) h3
    rw [hp, hv.at_, e2]; omega
  · rw [(right p hp (by omega)).1, (right q (by omega) h3).1]; exact h.le (by omega) (by omega) (by omega)

/-! ### the middle -/

/-- between which places the search by symmetry goes -/
structure Mid (a m b s0 r0 : Nat) : Prop where
  am : a < m
  mb : m < b
  cases : ((a + b) / 2 < m ∧ s0 = (a + b) / 2 + m - b ∧ r0 = (a + b) / 2) ∨ (m ≤ (a + b) / 2 ∧ s0 = a ∧ r0 = m)
theorem Mid.le {s0 r0 : Nat} (h : Mid a m b s0 r0) : a ≤ s0 ∧ s0 ≤ r0 ∧ r0 ≤ m ∧ r0 ≤ (a + b) / 2 ∧ (a + b) / 2 + m - s0 ≤ b := by
  have h1 := h.am
  have h2 := h.mb
  rcases h.cases with ⟨_, _, _⟩ | ⟨_, _, _⟩ <;> omega
theorem Mid.at_ {s0 r0 c : Nat} (h : Mid a m b s0 r0) (h3 : s0 ≤ c) (h4 : c < r0) : a ≤ c ∧ c < m ∧ m ≤ (a + b) / 2 + m - 1 - c ∧ (a + b) / 2 + m - 1 - c < b := by
  have := h.le
  have := h.am
  omega
theorem falls3 {s0 r0 : Nat} (hm : Mid a m b s0 r0) (h1 : Asc k a m l) (h2 : Asc k m b l) : Falls (fun c => ¬ k (l.getD ((a + b) / 2 + m - 1 - c) 0) < k (l.getD c 0)) s0 r0 := fun p q p1 p2 p3 hq => by
  obtain ⟨u1, u2, u3, u4⟩ := hm.at_ p1 (show p < r0 by omega)
  obtain ⟨v1, v2, v3, v4⟩ := hm.at_ (show s0 ≤ q by omega) p3
  have e1 := h1.le u1 p2 v2
  have e2 := h2.le v3 (show (a + b) / 2 + m - 1 - q ≤ (a + b) / 2 + m - 1 - p by omega) u4
  omega
theorem merge3 {s0 r0 s e : Nat} (hm : Mid a m b s0 r0) (h1 : Asc k a m l) (h2 : Asc k m b l) (hc : Cut (fun c => ¬ k (l.getD ((a + b) / 2 + m - 1 - c) 0) < k (l.getD c 0)) s0 r0 s s) (he : e = (a + b) / 2 + m - s) (hr : Rot s m e l l') :
    Cross k a ((a + b) / 2) b l' ∧ Asc k a s l' ∧ Asc k s ((a + b) / 2) l' ∧ Asc k ((a + b) / 2) e l' ∧ Asc k e b l' := by
  obtain ⟨q1, q2, q3, q4, q5⟩ := hm.le
  have c1 := hc.h1
  have c3 := hc.h3
  have am := hm.am
  have mb := hm.mb
  have hmid : a < (a + b) / 2 ∧ (a + b) / 2 < b := by omega
  obtain ⟨mid, Hmid⟩ : ∃ mid, mid = (a + b) / 2 := ⟨_, rfl⟩
  have eL : ∀ p, p < s → l'.getD p 0 = l.getD p 0 := fun p hp => hr.out p (.inl hp)
  have eM : ∀ p, s ≤ p → p < mid → l'.getD p 0 = l.getD (p + (m - s)) 0 := fun p p1 p2 => hr.low p p1 (by omega)
  have eN : ∀ p, mid ≤ p → p < e → l'.getD p 0 = l.getD (p - (e - m)) 0 := fun p p1 p2 => hr.high p (by omega) p2
  have eR : ∀ p, e ≤ p → l'.getD p 0 = l.getD p 0 := fun p hp => hr.out p (.inr hp)
  have low : ∀ c q, a ≤ c → c < s → e ≤ q → q < b → k (l.getD c 0) ≤ k (l.getD q 0) := by
    intro c q u1 u2 u3 u4
    have hs : s0 < s := by rcases hm.cases with ⟨_, _, _⟩ | ⟨_, _, _⟩ <;> omega
    have h := hc.yes (s - 1) (by omega) (by omega)
    rw [show (a + b) / 2 + m - 1 - (s - 1) = e by omega] at h
    have e1 := h1.le u1 (show c ≤ s - 1 by omega) (by omega)
    have e2 := h2.le (show m ≤ e by omega) u3 u4
    omega
  have high : ∀ c q, s ≤ c → c < m → m ≤ q → q < e → k (l.getD q 0) ≤ k (l.getD c 0) := by
    intro c q u1 u2 u3 u4
    have hs : s < r0 := by rcases hm.cases with ⟨_, _, _⟩ | ⟨_, _, _⟩ <;> omega
    have h := hc.no s (by omega) hs
    rw [show (a + b) / 2 + m - 1 - s = e - 1 by omega] at h
    have e1 := h1.le (show a ≤ s by omega) u1 u2
    have e2 := h2.le u3 (show q ≤ e - 1 by omega) (by omega)
    omega
  rw [← Hmid]
  refine ⟨?_, ?_, ?_, ?_, ?_⟩
  · intro i j i1 i2 j1 j2
    by_cases ci : i < s
    · rw [eL i ci]
      by_cases cj : j < e
      · rw [eN j j1 cj]; exact h1.le i1 (by omega) (by omega)
      · rw [eR j (by omega)]; exact low i j i1 ci (by omega) j2
    · rw [eM i (by omega) i2]
      by_cases cj : j < e
      · rw [eN j j1 cj]; exact high _ _ (by omega) (by omega) (by omega) (by omega)
      · rw [eR j (by omega)]; exact h2.le (by omega) (by omega) j2
  · intro i j i1 i2 i3
    rw [eL i (by omega), eL j i3]; exact h1.le i1 (by omega) (by omega)
  · intro i j i1 i2 i3
    rw [eM i i1 (by omega), eM j (by omega) i3]; exact h2.le (by omega) (by omega) (by omega)
  · intro i j i1 i2 i3
    rw [eN i i1 (by omega), eN j (by omega) i3]; exact h1.le (by omega) (by omega) (by omega)
  · intro i j i1 i2 i3
    rw [eR i i1, eR j (by omega)]; exact h2.le (by omega) (by omega) i3
end

/-! ### runs -/

theorem dvd_same {d x y : Nat} (hx : d ∣ x) (hy : d ∣ y) (h1 : x ≤ y) (h2 : y < x + d) : x = y := by
  have h := Nat.eq_zero_of_dvd_of_lt (Nat.dvd_sub hy hx) (show y - x < d by omega)
  omega
/-- the first runs, of length s, up to a, are done -/
structure Runs (k : Nat → Nat) (s a : Nat) (l : List Nat) : Prop where
  dvd : s ∣ a
  run : ∀ x, x + s ≤ a → s ∣ x → Asc k x (x + s) l
/-- and the rest, from a to n, is in runs of length s, but the last -/
def Tail (k : Nat → Nat) (s a n : Nat) (l : List Nat) : Prop := ∀ x, a ≤ x → s ∣ x → Asc k x (min (x + s) n) l
section
variable {k : Nat → Nat} {s a n : Nat} {l l' : List Nat}
theorem Runs.start (k : Nat → Nat) (s : Nat) (l : List Nat) (hs : 0 < s) : Runs k s 0 l := ⟨Nat.dvd_zero _, fun x h1 h2 => by omega⟩
theorem Runs.next (h : Runs k s a l) (hsh : Shuf a (a + s) l l') (ha : Asc k a (a + s) l') : Runs k s (a + s) l' := by
  refine ⟨Nat.dvd_add h.dvd (Nat.dvd_refl _), fun x h1 h2 => ?_⟩
  by_cases c : x + s ≤ a
  · exact (h.run x c h2).apart hsh (.inl (by omega))
  · have e := dvd_same h2 h.dvd (by omega) (by omega)
    subst e
    exact ha
theorem Runs.keep {c d : Nat} (h : Runs k s a l) (hsh : Shuf c d l l') (hc : a ≤ c) : Runs k s a l' := ⟨h.dvd, fun x h1 h2 => (h.run x h1 h2).apart hsh (.inl (by omega))⟩
/-- all the runs -/
theorem Runs.tail (h : Runs k s a l) (hn : n < a + s) (ha : Asc k a n l) : Tail k s 0 n l := by
  intro x _ hx i j h1 h2 h3
  by_cases c : x + s ≤ a
  · exact h.run x c hx i j h1 h2 (by omega)
  · by_cases c2 : x ≤ a
    · have e := dvd_same hx h.dvd c2 (by omega)
      subst e
      exact ha i j h1 h2 (by omega)
    · have h5 : a + s ≤ x := by
        rcases Nat.lt_or_ge x (a + s) with h6 | h6
        · have := dvd_same h.dvd hx (by omega) h6; omega
        · exact h6
      omega
theorem Tail.keep {c d a' : Nat} (h : Tail k s a n l) (hsh : Shuf c d l l') (h1 : a ≤ a') (h2 : d ≤ a') : Tail k s a' n l' := fun x hx hd => (h x (by omega) hd).apart hsh (.inr (by omega))
theorem Tail.two (h : Tail k s a n l) (hd : s ∣ a) (hn : a + s ≤ n) : Asc k a (a + s) l ∧ Asc k (a + s) (min (a + 2 * s) n) l := by
  have h1 := h a (Nat.le_refl _) hd
  have h2 := h (a + s) (by omega) (Nat.dvd_add hd (Nat.dvd_refl _))
  rw [show min (a + s) n = a + s by omega] at h1
  rw [show a + s + s = a + 2 * s by omega] at h2
  exact ⟨h1, h2⟩
theorem Tail.all (h : Tail k s 0 n l) (hn : n ≤ s) : Asc k 0 n l := by
  have := h 0 (Nat.le_refl _) (Nat.dvd_zero _)
  rwa [show min (0 + s) n = n by omega] at this
theorem dvd_half {s a : Nat} (h : 2 * s ∣ a) : s ∣ a := Nat.dvd_trans (Nat.dvd_mul_left s 2) h
end

/-! ### there is but one list in order -/

theorem asc_sorted {k : Nat → Nat} {l : List Nat} (h : Asc k 0 l.length l) : l.Pairwise fun x y => k x ≤ k y := by
  rw [List.pairwise_iff_getElem]
  intro i j hi hj hij
  have := h i j (by omega) hij hj
  simpa [List.getD, List.getElem?_eq_getElem hi, List.getElem?_eq_getElem hj] using this
theorem sorted_unique {k : Nat → Nat} : ∀ {l l' : List Nat}, (∀ x ∈ l, ∀ y ∈ l, k x = k y → x = y) → l.Perm l' → l.Pairwise (fun x y => k x ≤ k y) → l'.Pairwise (fun x y => k x ≤ k y) → l = l'
  | [], l', _, hp, _, _ => (List.nil_perm.1 hp).symm
  | x :: l, [], _, hp, _, _ => absurd (List.perm_nil.1 hp) (by simp)
  | x :: l, y :: l', hi, hp, h1, h2 => by
    have e : x = y := by
      have hx : x ∈ y :: l' := hp.mem_iff.1 (by simp)
      have hy : y ∈ x :: l := hp.mem_iff.2 (by simp)
      rw [List.pairwise_cons] at h1 h2
      have a1 : k x ≤ k y := by
        rcases List.mem_cons.1 hy with h | h
        · rw [h]; exact Nat.le_refl _
        · exact h1.1 y h
      have a2 : k y ≤ k x := by
        rcases List.mem_cons.1 hx with h | h
        · rw [h]; exact Nat.le_refl _
        · exact h2.1 x h
      exact hi x (by simp) y hy (by omega)
    subst e
    have hp' := List.Perm.cons_inv hp
    rw [List.pairwise_cons] at h1 h2
    rw [sorted_unique (fun a ha b hb => hi a (by simp [ha]) b (by simp [hb])) hp' h1.2 h2.2]
end Sm
end Go.Proofs.Ytjkpkailcemjhaa
