/- Texts Tm, Dec, Utf, Ref4, Parts, in one. -/
import Derived.Test.YtldjdoebappkoaaGreatDoorPA
import Derived.Laws.RangeAny
import Derived.Lib.RuneCount
import Derived.Lib.OthersKept
/- Plain mathematics of texts: runes, stray bytes, words. -/
namespace Go.Proofs.YtldjdoebappkoaaGreatDoor.Tm
open Go.Proofs.YtldjdoebappkoaaGreatDoor
set_option linter.unusedVariables false

/-- how many bytes a rune has that begins with these bytes, n being there; 0: a stray byte -/
def widN (c0 c1 c2 c3 n : Nat) : Nat :=
  if c0 < 128 then 1
  else if 194 ≤ c0 ∧ c0 ≤ 223 ∧ 2 ≤ n ∧ 128 ≤ c1 ∧ c1 ≤ 191 then 2
  else if 224 ≤ c0 ∧ c0 ≤ 239 ∧ 3 ≤ n ∧ 128 ≤ c1 ∧ c1 ≤ 191 ∧ 128 ≤ c2 ∧ c2 ≤ 191 ∧ ¬ (c0 = 224 ∧ c1 < 160) ∧ ¬ (c0 = 237 ∧ 159 < c1) then 3
  else if 240 ≤ c0 ∧ c0 ≤ 244 ∧ 4 ≤ n ∧ 128 ≤ c1 ∧ c1 ≤ 191 ∧ 128 ≤ c2 ∧ c2 ≤ 191 ∧ 128 ≤ c3 ∧ c3 ≤ 191 ∧ ¬ (c0 = 240 ∧ c1 < 144) ∧ ¬ (c0 = 244 ∧ 143 < c1) then 4
  else 0
def wid (l : List Nat) : Nat := widN (l.getD 0 0) (l.getD 1 0) (l.getD 2 0) (l.getD 3 0) l.length
def step (l : List Nat) : Nat := if wid l = 0 then 1 else wid l

theorem wid_le4 (l : List Nat) : wid l ≤ 4 := by unfold wid widN; (repeat' split) <;> omega
theorem wid_le {l : List Nat} (h : l ≠ []) : wid l ≤ l.length := by
  have h1 : 0 < l.length := List.length_pos_iff.2 h
  unfold wid widN; (repeat' split) <;> omega
theorem step_pos (l : List Nat) : 1 ≤ step l := by unfold step; split <;> omega
theorem step_le {l : List Nat} (h : l ≠ []) : step l ≤ l.length := by
  have h1 : 0 < l.length := List.length_pos_iff.2 h
  have := wid_le h
  unfold step; split <;> omega

abbrev Two (c0 c1 n : Nat) : Prop := 194 ≤ c0 ∧ c0 ≤ 223 ∧ 2 ≤ n ∧ 128 ≤ c1 ∧ c1 ≤ 191
abbrev Three (c0 c1 c2 n : Nat) : Prop := 224 ≤ c0 ∧ c0 ≤ 239 ∧ 3 ≤ n ∧ 128 ≤ c1 ∧ c1 ≤ 191 ∧ 128 ≤ c2 ∧ c2 ≤ 191 ∧ ¬ (c0 = 224 ∧ c1 < 160) ∧ ¬ (c0 = 237 ∧ 159 < c1)
abbrev Four (c0 c1 c2 c3 n : Nat) : Prop := 240 ≤ c0 ∧ c0 ≤ 244 ∧ 4 ≤ n ∧ 128 ≤ c1 ∧ c1 ≤ 191 ∧ 128 ≤ c2 ∧ c2 ≤ 191 ∧ 128 ≤ c3 ∧ c3 ≤ 191 ∧ ¬ (c0 = 240 ∧ c1 < 144) ∧ ¬ (c0 = 244 ∧ 143 < c1)
section
variable {c0 c1 c2 c3 n : Nat}
theorem widN_one (h : c0 < 128) : widN c0 c1 c2 c3 n = 1 := by unfold widN; rw [if_pos h]
theorem widN_two (h : Two c0 c1 n) : widN c0 c1 c2 c3 n = 2 := by
  unfold widN
  rw [if_neg (by have := h.1; omega), if_pos h]
theorem widN_three (h : Three c0 c1 c2 n) : widN c0 c1 c2 c3 n = 3 := by
  unfold widN
  rw [if_neg (by have := h.1; omega), if_neg (fun k => by have := h.1; have := k.2.1; omega), if_pos h]
theorem widN_four (h : Four c0 c1 c2 c3 n) : widN c0 c1 c2 c3 n = 4 := by
  unfold widN
  rw [if_neg (by have := h.1; omega), if_neg (fun k => by have := h.1; have := k.2.1; omega), if_neg (fun k => by have := h.1; have := k.2.1; omega), if_pos h]
theorem widN_cases : (widN c0 c1 c2 c3 n = 1 ∧ c0 < 128) ∨ (widN c0 c1 c2 c3 n = 2 ∧ Two c0 c1 n) ∨ (widN c0 c1 c2 c3 n = 3 ∧ Three c0 c1 c2 n) ∨ (widN c0 c1 c2 c3 n = 4 ∧ Four c0 c1 c2 c3 n) ∨ (widN c0 c1 c2 c3 n = 0 ∧ ¬ c0 < 128 ∧ ¬ Two c0 c1 n ∧ ¬ Three c0 c1 c2 n ∧ ¬ Four c0 c1 c2 c3 n) := by
  by_cases h1 : c0 < 128
  · exact .inl ⟨widN_one h1, h1⟩
  by_cases h2 : Two c0 c1 n
  · exact .inr (.inl ⟨widN_two h2, h2⟩)
  by_cases h3 : Three c0 c1 c2 n
  · exact .inr (.inr (.inl ⟨widN_three h3, h3⟩))
  by_cases h4 : Four c0 c1 c2 c3 n
  · exact .inr (.inr (.inr (.inl ⟨widN_four h4, h4⟩)))
  · refine .inr (.inr (.inr (.inr ⟨?_, h1, h2, h3, h4⟩)))
    unfold widN
    rw [if_neg h1, if_neg h2, if_neg h3, if_neg h4]
end
theorem wid_cases (l : List Nat) : (wid l = 1 ∧ l.getD 0 0 < 128) ∨ (wid l = 2 ∧ Two (l.getD 0 0) (l.getD 1 0) l.length) ∨ (wid l = 3 ∧ Three (l.getD 0 0) (l.getD 1 0) (l.getD 2 0) l.length) ∨ (wid l = 4 ∧ Four (l.getD 0 0) (l.getD 1 0) (l.getD 2 0) (l.getD 3 0) l.length) ∨
    (wid l = 0 ∧ ¬ l.getD 0 0 < 128 ∧ ¬ Two (l.getD 0 0) (l.getD 1 0) l.length ∧ ¬ Three (l.getD 0 0) (l.getD 1 0) (l.getD 2 0) l.length ∧ ¬ Four (l.getD 0 0) (l.getD 1 0) (l.getD 2 0) (l.getD 3 0) l.length) := widN_cases

theorem getD_append {l m : List Nat} {i : Nat} (h : i < l.length) : (l ++ m).getD i 0 = l.getD i 0 := by
  simp [List.getD, List.getElem?_append_left h]
theorem getD_take {l : List Nat} {i k : Nat} (h : i < k) : (l.take k).getD i 0 = l.getD i 0 := by
  simp [List.getD, List.getElem?_take_of_lt h]
theorem getD_out {l : List Nat} {i : Nat} (h : l.length ≤ i) : l.getD i 0 = 0 := by
  simp [List.getD, List.getElem?_eq_none h]

/-- a rune stays one whatever follows -/
theorem wid_append {p : List Nat} (t : List Nat) (hp : p ≠ []) (h : 0 < wid p) : wid (p ++ t) = wid p := by
  have h0 : 0 < p.length := List.length_pos_iff.2 hp
  have e0 : (p ++ t).getD 0 0 = p.getD 0 0 := getD_append h0
  have en : (p ++ t).length = p.length + t.length := List.length_append
  rcases wid_cases p with ⟨e, k⟩ | ⟨e, k⟩ | ⟨e, k⟩ | ⟨e, k⟩ | ⟨e, _⟩
  · rw [e]; exact widN_one (by rw [e0]; exact k)
  · rw [e]; refine widN_two ?_
    have := k.2.2.1
    rw [e0, en, getD_append (i := 1) (by omega)]
    exact ⟨k.1, k.2.1, by omega, k.2.2.2⟩
  · rw [e]; refine widN_three ?_
    have := k.2.2.1
    rw [e0, en, getD_append (i := 1) (by omega), getD_append (i := 2) (by omega)]
    exact ⟨k.1, k.2.1, by omega, k.2.2.2⟩
  · rw [e]; refine widN_four ?_
    have := k.2.2.1
    rw [e0, en, getD_append (i := 1) (by omega), getD_append (i := 2) (by omega), getD_append (i := 3) (by omega)]
    exact ⟨k.1, k.2.1, by omega, k.2.2.2⟩
  · omega
theorem wid_take {l : List Nat} {k : Nat} (h : 0 < wid l) (hk : wid l ≤ k) : wid (l.take k) = wid l := by
  have e0 : (l.take k).getD 0 0 = l.getD 0 0 := getD_take (by omega)
  have en : (l.take k).length = min k l.length := List.length_take
  rcases wid_cases l with ⟨e, q⟩ | ⟨e, q⟩ | ⟨e, q⟩ | ⟨e, q⟩ | ⟨e, _⟩
  · rw [e]; exact widN_one (by rw [e0]; exact q)
  · rw [e]; refine widN_two ?_
    have := q.2.2.1
    rw [e0, en, getD_take (i := 1) (by omega)]
    exact ⟨q.1, q.2.1, by omega, q.2.2.2⟩
  · rw [e]; refine widN_three ?_
    have := q.2.2.1
    rw [e0, en, getD_take (i := 1) (by omega), getD_take (i := 2) (by omega)]
    exact ⟨q.1, q.2.1, by omega, q.2.2.2⟩
  · rw [e]; refine widN_four ?_
    have := q.2.2.1
    rw [e0, en, getD_take (i := 1) (by omega), getD_take (i := 2) (by omega), getD_take (i := 3) (by omega)]
    exact ⟨q.1, q.2.1, by omega, q.2.2.2⟩
  · omega
theorem wid_stray {l : List Nat} {k : Nat} (h : wid l = 0) (hk : 0 < k) (hl : l ≠ []) : wid (l.take k) = 0 := by
  have hne : l.take k ≠ [] := by
    intro e
    have h1 := congrArg List.length e
    have h2 := List.length_pos_iff.2 hl
    rw [List.length_take, List.length_nil] at h1
    omega
  rcases Nat.eq_zero_or_pos (wid (l.take k)) with h1 | h1
  · exact h1
  · have := wid_append (l.drop k) hne h1
    rw [List.take_append_drop] at this
    omega
theorem wid_piece {l : List Nat} (hl : l ≠ []) : wid (l.take (step l)) = wid l := by
  unfold step
  split
  · rename_i h
    rw [h]; exact wid_stray h (by omega) hl
  · rename_i h
    exact wid_take (by omega) (Nat.le_refl _)
theorem step_piece {l : List Nat} (hl : l ≠ []) (k : Nat) (hk : step l ≤ k) : step (l.take k) = step l := by
  have hp := step_pos l
  rcases Nat.eq_zero_or_pos (wid l) with h | h
  · have := wid_stray h (show 0 < k by omega) hl
    simp [step, h, this]
  · have e : step l = wid l := by unfold step; rw [if_neg (by omega)]
    have := wid_take h (by omega : wid l ≤ k)
    simp [step, this]

/-! ### the runes and stray bytes of a text -/

def partsN : Nat → List Nat → List (List Nat)
  | 0, _ => []
  | f + 1, l => if l = [] then [] else l.take (step l) :: partsN f (l.drop (step l))
def parts (l : List Nat) : List (List Nat) := partsN l.length l

theorem partsN_nil (f : Nat) : partsN f [] = [] := by cases f <;> simp [partsN]
theorem drop_step {l : List Nat} (h : l ≠ []) : (l.drop (step l)).length < l.length := by
  have h1 : 0 < l.length := List.length_pos_iff.2 h
  have := step_pos l
  rw [List.length_drop]; omega
theorem partsN_more : ∀ (f g : Nat) (l : List Nat), l.length ≤ f → l.length ≤ g → partsN f l = partsN g l
  | 0, g, l, h, _ => by
    have : l = [] := List.eq_nil_of_length_eq_zero (by omega)
    subst this; simp [partsN_nil]
  | f + 1, 0, l, _, h => by
    have : l = [] := List.eq_nil_of_length_eq_zero (by omega)
    subst this; simp [partsN_nil]
  | f + 1, g + 1, l, h1, h2 => by
    unfold partsN
    split
    · rfl
    · rename_i h
      have := drop_step h
      rw [partsN_more f g _ (by omega) (by omega)]
theorem parts_nil : parts [] = [] := rfl
theorem parts_step {l : List Nat} (h : l ≠ []) : parts l = l.take (step l) :: parts (l.drop (step l)) := by
  have hd := drop_step h
  unfold parts
  obtain ⟨n, hn⟩ : ∃ n, l.length = n + 1 := ⟨l.length - 1, by omega⟩
  rw [hn]
  conv => lhs; unfold partsN
  rw [if_neg h, partsN_more n _ _ (by omega) (Nat.le_refl _)]
/-- induction along the parts -/
theorem parts_ind {P : List Nat → Prop} (h0 : P []) (h1 : ∀ l, l ≠ [] → P (l.drop (step l)) → P l) : ∀ l, P l := by
  have : ∀ (n : Nat) l, l.length ≤ n → P l := by
    intro n
    induction n with
    | zero => intro l hl; rw [List.eq_nil_of_length_eq_zero (by omega : l.length = 0)]; exact h0
    | succ n ih =>
      intro l hl
      by_cases h : l = []
      · rw [h]; exact h0
      · have := drop_step h
        exact h1 l h (ih _ (by omega))
  exact fun l => this l.length l (Nat.le_refl _)
theorem parts_flatten (l : List Nat) : (parts l).flatten = l := by
  refine parts_ind (P := fun l => (parts l).flatten = l) rfl (fun l h ih => ?_) l
  rw [parts_step h, List.flatten_cons, ih, List.take_append_drop]
theorem parts_length_le (l : List Nat) : (parts l).length ≤ l.length := by
  refine parts_ind (P := fun l => (parts l).length ≤ l.length) (by simp [parts_nil]) (fun l h ih => ?_) l
  have := drop_step h
  rw [parts_step h, List.length_cons]; omega
/-- each part is a rune or a stray byte -/
theorem parts_each (l : List Nat) : ∀ p ∈ parts l, p ≠ [] ∧ p.length = step p ∧ ∀ x ∈ p, x ∈ l := by
  refine parts_ind (P := fun l => ∀ p ∈ parts l, p ≠ [] ∧ p.length = step p ∧ ∀ x ∈ p, x ∈ l) (by simp [parts_nil]) (fun l h ih p hp => ?_) l
  rw [parts_step h] at hp
  rcases List.mem_cons.1 hp with rfl | hp
  · have h1 := step_le h
    have h2 := step_pos l
    refine ⟨?_, ?_, fun x hx => List.mem_of_mem_take hx⟩
    · intro e
      have := congrArg List.length e
      rw [List.length_take, List.length_nil] at this; omega
    · rw [step_piece h _ (Nat.le_refl _), List.length_take]; omega
  · obtain ⟨a, b, c⟩ := ih p hp
    exact ⟨a, b, fun x hx => List.mem_of_mem_drop (c x hx)⟩

/-- the parts of the first n parts -/
theorem parts_take (l : List Nat) : ∀ n, parts ((parts l).take n).flatten = (parts l).take n := by
  refine parts_ind (P := fun l => ∀ n, parts ((parts l).take n).flatten = (parts l).take n) (by simp [parts_nil]) (fun l h ih n => ?_) l
  cases n with
  | zero => simp [parts_nil]
  | succ n =>
    have hs := step_le h
    have hp := step_pos l
    rw [parts_step h, List.take_succ_cons, List.flatten_cons]
    have e : ((parts (l.drop (step l))).take n).flatten = (l.drop (step l)).take ((parts (l.drop (step l))).take n).flatten.length := by
      conv => rhs; rhs; rw [← parts_flatten (l.drop (step l)), ← List.take_append_drop n (parts (l.drop (step l))), List.flatten_append]
      rw [List.take_left]
    generalize hF : ((parts (l.drop (step l))).take n).flatten = F at *
    have e2 : l.take (step l) ++ F = l.take (step l + F.length) := by
      rw [List.take_add, ← e]
    have hne : l.take (step l) ++ F ≠ [] := by
      intro e3
      have := congrArg List.length e3
      rw [List.length_append, List.length_take, List.length_nil] at this; omega
    have hst : step (l.take (step l) ++ F) = step l := by rw [e2, step_piece h _ (by omega)]
    have hlen : (l.take (step l)).length = step l := by rw [List.length_take]; omega
    rw [parts_step hne, hst, List.take_append_of_le_length (by omega), List.drop_append_of_le_length (by omega)]
    rw [List.take_of_length_le (by omega), List.drop_eq_nil_of_le (by omega), List.nil_append, ← hF, ih n]

/-! ### the answers -/

def valid (l : List Nat) : Bool := (parts l).all fun p => decide (wid p ≠ 0)
def clip (l : List Nat) (n : Int) : List Nat := ((parts l).take n.toNat).flatten
theorem valid_step {l : List Nat} (h : l ≠ []) : valid l = (decide (wid l ≠ 0) && valid (l.drop (step l))) := by
  unfold valid; rw [parts_step h, List.all_cons, wid_piece h]
theorem clip_mem {l : List Nat} {n : Int} {x : Nat} (h : x ∈ clip l n) : x ∈ l := by
  unfold clip at h
  rw [← parts_flatten l]
  obtain ⟨p, hp, hx⟩ := List.mem_flatten.1 h
  exact List.mem_flatten.2 ⟨p, List.mem_of_mem_take hp, hx⟩
theorem clip_count (l : List Nat) (n : Int) : (parts (clip l n)).length = min n.toNat (parts l).length := by
  unfold clip; rw [parts_take, List.length_take]

/-- a digit of base 16 -/
def hex (d : Nat) : Nat := if d < 10 then 48 + d else 87 + d
/-- is it left as it is? -/
def left (p : List Nat) : Bool := decide (32 < p.getD 0 0 ∧ p.getD 0 0 ≠ 127 ∧ p.getD 0 0 ≠ 37 ∧ 0 < wid p)
def word1 (p : List Nat) : List Nat := if left p = true then p else [37, hex (p.getD 0 0 / 16), hex (p.getD 0 0 % 16)]
def words (l : List Nat) : List Nat := ((parts l).map word1).flatten
def quote (l : List Nat) : List Nat := if l = [] then [37] else words l
theorem words_step {l : List Nat} (h : l ≠ []) : words l = word1 (l.take (step l)) ++ words (l.drop (step l)) := by
  unfold words; rw [parts_step h, List.map_cons, List.flatten_cons]
theorem words_nil : words [] = [] := rfl

theorem hex_facts {d : Nat} (h : d < 16) : (48 ≤ hex d ∧ hex d ≤ 57 ∧ hex d = d + 48) ∨ (97 ≤ hex d ∧ hex d ≤ 102 ∧ hex d = d + 87) := by
  unfold hex; split <;> omega
/-- the bytes of a rune that is left are no marks -/
theorem rune_bytes {p : List Nat} (hp : p.length = step p) (hl : left p = true) : ∀ x ∈ p, 32 < x ∧ x ≠ 127 ∧ x ≠ 37 := by
  have hl := of_decide_eq_true hl
  have hst : step p = wid p := by unfold step; rw [if_neg (by omega)]
  rw [hst] at hp
  intro x hx
  obtain ⟨i, hi, rfl⟩ := List.getElem_of_mem hx
  have hg : p[i] = p.getD i 0 := by simp [List.getD, List.getElem?_eq_getElem hi]
  rw [hg]
  obtain ⟨h1, h2, h3, h4⟩ := hl
  have hi4 : i = 0 ∨ i = 1 ∨ i = 2 ∨ i = 3 := by have := wid_le4 p; omega
  rcases wid_cases p with ⟨e, q⟩ | ⟨e, q⟩ | ⟨e, q⟩ | ⟨e, q⟩ | ⟨e, _⟩ <;> rcases hi4 with rfl | rfl | rfl | rfl <;> first | exact ⟨h1, h2, h3⟩ | omega
theorem word1_byte {p : List Nat} (hp : ∀ x ∈ p, x < 256) : ∀ x ∈ word1 p, x < 256 := by
  unfold word1
  split
  · exact hp
  · have h0 := getD_lt hp 0
    have a := hex_facts (show p.getD 0 0 / 16 < 16 by omega)
    have b := hex_facts (show p.getD 0 0 % 16 < 16 by omega)
    intro x hx
    simp only [List.mem_cons, List.not_mem_nil, or_false] at hx
    omega
theorem words_byte {l : List Nat} (hl : ∀ x ∈ l, x < 256) : ∀ x ∈ words l, x < 256 := by
  intro x hx
  obtain ⟨q, hq, hx⟩ := List.mem_flatten.1 hx
  obtain ⟨p, hp, rfl⟩ := List.mem_map.1 hq
  exact word1_byte (fun y hy => hl y ((parts_each l p hp).2.2 y hy)) x hx
theorem quote_byte {l : List Nat} (hl : ∀ x ∈ l, x < 256) : ∀ x ∈ quote l, x < 256 := by
  unfold quote
  split
  · intro x hx; simp at hx; omega
  · exact words_byte hl
theorem words_seen {l : List Nat} (hl : ∀ x ∈ l, x < 256) : ∀ x ∈ words l, 32 < x ∧ x ≠ 127 := by
  intro x hx
  obtain ⟨q, hq, hx⟩ := List.mem_flatten.1 hx
  obtain ⟨p, hp, rfl⟩ := List.mem_map.1 hq
  obtain ⟨h1, h2, h3⟩ := parts_each l p hp
  unfold word1 at hx
  split at hx
  · rename_i h
    have := rune_bytes h2 h x hx; omega
  · have h0 : p.getD 0 0 < 256 := getD_lt (fun y hy => hl y (h3 y hy)) 0
    have a := hex_facts (show p.getD 0 0 / 16 < 16 by omega)
    have b := hex_facts (show p.getD 0 0 % 16 < 16 by omega)
    simp only [List.mem_cons, List.not_mem_nil, or_false] at hx
    omega
theorem quote_seen {l : List Nat} (hl : ∀ x ∈ l, x < 256) : ∀ x ∈ quote l, 32 < x ∧ x ≠ 127 := by
  unfold quote
  split
  · intro x hx; simp at hx; omega
  · exact words_seen hl
theorem word1_length (p : List Nat) (h : p.length = step p) : 1 ≤ (word1 p).length ∧ (word1 p).length ≤ 4 := by
  have h1 := step_pos p
  have h2 := wid_le4 p
  have h3 : step p ≤ 4 := by unfold step; split <;> omega
  unfold word1
  split
  · omega
  · simp
theorem words_length (l : List Nat) : (words l).length ≤ 4 * l.length := by
  refine parts_ind (P := fun l => (words l).length ≤ 4 * l.length) (by simp [words_nil]) (fun l h ih => ?_) l
  have hd := drop_step h
  have := (word1_length (l.take (step l)) (by rw [step_piece h _ (Nat.le_refl _), List.length_take]; have := step_le h; omega)).2
  rw [words_step h, List.length_append]; omega
theorem quote_ne (l : List Nat) : quote l ≠ [] := by
  unfold quote
  split
  · simp
  · rename_i h
    rw [words_step h]
    have := (word1_length (l.take (step l)) (by rw [step_piece h _ (Nat.le_refl _), List.length_take]; have := step_le h; omega)).1
    intro e
    have := congrArg List.length e
    rw [List.length_append, List.length_nil] at this; omega

/-! ### back -/

/-- the value of a digit; 16: it is none -/
def digit (c : Nat) : Nat := if 48 ≤ c ∧ c ≤ 57 then c - 48 else if 97 ≤ c ∧ c ≤ 102 then c - 87 else 16
theorem digit_hex {d : Nat} (h : d < 16) : digit (hex d) = d := by
  have := hex_facts h
  unfold digit; split
  · omega
  · split <;> omega
theorem digit_le (c : Nat) : digit c ≤ 16 := by unfold digit; (repeat' split) <;> omega
/-- each mark followed by two digits is read; any other mark: nothing is told -/
def unmark : List Nat → Option (List Nat)
  | [] => some []
  | c :: r =>
    if c ≠ 37 then (unmark r).map (c :: ·)
    else match r with
      | h :: k :: t => if digit h < 16 ∧ digit k < 16 then (unmark t).map ((16 * digit h + digit k) :: ·) else none
      | _ => none
/-- the same, any other mark being left -/
def lenient : List Nat → List Nat
  | [] => []
  | c :: r =>
    if c ≠ 37 then c :: lenient r
    else match r with
      | h :: k :: t => if digit h < 16 ∧ digit k < 16 then (16 * digit h + digit k) :: lenient t else c :: lenient (h :: k :: t)
      | t => c :: lenient t
/-- no two digits are at hand -/
def Bad (r : List Nat) : Prop := ∀ a b t, r = a :: b :: t → ¬ (digit a < 16 ∧ digit b < 16)
theorem unmark_nil : unmark [] = some [] := by simp [unmark]
theorem unmark_other {c : Nat} (r : List Nat) (h : c ≠ 37) : unmark (c :: r) = (unmark r).map (c :: ·) := by
  cases r with
  | nil => simp [unmark, h]
  | cons a t => cases t <;> simp [unmark, h]
theorem unmark_mark {a b : Nat} (r : List Nat) (ha : digit a < 16) (hb : digit b < 16) : unmark (37 :: a :: b :: r) = (unmark r).map ((16 * digit a + digit b) :: ·) := by
  simp [unmark, ha, hb]
theorem unmark_bad {r : List Nat} (h : Bad r) : unmark (37 :: r) = none := by
  cases r with
  | nil => simp [unmark]
  | cons a t =>
    cases t with
    | nil => simp [unmark]
    | cons b t =>
      have := h a b t rfl
      rw [unmark]
      simp only [ne_eq, not_true_eq_false, if_false, if_neg this]
theorem lenient_nil : lenient [] = [] := by simp [lenient]
theorem lenient_other {c : Nat} (r : List Nat) (h : c ≠ 37) : lenient (c :: r) = c :: lenient r := by
  cases r with
  | nil => simp [lenient, h]
  | cons a t => cases t <;> simp [lenient, h]
theorem lenient_mark {a b : Nat} (r : List Nat) (ha : digit a < 16) (hb : digit b < 16) : lenient (37 :: a :: b :: r) = (16 * digit a + digit b) :: lenient r := by
  simp [lenient, ha, hb]
theorem lenient_bad {r : List Nat} (h : Bad r) : lenient (37 :: r) = 37 :: lenient r := by
  cases r with
  | nil => simp [lenient]
  | cons a t =>
    cases t with
    | nil => simp [lenient]
    | cons b t =>
      have := h a b t rfl
      rw [lenient]
      simp only [ne_eq, not_true_eq_false, if_false, if_neg this]
theorem mark_ind {P : List Nat → Prop} (h0 : P []) (h1 : ∀ c r, c ≠ 37 → P r → P (c :: r)) (h2 : ∀ a b t, digit a < 16 → digit b < 16 → P t → P (37 :: a :: b :: t)) (h3 : ∀ r, Bad r → P r → P (37 :: r)) : ∀ l, P l := by
  have : ∀ (n : Nat) l, l.length ≤ n → P l := by
    intro n
    induction n with
    | zero => intro l hl; rw [List.eq_nil_of_length_eq_zero (by omega : l.length = 0)]; exact h0
    | succ n ih =>
      intro l hl
      cases l with
      | nil => exact h0
      | cons c r =>
        rw [List.length_cons] at hl
        by_cases hc : c = 37
        · subst hc
          by_cases hb : Bad r
          · exact h3 r hb (ih r (by omega))
          · unfold Bad at hb
            simp only [Classical.not_forall, Classical.not_not] at hb
            obtain ⟨a, b, t, rfl, ha, hb⟩ := hb
            rw [List.length_cons, List.length_cons] at hl
            exact h2 a b t ha hb (ih t (by omega))
        · exact h1 c r hc (ih r (by omega))
  exact fun l => this l.length l (Nat.le_refl _)
theorem unmark_plain {p : List Nat} (r : List Nat) (h : ∀ x ∈ p, x ≠ 37) : unmark (p ++ r) = (unmark r).map (p ++ ·) := by
  induction p with
  | nil => simp
  | cons c p ih =>
    rw [List.cons_append, unmark_other _ (h c (by simp)), ih (fun x hx => h x (by simp [hx]))]
    cases unmark r <;> simp
theorem unmark_words {l : List Nat} (hl : ∀ x ∈ l, x < 256) : unmark (words l) = some l := by
  refine parts_ind (P := fun l => (∀ x ∈ l, x < 256) → unmark (words l) = some l) (fun _ => by simp [words_nil, unmark]) (fun l h ih hl => ?_) l hl
  have ih := ih (fun x hx => hl x (List.mem_of_mem_drop hx))
  have hs := step_le h
  have hp := step_pos l
  have hlen : (l.take (step l)).length = step l := by rw [List.length_take]; omega
  have hst := step_piece h _ (Nat.le_refl (step l))
  rw [words_step h]
  unfold word1
  split
  · rename_i hle
    rw [unmark_plain _ (fun x hx => (rune_bytes (by omega) hle x hx).2.2), ih]
    simp
  · rename_i hle
    have h0 : (l.take (step l)).getD 0 0 = l.getD 0 0 := getD_take hp
    have hlt : l.getD 0 0 < 256 := getD_lt hl 0
    rw [h0]
    have e1 := digit_hex (show l.getD 0 0 / 16 < 16 by omega)
    have e2 := digit_hex (show l.getD 0 0 % 16 < 16 by omega)
    show unmark (37 :: hex (l.getD 0 0 / 16) :: hex (l.getD 0 0 % 16) :: words (l.drop (step l))) = _
    rw [unmark_mark _ (by omega) (by omega), ih, e1, e2, show 16 * (l.getD 0 0 / 16) + l.getD 0 0 % 16 = l.getD 0 0 by omega]
    -- a part that is not left has one byte
    have hone : step l = 1 := by
      unfold step
      split
      · rfl
      · rename_i hw
        have hw2 := wid_piece h
        have : ¬ (32 < l.getD 0 0 ∧ l.getD 0 0 ≠ 127 ∧ l.getD 0 0 ≠ 37) := by
          intro hh
          apply hle
          unfold left
          rw [decide_eq_true_iff, h0, hw2]
          omega
        unfold wid widN
        rw [if_pos (by omega)]
    rw [hone]
    cases l with
    | nil => exact absurd rfl h
    | cons c r => simp
theorem lenient_of : ∀ (w p : List Nat), unmark w = some p → lenient w = p := by
  refine mark_ind ?_ ?_ ?_ ?_
  · intro p h; rw [unmark_nil] at h; cases h; exact lenient_nil
  · intro c r hc ih p h
    rw [unmark_other r hc] at h
    obtain ⟨q, hq, rfl⟩ := Option.map_eq_some_iff.1 h
    rw [lenient_other r hc, ih q hq]
  · intro a b t ha hb ih p h
    rw [unmark_mark t ha hb] at h
    obtain ⟨q, hq, rfl⟩ := Option.map_eq_some_iff.1 h
    rw [lenient_mark t ha hb, ih q hq]
  · intro r hb ih p h
    rw [unmark_bad hb] at h
    cases h
theorem lenient_byte : ∀ (w : List Nat), (∀ x ∈ w, x < 256) → ∀ x ∈ lenient w, x < 256 := by
  refine mark_ind ?_ ?_ ?_ ?_
  · intro _; rw [lenient_nil]; simp
  · intro c r hc ih hw
    rw [lenient_other r hc]
    intro x hx
    rcases List.mem_cons.1 hx with rfl | hx
    · exact hw x (by simp)
    · exact ih (fun y hy => hw y (by simp [hy])) x hx
  · intro a b t ha hb ih hw
    rw [lenient_mark t ha hb]
    intro x hx
    rcases List.mem_cons.1 hx with rfl | hx
    · omega
    · exact ih (fun y hy => hw y (by simp [hy])) x hx
  · intro r hb ih hw
    rw [lenient_bad hb]
    intro x hx
    rcases List.mem_cons.1 hx with rfl | hx
    · omega
    · exact ih (fun y hy => hw y (by simp [hy])) x hx
theorem lenient_length : ∀ (w : List Nat), (lenient w).length ≤ w.length := by
  refine mark_ind ?_ ?_ ?_ ?_
  · rw [lenient_nil]; simp
  · intro c r hc ih; rw [lenient_other r hc]; simpa using ih
  · intro a b t ha hb ih; rw [lenient_mark t ha hb]; simp; omega
  · intro r hb ih; rw [lenient_bad hb]; simpa using ih
theorem unmark_byte {w p : List Nat} (hw : ∀ x ∈ w, x < 256) (h : unmark w = some p) : ∀ x ∈ p, x < 256 := by
  rw [← lenient_of w p h]; exact lenient_byte w hw
theorem unmark_length {w p : List Nat} (h : unmark w = some p) : p.length ≤ w.length := by rw [← lenient_of w p h]; exact lenient_length w
/-- the text of a word, and an error's number -/
def unquote (w : List Nat) : List Nat × Nat :=
  if w = [37] then ([], 0)
  else match unmark w with
    | some p => if quote p = w then (p, 0) else ([], 3)
    | none => ([], 3)
theorem quote_mark {l : List Nat} (hl : ∀ x ∈ l, x < 256) (h : l ≠ []) : quote l ≠ [37] := by
  intro e
  unfold quote at e
  rw [if_neg h] at e
  have := unmark_words hl
  rw [e, unmark_bad (fun a b t h => by cases h)] at this
  cases this
theorem unquote_quote {l : List Nat} (hl : ∀ x ∈ l, x < 256) : unquote (quote l) = (l, 0) := by
  by_cases h : l = []
  · subst h; rfl
  · have h1 := quote_mark hl h
    have h2 : quote l = words l := by unfold quote; rw [if_neg h]
    unfold unquote
    rw [if_neg h1, h2, unmark_words hl]
    simp [h2]
theorem unquote_ok {w : List Nat} (h : (unquote w).2 = 0) : quote (unquote w).1 = w := by
  unfold unquote at h ⊢
  split
  · rename_i e; rw [e]; rfl
  · rename_i e
    rw [if_neg e] at h
    split
    · rename_i p hp
      rw [hp] at h
      simp only at h
      split
      · rename_i e2; exact e2
      · rename_i e2; rw [if_neg e2] at h; cases h
    · rename_i hp
      rw [hp] at h
      simp at h
theorem unquote_byte {w : List Nat} (hw : ∀ x ∈ w, x < 256) : ∀ x ∈ (unquote w).1, x < 256 := by
  unfold unquote
  split
  · simp
  · split
    · rename_i p hp
      split
      · exact unmark_byte hw hp
      · simp
    · simp
/-- the reference's way to the same answer -/
theorem unquote_lenient {w : List Nat} (hw : ∀ x ∈ w, x < 256) (h37 : w ≠ [37]) : unquote w = if quote (lenient w) = w then (lenient w, 0) else ([], 3) := by
  unfold unquote
  rw [if_neg h37]
  cases hu : unmark w with
  | some p => rw [lenient_of w p hu]
  | none =>
    rw [if_neg]
    intro e
    have hne : lenient w ≠ [] := by
      intro e2
      rw [e2] at e
      exact h37 (by rw [← e]; rfl)
    have h2 : quote (lenient w) = words (lenient w) := by unfold quote; rw [if_neg hne]
    have := unmark_words (lenient_byte w hw)
    rw [← h2, e, hu] at this
    cases this
end Go.Proofs.YtldjdoebappkoaaGreatDoor.Tm
/- What ranging over a string yields, in the words of Tm. -/
namespace Go.Proofs.YtldjdoebappkoaaGreatDoor.Tm
open Go.Proofs.YtldjdoebappkoaaGreatDoor
set_option linter.unusedVariables false

theorem get_any {s : ByteArray} {l : List Nat} (T : Txt s l) (i k : Nat) : (s.get! (i + k)).toNat = (l.drop i).getD k 0 := by
  have e : (l.drop i).getD k 0 = l.getD (i + k) 0 := by simp [List.getD]
  rw [e]
  by_cases h : i + k < l.length
  · exact T.get! _ h
  · rw [getD_out (by omega)]
    have h' : ¬ (i + k < s.size) := by rw [T.size]; exact h
    obtain ⟨d⟩ := s
    have h2 : ¬ (i + k < d.size) := h'
    simp [ByteArray.get!, getElem!_neg, h2]
    rfl
theorem take1 {r : List Nat} (h : 1 ≤ r.length) : r.take 1 = [r.getD 0 0] := by
  match r, h with
  | a :: _, _ => simp
theorem take2 {r : List Nat} (h : 2 ≤ r.length) : r.take 2 = [r.getD 0 0, r.getD 1 0] := by
  match r, h with
  | a :: b :: _, _ => simp
theorem take3 {r : List Nat} (h : 3 ≤ r.length) : r.take 3 = [r.getD 0 0, r.getD 1 0, r.getD 2 0] := by
  match r, h with
  | a :: b :: c :: _, _ => simp
theorem take4 {r : List Nat} (h : 4 ≤ r.length) : r.take 4 = [r.getD 0 0, r.getD 1 0, r.getD 2 0, r.getD 3 0] := by
  match r, h with
  | a :: b :: c :: d :: _, _ => simp

def num2 (c0 c1 : Nat) : Nat := c0 % 32 * 64 + c1 % 64
def num3 (c0 c1 c2 : Nat) : Nat := c0 % 16 * 4096 + c1 % 64 * 64 + c2 % 64
def num4 (c0 c1 c2 c3 : Nat) : Nat := c0 % 8 * 262144 + c1 % 64 * 4096 + c2 % 64 * 64 + c3 % 64

theorem valid_nat (c : Nat) : Utf8.valid (c : Int) = decide (c < 55296 ∨ (57344 ≤ c ∧ c ≤ 1114111)) := by
  unfold Utf8.valid
  rw [Bool.eq_iff_iff]
  simp only [Bool.or_eq_true, Bool.and_eq_true, decide_eq_true_eq]
  omega

theorem encode_nat {c : Nat} (h : c < 55296 ∨ (57344 ≤ c ∧ c ≤ 1114111)) : Utf8.encode (c : Int) = if c < 128 then strOf [c] else if c < 2048 then strOf [192 + c / 64, 128 + c % 64] else if c < 65536 then strOf [224 + c / 4096, 128 + c / 64 % 64, 128 + c % 64] else strOf [240 + c / 262144, 128 + c / 4096 % 64, 128 + c / 64 % 64, 128 + c % 64] := by
  have hv : Utf8.valid (c : Int) = true := by rw [valid_nat]; simpa using h
  unfold Utf8.encode
  simp only [hv, if_true, Int.toNat_natCast]
  rfl

theorem drop_ne {l : List Nat} {i : Nat} (hi : i < l.length) : l.drop i ≠ [] := by
  intro e
  have := congrArg List.length e
  rw [List.length_drop, List.length_nil] at this; omega
theorem piece_first (l : List Nat) (i : Nat) : ((l.drop i).take (step (l.drop i))).getD 0 0 = (l.drop i).getD 0 0 := getD_take (step_pos _)

section
variable {s : ByteArray} {l : List Nat} (T : Txt s l) {i : Nat} (hi : i < l.length)
include T hi
theorem decode_form : Utf8.decode s i = (let c0 := (l.drop i).getD 0 0; let c1 := (l.drop i).getD 1 0; let c2 := (l.drop i).getD 2 0; let c3 := (l.drop i).getD 3 0; let n := (l.drop i).length
    if c0 < 128 then (c0, 1)
    else if c0 / 32 = 6 ∧ 1 < n ∧ c1 / 64 = 2 then (if 128 ≤ num2 c0 c1 then (num2 c0 c1, 2) else (65533, 1))
    else if (c0 / 16 = 14 ∧ 1 < n ∧ c1 / 64 = 2) ∧ 2 < n ∧ c2 / 64 = 2 then (if 2048 ≤ num3 c0 c1 c2 ∧ (num3 c0 c1 c2 < 55296 ∨ (57344 ≤ num3 c0 c1 c2 ∧ num3 c0 c1 c2 ≤ 1114111)) then (num3 c0 c1 c2, 3) else (65533, 1))
    else if ((c0 / 8 = 30 ∧ 1 < n ∧ c1 / 64 = 2) ∧ 2 < n ∧ c2 / 64 = 2) ∧ 3 < n ∧ c3 / 64 = 2 then (if 65536 ≤ num4 c0 c1 c2 c3 ∧ (num4 c0 c1 c2 c3 < 55296 ∨ (57344 ≤ num4 c0 c1 c2 c3 ∧ num4 c0 c1 c2 c3 ≤ 1114111)) then (num4 c0 c1 c2 c3, 4) else (65533, 1))
    else (65533, 1)) := by
  have hn : ∀ k, (i + k < s.size) ↔ (k < (l.drop i).length) := fun k => by rw [T.size, List.length_drop]; omega
  simp only [Utf8.decode, get_any T, Utf8.runeError, Bool.and_eq_true, beq_iff_eq, decide_eq_true_eq, ge_iff_le, valid_nat, hn, num2, num3, num4]
  rfl
theorem decode_wid : (wid (l.drop i) = 1 ∧ Utf8.decode s i = ((l.drop i).getD 0 0, 1)) ∨
    (wid (l.drop i) = 2 ∧ Utf8.decode s i = (num2 ((l.drop i).getD 0 0) ((l.drop i).getD 1 0), 2)) ∨
    (wid (l.drop i) = 3 ∧ Utf8.decode s i = (num3 ((l.drop i).getD 0 0) ((l.drop i).getD 1 0) ((l.drop i).getD 2 0), 3)) ∨
    (wid (l.drop i) = 4 ∧ Utf8.decode s i = (num4 ((l.drop i).getD 0 0) ((l.drop i).getD 1 0) ((l.drop i).getD 2 0) ((l.drop i).getD 3 0), 4)) ∨
    (wid (l.drop i) = 0 ∧ Utf8.decode s i = (65533, 1)) := by
  rw [decode_form T hi]
  have hb : ∀ x ∈ l.drop i, x < 256 := fun x hx => T.byte x (List.mem_of_mem_drop hx)
  have b0 := getD_lt hb 0
  have b1 := getD_lt hb 1
  have b2 := getD_lt hb 2
  have b3 := getD_lt hb 3
  generalize l.drop i = r at *
  dsimp only
  rcases wid_cases r with ⟨e, q⟩ | ⟨e, q⟩ | ⟨e, q⟩ | ⟨e, q⟩ | ⟨e, q0, q2, q3, q4⟩
  · exact .inl ⟨e, by rw [if_pos q]⟩
  · refine .inr (.inl ⟨e, ?_⟩)
    rw [if_neg (by omega), if_pos (by omega), if_pos (by unfold num2; omega)]
  · refine .inr (.inr (.inl ⟨e, ?_⟩))
    rw [if_neg (by omega), if_neg (by omega), if_pos (by omega), if_pos (by unfold num3; omega)]
  · refine .inr (.inr (.inr (.inl ⟨e, ?_⟩)))
    rw [if_neg (by omega), if_neg (by omega), if_neg (by omega), if_pos (by omega), if_pos (by unfold num4; omega)]
  · refine .inr (.inr (.inr (.inr ⟨e, ?_⟩)))
    rw [if_neg q0]
    by_cases h2 : r.getD 0 0 / 32 = 6 ∧ 1 < r.length ∧ r.getD 1 0 / 64 = 2
    · rw [if_pos h2, if_neg (by unfold num2; omega)]
    rw [if_neg h2]
    by_cases h3 : (r.getD 0 0 / 16 = 14 ∧ 1 < r.length ∧ r.getD 1 0 / 64 = 2) ∧ 2 < r.length ∧ r.getD 2 0 / 64 = 2
    · rw [if_pos h3, if_neg (by unfold num3; omega)]
    rw [if_neg h3]
    by_cases h4 : ((r.getD 0 0 / 8 = 30 ∧ 1 < r.length ∧ r.getD 1 0 / 64 = 2) ∧ 2 < r.length ∧ r.getD 2 0 / 64 = 2) ∧ 3 < r.length ∧ r.getD 3 0 / 64 = 2
    · rw [if_pos h4, if_neg (by unfold num4; omega)]
    rw [if_neg h4]

theorem decode_step : (Utf8.decode s i).2 = step (l.drop i) := by
  unfold step
  rcases decode_wid T hi with ⟨e, q⟩ | ⟨e, q⟩ | ⟨e, q⟩ | ⟨e, q⟩ | ⟨e, q⟩ <;> rw [q, e] <;> simp
theorem decode_stray : ((Utf8.decode s i).1 = 65533 ∧ (l.drop i).take 3 ≠ [239, 191, 189]) ↔ wid (l.drop i) = 0 := by
  have hb : ∀ x ∈ l.drop i, x < 256 := fun x hx => T.byte x (List.mem_of_mem_drop hx)
  have b0 := getD_lt hb 0
  have b1 := getD_lt hb 1
  have b2 := getD_lt hb 2
  rcases decode_wid T hi with ⟨e, q⟩ | ⟨e, q⟩ | ⟨e, q⟩ | ⟨e, q⟩ | ⟨e, q⟩ <;> rw [q, e] <;> dsimp only <;> rcases wid_cases (l.drop i) with ⟨e', k⟩ | ⟨e', k⟩ | ⟨e', k⟩ | ⟨e', k⟩ | ⟨e', k⟩ <;> first | omega | skip
  · unfold num2; omega
  · rw [take3 k.2.2.1]
    constructor
    · intro ⟨h1, h2⟩
      unfold num3 at h1
      exfalso; apply h2
      rw [show (l.drop i).getD 0 0 = 239 by omega, show (l.drop i).getD 1 0 = 191 by omega, show (l.drop i).getD 2 0 = 189 by omega]
    · omega
  · unfold num4; omega
  · simp only [true_and, iff_true]
    intro h
    have hl : 3 ≤ (l.drop i).length := by have := congrArg List.length h; rw [List.length_take] at this; simp at this ⊢; omega
    rw [take3 hl] at h
    injection h with h0 h
    injection h with h1 h
    injection h with h2 h
    omega
theorem decode_left : left ((l.drop i).take (step (l.drop i))) = true ↔ ¬ ((Utf8.decode s i).1 ≤ 32 ∨ (Utf8.decode s i).1 = 127 ∨ (Utf8.decode s i).1 = 37) ∧ wid (l.drop i) ≠ 0 := by
  unfold left
  rw [piece_first l i, wid_piece (drop_ne hi), decide_eq_true_iff]
  rcases decode_wid T hi with ⟨e, q⟩ | ⟨e, q⟩ | ⟨e, q⟩ | ⟨e, q⟩ | ⟨e, q⟩ <;> rw [q, e] <;> dsimp only <;> rcases wid_cases (l.drop i) with ⟨e', k⟩ | ⟨e', k⟩ | ⟨e', k⟩ | ⟨e', k⟩ | ⟨e', k⟩ <;> first | omega | skip
  · unfold num2; omega
  · unfold num3; omega
  · unfold num4; omega
theorem encode_left (h : wid (l.drop i) ≠ 0) : Utf8.encode ((Utf8.decode s i).1 : Int) = strOf ((l.drop i).take (step (l.drop i))) := by
  have hb : ∀ x ∈ l.drop i, x < 256 := fun x hx => T.byte x (List.mem_of_mem_drop hx)
  have hst : step (l.drop i) = wid (l.drop i) := by unfold step; rw [if_neg h]
  rw [hst]
  have hl := wid_le (drop_ne hi)
  rcases decode_wid T hi with ⟨e, q⟩ | ⟨e, q⟩ | ⟨e, q⟩ | ⟨e, q⟩ | ⟨e, q⟩ <;> rw [q, e] <;> rw [e] at hl <;> dsimp only <;> rcases wid_cases (l.drop i) with ⟨e', k⟩ | ⟨e', k⟩ | ⟨e', k⟩ | ⟨e', k⟩ | ⟨e', k⟩ <;> first | omega | skip
  · rw [take1 hl]
    rw [encode_nat (by omega), if_pos k]
  · rw [take2 hl]
    have hn : 128 ≤ num2 ((l.drop i).getD 0 0) ((l.drop i).getD 1 0) ∧ num2 ((l.drop i).getD 0 0) ((l.drop i).getD 1 0) < 2048 := by unfold num2; omega
    have x0 : 192 + num2 ((l.drop i).getD 0 0) ((l.drop i).getD 1 0) / 64 = (l.drop i).getD 0 0 := by unfold num2; omega
    have x1 : 128 + num2 ((l.drop i).getD 0 0) ((l.drop i).getD 1 0) % 64 = (l.drop i).getD 1 0 := by unfold num2; omega
    rw [encode_nat (by omega), if_neg (by omega), if_pos hn.2, x0, x1]
  · rw [take3 hl]
    have hn : 2048 ≤ num3 ((l.drop i).getD 0 0) ((l.drop i).getD 1 0) ((l.drop i).getD 2 0) ∧ num3 ((l.drop i).getD 0 0) ((l.drop i).getD 1 0) ((l.drop i).getD 2 0) < 65536 ∧ (num3 ((l.drop i).getD 0 0) ((l.drop i).getD 1 0) ((l.drop i).getD 2 0) < 55296 ∨ 57344 ≤ num3 ((l.drop i).getD 0 0) ((l.drop i).getD 1 0) ((l.drop i).getD 2 0)) := by unfold num3; omega
    have x0 : 224 + num3 ((l.drop i).getD 0 0) ((l.drop i).getD 1 0) ((l.drop i).getD 2 0) / 4096 = (l.drop i).getD 0 0 := by unfold num3; omega
    have x1 : 128 + num3 ((l.drop i).getD 0 0) ((l.drop i).getD 1 0) ((l.drop i).getD 2 0) / 64 % 64 = (l.drop i).getD 1 0 := by unfold num3; omega
    have x2 : 128 + num3 ((l.drop i).getD 0 0) ((l.drop i).getD 1 0) ((l.drop i).getD 2 0) % 64 = (l.drop i).getD 2 0 := by unfold num3; omega
    rw [encode_nat (by omega), if_neg (by omega), if_neg (by omega), if_pos (by omega), x0, x1, x2]
  · rw [take4 hl]
    have hn : 65536 ≤ num4 ((l.drop i).getD 0 0) ((l.drop i).getD 1 0) ((l.drop i).getD 2 0) ((l.drop i).getD 3 0) ∧ num4 ((l.drop i).getD 0 0) ((l.drop i).getD 1 0) ((l.drop i).getD 2 0) ((l.drop i).getD 3 0) ≤ 1114111 := by unfold num4; omega
    have x0 : 240 + num4 ((l.drop i).getD 0 0) ((l.drop i).getD 1 0) ((l.drop i).getD 2 0) ((l.drop i).getD 3 0) / 262144 = (l.drop i).getD 0 0 := by unfold num4; omega
    have x1 : 128 + num4 ((l.drop i).getD 0 0) ((l.drop i).getD 1 0) ((l.drop i).getD 2 0) ((l.drop i).getD 3 0) / 4096 % 64 = (l.drop i).getD 1 0 := by unfold num4; omega
    have x2 : 128 + num4 ((l.drop i).getD 0 0) ((l.drop i).getD 1 0) ((l.drop i).getD 2 0) ((l.drop i).getD 3 0) / 64 % 64 = (l.drop i).getD 2 0 := by unfold num4; omega
    have x3 : 128 + num4 ((l.drop i).getD 0 0) ((l.drop i).getD 1 0) ((l.drop i).getD 2 0) ((l.drop i).getD 3 0) % 64 = (l.drop i).getD 3 0 := by unfold num4; omega
    rw [encode_nat (by omega), if_neg (by omega), if_neg (by omega), if_neg (by omega), x0, x1, x2, x3]
end
end Go.Proofs.YtldjdoebappkoaaGreatDoor.Tm
/- Contracts of utf.isStray, isReplaced, Valid, Count, Clip. -/
namespace Go.Proofs.YtldjdoebappkoaaGreatDoor
open Go.RowKit
set_option linter.unusedVariables false

theorem three_txt : Txt ⟨#[239, 191, 189]⟩ [239, 191, 189] := ⟨rfl, by decide⟩

set_option maxRecDepth 100000 in
set_option maxHeartbeats 400000 in
theorem isStray_any {s : ByteArray} {l : List Nat} (T : Txt s l) (i : Nat) (hi : i < l.length) (hl : l.length ≤ 1000000000000) (w : World) :
    Calls Tryz.prog 97 #[.string s, .int .i64 (i : Int), .int .i32 ((Utf8.decode s i).1 : Int)] w fun e w' => e = .returned (.bool (decide (Tm.wid (l.drop i) = 0))) ∧ w' = w := by
  have hst := Tm.decode_stray T hi
  have hsz := T.size
  have hle := decode_le s i
  obtain ⟨d, Hd⟩ : ∃ d, Hid ((Utf8.decode s i).1 = d) := ⟨_, rfl⟩
  rw [Hd.out] at hst hle ⊢
  by_cases h3 : i + 3 ≤ l.length
  · have hq := (T.cut i (i + 3)).eql three_txt
    rw [Nat.add_sub_cancel_left] at hq
    have Hst := Lib.hid hst
    clear hst
    by_cases hd : d = 65533
    · subst hd
      have Hfin : Hid ((!decide ((l.drop i).take 3 = [239, 191, 189])) = decide (Tm.wid (l.drop i) = 0)) := Lib.hid (by
        rw [Bool.eq_iff_iff, decide_eq_true_iff, ← Hst.out]; simp)
      go_enter Tryz.func97, Tryz.ntmps97
      go_wp2_with fail
      go_ret
      rw [← Hfin.out]
      simp_all
    · have hne : ¬ (d : Int) = 65533 := by omega
      have Hfin : Hid (false = decide (Tm.wid (l.drop i) = 0)) := Lib.hid (by
        symm; rw [decide_eq_false_iff_not, ← Hst.out]; intro h; exact hd h.1)
      go_enter Tryz.func97, Tryz.ntmps97
      go_wp2_with fail
      go_ret
      rw [← Hfin.out]
      exact ⟨rfl, rfl⟩
  · have hq := (T.cut i l.length).eql three_txt
    rw [← hsz] at hq
    have Hst := Lib.hid hst
    clear hst
    by_cases hd : d = 65533
    · subst hd
      have Hfin : Hid ((!decide ((l.drop i).take (s.size - i) = [239, 191, 189])) = decide (Tm.wid (l.drop i) = 0)) := Lib.hid (by
        have h1 : (l.drop i).length < 3 := by rw [List.length_drop]; omega
        rw [Bool.eq_iff_iff, decide_eq_true_iff, ← Hst.out]
        have k1 : (l.drop i).take (s.size - i) ≠ [239, 191, 189] := by intro h; have := congrArg List.length h; rw [List.length_take] at this; simp at this; omega
        have k2 : (l.drop i).take 3 ≠ [239, 191, 189] := by intro h; have := congrArg List.length h; rw [List.length_take] at this; simp at this; omega
        simp [k1, k2])
      go_enter Tryz.func97, Tryz.ntmps97
      go_wp2_with fail
      go_ret
      rw [← Hfin.out]
      simp_all
    · have hne : ¬ (d : Int) = 65533 := by omega
      have Hfin : Hid (false = decide (Tm.wid (l.drop i) = 0)) := Lib.hid (by
        symm; rw [decide_eq_false_iff_not, ← Hst.out]; intro h; exact hd h.1)
      go_enter Tryz.func97, Tryz.ntmps97
      go_wp2_with fail
      go_ret
      rw [← Hfin.out]
      exact ⟨rfl, rfl⟩

theorem below_iter (w : World) (s : ByteArray) (pos : Nat) : Below w.heap.size w (w.iter s pos) := (Below.refl _ w).alloc (Nat.le_refl _) _

set_option maxRecDepth 100000 in
set_option maxHeartbeats 400000 in
theorem valid_any {s : ByteArray} {l : List Nat} (T : Txt s l) (hl : l.length ≤ 1000000000000) (w : World) :
    Calls Tryz.prog 79 #[.string s] w fun e w' => e = .returned (.bool (Tm.valid l)) ∧ Below w.heap.size w w' := by
  have hsz := T.size
  go_enter Tryz.func79, Tryz.ntmps79
  go_wp2_with fail
  go_loopw [] (fun wr => ∃ (pos : Nat), pos ≤ l.length ∧ wr = w.iter s pos ∧ Hid (Tm.valid l = Tm.valid (l.drop pos))) (fun wr => s.size - wr.iterPos w.heap.size)
  case atStart => exact ⟨0, by omega, rfl, Lib.hid (by simp)⟩
  case round =>
    obtain ⟨pos, hpos, rfl, HV⟩ := hrel
    by_cases hp : pos < l.length
    · have hnx : ∀ ty, (Instr.next (.pointer (some ⟨w.heap.size, 0, none⟩)) true ty).run Tryz.prog (w.iter s pos) = _ := fun ty => run_next_any w s pos ty (by omega)
      have hd := Tm.decode_step T hp
      have hs1 := Tm.step_pos (l.drop pos)
      have hs2 := Tm.step_le (Tm.drop_ne hp)
      rw [List.length_drop] at hs2
      have hvs := Tm.valid_step (Tm.drop_ne hp)
      rw [List.drop_drop] at hvs
      rw [hd] at hnx
      have C := Lib.hid (fun W => isStray_any T pos hp hl W)
      obtain ⟨d, Hd⟩ : ∃ d, Hid ((Utf8.decode s pos).1 = d) := ⟨_, rfl⟩
      rw [Hd.out] at hnx C
      have Hvs := Lib.hid hvs
      clear hvs hd
      generalize Tm.step (l.drop pos) = k at *
      by_cases hw : Tm.wid (l.drop pos) = 0
      · go_wp2_with fail
        refine (C.out _).mono ?_
        rintro e w1 ⟨rfl, rfl⟩
        rw [decide_eq_true hw]
        go_wp2_with fail
        go_ret
        refine ⟨ret_bool ?_, below_iter _ _ _⟩
        rw [HV.out, Hvs.out]
        simp [hw]
      · go_wp2_with fail
        refine (C.out _).mono ?_
        rintro e w1 ⟨rfl, rfl⟩
        rw [decide_eq_false hw]
        go_wp2_with fail
        go_roundw
        case rel => exact ⟨pos + k, by omega, rfl, Lib.hid (by rw [HV.out, Hvs.out]; simp [hw])⟩
        case measure => simp; omega
    · have hnx : ∀ ty, (Instr.next (.pointer (some ⟨w.heap.size, 0, none⟩)) true ty).run Tryz.prog (w.iter s pos) = _ := fun ty => run_next_end w s pos ty (by omega)
      go_wp2_with fail
      go_ret
      refine ⟨ret_bool ?_, below_iter _ _ _⟩
      rw [HV.out, List.drop_eq_nil_of_le (by omega)]
      rfl

set_option maxRecDepth 100000 in
set_option maxHeartbeats 400000 in
theorem count_any {s : ByteArray} {l : List Nat} (T : Txt s l) (hl : l.length ≤ 1000000000000) (w : World) :
    Calls Tryz.prog 80 #[.string s] w fun e w' => e = .returned (.int .i64 ((Tm.parts l).length : Int)) ∧ Below w.heap.size w w' := by
  have hsz := T.size
  go_enter Tryz.func80, Tryz.ntmps80
  go_wp2_with fail
  go_loopw [3] (fun v wr => ∃ (pos n : Nat), pos ≤ l.length ∧ n ≤ pos ∧ v = .int .i64 n ∧ wr = w.iter s pos ∧ Hid ((Tm.parts l).length = n + (Tm.parts (l.drop pos)).length)) (fun _ wr => s.size - wr.iterPos w.heap.size)
  case atStart => exact ⟨0, 0, by omega, by omega, rfl, rfl, Lib.hid (by simp)⟩
  case round =>
    obtain ⟨pos, n, hpos, hn, rfl, rfl, HV⟩ := hrel
    by_cases hp : pos < l.length
    · have hnx : ∀ ty, (Instr.next (.pointer (some ⟨w.heap.size, 0, none⟩)) true ty).run Tryz.prog (w.iter s pos) = _ := fun ty => run_next_any w s pos ty (by omega)
      have hd := Tm.decode_step T hp
      have hs1 := Tm.step_pos (l.drop pos)
      have hs2 := Tm.step_le (Tm.drop_ne hp)
      rw [List.length_drop] at hs2
      have hvs := Tm.parts_step (Tm.drop_ne hp)
      rw [List.drop_drop] at hvs
      rw [hd] at hnx
      have Hvs := Lib.hid hvs
      clear hvs hd
      generalize Tm.step (l.drop pos) = k at *
      go_wp2_with fail
      go_roundw
      case rel => exact ⟨pos + k, n + 1, by omega, by omega, by go_num, rfl, Lib.hid (by rw [HV.out, Hvs.out, List.length_cons]; omega)⟩
      case measure => simp; omega
    · have hnx : ∀ ty, (Instr.next (.pointer (some ⟨w.heap.size, 0, none⟩)) true ty).run Tryz.prog (w.iter s pos) = _ := fun ty => run_next_end w s pos ty (by omega)
      go_wp2_with fail
      go_ret
      refine ⟨ret_int ?_, below_iter _ _ _⟩
      rw [HV.out, List.drop_eq_nil_of_le (by omega), Tm.parts_nil]
      simp

/-- how the first n parts lie in the text -/
theorem clip_all {l : List Nat} {n : Int} (h : ((Tm.parts l).length : Int) ≤ n) : Tm.clip l n = l := by
  unfold Tm.clip; rw [List.take_of_length_le (by omega), Tm.parts_flatten]

end Go.Proofs.YtldjdoebappkoaaGreatDoor
/- Contracts of the reference of layer 4: tail, Width, Parts. -/
namespace Go.Proofs.YtldjdoebappkoaaGreatDoor
open Go.RowKit
set_option linter.unusedVariables false

theorem strT : ElemT Tryz.prog 22 9 (.string ByteArray.empty) 16 := ⟨Tryz.underlying22, by kernel_rfl, rfl, by decide⟩

set_option maxRecDepth 100000 in
theorem tail_any (c : Nat) (hc : c < 256) (w : World) :
    Calls Tryz.prog 102 #[.int .u8 (c : Int)] w fun e w' => e = .returned (.bool (decide (128 ≤ c ∧ c ≤ 191))) ∧ w' = w := by
  go_enter Tryz.func102, Tryz.ntmps102
  go_wp2_with fail
  all_goals
    go_ret
    refine ⟨ret_bool ?_, rfl⟩
    rw [Bool.eq_iff_iff]
    simp_all
    try omega

set_option maxRecDepth 100000 in
set_option maxHeartbeats 1600000 in
theorem width_nums (s : ByteArray) (i n c0 c1 c2 c3 : Nat) (hn : s.size = i + n) (hn1 : 1 ≤ n) (hb : i + n ≤ 1000000000000) (h0 : c0 < 256) (h1 : c1 < 256) (h2 : c2 < 256) (h3 : c3 < 256)
    (a0 : ∀ (h : i < s.size), (s[i]'h).toNat = c0) (a1 : ∀ (h : i + 1 < s.size), (s[i + 1]'h).toNat = c1) (a2 : ∀ (h : i + 2 < s.size), (s[i + 2]'h).toNat = c2) (a3 : ∀ (h : i + 3 < s.size), (s[i + 3]'h).toNat = c3) (w : World) :
    Calls Tryz.prog 99 #[.string s, .int .i64 (i : Int)] w fun e w' => e = .returned (.int .i64 (Tm.widN c0 c1 c2 c3 n : Int)) ∧ w' = w := by
  have T1 := Lib.hid (tail_any c1 h1)
  have T2 := Lib.hid (tail_any c2 h2)
  have T3 := Lib.hid (tail_any c3 h3)
  obtain ⟨m, Hm⟩ : ∃ m, Hid (Tm.widN c0 c1 c2 c3 n = m) := ⟨_, rfl⟩
  rw [Hm.out]
  go_enter Tryz.func99, Tryz.ntmps99
  go_wp2_with (go_at_call 102; (first | with_reducible refine (T1.out _).mono ?_ | with_reducible refine (T2.out _).mono ?_ | with_reducible refine (T3.out _).mono ?_); rintro e w1 ⟨rfl, rfl⟩)
  all_goals
    go_ret
    refine ⟨ret_int ?_, rfl⟩
    have hw := Hm.out
    rcases Tm.widN_cases (c0 := c0) (c1 := c1) (c2 := c2) (c3 := c3) (n := n) with ⟨e, k⟩ | ⟨e, k⟩ | ⟨e, k⟩ | ⟨e, k⟩ | ⟨e, k1, k2, k3, k4⟩ <;> rw [hw] at e <;> clear hw Hm T1 T2 T3 a0 a1 a2 a3 <;> omega
end Go.Proofs.YtldjdoebappkoaaGreatDoor
/- Contracts of the reference of layer 4: Width at a text, Parts, Valid, Clip. -/
namespace Go.Proofs.YtldjdoebappkoaaGreatDoor
open Go.RowKit
set_option linter.unusedVariables false

theorem width_any {s : ByteArray} {l : List Nat} (T : Txt s l) (i : Nat) (hi : i < l.length) (hl : l.length ≤ 1000000000000) (w : World) :
    Calls Tryz.prog 99 #[.string s, .int .i64 (i : Int)] w fun e w' => e = .returned (.int .i64 (Tm.wid (l.drop i) : Int)) ∧ w' = w := by
  have hb : ∀ x ∈ l.drop i, x < 256 := fun x hx => T.byte x (List.mem_of_mem_drop hx)
  have hd : ∀ k, (l.drop i).getD k 0 = l.getD (i + k) 0 := fun k => by simp [List.getD]
  have hs := T.size
  exact width_nums s i (l.drop i).length _ _ _ _ (by rw [hs, List.length_drop]; omega) (by rw [List.length_drop]; omega) (by rw [List.length_drop]; omega) (getD_lt hb 0) (getD_lt hb 1) (getD_lt hb 2) (getD_lt hb 3)
    (fun h => by rw [hd]; exact T.at_ _ h) (fun h => by rw [hd]; exact T.at_ _ h) (fun h => by rw [hd]; exact T.at_ _ h) (fun h => by rw [hd]; exact T.at_ _ h) w

/-- texts as cells -/
def strs (ps : List (List Nat)) : List Value := ps.map fun p => Value.string (strOf p)
theorem strs_append (a b : List (List Nat)) : strs (a ++ b) = strs a ++ strs b := by simp [strs]

/-- a cell of a row of the call's own -/
theorem own_cell {w : World} {base t n : Nat} {v : Value} {xs : List Value} (h : w.ownsRow base t 1 v n xs) {i : Nat} {u : Value} (hi : xs[i]? = some u) : ∃ g c, v = .slice (some ⟨g, 0, none⟩) n c ∧ n ≤ c ∧ c ≤ maxLen ∧ g < w.heap.size ∧ w.cell? ⟨g, i, none⟩ = some u := by
  have hl := h.1
  rcases h.2 with ⟨hv, h0⟩ | ⟨g, cap, cur, hv, hg, hh, h1, h2, r⟩
  · have : xs.length = 0 := by rw [hl, h0]
    rw [List.getElem?_eq_none (by omega)] at hi; cases hi
  · have hlt : g < w.heap.size := (Array.getElem?_eq_some_iff.1 hh).1
    subst hv
    refine ⟨g, cap, rfl, h1, h2, hlt, ?_⟩
    have := World.ownsRow.cells h (g := g) rfl i u hi
    rw [← this]
    congr 1
    unfold Addr.add
    split
    · simp_all
    · simp
theorem strs_get {ps : List (List Nat)} {i : Nat} (h : i < ps.length) : (strs ps)[i]? = some (.string (strOf ps[i])) := by
  simp [strs, List.getElem?_eq_getElem h]

/-- what the loop of Parts has done when it stands at byte j -/
structure Pts (l : List Nat) (w : World) (ps : List (List Nat)) (j : Nat) (v : Value) (wr : World) : Prop where
  own : wr.ownsRow w.heap.size 9 1 v ps.length (strs ps)
  below : Below w.heap.size w wr
  same : Tm.parts l = ps ++ Tm.parts (l.drop j)
  few : ps.length ≤ j
section
variable {l : List Nat} {w : World} {ps : List (List Nat)} {j : Nat} {v v' : Value} {wr w1 : World} {o : Obj}
theorem Pts.start (l : List Nat) (w : World) : Pts l w [] 0 (.slice none 0 0) w :=
  ⟨World.ownsRow_nil _ _ _ _, Below.refl _ _, by simp, by simp⟩
theorem Pts.next (h : Pts l w ps j v wr) (hj : j < l.length) {k : Nat} (hk : Tm.step (l.drop j) = k)
    (ho : w1.ownsRow w.heap.size 9 1 v' (ps.length + 1) (strs ps ++ [.string (strOf ((l.drop j).take k))])) (hg : (wr.alloc o).grownBy w1 v.ownBlock) : Pts l w (ps ++ [(l.drop j).take k]) (j + k) v' w1 := by
  obtain ⟨h1, h2, h3, h4⟩ := h
  have hs := Tm.step_pos (l.drop j)
  refine ⟨by rw [strs_append, List.length_append]; exact ho, ?_, ?_, by simp; omega⟩
  · exact (h2.alloc h2.size o).grown hg (by have := h2.size; simp; omega) (fun k hk => (h1.lt k hk).1)
  · rw [h3, Tm.parts_step (Tm.drop_ne hj), List.drop_drop, hk]; simp
theorem Pts.done (h : Pts l w ps j v wr) (hj : ¬ j < l.length) : ps = Tm.parts l := by
  rw [h.same, List.drop_eq_nil_of_le (by omega), Tm.parts_nil, List.append_nil]
end

set_option maxRecDepth 100000 in
set_option maxHeartbeats 800000 in
theorem parts_any {s : ByteArray} {l : List Nat} (T : Txt s l) (hl : l.length ≤ 10000000000) (w : World) :
    Calls Tryz.prog 86 #[.string s] w fun e w' => ∃ v, e = .returned v ∧ w'.ownsRow w.heap.size 9 1 v (Tm.parts l).length (strs (Tm.parts l)) ∧ Below w.heap.size w w' := by
  have hsz := T.size
  have HS := Lib.hid (Pts.start l w)
  go_enter Tryz.func86, Tryz.ntmps86
  go_wp2_with fail
  go_loopw [3, 4] (fun v i wr => ∃ (ps : List (List Nat)) (j : Nat), i = .int .i64 j ∧ j ≤ l.length ∧ Hid (Pts l w ps j v wr)) (fun _ i _ => l.length - (intOf i).toNat)
  case atStart => exact ⟨[], 0, rfl, by omega, HS⟩
  case round =>
    clear HS
    obtain ⟨ps, j, rfl, hj, HU⟩ := hrel
    by_cases hlt : j < l.length
    · have C := Lib.hid (width_any T j hlt (by omega) wr)
      have hs1 := Tm.step_pos (l.drop j)
      have hs2 := Tm.step_le (Tm.drop_ne hlt)
      rw [List.length_drop] at hs2
      have hst : Tm.step (l.drop j) = if Tm.wid (l.drop j) = 0 then 1 else Tm.wid (l.drop j) := rfl
      have hfew := HU.out.few
      have hz := HU.out.below.size
      have HX := Lib.hid (fun (v' : Value) (w1 : World) (o : Obj) => HU.out.next (v' := v') (w1 := w1) (o := o) hlt rfl)
      obtain ⟨k, Hk⟩ : ∃ k, Hid (Tm.step (l.drop j) = k) := ⟨_, rfl⟩
      rw [Hk.out] at hs1 hs2 hst HX
      have hcut : s.extract j (j + k) = strOf ((l.drop j).take k) := by rw [(T.cut j (j + k)).str, Nat.add_sub_cancel_left]
      have Hcut := Lib.hid hcut
      clear hcut
      by_cases hw : Tm.wid (l.drop j) = 0
      · rw [hw] at C
        rw [if_pos hw] at hst
        subst hst
        go_wp2_with fail
        refine C.out.mono ?_
        rintro e w1 ⟨rfl, rfl⟩
        go_wp2_with (at_builtin; refine wpList_append1 strT _ _ rfl rfl w.heap.size _ ps.length (strs ps) rfl rfl rfl HU.out.own (by omega) hz ?_; intro v' w1 ho1 hg1)
        rw [Hcut.out] at ho1
        go_roundw
        case rel => exact ⟨_, j + 1, by go_num, by omega, Lib.hid (HX.out v' w1 _ ho1 hg1)⟩
        case measure => simp [intOf]; omega
      · rw [if_neg hw] at hst
        rw [← hst] at C hw
        clear hst
        have hk0 : ¬ (k : Int) = 0 := by omega
        go_wp2_with fail
        refine C.out.mono ?_
        rintro e w1 ⟨rfl, rfl⟩
        go_wp2_with (at_builtin; refine wpList_append1 strT _ _ rfl rfl w.heap.size _ ps.length (strs ps) rfl rfl rfl HU.out.own (by omega) hz ?_; intro v' w1 ho1 hg1)
        rw [Hcut.out] at ho1
        go_roundw
        case rel => exact ⟨_, j + k, by go_num, by omega, Lib.hid (HX.out v' w1 _ ho1 hg1)⟩
        case measure => simp [intOf]; omega
    · have HX := Lib.hid (HU.out.done hlt)
      go_wp2_with fail
      go_ret
      refine ⟨_, rfl, ?_, HU.out.below⟩
      rw [← HX.out]
      exact HU.out.own

theorem own_cell' {w : World} {base t n c : Nat} {A : Option Addr} {xs : List Value} (h : w.ownsRow base t 1 (.slice A n c) n xs) {i : Nat} {u : Value} (hi : xs[i]? = some u) : ∃ g, A = some ⟨g, 0, none⟩ ∧ g < w.heap.size ∧ w.cell? ⟨g, i, none⟩ = some u := by
  obtain ⟨g, c', hv, _, _, h1, h2⟩ := own_cell h hi
  injection hv with hA _ _
  exact ⟨g, hA, h1, h2⟩
/-- the bytes of a part -/
theorem part_txt {l : List Nat} (hb : ∀ x ∈ l, x < 256) {p : List Nat} (hp : p ∈ Tm.parts l) : Txt (strOf p) p ∧ 0 < p.length ∧ p.length ≤ 4 := by
  obtain ⟨h1, h2, h3⟩ := Tm.parts_each l p hp
  refine ⟨Txt.of (fun x hx => hb x (h3 x hx)), List.length_pos_iff.2 h1, ?_⟩
  rw [h2]
  have := Tm.wid_le4 p
  unfold Tm.step; split <;> omega

set_option maxRecDepth 100000 in
set_option maxHeartbeats 800000 in
theorem validr_any {s : ByteArray} {l : List Nat} (T : Txt s l) (hl : l.length ≤ 10000000000) (w : World) :
    Calls Tryz.prog 85 #[.string s] w fun e w' => e = .returned (.bool (Tm.valid l)) ∧ Below w.heap.size w w' := by
  have hlen := Tm.parts_length_le l
  have C1 := Lib.hid (parts_any T hl w)
  have Hp := Lib.hid (fun p => part_txt (p := p) T.byte)
  obtain ⟨ps, Hps⟩ : ∃ ps, Hid (Tm.parts l = ps) := ⟨_, rfl⟩
  have Hval : Hid (Tm.valid l = ps.all fun p => decide (Tm.wid p ≠ 0)) := Lib.hid (by rw [← Hps.out]; rfl)
  rw [Hps.out] at C1 hlen Hp
  obtain ⟨n, Hn⟩ : ∃ n, Hid (ps.length = n) := ⟨_, rfl⟩
  rw [Hn.out] at C1 hlen
  clear T
  go_enter Tryz.func85, Tryz.ntmps85
  go_wp2_with fail
  refine C1.out.mono ?_
  rintro e w1 ⟨v, rfl, ho, hb⟩
  obtain ⟨A, c, rfl⟩ := own_shape ho
  have HO := Lib.hid ho
  have HB := Lib.hid hb
  clear ho hb C1
  go_wp2_with fail
  go_loopw [4] (fun vi wr => ∃ (i : Nat), vi = .int .i64 i ∧ i ≤ n ∧ wr = w1 ∧ Hid ((ps.take i).all (fun p => decide (Tm.wid p ≠ 0)) = true)) (fun vi _ => n - (intOf vi).toNat)
  case atStart => exact ⟨0, rfl, by omega, rfl, Lib.hid (by simp)⟩
  case round =>
    obtain ⟨i, rfl, hi, hwr, HI⟩ := hrel
    subst hwr
    by_cases hlt : i < n
    · have hip : i < ps.length := by rw [Hn.out]; exact hlt
      obtain ⟨g, rfl, hg, hc⟩ := own_cell' HO.out (strs_get hip)
      have hmem : ps[i] ∈ ps := List.getElem_mem hip
      have Htake : Hid (ps.take (i + 1) = ps.take i ++ [ps[i]]) := Lib.hid (List.take_succ_eq_append_getElem hip)
      generalize ps[i] = p at *
      obtain ⟨t1, t2, t3⟩ := Hp.out p hmem
      have C2 := Lib.hid (width_any t1 0 t2 (by omega) wr)
      rw [List.drop_zero] at C2
      clear t1
      by_cases hw : Tm.wid p = 0
      · rw [hw] at C2
        go_wp2_with fail
        refine C2.out.mono ?_
        rintro e w2 ⟨rfl, rfl⟩
        go_wp2_with fail
        go_ret
        refine ⟨ret_bool ?_, HB.out⟩
        rw [Hval.out]
        symm
        rw [List.all_eq_false]
        exact ⟨p, hmem, by simp [hw]⟩
      · have hw' : ¬ (Tm.wid p : Int) = 0 := by omega
        go_wp2_with fail
        refine C2.out.mono ?_
        rintro e w2 ⟨rfl, rfl⟩
        go_wp2_with fail
        go_roundw
        case rel => exact ⟨i + 1, by go_num, by omega, trivial, Lib.hid (by rw [Htake.out, List.all_append, HI.out]; simp [hw])⟩
        case measure => simp [intOf]; omega
    · go_wp2_with fail
      go_ret
      refine ⟨ret_bool ?_, HB.out⟩
      have h := HI.out
      rw [List.take_of_length_le (by rw [Hn.out]; omega)] at h
      rw [Hval.out, h]

end Go.Proofs.YtldjdoebappkoaaGreatDoor
