/- Texts Tm, Gm, Mv, St, Eq8, Same8, in one. -/
import Derived.Test.YtjomchehnlnfcaaPA
import Derived.Laws.RangeAny
import Derived.Lib.RuneCount
import Derived.Laws.StructEq
import Derived.BigQuiet
import Derived.Deep.QuietTactic
/- Plain mathematics of texts: runes, stray bytes, words. -/
namespace Go.Proofs.Ytjomchehnlnfcaa.Tm
open Go.Proofs.Ytjomchehnlnfcaa
set_option linter.unusedVariables false

/-- how many bytes a rune has that begins with these bytes, n being there; 0: a stray byte -/
def widN (c0 c1 c2 c3 n : Nat) : Nat :=
  if c0 < 128 then 1
  else if 194 ≤ c0 ∧ c0 ≤ 223 ∧ 2 ≤ n ∧ 128 ≤ c1 ∧ c1 ≤ 191 then 2
  else if 224 ≤ c0 ∧ c0 ≤ 239 ∧ 3 ≤ n ∧ 128 ≤ c1 ∧ c1 ≤ 191 ∧ 128 ≤ c2 ∧ c2 ≤ 191 ∧ ¬ (c0 = 224 ∧ c1 < 160) ∧ ¬ (c0 = 237 ∧ 159 < c1) then 3
  else if 240 ≤ c0 ∧ c0 ≤ 244 ∧ 4 ≤ n ∧ 128 ≤ c1 ∧ c1 ≤ 191 ∧ 128 ≤ c2 ∧ c2 ≤ 191 ∧ 128 ≤ c3 ∧ c3 ≤ 191 ∧ ¬ (c0 = 240 ∧ c1 < 144) ∧ ¬ (c0 = 244 ∧ 143 < c1) then 4
  else 0
def wid (l : List Nat) : Nat := widN (l.getD 0 0) (l.getD 1 0) (l.getD 2 0) (l.getD 3 0) l.length
def step (l : List Nat) : Nat := if wid l = 0 then 1 else wid l

theorem wid_le4 (l : List Nat) : wid l ≤ 4 := by unfold wid widN; (repeat' split) <;> omega
theorem wid_le {l : List Nat} (h : l ≠ []) : wid l ≤ l.length := by
  have h1 : 0 < l.length := List.length_pos_iff.2 h
  unfold wid widN; (repeat' split) <;> omega
theorem step_pos (l : List Nat) : 1 ≤ step l := by unfold step; split <;> omega
theorem step_le {l : List Nat} (h : l ≠ []) : step l ≤ l.length := by
  have h1 : 0 < l.length := List.length_pos_iff.2 h
  have := wid_le h
  unfold step; split <;> omega

abbrev Two (c0 c1 n : Nat) : Prop := 194 ≤ c0 ∧ c0 ≤ 223 ∧ 2 ≤ n ∧ 128 ≤ c1 ∧ c1 ≤ 191
abbrev Three (c0 c1 c2 n : Nat) : Prop := 224 ≤ c0 ∧ c0 ≤ 239 ∧ 3 ≤ n ∧ 128 ≤ c1 ∧ c1 ≤ 191 ∧ 128 ≤ c2 ∧ c2 ≤ 191 ∧ ¬ (c0 = 224 ∧ c1 < 160) ∧ ¬ (c0 = 237 ∧ 159 < c1)
abbrev Four (c0 c1 c2 c3 n : Nat) : Prop := 240 ≤ c0 ∧ c0 ≤ 244 ∧ 4 ≤ n ∧ 128 ≤ c1 ∧ c1 ≤ 191 ∧ 128 ≤ c2 ∧ c2 ≤ 191 ∧ 128 ≤ c3 ∧ c3 ≤ 191 ∧ ¬ (c0 = 240 ∧ c1 < 144) ∧ ¬ (c0 = 244 ∧ 143 < c1)
section
variable {c0 c1 c2 c3 n : Nat}
theorem widN_one (h : c0 < 128) : widN c0 c1 c2 c3 n = 1 := by unfold widN; rw [if_pos h]
theorem widN_two (h : Two c0 c1 n) : widN c0 c1 c2 c3 n = 2 := by
  unfold widN
  rw [if_neg (by have := h.1; omega), if_pos h]
theorem widN_three (h : Three c0 c1 c2 n) : widN c0 c1 c2 c3 n = 3 := by
  unfold widN
  rw [if_neg (by have := h.1; omega), if_neg (fun k => by have := h.1; have := k.2.1; omega), if_pos h]
theorem widN_four (h : Four c0 c1 c2 c3 n) : widN c0 c1 c2 c3 n = 4 := by
  unfold widN
  rw [if_neg (by have := h.1; omega), if_neg (fun k => by have := h.1; have := k.2.1; omega), if_neg (fun k => by have := h.1; have := k.2.1; omega), if_pos h]
theorem widN_cases : (widN c0 c1 c2 c3 n = 1 ∧ c0 < 128) ∨ (widN c0 c1 c2 c3 n = 2 ∧ Two c0 c1 n) ∨ (widN c0 c1 c2 c3 n = 3 ∧ Three c0 c1 c2 n) ∨ (widN c0 c1 c2 c3 n = 4 ∧ Four c0 c1 c2 c3 n) ∨ (widN c0 c1 c2 c3 n = 0 ∧ ¬ c0 < 128 ∧ ¬ Two c0 c1 n ∧ ¬ Three c0 c1 c2 n ∧ ¬ Four c0 c1 c2 c3 n) := by
  by_cases h1 : c0 < 128
  · exact .inl ⟨widN_one h1, h1⟩
  by_cases h2 : Two c0 c1 n
  · exact .inr (.inl ⟨widN_two h2, h2⟩)
  by_cases h3 : Three c0 c1 c2 n
  · exact .inr (.inr (.inl ⟨widN_three h3, h3⟩))
  by_cases h4 : Four c0 c1 c2 c3 n
  · exact .inr (.inr (.inr (.inl ⟨widN_four h4, h4⟩)))
  · refine .inr (.inr (.inr (.inr ⟨?_, h1, h2, h3, h4⟩)))
    unfold widN
    rw [if_neg h1, if_neg h2, if_neg h3, if_neg h4]
end
theorem wid_cases (l : List Nat) : (wid l = 1 ∧ l.getD 0 0 < 128) ∨ (wid l = 2 ∧ Two (l.getD 0 0) (l.getD 1 0) l.length) ∨ (wid l = 3 ∧ Three (l.getD 0 0) (l.getD 1 0) (l.getD 2 0) l.length) ∨ (wid l = 4 ∧ Four (l.getD 0 0) (l.getD 1 0) (l.getD 2 0) (l.getD 3 0) l.length) ∨
    (wid l = 0 ∧ ¬ l.getD 0 0 < 128 ∧ ¬ Two (l.getD 0 0) (l.getD 1 0) l.length ∧ ¬ Three (l.getD 0 0) (l.getD 1 0) (l.getD 2 0) l.length ∧ ¬ Four (l.getD 0 0) (l.getD 1 0) (l.getD 2 0) (l.getD 3 0) l.length) := widN_cases

theorem getD_append {l m : List Nat} {i : Nat} (h : i < l.length) : (l ++ m).getD i 0 = l.getD i 0 := by
  simp [List.getD, List.getElem?_append_left h]
theorem getD_take {l : List Nat} {i k : Nat} (h : i < k) : (l.take k).getD i 0 = l.getD i 0 := by
  simp [List.getD, List.getElem?_take_of_lt h]
theorem getD_out {l : List Nat} {i : Nat} (h : l.length ≤ i) : l.getD i 0 = 0 := by
  simp [List.getD, List.getElem?_eq_none h]

/-- a rune stays one whatever follows -/
theorem wid_append {p : List Nat} (t : List Nat) (hp : p ≠ []) (h : 0 < wid p) : wid (p ++ t) = wid p := by
  have h0 : 0 < p.length := List.length_pos_iff.2 hp
  have e0 : (p ++ t).getD 0 0 = p.getD 0 0 := getD_append h0
  have en : (p ++ t).length = p.length + t.length := List.length_append
  rcases wid_cases p with ⟨e, k⟩ | ⟨e, k⟩ | ⟨e, k⟩ | ⟨e, k⟩ | ⟨e, _⟩
  · rw [e]; exact widN_one (by rw [e0]; exact k)
  · rw [e]; refine widN_two ?_
    have := k.2.2.1
    rw [e0, en, getD_append (i := 1) (by omega)]
    exact ⟨k.1, k.2.1, by omega, k.2.2.2⟩
  · rw [e]; refine widN_three ?_
    have := k.2.2.1
    rw [e0, en, getD_append (i := 1) (by omega), getD_append (i := 2) (by omega)]
    exact ⟨k.1, k.2.1, by omega, k.2.2.2⟩
  · rw [e]; refine widN_four ?_
    have := k.2.2.1
    rw [e0, en, getD_append (i := 1) (by omega), getD_append (i := 2) (by omega), getD_append (i := 3) (by omega)]
    exact ⟨k.1, k.2.1, by omega, k.2.2.2⟩
  · omega
theorem wid_take {l : List Nat} {k : Nat} (h : 0 < wid l) (hk : wid l ≤ k) : wid (l.take k) = wid l := by
  have e0 : (l.take k).getD 0 0 = l.getD 0 0 := getD_take (by omega)
  have en : (l.take k).length = min k l.length := List.length_take
  rcases wid_cases l with ⟨e, q⟩ | ⟨e, q⟩ | ⟨e, q⟩ | ⟨e, q⟩ | ⟨e, _⟩
  · rw [e]; exact widN_one (by rw [e0]; exact q)
  · rw [e]; refine widN_two ?_
    have := q.2.2.1
    rw [e0, en, getD_take (i := 1) (by omega)]
    exact ⟨q.1, q.2.1, by omega, q.2.2.2⟩
  · rw [e]; refine widN_three ?_
    have := q.2.2.1
    rw [e0, en, getD_take (i := 1) (by omega), getD_take (i := 2) (by omega)]
    exact ⟨q.1, q.2.1, by omega, q.2.2.2⟩
  · rw [e]; refine widN_four ?_
    have := q.2.2.1
    rw [e0, en, getD_take (i := 1) (by omega), getD_take (i := 2) (by omega), getD_take (i := 3) (by omega)]
    exact ⟨q.1, q.2.1, by omega, q.2.2.2⟩
  · omega
theorem wid_stray {l : List Nat} {k : Nat} (h : wid l = 0) (hk : 0 < k) (hl : l ≠ []) : wid (l.take k) = 0 := by
  have hne : l.take k ≠ [] := by
    intro e
    have h1 := congrArg List.length e
    have h2 := List.length_pos_iff.2 hl
    rw [List.length_take, List.length_nil] at h1
    omega
  rcases Nat.eq_zero_or_pos (wid (l.take k)) with h1 | h1
  · exact h1
  · have := wid_append (l.drop k) hne h1
    rw [List.take_append_drop] at this
    omega
theorem wid_piece {l : List Nat} (hl : l ≠ []) : wid (l.take (step l)) = wid l := by
  unfold step
  split
  · rename_i h
    rw [h]; exact wid_stray h (by omega) hl
  · rename_i h
    exact wid_take (by omega) (Nat.le_refl _)
theorem step_piece {l : List Nat} (hl : l ≠ []) (k : Nat) (hk : step l ≤ k) : step (l.take k) = step l := by
  have hp := step_pos l
  rcases Nat.eq_zero_or_pos (wid l) with h | h
  · have := wid_stray h (show 0 < k by omega) hl
    simp [step, h, this]
  · have e : step l = wid l := by unfold step; rw [if_neg (by omega)]
    have := wid_take h (by omega : wid l ≤ k)
    simp [step, this]

/-! ### the runes and stray bytes of a text -/

def partsN : Nat → List Nat → List (List Nat)
  | 0, _ => []
  | f + 1, l => if l = [] then [] else l.take (step l) :: partsN f (l.drop (step l))
def parts (l : List Nat) : List (List Nat) := partsN l.length l

theorem partsN_nil (f : Nat) : partsN f [] = [] := by cases f <;> simp [partsN]
theorem drop_step {l : List Nat} (h : l ≠ []) : (l.drop (step l)).length < l.length := by
  have h1 : 0 < l.length := List.length_pos_iff.2 h
  have := step_pos l
  rw [List.length_drop]; omega
theorem partsN_more : ∀ (f g : Nat) (l : List Nat), l.length ≤ f → l.length ≤ g → partsN f l = partsN g l
  | 0, g, l, h, _ => by
    have : l = [] := List.eq_nil_of_length_eq_zero (by omega)
    subst this; simp [partsN_nil]
  | f + 1, 0, l, _, h => by
    have : l = [] := List.eq_nil_of_length_eq_zero (by omega)
    subst this; simp [partsN_nil]
  | f + 1, g + 1, l, h1, h2 => by
    unfold partsN
    split
    · rfl
    · rename_i h
      have := drop_step h
      rw [partsN_more f g _ (by omega) (by omega)]
theorem parts_nil : parts [] = [] := rfl
theorem parts_step {l : List Nat} (h : l ≠ []) : parts l = l.take (step l) :: parts (l.drop (step l)) := by
  have hd := drop_step h
  unfold parts
  obtain ⟨n, hn⟩ : ∃ n, l.length = n + 1 := ⟨l.length - 1, by omega⟩
  rw [hn]
  conv => lhs; unfold partsN
  rw [if_neg h, partsN_more n _ _ (by omega) (Nat.le_refl _)]
/-- induction along the parts -/
theorem parts_ind {P : List Nat → Prop} (h0 : P []) (h1 : ∀ l, l ≠ [] → P (l.drop (step l)) → P l) : ∀ l, P l := by
  have : ∀ (n : Nat) l, l.length ≤ n → P l := by
    intro n
    induction n with
    | zero => intro l hl; rw [List.eq_nil_of_length_eq_zero (by omega : l.length = 0)]; exact h0
    | succ n ih =>
      intro l hl
      by_cases h : l = []
      · rw [h]; exact h0
      · have := drop_step h
        exact h1 l h (ih _ (by omega))
  exact fun l => this l.length l (Nat.le_refl _)
theorem parts_flatten (l : List Nat) : (parts l).flatten = l := by
  refine parts_ind (P := fun l => (parts l).flatten = l) rfl (fun l h ih => ?_) l
  rw [parts_step h, List.flatten_cons, ih, List.take_append_drop]
theorem parts_length_le (l : List Nat) : (parts l).length ≤ l.length := by
  refine parts_ind (P := fun l => (parts l).length ≤ l.length) (by simp [parts_nil]) (fun l h ih => ?_) l
  have := drop_step h
  rw [parts_step h, List.length_cons]; omega
/-- each part is a rune or a stray byte -/
theorem parts_each (l : List Nat) : ∀ p ∈ parts l, p ≠ [] ∧ p.length = step p ∧ ∀ x ∈ p, x ∈ l := by
  refine parts_ind (P := fun l => ∀ p ∈ parts l, p ≠ [] ∧ p.length = step p ∧ ∀ x ∈ p, x ∈ l) (by simp [parts_nil]) (fun l h ih p hp => ?_) l
  rw [parts_step h] at hp
  rcases List.mem_cons.1 hp with rfl | hp
  · have h1 := step_le h
    have h2 := step_pos l
    refine ⟨?_, ?_, fun x hx => List.mem_of_mem_take hx⟩
    · intro e
      have := congrArg List.length e
      rw [List.length_take, List.length_nil] at this; omega
    · rw [step_piece h _ (Nat.le_refl _), List.length_take]; omega
  · obtain ⟨a, b, c⟩ := ih p hp
    exact ⟨a, b, fun x hx => List.mem_of_mem_drop (c x hx)⟩

/-- the parts of the first n parts -/
theorem parts_take (l : List Nat) : ∀ n, parts ((parts l).take n).flatten = (parts l).take n := by
  refine parts_ind (P := fun l => ∀ n, parts ((parts l).take n).flatten = (parts l).take n) (by simp [parts_nil]) (fun l h ih n => ?_) l
  cases n with
  | zero => simp [parts_nil]
  | succ n =>
    have hs := step_le h
    have hp := step_pos l
    rw [parts_step h, List.take_succ_cons, List.flatten_cons]
    have e : ((parts (l.drop (step l))).take n).flatten = (l.drop (step l)).take ((parts (l.drop (step l))).take n).flatten.length := by
      conv => rhs; rhs; rw [← parts_flatten (l.drop (step l)), ← List.take_append_drop n (parts (l.drop (step l))), List.flatten_append]
      rw [List.take_left]
    generalize hF : ((parts (l.drop (step l))).take n).flatten = F at *
    have e2 : l.take (step l) ++ F = l.take (step l + F.length) := by
      rw [List.take_add, ← e]
    have hne : l.take (step l) ++ F ≠ [] := by
      intro e3
      have := congrArg List.length e3
      rw [List.length_append, List.length_take, List.length_nil] at this; omega
    have hst : step (l.take (step l) ++ F) = step l := by rw [e2, step_piece h _ (by omega)]
    have hlen : (l.take (step l)).length = step l := by rw [List.length_take]; omega
    rw [parts_step hne, hst, List.take_append_of_le_length (by omega), List.drop_append_of_le_length (by omega)]
    rw [List.take_of_length_le (by omega), List.drop_eq_nil_of_le (by omega), List.nil_append, ← hF, ih n]

/-! ### the answers -/

def valid (l : List Nat) : Bool := (parts l).all fun p => decide (wid p ≠ 0)
def clip (l : List Nat) (n : Int) : List Nat := ((parts l).take n.toNat).flatten
theorem valid_step {l : List Nat} (h : l ≠ []) : valid l = (decide (wid l ≠ 0) && valid (l.drop (step l))) := by
  unfold valid; rw [parts_step h, List.all_cons, wid_piece h]
theorem clip_mem {l : List Nat} {n : Int} {x : Nat} (h : x ∈ clip l n) : x ∈ l := by
  unfold clip at h
  rw [← parts_flatten l]
  obtain ⟨p, hp, hx⟩ := List.mem_flatten.1 h
  exact List.mem_flatten.2 ⟨p, List.mem_of_mem_take hp, hx⟩
theorem clip_count (l : List Nat) (n : Int) : (parts (clip l n)).length = min n.toNat (parts l).length := by
  unfold clip; rw [parts_take, List.length_take]

/-- a digit of base 16 -/
def hex (d : Nat) : Nat := if d < 10 then 48 + d else 87 + d
/-- is it left as it is? -/
def left (p : List Nat) : Bool := decide (32 < p.getD 0 0 ∧ p.getD 0 0 ≠ 127 ∧ p.getD 0 0 ≠ 37 ∧ 0 < wid p)
def word1 (p : List Nat) : List Nat := if left p = true then p else [37, hex (p.getD 0 0 / 16), hex (p.getD 0 0 % 16)]
def words (l : List Nat) : List Nat := ((parts l).map word1).flatten
def quote (l : List Nat) : List Nat := if l = [] then [37] else words l
theorem words_step {l : List Nat} (h : l ≠ []) : words l = word1 (l.take (step l)) ++ words (l.drop (step l)) := by
  unfold words; rw [parts_step h, List.map_cons, List.flatten_cons]
theorem words_nil : words [] = [] := rfl

theorem hex_facts {d : Nat} (h : d < 16) : (48 ≤ hex d ∧ hex d ≤ 57 ∧ hex d = d + 48) ∨ (97 ≤ hex d ∧ hex d ≤ 102 ∧ hex d = d + 87) := by
  unfold hex; split <;> omega
/-- the bytes of a rune that is left are no marks -/
theorem rune_bytes {p : List Nat} (hp : p.length = step p) (hl : left p = true) : ∀ x ∈ p, 32 < x ∧ x ≠ 127 ∧ x ≠ 37 := by
  have hl := of_decide_eq_true hl
  have hst : step p = wid p := by unfold step; rw [if_neg (by omega)]
  rw [hst] at hp
  intro x hx
  obtain ⟨i, hi, rfl⟩ := List.getElem_of_mem hx
  have hg : p[i] = p.getD i 0 := by simp [List.getD, List.getElem?_eq_getElem hi]
  rw [hg]
  obtain ⟨h1, h2, h3, h4⟩ := hl
  have hi4 : i = 0 ∨ i = 1 ∨ i = 2 ∨ i = 3 := by have := wid_le4 p; omega
  rcases wid_cases p with ⟨e, q⟩ | ⟨e, q⟩ | ⟨e, q⟩ | ⟨e, q⟩ | ⟨e, _⟩ <;> rcases hi4 with rfl | rfl | rfl | rfl <;> first | exact ⟨h1, h2, h3⟩ | omega
theorem word1_byte {p : List Nat} (hp : ∀ x ∈ p, x < 256) : ∀ x ∈ word1 p, x < 256 := by
  unfold word1
  split
  · exact hp
  · have h0 := getD_lt hp 0
    have a := hex_facts (show p.getD 0 0 / 16 < 16 by omega)
    have b := hex_facts (show p.getD 0 0 % 16 < 16 by omega)
    intro x hx
    simp only [List.mem_cons, List.not_mem_nil, or_false] at hx
    omega
theorem words_byte {l : List Nat} (hl : ∀ x ∈ l, x < 256) : ∀ x ∈ words l, x < 256 := by
  intro x hx
  obtain ⟨q, hq, hx⟩ := List.mem_flatten.1 hx
  obtain ⟨p, hp, rfl⟩ := List.mem_map.1 hq
  exact word1_byte (fun y hy => hl y ((parts_each l p hp).2.2 y hy)) x hx
theorem quote_byte {l : List Nat} (hl : ∀ x ∈ l, x < 256) : ∀ x ∈ quote l, x < 256 := by
  unfold quote
  split
  · intro x hx; simp at hx; omega
  · exact words_byte hl
theorem words_seen {l : List Nat} (hl : ∀ x ∈ l, x < 256) : ∀ x ∈ words l, 32 < x ∧ x ≠ 127 := by
  intro x hx
  obtain ⟨q, hq, hx⟩ := List.mem_flatten.1 hx
  obtain ⟨p, hp, rfl⟩ := List.mem_map.1 hq
  obtain ⟨h1, h2, h3⟩ := parts_each l p hp
  unfold word1 at hx
  split at hx
  · rename_i h
    have := rune_bytes h2 h x hx; omega
  · have h0 : p.getD 0 0 < 256 := getD_lt (fun y hy => hl y (h3 y hy)) 0
    have a := hex_facts (show p.getD 0 0 / 16 < 16 by omega)
    have b := hex_facts (show p.getD 0 0 % 16 < 16 by omega)
    simp only [List.mem_cons, List.not_mem_nil, or_false] at hx
    omega
theorem quote_seen {l : List Nat} (hl : ∀ x ∈ l, x < 256) : ∀ x ∈ quote l, 32 < x ∧ x ≠ 127 := by
  unfold quote
  split
  · intro x hx; simp at hx; omega
  · exact words_seen hl
theorem word1_length (p : List Nat) (h : p.length = step p) : 1 ≤ (word1 p).length ∧ (word1 p).length ≤ 4 := by
  have h1 := step_pos p
  have h2 := wid_le4 p
  have h3 : step p ≤ 4 := by unfold step; split <;> omega
  unfold word1
  split
  · omega
  · simp
theorem words_length (l : List Nat) : (words l).length ≤ 4 * l.length := by
  refine parts_ind (P := fun l => (words l).length ≤ 4 * l.length) (by simp [words_nil]) (fun l h ih => ?_) l
  have hd := drop_step h
  have := (word1_length (l.take (step l)) (by rw [step_piece h _ (Nat.le_refl _), List.length_take]; have := step_le h; omega)).2
  rw [words_step h, List.length_append]; omega
theorem quote_ne (l : List Nat) : quote l ≠ [] := by
  unfold quote
  split
  · simp
  · rename_i h
    rw [words_step h]
    have := (word1_length (l.take (step l)) (by rw [step_piece h _ (Nat.le_refl _), List.length_take]; have := step_le h; omega)).1
    intro e
    have := congrArg List.length e
    rw [List.length_append, List.length_nil] at this; omega

/-! ### back -/

/-- the value of a digit; 16: it is none -/
def digit (c : Nat) : Nat := if 48 ≤ c ∧ c ≤ 57 then c - 48 else if 97 ≤ c ∧ c ≤ 102 then c - 87 else 16
theorem digit_hex {d : Nat} (h : d < 16) : digit (hex d) = d := by
  have := hex_facts h
  unfold digit; split
  · omega
  · split <;> omega
theorem digit_le (c : Nat) : digit c ≤ 16 := by unfold digit; (repeat' split) <;> omega
/-- each mark followed by two digits is read; any other mark: nothing is told -/
def unmark : List Nat → Option (List Nat)
  | [] => some []
  | c :: r =>
    if c ≠ 37 then (unmark r).map (c :: ·)
    else match r with
      | h :: k :: t => if digit h < 16 ∧ digit k < 16 then (unmark t).map ((16 * digit h + digit k) :: ·) else none
      | _ => none
/-- the same, any other mark being left -/
def lenient : List Nat → List Nat
  | [] => []
  | c :: r =>
    if c ≠ 37 then c :: lenient r
    else match r with
      | h :: k :: t => if digit h < 16 ∧ digit k < 16 then (16 * digit h + digit k) :: lenient t else c :: lenient (h :: k :: t)
      | t => c :: lenient t
/-- no two digits are at hand -/
def Bad (r : List Nat) : Prop := ∀ a b t, r = a :: b :: t → ¬ (digit a < 16 ∧ digit b < 16)
theorem unmark_nil : unmark [] = some [] := by simp [unmark]
theorem unmark_other {c : Nat} (r : List Nat) (h : c ≠ 37) : unmark (c :: r) = (unmark r).map (c :: ·) := by
  cases r with
  | nil => simp [unmark, h]
  | cons a t => cases t <;> simp [unmark, h]
theorem unmark_mark {a b : Nat} (r : List Nat) (ha : digit a < 16) (hb : digit b < 16) : unmark (37 :: a :: b :: r) = (unmark r).map ((16 * digit a + digit b) :: ·) := by
  simp [unmark, ha, hb]
theorem unmark_bad {r : List Nat} (h : Bad r) : unmark (37 :: r) = none := by
  cases r with
  | nil => simp [unmark]
  | cons a t =>
    cases t with
    | nil => simp [unmark]
    | cons b t =>
      have := h a b t rfl
      rw [unmark]
      simp only [ne_eq, not_true_eq_false, if_false, if_neg this]
theorem lenient_nil : lenient [] = [] := by simp [lenient]
theorem lenient_other {c : Nat} (r : List Nat) (h : c ≠ 37) : lenient (c :: r) = c :: lenient r := by
  cases r with
  | nil => simp [lenient, h]
  | cons a t => cases t <;> simp [lenient, h]
theorem lenient_mark {a b : Nat} (r : List Nat) (ha : digit a < 16) (hb : digit b < 16) : lenient (37 :: a :: b :: r) = (16 * digit a + digit b) :: lenient r := by
  simp [lenient, ha, hb]
theorem lenient_bad {r : List Nat} (h : Bad r) : lenient (37 :: r) = 37 :: lenient r := by
  cases r with
  | nil => simp [lenient]
  | cons a t =>
    cases t with
    | nil => simp [lenient]
    | cons b t =>
      have := h a b t rfl
      rw [lenient]
      simp only [ne_eq, not_true_eq_false, if_false, if_neg this]
theorem mark_ind {P : List Nat → Prop} (h0 : P []) (h1 : ∀ c r, c ≠ 37 → P r → P (c :: r)) (h2 : ∀ a b t, digit a < 16 → digit b < 16 → P t → P (37 :: a :: b :: t)) (h3 : ∀ r, Bad r → P r → P (37 :: r)) : ∀ l, P l := by
  have : ∀ (n : Nat) l, l.length ≤ n → P l := by
    intro n
    induction n with
    | zero => intro l hl; rw [List.eq_nil_of_length_eq_zero (by omega : l.length = 0)]; exact h0
    | succ n ih =>
      intro l hl
      cases l with
      | nil => exact h0
      | cons c r =>
        rw [List.length_cons] at hl
        by_cases hc : c = 37
        · subst hc
          by_cases hb : Bad r
          · exact h3 r hb (ih r (by omega))
          · unfold Bad at hb
            simp only [Classical.not_forall, Classical.not_not] at hb
            obtain ⟨a, b, t, rfl, ha, hb⟩ := hb
            rw [List.length_cons, List.length_cons] at hl
            exact h2 a b t ha hb (ih t (by omega))
        · exact h1 c r hc (ih r (by omega))
  exact fun l => this l.length l (Nat.le_refl _)
theorem unmark_plain {p : List Nat} (r : List Nat) (h : ∀ x ∈ p, x ≠ 37) : unmark (p ++ r) = (unmark r).map (p ++ ·) := by
  induction p with
  | nil => simp
  | cons c p ih =>
    rw [List.cons_append, unmark_other _ (h c (by simp)), ih (fun x hx => h x (by simp [hx]))]
    cases unmark r <;> simp
theorem unmark_words {l : List Nat} (hl : ∀ x ∈ l, x < 256) : unmark (words l) = some l := by
  refine parts_ind (P := fun l => (∀ x ∈ l, x < 256) → unmark (words l) = some l) (fun _ => by simp [words_nil, unmark]) (fun l h ih hl => ?_) l hl
  have ih := ih (fun x hx => hl x (List.mem_of_mem_drop hx))
  have hs := step_le h
  have hp := step_pos l
  have hlen : (l.take (step l)).length = step l := by rw [List.length_take]; omega
  have hst := step_piece h _ (Nat.le_refl (step l))
  rw [words_step h]
  unfold word1
  split
  · rename_i hle
    rw [unmark_plain _ (fun x hx => (rune_bytes (by omega) hle x hx).2.2), ih]
    simp
  · rename_i hle
    have h0 : (l.take (step l)).getD 0 0 = l.getD 0 0 := getD_take hp
    have hlt : l.getD 0 0 < 256 := getD_lt hl 0
    rw [h0]
    have e1 := digit_hex (show l.getD 0 0 / 16 < 16 by omega)
    have e2 := digit_hex (show l.getD 0 0 % 16 < 16 by omega)
    show unmark (37 :: hex (l.getD 0 0 / 16) :: hex (l.getD 0 0 % 16) :: words (l.drop (step l))) = _
    rw [unmark_mark _ (by omega) (by omega), ih, e1, e2, show 16 * (l.getD 0 0 / 16) + l.getD 0 0 % 16 = l.getD 0 0 by omega]
    -- a part that is not left has one byte
    have hone : step l = 1 := by
      unfold step
      split
      · rfl
      · rename_i hw
        have hw2 := wid_piece h
        have : ¬ (32 < l.getD 0 0 ∧ l.getD 0 0 ≠ 127 ∧ l.getD 0 0 ≠ 37) := by
          intro hh
          apply hle
          unfold left
          rw [decide_eq_true_iff, h0, hw2]
          omega
        unfold wid widN
        rw [if_pos (by omega)]
    rw [hone]
    cases l with
    | nil => exact absurd rfl h
    | cons c r => simp
theorem lenient_of : ∀ (w p : List Nat), unmark w = some p → lenient w = p := by
  refine mark_ind ?_ ?_ ?_ ?_
  · intro p h; rw [unmark_nil] at h; cases h; exact lenient_nil
  · intro c r hc ih p h
    rw [unmark_other r hc] at h
    obtain ⟨q, hq, rfl⟩ := Option.map_eq_some_iff.1 h
    rw [lenient_other r hc, ih q hq]
  · intro a b t ha hb ih p h
    rw [unmark_mark t ha hb] at h
    obtain ⟨q, hq, rfl⟩ := Option.map_eq_some_iff.1 h
    rw [lenient_mark t ha hb, ih q hq]
  · intro r hb ih p h
    rw [unmark_bad hb] at h
    cases h
theorem lenient_byte : ∀ (w : List Nat), (∀ x ∈ w, x < 256) → ∀ x ∈ lenient w, x < 256 := by
  refine mark_ind ?_ ?_ ?_ ?_
  · intro _; rw [lenient_nil]; simp
  · intro c r hc ih hw
    rw [lenient_other r hc]
    intro x hx
    rcases List.mem_cons.1 hx with rfl | hx
    · exact hw x (by simp)
    · exact ih (fun y hy => hw y (by simp [hy])) x hx
  · intro a b t ha hb ih hw
    rw [lenient_mark t ha hb]
    intro x hx
    rcases List.mem_cons.1 hx with rfl | hx
    · omega
    · exact ih (fun y hy => hw y (by simp [hy])) x hx
  · intro r hb ih hw
    rw [lenient_bad hb]
    intro x hx
    rcases List.mem_cons.1 hx with rfl | hx
    · omega
    · exact ih (fun y hy => hw y (by simp [hy])) x hx
theorem lenient_length : ∀ (w : List Nat), (lenient w).length ≤ w.length := by
  refine mark_ind ?_ ?_ ?_ ?_
  · rw [lenient_nil]; simp
  · intro c r hc ih; rw [lenient_other r hc]; simpa using ih
  · intro a b t ha hb ih; rw [lenient_mark t ha hb]; simp; omega
  · intro r hb ih; rw [lenient_bad hb]; simpa using ih
theorem unmark_byte {w p : List Nat} (hw : ∀ x ∈ w, x < 256) (h : unmark w = some p) : ∀ x ∈ p, x < 256 := by
  rw [← lenient_of w p h]; exact lenient_byte w hw
theorem unmark_length {w p : List Nat} (h : unmark w = some p) : p.length ≤ w.length := by rw [← lenient_of w p h]; exact lenient_length w
/-- the text of a word, and an error's number -/
def unquote (w : List Nat) : List Nat × Nat :=
  if w = [37] then ([], 0)
  else match unmark w with
    | some p => if quote p = w then (p, 0) else ([], 3)
    | none => ([], 3)
theorem quote_mark {l : List Nat} (hl : ∀ x ∈ l, x < 256) (h : l ≠ []) : quote l ≠ [37] := by
  intro e
  unfold quote at e
  rw [if_neg h] at e
  have := unmark_words hl
  rw [e, unmark_bad (fun a b t h => by cases h)] at this
  cases this
theorem unquote_quote {l : List Nat} (hl : ∀ x ∈ l, x < 256) : unquote (quote l) = (l, 0) := by
  by_cases h : l = []
  · subst h; rfl
  · have h1 := quote_mark hl h
    have h2 : quote l = words l := by unfold quote; rw [if_neg h]
    unfold unquote
    rw [if_neg h1, h2, unmark_words hl]
    simp [h2]
theorem unquote_ok {w : List Nat} (h : (unquote w).2 = 0) : quote (unquote w).1 = w := by
  unfold unquote at h ⊢
  split
  · rename_i e; rw [e]; rfl
  · rename_i e
    rw [if_neg e] at h
    split
    · rename_i p hp
      rw [hp] at h
      simp only at h
      split
      · rename_i e2; exact e2
      · rename_i e2; rw [if_neg e2] at h; cases h
    · rename_i hp
      rw [hp] at h
      simp at h
theorem unquote_byte {w : List Nat} (hw : ∀ x ∈ w, x < 256) : ∀ x ∈ (unquote w).1, x < 256 := by
  unfold unquote
  split
  · simp
  · split
    · rename_i p hp
      split
      · exact unmark_byte hw hp
      · simp
    · simp
/-- the reference's way to the same answer -/
theorem unquote_lenient {w : List Nat} (hw : ∀ x ∈ w, x < 256) (h37 : w ≠ [37]) : unquote w = if quote (lenient w) = w then (lenient w, 0) else ([], 3) := by
  unfold unquote
  rw [if_neg h37]
  cases hu : unmark w with
  | some p => rw [lenient_of w p hu]
  | none =>
    rw [if_neg]
    intro e
    have hne : lenient w ≠ [] := by
      intro e2
      rw [e2] at e
      exact h37 (by rw [← e]; rfl)
    have h2 : quote (lenient w) = words (lenient w) := by unfold quote; rw [if_neg hne]
    have := unmark_words (lenient_byte w hw)
    rw [← h2, e, hu] at this
    cases this
end Go.Proofs.Ytjomchehnlnfcaa.Tm
/- Plain mathematics of messages: which fields a kind has, keys, what is bare, the same, right. -/
namespace Go.Proofs.Ytjomchehnlnfcaa
open Go.RowKit
set_option linter.unusedVariables false
namespace Gm

/-- a message -/
structure Ms where
  kind : Int
  rid : Nat
  code : Nat
  has : Bool
  id : Nat
  key : ByteArray
  val : ByteArray
  pid : Nat
  pad : Nat
  peers : List (Nat × Nat)
  pairs : List (ByteArray × ByteArray)

/-- chapter 8: a key -/
def isKey (s : ByteArray) : Bool := decide (0 < s.size) && decide (s.size ≤ 96) && Tm.valid (nums s) && decide ((Tm.parts (nums s)).length ≤ 32)

def oCode (m : Ms) : Bool := decide (m.kind = 12)
def oHas (m : Ms) : Bool := decide (m.kind = 2 ∨ m.kind = 4 ∨ m.kind = 9 ∨ m.kind = 10)
def oId (m : Ms) : Bool := decide (m.kind = 1)
def oPeer (m : Ms) : Bool := decide (m.kind = 5) || (decide (m.kind = 4) && m.has)
def oPeers (m : Ms) : Bool := decide (m.kind = 2 ∨ m.kind = 4)
def oKey (m : Ms) : Bool := decide (m.kind = 7 ∨ m.kind = 8)
def oVal (m : Ms) : Bool := decide (m.kind = 7) || (decide (m.kind = 9) && m.has)
def oPairs (m : Ms) : Bool := decide (m.kind = 10)
def known (k : Int) : Bool := decide (0 < k) && decide (k < 13)

/-- only if -/
def oi {α : Type} (b : Bool) (x z : α) : α := bif b then x else z
theorem oi_true {α : Type} (x z : α) : oi true x z = x := rfl
theorem oi_false {α : Type} (x z : α) : oi false x z = z := rfl
theorem oi_oi {α : Type} (b : Bool) (x z : α) : oi b (oi b x z) z = oi b x z := by cases b <;> rfl

/-- a message without what its kind does not have -/
def bareBy (c h i p ps k v pr : Bool) (m : Ms) : Ms where
  kind := m.kind
  rid := m.rid
  code := oi c m.code 0
  has := oi h m.has false
  id := oi i m.id 0
  key := oi k m.key ⟨#[]⟩
  val := oi v m.val ⟨#[]⟩
  pid := oi p m.pid 0
  pad := oi p m.pad 0
  peers := oi ps m.peers []
  pairs := oi pr m.pairs []
def bare (m : Ms) : Ms := bareBy (oCode m) (oHas m) (oId m) (oPeer m) (oPeers m) (oKey m) (oVal m) (oPairs m) m

/-- all fields but the lists -/
def same1 (a b : Ms) : Bool := decide (a.kind = b.kind) && decide (a.rid = b.rid) && decide (a.code = b.code) && decide (a.has = b.has) && decide (a.id = b.id) && decide (a.key = b.key) && decide (a.val = b.val) && (decide (a.pid = b.pid) && decide (a.pad = b.pad))
def same (a b : Ms) : Bool := same1 a b && decide (a.peers = b.peers) && decide (a.pairs = b.pairs)
theorem same_iff {a b : Ms} : same a b = true ↔ a = b := by
  cases a; cases b
  simp [same, same1, and_assoc]
theorem same_refl (a : Ms) : same a a = true := same_iff.2 rfl

def isLong (m : Ms) : Bool := decide (512 < m.val.size) || decide (16 < m.peers.length) || decide (8 < m.pairs.length) || m.pairs.any fun p => decide (512 < p.2.size)
def isShort (m : Ms) : Bool := (decide (m.kind = 2) && decide (m.peers.length = 0)) || (decide (m.kind = 10) && decide (m.pairs.length = 0)) || (decide (m.kind = 12) && decide (m.code = 0))
def badKey (m : Ms) : Bool := (oKey m && !isKey m.key) || m.pairs.any fun p => !isKey p.1
/-- chapter 8: whether a message may be, and why not -/
def right (m : Ms) : Nat :=
  bif !known m.kind then 9 else bif !same m (bare m) then 1 else bif badKey m then 7 else bif isLong m then 5 else bif isShort m then 2 else 0

theorem o_bare (m : Ms) : oCode (bare m) = oCode m ∧ oHas (bare m) = oHas m ∧ oId (bare m) = oId m ∧ oPeer (bare m) = oPeer m ∧ oPeers (bare m) = oPeers m ∧ oKey (bare m) = oKey m ∧ oVal (bare m) = oVal m ∧ oPairs (bare m) = oPairs m := by
  refine ⟨rfl, rfl, rfl, ?_, rfl, rfl, ?_, rfl⟩
  · show (decide (m.kind = 5) || (decide (m.kind = 4) && oi (oHas m) m.has false)) = (decide (m.kind = 5) || (decide (m.kind = 4) && m.has))
    unfold oHas
    by_cases h : m.kind = 4
    · simp [h, oi_true]
    · simp [h]
  · show (decide (m.kind = 7) || (decide (m.kind = 9) && oi (oHas m) m.has false)) = (decide (m.kind = 7) || (decide (m.kind = 9) && m.has))
    unfold oHas
    by_cases h : m.kind = 9
    · simp [h, oi_true]
    · simp [h]
theorem bare_bare (m : Ms) : bare (bare m) = bare m := by
  obtain ⟨h1, h2, h3, h4, h5, h6, h7, h8⟩ := o_bare m
  have e : bare (bare m) = bareBy (oCode (bare m)) (oHas (bare m)) (oId (bare m)) (oPeer (bare m)) (oPeers (bare m)) (oKey (bare m)) (oVal (bare m)) (oPairs (bare m)) (bare m) := rfl
  rw [e, h1, h2, h3, h4, h5, h6, h7, h8]
  unfold bare bareBy
  simp only [oi_oi]
theorem right_bare (m : Ms) : right (bare m) ≠ 1 := by
  unfold right
  rw [bare_bare, same_refl]
  simp only [cond_eq_ite]
  repeat' split
  all_goals simp_all
theorem right_zero {m : Ms} (h : right m = 0) : same m (bare m) = true := by
  unfold right at h
  cases hk : known m.kind <;> cases hs : same m (bare m) <;> simp_all

/-! ### sets of fields as numbers -/
def mask (c h i p ps k v pr : Bool) : Nat := c.toNat + 2 * h.toNat + 4 * i.toNat + 8 * p.toNat + 16 * ps.toNat + 32 * k.toNat + 64 * v.toNat + 128 * pr.toNat
def own (m : Ms) : Nat := mask (oCode m) (oHas m) (oId m) (oPeer m) (oPeers m) (oKey m) (oVal m) (oPairs m)
def uCode (m : Ms) : Bool := !decide (m.code = 0)
def uId (m : Ms) : Bool := !decide (m.id = 0)
def uPeer (m : Ms) : Bool := !(decide (m.pid = 0) && decide (m.pad = 0))
def uPeers (m : Ms) : Bool := decide (0 < m.peers.length)
def uKey (m : Ms) : Bool := !decide (m.key = ⟨#[]⟩)
def uVal (m : Ms) : Bool := !decide (m.val = ⟨#[]⟩)
def uPairs (m : Ms) : Bool := decide (0 < m.pairs.length)
def used (m : Ms) : Nat := mask (uCode m) m.has (uId m) (uPeer m) (uPeers m) (uKey m) (uVal m) (uPairs m)
theorem mask_lt (c h i p ps k v pr : Bool) : mask c h i p ps k v pr < 256 := by
  cases c <;> cases h <;> cases i <;> cases p <;> cases ps <;> cases k <;> cases v <;> cases pr <;> decide
theorem mask_bits (c h i p ps k v pr : Bool) :
    bits .and .u16 ((mask c h i p ps k v pr : Nat) : Int) 1 = ((c.toNat : Nat) : Int) ∧ bits .and .u16 ((mask c h i p ps k v pr : Nat) : Int) 2 = ((2 * h.toNat : Nat) : Int) ∧ bits .and .u16 ((mask c h i p ps k v pr : Nat) : Int) 4 = ((4 * i.toNat : Nat) : Int) ∧
    bits .and .u16 ((mask c h i p ps k v pr : Nat) : Int) 8 = ((8 * p.toNat : Nat) : Int) ∧ bits .and .u16 ((mask c h i p ps k v pr : Nat) : Int) 16 = ((16 * ps.toNat : Nat) : Int) ∧ bits .and .u16 ((mask c h i p ps k v pr : Nat) : Int) 32 = ((32 * k.toNat : Nat) : Int) ∧
    bits .and .u16 ((mask c h i p ps k v pr : Nat) : Int) 64 = ((64 * v.toNat : Nat) : Int) ∧ bits .and .u16 ((mask c h i p ps k v pr : Nat) : Int) 128 = ((128 * pr.toNat : Nat) : Int) := by
  revert c h i p ps k v pr
  decide +kernel

theorem own_cases (m : Ms) : (oCode m, oHas m, oId m, oPeer m, oPeers m, oKey m, oVal m, oPairs m) ∈ ([(false, false, false, false, false, false, false, false), (false, false, true, false, false, false, false, false), (false, true, false, false, true, false, false, false),
    (false, true, false, false, true, false, false, false), (false, true, false, true, true, false, false, false), (false, false, false, true, false, false, false, false), (false, false, false, false, false, true, true, false), (false, false, false, false, false, true, false, false),
    (false, true, false, false, false, false, false, false), (false, true, false, false, false, false, true, false), (false, true, false, false, false, false, false, true), (true, false, false, false, false, false, false, false)] : List (Bool × Bool × Bool × Bool × Bool × Bool × Bool × Bool)) := by
  have hc : m.kind = 1 ∨ m.kind = 2 ∨ m.kind = 4 ∨ m.kind = 5 ∨ m.kind = 7 ∨ m.kind = 8 ∨ m.kind = 9 ∨ m.kind = 10 ∨ m.kind = 12 ∨ (m.kind ≠ 1 ∧ m.kind ≠ 2 ∧ m.kind ≠ 4 ∧ m.kind ≠ 5 ∧ m.kind ≠ 7 ∧ m.kind ≠ 8 ∧ m.kind ≠ 9 ∧ m.kind ≠ 10 ∧ m.kind ≠ 12) := by omega
  unfold oCode oHas oId oPeer oPeers oKey oVal oPairs
  rcases hc with h | h | h | h | h | h | h | h | h | ⟨h1, h2, h4, h5, h7, h8, h9, h10, h12⟩
  case inr => simp_all
  all_goals (rw [h]; cases m.has <;> decide)
theorem andNot_table : ∀ o ∈ ([(false, false, false, false, false, false, false, false), (false, false, true, false, false, false, false, false), (false, true, false, false, true, false, false, false),
    (false, true, false, false, true, false, false, false), (false, true, false, true, true, false, false, false), (false, false, false, true, false, false, false, false), (false, false, false, false, false, true, true, false), (false, false, false, false, false, true, false, false),
    (false, true, false, false, false, false, false, false), (false, true, false, false, false, false, true, false), (false, true, false, false, false, false, false, true), (true, false, false, false, false, false, false, false)] : List (Bool × Bool × Bool × Bool × Bool × Bool × Bool × Bool)),
    ∀ c h i p ps k v pr : Bool, bits .andNot .u16 ((mask c h i p ps k v pr : Nat) : Int) ((mask o.1 o.2.1 o.2.2.1 o.2.2.2.1 o.2.2.2.2.1 o.2.2.2.2.2.1 o.2.2.2.2.2.2.1 o.2.2.2.2.2.2.2 : Nat) : Int) =
      ((mask (c && !o.1) (h && !o.2.1) (i && !o.2.2.1) (p && !o.2.2.2.1) (ps && !o.2.2.2.2.1) (k && !o.2.2.2.2.2.1) (v && !o.2.2.2.2.2.2.1) (pr && !o.2.2.2.2.2.2.2) : Nat) : Int) := by
  decide +kernel
/-- the fields that are used though the kind does not have them -/
def extra (m : Ms) : Nat := mask (uCode m && !oCode m) (m.has && !oHas m) (uId m && !oId m) (uPeer m && !oPeer m) (uPeers m && !oPeers m) (uKey m && !oKey m) (uVal m && !oVal m) (uPairs m && !oPairs m)
theorem extra_bits (m : Ms) : bits .andNot .u16 ((used m : Nat) : Int) ((own m : Nat) : Int) = ((extra m : Nat) : Int) :=
  andNot_table _ (own_cases m) (uCode m) m.has (uId m) (uPeer m) (uPeers m) (uKey m) (uVal m) (uPairs m)
theorem mask_zero {c h i p ps k v pr : Bool} : mask c h i p ps k v pr = 0 ↔ c = false ∧ h = false ∧ i = false ∧ p = false ∧ ps = false ∧ k = false ∧ v = false ∧ pr = false := by
  cases c <;> cases h <;> cases i <;> cases p <;> cases ps <;> cases k <;> cases v <;> cases pr <;> decide
theorem extra_zero {m : Ms} : extra m = 0 ↔ same m (bare m) = true := by
  unfold extra
  rw [mask_zero, same_iff]
  have key : ∀ (a o : Bool), (a && !o) = false ↔ (o = false → a = false) := by decide
  simp only [key]
  constructor
  · rintro ⟨h1, h2, h3, h4, h5, h6, h7, h8⟩
    have e : ∀ {α : Type} (o : Bool) (x z : α), (o = false → x = z) → oi o x z = x := by
      intro α o x z h
      cases o
      · exact (h rfl).symm
      · rfl
    cases m with
    | mk kind rid code has id keyy val pid pad peers pairs =>
    simp only [bare, bareBy, Ms.mk.injEq, true_and]
    refine ⟨(e _ _ _ fun h => ?_).symm, (e _ _ _ fun h => ?_).symm, (e _ _ _ fun h => ?_).symm, (e _ _ _ fun h => ?_).symm, (e _ _ _ fun h => ?_).symm, (e _ _ _ fun h => ?_).symm, (e _ _ _ fun h => ?_).symm, (e _ _ _ fun h => ?_).symm, (e _ _ _ fun h => ?_).symm⟩
    · simpa [uCode] using h1 h
    · exact h2 h
    · simpa [uId] using h3 h
    · simpa [uKey] using h6 h
    · simpa [uVal] using h7 h
    · have := h4 h; simp [uPeer] at this; exact this.1
    · have := h4 h; simp [uPeer] at this; exact this.2
    · have := h5 h; simpa [uPeers] using this
    · have := h8 h; simpa [uPairs] using this
  · intro h
    refine ⟨fun o => ?_, fun o => ?_, fun o => ?_, fun o => ?_, fun o => ?_, fun o => ?_, fun o => ?_, fun o => ?_⟩
    · have e := congrArg Ms.code h; rw [show (bare m).code = oi (oCode m) m.code 0 from rfl, o, oi_false] at e; simp [uCode, e]
    · have e := congrArg Ms.has h; rw [show (bare m).has = oi (oHas m) m.has false from rfl, o, oi_false] at e; exact e
    · have e := congrArg Ms.id h; rw [show (bare m).id = oi (oId m) m.id 0 from rfl, o, oi_false] at e; simp [uId, e]
    · have e := congrArg Ms.pid h; have f := congrArg Ms.pad h
      rw [show (bare m).pid = oi (oPeer m) m.pid 0 from rfl, o, oi_false] at e
      rw [show (bare m).pad = oi (oPeer m) m.pad 0 from rfl, o, oi_false] at f
      simp [uPeer, e, f]
    · have e := congrArg Ms.peers h; rw [show (bare m).peers = oi (oPeers m) m.peers [] from rfl, o, oi_false] at e; simp [uPeers, e]
    · have e := congrArg Ms.key h; rw [show (bare m).key = oi (oKey m) m.key ⟨#[]⟩ from rfl, o, oi_false] at e; simp [uKey, e]
    · have e := congrArg Ms.val h; rw [show (bare m).val = oi (oVal m) m.val ⟨#[]⟩ from rfl, o, oi_false] at e; simp [uVal, e]
    · have e := congrArg Ms.pairs h; rw [show (bare m).pairs = oi (oPairs m) m.pairs [] from rfl, o, oi_false] at e; simp [uPairs, e]

/-! ### the table of kinds -/
/-- name, own fields, own fields if Has, full fields, answers -/
structure En where
  name : ByteArray
  own : Nat
  ifHas : Nat
  full : Nat
  ans : Nat
def tbl : List En := [⟨⟨#[63]⟩, 0, 0, 0, 0⟩, ⟨⟨#[102, 105, 110, 100]⟩, 4, 0, 0, 4100⟩, ⟨⟨#[104, 111, 112]⟩, 18, 0, 16, 0⟩, ⟨⟨#[97, 115, 107]⟩, 0, 0, 0, 16⟩, ⟨⟨#[116, 101, 108, 108]⟩, 18, 8, 0, 0⟩, ⟨⟨#[110, 111, 116, 101]⟩, 8, 0, 0, 64⟩, ⟨⟨#[111, 107, 97, 121]⟩, 0, 0, 0, 0⟩,
  ⟨⟨#[112, 117, 116]⟩, 96, 0, 0, 4160⟩, ⟨⟨#[103, 101, 116]⟩, 32, 0, 0, 4608⟩, ⟨⟨#[103, 111, 116]⟩, 2, 64, 0, 0⟩, ⟨⟨#[109, 111, 118, 101]⟩, 130, 0, 128, 64⟩, ⟨⟨#[112, 105, 110, 103]⟩, 0, 0, 0, 64⟩, ⟨⟨#[110, 97, 121]⟩, 1, 0, 1, 0⟩]
def ent (i : Nat) : En := tbl.getD i ⟨⟨#[63]⟩, 0, 0, 0, 0⟩
/-- the table's row for a kind, row 0 for what is none -/
def at_ (k : Int) : En := ent (bif known k then k.toNat else 0)
theorem ent_bounds (i : Nat) : (ent i).own < 256 ∧ (ent i).ifHas < 256 ∧ (ent i).full < 256 ∧ (ent i).ans < 8192 ∧ (ent i).name.size < 5 := by
  by_cases h : i < 13
  · rcases i with _ | _ | _ | _ | _ | _ | _ | _ | _ | _ | _ | _ | _ | i <;> (first | decide | omega)
  · unfold ent
    rw [List.getD, List.getElem?_eq_none (by simpa [tbl] using h)]
    decide
theorem kinds (k : Int) : k = 1 ∨ k = 2 ∨ k = 3 ∨ k = 4 ∨ k = 5 ∨ k = 6 ∨ k = 7 ∨ k = 8 ∨ k = 9 ∨ k = 10 ∨ k = 11 ∨ k = 12 ∨ (known k = false ∧ (k < 1 ∨ 12 < k)) := by
  unfold known
  by_cases h : 0 < k ∧ k < 13
  · omega
  · right; right; right; right; right; right; right; right; right; right; right; right
    refine ⟨?_, by omega⟩
    rw [Bool.and_eq_false_iff]
    simp
    omega
theorem own_at (m : Ms) : (bif m.has then bits .or .u16 (((at_ m.kind).own : Nat) : Int) (((at_ m.kind).ifHas : Nat) : Int) else (((at_ m.kind).own : Nat) : Int)) = ((own m : Nat) : Int) := by
  unfold own oCode oHas oId oPeer oPeers oKey oVal oPairs
  generalize m.has = b
  generalize m.kind = k
  rcases kinds k with rfl | rfl | rfl | rfl | rfl | rfl | rfl | rfl | rfl | rfl | rfl | rfl | ⟨h1, h⟩
  iterate 12 (cases b <;> decide +kernel)
  rw [show at_ k = ent 0 by unfold at_; rw [h1]; rfl]
  have a1 : ¬ k = 12 := by omega
  have a2 : ¬ k = 2 := by omega
  have a3 : ¬ k = 4 := by omega
  have a4 : ¬ k = 9 := by omega
  have a5 : ¬ k = 10 := by omega
  have a6 : ¬ k = 1 := by omega
  have a7 : ¬ k = 5 := by omega
  have a8 : ¬ k = 7 := by omega
  have a9 : ¬ k = 8 := by omega
  simp only [a1, a2, a3, a4, a5, a6, a7, a8, a9, or_self]
  cases b <;> decide +kernel
theorem short_table : ∀ k ∈ ([1, 2, 3, 4, 5, 6, 7, 8, 9, 10, 11, 12] : List Int), ∀ c h i p ps ke v pr : Bool, (bits .andNot .u16 (((at_ k).full : Nat) : Int) ((mask c h i p ps ke v pr : Nat) : Int) = 0) ↔ ((k = 2 → ps = true) ∧ (k = 10 → pr = true) ∧ (k = 12 → c = true)) := by
  decide +kernel
theorem short_at {m : Ms} (hk : known m.kind = true) : (bits .andNot .u16 (((at_ m.kind).full : Nat) : Int) ((used m : Nat) : Int) = 0) ↔ isShort m = false := by
  have hm : m.kind ∈ ([1, 2, 3, 4, 5, 6, 7, 8, 9, 10, 11, 12] : List Int) := by
    rcases kinds m.kind with h | h | h | h | h | h | h | h | h | h | h | h | ⟨h, _⟩
    case inr => rw [hk] at h; cases h
    all_goals (rw [h]; decide)
  unfold used
  rw [short_table _ hm]
  unfold isShort
  rw [Bool.or_eq_false_iff, Bool.or_eq_false_iff, Bool.and_eq_false_iff, Bool.and_eq_false_iff, Bool.and_eq_false_iff]
  simp only [decide_eq_false_iff_not, uPeers, uPairs, uCode, decide_eq_true_iff, Bool.not_eq_true', ← Nat.pos_iff_ne_zero]
  constructor
  · rintro ⟨a, b, c⟩
    refine ⟨⟨?_, ?_⟩, ?_⟩
    · by_cases h : m.kind = 2
      · exact .inr (a h)
      · exact .inl h
    · by_cases h : m.kind = 10
      · exact .inr (b h)
      · exact .inl h
    · by_cases h : m.kind = 12
      · exact .inr (by have := c h; omega)
      · exact .inl h
  · rintro ⟨⟨a, b⟩, c⟩
    exact ⟨fun h => a.resolve_left (fun n => n h), fun h => b.resolve_left (fun n => n h), fun h => by have := c.resolve_left (fun n => n h); omega⟩
/-- chapter 8: which kinds answer which -/
def answers (k r : Int) : Bool := (decide (k = 1) && (decide (r = 2) || decide (r = 12))) || (decide (k = 3) && decide (r = 4)) || ((decide (k = 5) || decide (k = 10) || decide (k = 11)) && decide (r = 6)) || (decide (k = 7) && (decide (r = 6) || decide (r = 12))) || (decide (k = 8) && (decide (r = 9) || decide (r = 12)))
def asks (k : Int) : Bool := decide (k = 1 ∨ k = 3 ∨ k = 5 ∨ k = 7 ∨ k = 8 ∨ k = 10 ∨ k = 11)
theorem at_none {k : Int} (h : known k = false) : at_ k = ent 0 := by unfold at_; rw [h]; rfl
theorem asks_at (k : Int) : (!decide ((at_ k).ans = 0)) = asks k := by
  rcases kinds k with rfl | rfl | rfl | rfl | rfl | rfl | rfl | rfl | rfl | rfl | rfl | rfl | ⟨h1, h⟩
  iterate 12 decide +kernel
  rw [at_none h1, show (ent 0).ans = 0 from rfl]
  unfold asks
  symm
  simp
  omega
theorem ans_shift (k : Int) (r : Nat) (hr : r < 13) : (bits .and .u16 ((((at_ k).ans : Nat) : Int) / ((2 ^ r : Nat) : Int)) 1 != 0) = answers k (r : Int) := by
  have hl : r = 0 ∨ r = 1 ∨ r = 2 ∨ r = 3 ∨ r = 4 ∨ r = 5 ∨ r = 6 ∨ r = 7 ∨ r = 8 ∨ r = 9 ∨ r = 10 ∨ r = 11 ∨ r = 12 := by omega
  rcases kinds k with rfl | rfl | rfl | rfl | rfl | rfl | rfl | rfl | rfl | rfl | rfl | rfl | ⟨h1, h⟩
  iterate 12 (rcases hl with rfl | rfl | rfl | rfl | rfl | rfl | rfl | rfl | rfl | rfl | rfl | rfl | rfl <;> decide +kernel)
  rw [at_none h1, show (ent 0).ans = 0 from rfl]
  have e : answers k (r : Int) = false := by
    unfold answers
    have a1 : ¬ k = 1 := by omega
    have a2 : ¬ k = 3 := by omega
    have a3 : ¬ k = 5 := by omega
    have a4 : ¬ k = 10 := by omega
    have a5 : ¬ k = 11 := by omega
    have a6 : ¬ k = 7 := by omega
    have a7 : ¬ k = 8 := by omega
    simp [a1, a2, a3, a4, a5, a6, a7]
  rw [e]
  rcases hl with rfl | rfl | rfl | rfl | rfl | rfl | rfl | rfl | rfl | rfl | rfl | rfl | rfl <;> decide +kernel
theorem answers_none (k : Int) {r : Int} (h : r < 1 ∨ 12 < r) : answers k r = false := by
  unfold answers
  have a1 : ¬ r = 2 := by omega
  have a2 : ¬ r = 12 := by omega
  have a3 : ¬ r = 4 := by omega
  have a4 : ¬ r = 6 := by omega
  have a5 : ¬ r = 9 := by omega
  simp [a1, a2, a3, a4, a5]
theorem known_of {x : Int} (h1 : 0 < x) (h2 : x < 13) : known x = true := by unfold known; simp [h1, h2]
/-- the kind of a name: the first row with it, from row i on -/
def kindFrom (s : ByteArray) : Nat → Nat → Nat
  | 0, _ => 0
  | n + 1, i => if (ent i).name = s then i else kindFrom s n (i + 1)
def kindOf (s : ByteArray) : Nat := kindFrom s 12 1
theorem kindOf_all (s : ByteArray) : kindOf s = kindFrom s 13 0 := by
  show kindFrom s 12 1 = if (ent 0).name = s then 0 else kindFrom s 12 1
  split
  · rename_i h
    subst h
    decide +kernel
  · rfl
theorem kindFrom_hit {s : ByteArray} {n i : Nat} (h : (ent i).name = s) : kindFrom s (n + 1) i = i := by unfold kindFrom; rw [if_pos h]
theorem kindFrom_miss {s : ByteArray} {n i : Nat} (h : ¬ (ent i).name = s) : kindFrom s (n + 1) i = kindFrom s n (i + 1) := by conv => lhs; unfold kindFrom; rw [if_neg h]
theorem at_nat {i : Nat} (hi : i < 13) : at_ (i : Int) = ent i := by
  unfold at_
  by_cases h : 0 < i
  · rw [known_of (by omega) (by omega)]; rfl
  · have : i = 0 := by omega
    subst this
    rfl
theorem str_eq (a b : ByteArray) : (a.toList == b.toList) = decide (a = b) := by
  rw [Bool.eq_iff_iff, beq_iff_eq, decide_eq_true_iff]
  exact ⟨fun h => toList_inj h, fun h => by rw [h]⟩
end Gm
end Go.Proofs.Ytjomchehnlnfcaa
/- Messages in memory. -/
namespace Go.Proofs.Ytjomchehnlnfcaa
open Go.ChangeShapes Go.WideShapes Go.ChangeAt Go.RowKit
set_option linter.unusedVariables false

def fPeer (p : Nat × Nat) : Value × Value := (.int .u64 (p.1 : Int), .int .u16 (p.2 : Int))
def fPair (p : ByteArray × ByteArray) : Value × Value := (.string p.1, .string p.2)
theorem fPeer_one (p : Nat × Nat) : (fPeer p).1.oneCell' = true ∧ (fPeer p).2.oneCell' = true := ⟨rfl, rfl⟩
theorem fPair_one (p : ByteArray × ByteArray) : (fPair p).1.oneCell' = true ∧ (fPair p).2.oneCell' = true := ⟨rfl, rfl⟩
theorem peerT2 : ElemT2 Try.prog 63 62 (.agg #[.int .u64 0, .int .u16 0]) 16 := ⟨Try.underlying63, by kernel_rfl, rfl, by decide⟩
theorem pairT2 : ElemT2 Try.prog 64 71 (.agg #[.string ByteArray.empty, .string ByteArray.empty]) 32 := ⟨Try.underlying64, by kernel_rfl, rfl, by decide⟩

namespace Gm
/-- the numbers and lengths fit -/
structure Ok (m : Ms) : Prop where
  kind : -9223372036854775808 ≤ m.kind ∧ m.kind ≤ 9223372036854775807
  rid : m.rid < 4294967296
  code : m.code < 256
  id : m.id < 18446744073709551616
  key : m.key.size ≤ maxLen
  val : m.val.size ≤ maxLen
  pid : m.pid < 18446744073709551616
  pad : m.pad < 65536
  peers : ∀ p ∈ m.peers, p.1 < 18446744073709551616 ∧ p.2 < 65536
  pairs : ∀ p ∈ m.pairs, p.1.size ≤ maxLen ∧ p.2.size ≤ maxLen
theorem Ok.bareBy {m : Ms} (h : Ok m) (c h' i p ps k v pr : Bool) : Ok (bareBy c h' i p ps k v pr m) := by
  obtain ⟨h1, h2, h3, h4, h5, h6, h7, h8, h9, h10⟩ := h
  have z : (⟨#[]⟩ : ByteArray).size ≤ maxLen := Nat.zero_le _
  exact ⟨h1, h2, by cases c <;> simp [Gm.bareBy, oi]; exact h3, by cases i <;> simp [Gm.bareBy, oi]; exact h4, by cases k <;> simp only [Gm.bareBy, oi, cond] <;> assumption, by cases v <;> simp only [Gm.bareBy, oi, cond] <;> assumption,
    by cases p <;> simp [Gm.bareBy, oi]; exact h7, by cases p <;> simp [Gm.bareBy, oi]; exact h8, by cases ps <;> simp [Gm.bareBy, oi]; exact fun a b hab => h9 (a, b) hab, by cases pr <;> simp [Gm.bareBy, oi]; exact fun a b hab => h10 (a, b) hab⟩
theorem Ok.bare {m : Ms} (h : Ok m) : Ok (bare m) := h.bareBy _ _ _ _ _ _ _ _
end Gm
open Gm

/-- the value is the message -/
structure Mv (w : World) (B : Nat) (m : Ms) (v : Value) : Prop where
  ex : ∃ vp vq, v = .agg #[.int .i64 m.kind, .int .u32 (m.rid : Int), .int .u8 (m.code : Int), .bool m.has, .int .u64 (m.id : Int), .string m.key, .string m.val, .int .u64 (m.pid : Int), .int .u16 (m.pad : Int), vp, vq] ∧ Sl fPeer w B vp m.peers ∧ Sl fPair w B vq m.pairs
  ok : Ok m
section
variable {w w' : World} {B B' : Nat} {m : Ms} {v : Value}
theorem Mv.below (h : Mv w B m v) (hb : Below B w w') : Mv w' B m v := by
  obtain ⟨⟨p, q, h1, h2, h3⟩, h4⟩ := h
  exact ⟨⟨p, q, h1, h2.below hb, h3.below hb⟩, h4⟩
theorem Mv.more (h : Mv w B m v) (hB : B ≤ B') : Mv w B' m v := by
  obtain ⟨⟨p, q, h1, h2, h3⟩, h4⟩ := h
  exact ⟨⟨p, q, h1, h2.more hB, h3.more hB⟩, h4⟩
theorem Mv.all (h : Mv w B m v) : Mv w w.heap.size m v := by
  obtain ⟨⟨p, q, h1, h2, h3⟩, h4⟩ := h
  exact ⟨⟨p, q, h1, h2.all, h3.all⟩, h4⟩
theorem Mv.kept (h : Mv w B m v) (hb : Below w.heap.size w w') : Mv w' w'.heap.size m v := (h.all.below hb).more hb.size
/-- a boxed message: block g holds its cells -/
def Bx (w : World) (g : Nat) (m : Ms) (vp vq : Value) : Prop :=
  Whole w g 66 #[.int .i64 m.kind, .int .u32 (m.rid : Int), .int .u8 (m.code : Int), .bool m.has, .int .u64 (m.id : Int), .string m.key, .string m.val, .int .u64 (m.pid : Int), .int .u16 (m.pad : Int), vp, vq]
variable {g : Nat} {vp vq : Value}
theorem Bx.cells (h : Bx w g m vp vq) : w.cell? ⟨g, 0, none⟩ = some (.int .i64 m.kind) ∧ w.cell? ⟨g, 1, none⟩ = some (.int .u32 (m.rid : Int)) ∧ w.cell? ⟨g, 2, none⟩ = some (.int .u8 (m.code : Int)) ∧ w.cell? ⟨g, 3, none⟩ = some (.bool m.has) ∧
    w.cell? ⟨g, 4, none⟩ = some (.int .u64 (m.id : Int)) ∧ w.cell? ⟨g, 5, none⟩ = some (.string m.key) ∧ w.cell? ⟨g, 6, none⟩ = some (.string m.val) ∧ w.cell? ⟨g, 7, none⟩ = some (.int .u64 (m.pid : Int)) ∧ w.cell? ⟨g, 8, none⟩ = some (.int .u16 (m.pad : Int)) ∧
    w.cell? ⟨g, 9, none⟩ = some vp ∧ w.cell? ⟨g, 10, none⟩ = some vq :=
  ⟨h.at_ 0, h.at_ 1, h.at_ 2, h.at_ 3, h.at_ 4, h.at_ 5, h.at_ 6, h.at_ 7, h.at_ 8, h.at_ 9, h.at_ 10⟩
theorem Bx.below (h : Bx w g m vp vq) (hb : Below B w w') (hg : g < B) : Bx w' g m vp vq := Whole.below h hb hg
end

/-- a boxed message and what it leads to -/
structure Box (w : World) (b : Nat) (m : Ms) (vp vq : Value) : Prop where
  bx : Bx w b m vp vq
  peers : Sl fPeer w b vp m.peers
  pairs : Sl fPair w b vq m.pairs
  ok : Ok m
section
variable {w w' : World} {B b : Nat} {m : Ms} {v vp vq : Value}
theorem Box.below (h : Box w b m vp vq) (hb : Below B w w') (hg : b < B) : Box w' b m vp vq := ⟨h.bx.below hb hg, h.peers.below (hb.mono (by omega)), h.pairs.below (hb.mono (by omega)), h.ok⟩
theorem Box.lt (h : Box w b m vp vq) : b < w.heap.size := Whole.lt h.bx
theorem Box.kept (h : Box w b m vp vq) (hb : Below w.heap.size w w') : Box w' b m vp vq := h.below hb h.lt
theorem Box.drew (h : Box w b m vp vq) : Box w.drew b m vp vq := h.below (Below.refl _ _).drew h.lt
theorem Box.mv (h : Box w b m vp vq) : Mv w b m (.agg #[.int .i64 m.kind, .int .u32 (m.rid : Int), .int .u8 (m.code : Int), .bool m.has, .int .u64 (m.id : Int), .string m.key, .string m.val, .int .u64 (m.pid : Int), .int .u16 (m.pad : Int), vp, vq]) := ⟨⟨vp, vq, rfl, h.peers, h.pairs⟩, h.ok⟩
theorem Box.cells (h : Box w b m vp vq) : w.cell? ⟨b, 0, none⟩ = some (.int .i64 m.kind) ∧ w.cell? ⟨b, 1, none⟩ = some (.int .u32 (m.rid : Int)) ∧ w.cell? ⟨b, 2, none⟩ = some (.int .u8 (m.code : Int)) ∧ w.cell? ⟨b, 3, none⟩ = some (.bool m.has) ∧
    w.cell? ⟨b, 4, none⟩ = some (.int .u64 (m.id : Int)) ∧ w.cell? ⟨b, 5, none⟩ = some (.string m.key) ∧ w.cell? ⟨b, 6, none⟩ = some (.string m.val) ∧ w.cell? ⟨b, 7, none⟩ = some (.int .u64 (m.pid : Int)) ∧ w.cell? ⟨b, 8, none⟩ = some (.int .u16 (m.pad : Int)) ∧
    w.cell? ⟨b, 9, none⟩ = some vp ∧ w.cell? ⟨b, 10, none⟩ = some vq := h.bx.cells
set_option maxRecDepth 100000 in
theorem boxed (H : Mv w B m v) : ∃ b vp vq w0, v = .agg #[.int .i64 m.kind, .int .u32 (m.rid : Int), .int .u8 (m.code : Int), .bool m.has, .int .u64 (m.id : Int), .string m.key, .string m.val, .int .u64 (m.pid : Int), .int .u16 (m.pad : Int), vp, vq] ∧ w.heap.size = b ∧ w.alloc (.cells #[.int .i64 m.kind, .int .u32 (m.rid : Int), .int .u8 (m.code : Int), .bool m.has, .int .u64 (m.id : Int), .string m.key, .string m.val, .int .u64 (m.pid : Int), .int .u16 (m.pad : Int), vp, vq] 66) = w0 ∧ w0.heap.size = b + 1 ∧ Box w0 b m vp vq ∧ Below b w w0 := by
  obtain ⟨vp, vq, rfl, hp, hq⟩ := H.ex
  have B0 : Below w.heap.size w (w.alloc (.cells #[.int .i64 m.kind, .int .u32 (m.rid : Int), .int .u8 (m.code : Int), .bool m.has, .int .u64 (m.id : Int), .string m.key, .string m.val, .int .u64 (m.pid : Int), .int .u16 (m.pad : Int), vp, vq] 66)) := (Below.refl _ _).alloc (Nat.le_refl _) _
  exact ⟨_, vp, vq, _, rfl, rfl, rfl, by simp, ⟨Whole.made _ _ _, hp.all.below B0, hq.all.below B0, H.ok⟩, B0⟩
end
theorem msgI {cs : Array Value} (h : cs.size = 11) : (Try.prog.info? 66).map (·.size) = some cs.size := by rw [h]; kernel_rfl

theorem trod_field {H : Type} {enc : TypeId × Value → H} {P : Program} {w : World} {base : Nat} {spare : Nat → Bool} {held : Bool} {n : Nat} {fs : Array Field} {cs : List Value} {xs : List (DataW H × List MemPlace)}
    (hx : ∀ (i : Nat) (f : Field), fs[i]? = some f → DataW.trod enc P w base spare held n f.type ((cs.drop f.offset).take (P.cellsOf f.type)) = xs[i]?) (i : Nat) (f : Field) (hi : fs[i]? = some f) (ty off c : Nat) (h1 : f.type = ty) (h2 : f.offset = off) (h3 : P.cellsOf ty = c) :
    DataW.trod enc P w base spare held n ty ((cs.drop off).take c) = xs[i]? := by
  subst h1 h2 h3
  exact hx i f hi

set_option maxRecDepth 100000 in
/-- an argument that is a message -/
theorem open_msg {H : Type} {enc : TypeId × Value → H} {w : World} {base : Nat} {spare : Nat → Bool} {held : Bool} {r : Reach} {b0 : Nat} {v : Value} {d : DataW H} {ps : List MemPlace}
    (hv : Value.okWide Try.prog w r b0 66 v) (hd : DataW.Trod enc Try.prog w base spare held 66 v d ps) : ∃ m, Mv w w.heap.size m v := by
  obtain ⟨cs, rfl, hsz, _⟩ : ∃ cs, v = .agg cs ∧ cs.size = Try.prog.cellsOf 66 ∧ Row.okWide Try.prog w r b0 66 cs := by simpa [Value.okWide, Try.underlying66] using hv
  rw [show Try.prog.cellsOf 66 = 11 by kernel_rfl] at hsz
  obtain ⟨fuel, hf⟩ := hd
  obtain ⟨xs, n, _, _, _, hlen, hx⟩ := DataW.trod_struct Try.underlying66 hf
  obtain ⟨l⟩ := cs
  match l, hsz with
  | [c0, c1, c2, c3, c4, c5, c6, c7, c8, c9, c10], _ =>
  match xs, hlen with
  | [x0, x1, x2, x3, x4, x5, x6, x7, x8, x9], _ =>
  have one : ∀ t, t ∈ [3, 23, 5, 4, 55, 9, 22, 63, 64] → Try.prog.cellsOf t = 1 := by
    intro t ht
    simp at ht
    rcases ht with rfl | rfl | rfl | rfl | rfl | rfl | rfl | rfl | rfl <;> kernel_rfl
  have two2 : Try.prog.cellsOf 62 = 2 := by kernel_rfl
  have two3 : Try.prog.cellsOf 71 = 2 := by kernel_rfl
  have h0 : DataW.trod enc Try.prog w base spare held n 3 [c0] = some x0 := trod_field hx 0 _ rfl 3 0 1 rfl rfl (one _ (by decide))
  have h1 : DataW.trod enc Try.prog w base spare held n 23 [c1] = some x1 := trod_field hx 1 _ rfl 23 1 1 rfl rfl (one _ (by decide))
  have h2 : DataW.trod enc Try.prog w base spare held n 5 [c2] = some x2 := trod_field hx 2 _ rfl 5 2 1 rfl rfl (one _ (by decide))
  have h3 : DataW.trod enc Try.prog w base spare held n 4 [c3] = some x3 := trod_field hx 3 _ rfl 4 3 1 rfl rfl (one _ (by decide))
  have h4 : DataW.trod enc Try.prog w base spare held n 55 [c4] = some x4 := trod_field hx 4 _ rfl 55 4 1 rfl rfl (one _ (by decide))
  have h5 : DataW.trod enc Try.prog w base spare held n 9 [c5] = some x5 := trod_field hx 5 _ rfl 9 5 1 rfl rfl (one _ (by decide))
  have h6 : DataW.trod enc Try.prog w base spare held n 9 [c6] = some x6 := trod_field hx 6 _ rfl 9 6 1 rfl rfl (one _ (by decide))
  have h7 : DataW.trod enc Try.prog w base spare held n 62 [c7, c8] = some x7 := trod_field hx 7 _ rfl 62 7 2 rfl rfl two2
  have h8 : DataW.trod enc Try.prog w base spare held n 63 [c9] = some x8 := trod_field hx 8 _ rfl 63 9 1 rfl rfl (one _ (by decide))
  have h9 : DataW.trod enc Try.prog w base spare held n 64 [c10] = some x9 := trod_field hx 9 _ rfl 64 10 1 rfl rfl (one _ (by decide))
  obtain ⟨z0, e0, _, w0⟩ := DataW.trod_int Try.underlying3 h0
  obtain ⟨z1, e1, _, w1⟩ := DataW.trod_int Try.underlying23 h1
  obtain ⟨z2, e2, _, w2⟩ := DataW.trod_int Try.underlying5 h2
  obtain ⟨z3, e3, _⟩ := DataW.trod_bool Try.underlying4 h3
  obtain ⟨z4, e4, _, w4⟩ := DataW.trod_int Try.underlying55 h4
  obtain ⟨z5, e5, _, w5⟩ := DataW.trod_string Try.underlying9 h5
  obtain ⟨z6, e6, _, w6⟩ := DataW.trod_string Try.underlying9 h6
  obtain ⟨ys, n', _, _, _, hlen7, hx7⟩ := DataW.trod_struct Try.underlying62 h7
  match ys, hlen7 with
  | [y0, y1], _ =>
  have g0 : DataW.trod enc Try.prog w base spare held n' 55 [c7] = some y0 := trod_field hx7 0 _ rfl 55 0 1 rfl rfl (one _ (by decide))
  have g1 : DataW.trod enc Try.prog w base spare held n' 22 [c8] = some y1 := trod_field hx7 1 _ rfl 22 1 1 rfl rfl (one _ (by decide))
  obtain ⟨z7, e7, _, w7⟩ := DataW.trod_int Try.underlying55 g0
  obtain ⟨z8, e8, _, w8⟩ := DataW.trod_int Try.underlying22 g1
  obtain ⟨vp, lp, ep, hp, op⟩ := open_two (f := fPeer) (ok := fun p => p.1 < 18446744073709551616 ∧ p.2 < 65536) Try.underlying63 Try.underlying62 two2 rfl rfl (one _ (by decide)) (one _ (by decide)) (fun n v0 v1 x0 x1 k0 k1 => by
    obtain ⟨a, ea, _, wa⟩ := DataW.trod_int Try.underlying55 k0
    obtain ⟨b, eb, _, wb⟩ := DataW.trod_int Try.underlying22 k1
    have ba := bounds_u64 wa
    have bb := bounds_u16 wb
    simp at ea eb
    subst ea eb
    obtain ⟨a, rfl⟩ : ∃ q : Nat, a = (q : Int) := ⟨a.toNat, by omega⟩
    obtain ⟨b, rfl⟩ : ∃ q : Nat, b = (q : Int) := ⟨b.toNat, by omega⟩
    exact ⟨(a, b), rfl, by omega, by omega⟩) h8
  obtain ⟨vq, lq, eq, hq, oq⟩ := open_two (f := fPair) (ok := fun p => p.1.size ≤ maxLen ∧ p.2.size ≤ maxLen) Try.underlying64 Try.underlying71 two3 rfl rfl (one _ (by decide)) (one _ (by decide)) (fun n v0 v1 x0 x1 k0 k1 => by
    obtain ⟨a, ea, _, wa⟩ := DataW.trod_string Try.underlying9 k0
    obtain ⟨b, eb, _, wb⟩ := DataW.trod_string Try.underlying9 k1
    simp at ea eb
    subst ea eb
    exact ⟨(a, b), rfl, wa, wb⟩) h9
  simp only [List.cons.injEq, and_true] at e0 e1 e2 e3 e4 e5 e6 e7 e8 ep eq
  subst e0 e1 e2 e3 e4 e5 e6 e7 e8 ep eq
  have b0' := bounds_i64 w0
  have b1 := bounds_u32 w1
  have b2 := bounds_u8 w2
  have b4 := bounds_u64 w4
  have b7 := bounds_u64 w7
  have b8 := bounds_u16 w8
  obtain ⟨z1, rfl⟩ : ∃ q : Nat, z1 = (q : Int) := ⟨z1.toNat, by omega⟩
  obtain ⟨z2, rfl⟩ : ∃ q : Nat, z2 = (q : Int) := ⟨z2.toNat, by omega⟩
  obtain ⟨z4, rfl⟩ : ∃ q : Nat, z4 = (q : Int) := ⟨z4.toNat, by omega⟩
  obtain ⟨z7, rfl⟩ : ∃ q : Nat, z7 = (q : Int) := ⟨z7.toNat, by omega⟩
  obtain ⟨z8, rfl⟩ : ∃ q : Nat, z8 = (q : Int) := ⟨z8.toNat, by omega⟩
  have k1 : z1 < 4294967296 := by omega
  have k2 : z2 < 256 := by omega
  have k4 : z4 < 18446744073709551616 := by omega
  have k7 : z7 < 18446744073709551616 := by omega
  have k8 : z8 < 65536 := by omega
  exact ⟨⟨z0, z1, z2, z3, z4, z5, z6, z7, z8, lp, lq⟩, ⟨_, _, rfl, hp, hq⟩, ⟨b0', k1, k2, k4, w5, w6, k7, k8, op, oq⟩⟩
end Go.Proofs.Ytjomchehnlnfcaa
/- Peers and pairs held against one another as structs. -/
namespace Go.Proofs.Ytjomchehnlnfcaa
open Go.RowKit
set_option linter.unusedVariables false
set_option maxRecDepth 100000

theorem fieldsPeer : Try.prog.fieldsOf 62 = #[⟨ "ID", 55, 0, false, "", "", 0⟩, ⟨ "Addr", 22, 1, false, "", "", 8⟩] := by kernel_rfl
theorem guardPeer : Try.prog.eqGuardType Try.prog.depth 62 = false := by kernel_rfl
theorem eqPeer (W : World) (a b c d : Nat) : (Op.equalIn 10000 62 (.agg #[.int .u64 (a : Int), .int .u16 (b : Int)]) (.agg #[.int .u64 (c : Int), .int .u16 (d : Int)])).run Try.prog W = .ok (decide ((a, b) = (c, d))) W := by
  rw [run_equalIn_struct W 9999 62 _ _ (by rw [fieldsPeer]; exact Try.underlying62) (by kernel_rfl), fieldsPeer]
  have p0 : ∀ W x y, (part 55 #[Value.int .u64 x, y] 0).run Try.prog W = .ok (.int .u64 x) W := by intro W x y; kernel_rfl
  have p1 : ∀ W x y, (part 22 #[x, Value.int .u16 y] 1).run Try.prog W = .ok (.int .u16 y) W := by intro W x y; kernel_rfl
  simp [Op.eqFields, p0, p1, run_equalIn_int W _ _ _ _ _ _ Try.underlying55, run_equalIn_int W _ _ _ _ _ _ Try.underlying22]
  by_cases h : a = c
  · by_cases h2 : b = d
    · simp [h, h2]
    · have : ¬ (b : Int) = (d : Int) := by omega
      simp [h, h2, this]
  · have : ¬ (a : Int) = (c : Int) := by omega
    simp [h, this]
theorem fieldsPair : Try.prog.fieldsOf 71 = #[⟨ "Key", 9, 0, false, "", "", 0⟩, ⟨ "Val", 9, 1, false, "", "", 16⟩] := by kernel_rfl
theorem guardPair : Try.prog.eqGuardType Try.prog.depth 71 = false := by kernel_rfl
theorem eqPair (W : World) (a b c d : ByteArray) : (Op.equalIn 10000 71 (.agg #[.string a, .string b]) (.agg #[.string c, .string d])).run Try.prog W = .ok (decide ((a, b) = (c, d))) W := by
  rw [run_equalIn_struct W 9999 71 _ _ (by rw [fieldsPair]; exact Try.underlying71) (by kernel_rfl), fieldsPair]
  have p0 : ∀ W x y, (part 9 #[Value.string x, y] 0).run Try.prog W = .ok (.string x) W := by intro W x y; kernel_rfl
  have p1 : ∀ W x y, (part 9 #[x, Value.string y] 1).run Try.prog W = .ok (.string y) W := by intro W x y; kernel_rfl
  simp [Op.eqFields, p0, p1, run_equalIn_string W _ _ _ _ Try.underlying9, Gm.str_eq]
  by_cases h : a = c
  · by_cases h2 : b = d
    · simp [h, h2]
    · simp [h, h2]
  · simp [h]
end Go.Proofs.Ytjomchehnlnfcaa
/- Contracts of slices.Equal at peers and pairs, and of the reference's Peers, Pairs. -/
namespace Go.Proofs.Ytjomchehnlnfcaa
open Go.RowKit
set_option linter.unusedVariables false
set_option maxRecDepth 100000
open Gm

theorem list_neq {α : Type} {a b : List α} {i : Nat} (ha : i < a.length) (hb : i < b.length) (h : ¬ a[i] = b[i]) : ¬ a = b := by
  intro e
  subst e
  exact h rfl
theorem list_eq {α : Type} {a b : List α} (hl : a.length = b.length) (h : ∀ j (ha : j < a.length) (hb : j < b.length), a[j] = b[j]) : a = b := List.ext_getElem hl fun i h1 h2 => h i h1 h2
theorem below_drewn {B : Nat} {a w : World} (h : Below B a w) (n : Nat) : Below B a (w.drewN n) := ⟨h.os, h.tape, h.output, h.size, h.block⟩

set_option maxRecDepth 100000 in
theorem rpeers_any {w : World} {B C : Nat} {va vb : Value} {la lb : List (Nat × Nat)} (Ha : Sl fPeer w B va la) (Hb : Sl fPeer w C vb lb) :
    Calls Try.prog 38 #[va, vb] w fun e w' => e = .returned (.bool (decide (la = lb))) ∧ Below w.heap.size w w' := by
  obtain ⟨Aa, ca, rfl, Ta, h1, h2, _⟩ := Ha.ex
  obtain ⟨Ab, cb, rfl, Tb, h3, h4, _⟩ := Hb.ex
  have TA := Lib.hid Ta.all
  have TB := Lib.hid Tb.all
  unfold maxLen at h2 h4
  obtain ⟨n, hn⟩ : ∃ n, Hid (la.length = n) := ⟨_, rfl⟩
  obtain ⟨k, hk⟩ : ∃ k, Hid (lb.length = k) := ⟨_, rfl⟩
  rw [hn.out] at h1 ⊢
  rw [hk.out] at h3 ⊢
  clear Ta Tb Ha Hb
  by_cases hnk : n = k
  · subst hnk
    go_enter Try.func38, Try.ntmps38
    go_wp2_with fail
    go_loopw [5] (fun v wr => ∃ (i : Nat), i ≤ n ∧ v = .int .i64 i ∧ Hid (Below w.heap.size w wr) ∧ Hid (∀ j, j < i → ∀ (ha : j < la.length) (hb : j < lb.length), la[j] = lb[j])) (fun v _ => n - (intOf v).toNat)
    case atStart => exact ⟨0, by omega, rfl, Lib.hid (Below.refl _ _), Lib.hid (fun j hj => by omega)⟩
    case round =>
      obtain ⟨i, hi, rfl, HB, HI⟩ := hrel
      by_cases hlt : i < n
      · have hia : i < la.length := by rw [hn.out]; exact hlt
        have hib : i < lb.length := by rw [hk.out]; exact hlt
        obtain ⟨b1, o1, rfl, _, d0, d1⟩ := (TA.out.below HB.out).at_ hia
        obtain ⟨b2, o2, rfl, _, d2, d3⟩ := (TB.out.below HB.out).at_ hib
        have HN := Lib.hid (fun (h : ¬ la[i] = lb[i]) => list_neq hia hib h)
        have HS : Hid (la[i] = lb[i] → ∀ j, j < i + 1 → ∀ (ha : j < la.length) (hb : j < lb.length), la[j] = lb[j]) := Lib.hid (fun h j hj ha hb => by
          by_cases e : j = i
          · subst e; exact h
          · exact HI.out j (by omega) ha hb)
        obtain ⟨p, hp⟩ : ∃ p : Nat × Nat, Hid (la[i] = p) := ⟨la[i], Lib.hid rfl⟩
        obtain ⟨p1, p2⟩ := p
        obtain ⟨q, hq⟩ : ∃ q : Nat × Nat, Hid (lb[i] = q) := ⟨lb[i], Lib.hid rfl⟩
        obtain ⟨q1, q2⟩ := q
        rw [hp.out] at d0 d1 HN HS
        rw [hq.out] at d2 d3 HN HS
        simp only [fPeer] at d0 d1 d2 d3
        have hg := guardPeer
        by_cases hpq : (p1, p2) = (q1, q2)
        · have hs : ∀ W, _ = _ := fun W => eqPeer W p1 p2 q1 q2
          rw [decide_eq_true hpq] at hs
          have HS' := Lib.hid (HS.out hpq)
          clear HS HN HI hpq
          go_wp2_with fail
          go_quiet (fail)
          go_wp2_with fail
          go_roundw
          case rel => exact ⟨i + 1, by omega, by go_num, Lib.hid (below_drewn HB.out _), HS'⟩
          case measure => simp [intOf]; omega
        · have hs : ∀ W, _ = _ := fun W => eqPeer W p1 p2 q1 q2
          rw [decide_eq_false hpq] at hs
          have HN' := Lib.hid (HN.out hpq)
          clear HS HN HI hpq
          go_wp2_with fail
          go_quiet (fail)
          go_wp2_with fail
          go_ret
          exact ⟨ret_bool (by rw [decide_eq_false HN'.out]), below_drewn HB.out _⟩
      · have HE : Hid (la = lb) := Lib.hid (list_eq (by rw [hn.out, hk.out]) fun j ha hb => HI.out j (by have := hn.out; omega) ha hb)
        go_wp2_with fail
        go_ret
        exact ⟨ret_bool (by rw [decide_eq_true HE.out]), HB.out⟩
  · have HE : Hid (¬ la = lb) := Lib.hid (fun e => hnk (by rw [← hn.out, ← hk.out, e]))
    go_enter Try.func38, Try.ntmps38
    go_wp2_with fail
    go_ret
    exact ⟨ret_bool (by rw [decide_eq_false HE.out]), Below.refl _ _⟩

set_option maxRecDepth 100000 in
theorem rpairs_any {w : World} {B C : Nat} {va vb : Value} {la lb : List (ByteArray × ByteArray)} (Ha : Sl fPair w B va la) (Hb : Sl fPair w C vb lb) :
    Calls Try.prog 39 #[va, vb] w fun e w' => e = .returned (.bool (decide (la = lb))) ∧ Below w.heap.size w w' := by
  obtain ⟨Aa, ca, rfl, Ta, h1, h2, _⟩ := Ha.ex
  obtain ⟨Ab, cb, rfl, Tb, h3, h4, _⟩ := Hb.ex
  have TA := Lib.hid Ta.all
  have TB := Lib.hid Tb.all
  unfold maxLen at h2 h4
  obtain ⟨n, hn⟩ : ∃ n, Hid (la.length = n) := ⟨_, rfl⟩
  obtain ⟨k, hk⟩ : ∃ k, Hid (lb.length = k) := ⟨_, rfl⟩
  rw [hn.out] at h1 ⊢
  rw [hk.out] at h3 ⊢
  clear Ta Tb Ha Hb
  by_cases hnk : n = k
  · subst hnk
    go_enter Try.func39, Try.ntmps39
    go_wp2_with fail
    go_loopw [5] (fun v wr => ∃ (i : Nat), i ≤ n ∧ v = .int .i64 i ∧ Hid (Below w.heap.size w wr) ∧ Hid (∀ j, j < i → ∀ (ha : j < la.length) (hb : j < lb.length), la[j] = lb[j])) (fun v _ => n - (intOf v).toNat)
    case atStart => exact ⟨0, by omega, rfl, Lib.hid (Below.refl _ _), Lib.hid (fun j hj => by omega)⟩
    case round =>
      obtain ⟨i, hi, rfl, HB, HI⟩ := hrel
      by_cases hlt : i < n
      · have hia : i < la.length := by rw [hn.out]; exact hlt
        have hib : i < lb.length := by rw [hk.out]; exact hlt
        obtain ⟨b1, o1, rfl, _, d0, d1⟩ := (TA.out.below HB.out).at_ hia
        obtain ⟨b2, o2, rfl, _, d2, d3⟩ := (TB.out.below HB.out).at_ hib
        have HN := Lib.hid (fun (h : ¬ la[i] = lb[i]) => list_neq hia hib h)
        have HS : Hid (la[i] = lb[i] → ∀ j, j < i + 1 → ∀ (ha : j < la.length) (hb : j < lb.length), la[j] = lb[j]) := Lib.hid (fun h j hj ha hb => by
          by_cases e : j = i
          · subst e; exact h
          · exact HI.out j (by omega) ha hb)
        obtain ⟨p, hp⟩ : ∃ p : ByteArray × ByteArray, Hid (la[i] = p) := ⟨la[i], Lib.hid rfl⟩
        obtain ⟨p1, p2⟩ := p
        obtain ⟨q, hq⟩ : ∃ q : ByteArray × ByteArray, Hid (lb[i] = q) := ⟨lb[i], Lib.hid rfl⟩
        obtain ⟨q1, q2⟩ := q
        rw [hp.out] at d0 d1 HN HS
        rw [hq.out] at d2 d3 HN HS
        simp only [fPair] at d0 d1 d2 d3
        have hg := guardPair
        by_cases hpq : (p1, p2) = (q1, q2)
        · have hs : ∀ W, _ = _ := fun W => eqPair W p1 p2 q1 q2
          rw [decide_eq_true hpq] at hs
          have HS' := Lib.hid (HS.out hpq)
          clear HS HN HI hpq
          go_wp2_with fail
          go_quiet (fail)
          go_wp2_with fail
          go_roundw
          case rel => exact ⟨i + 1, by omega, by go_num, Lib.hid (below_drewn HB.out _), HS'⟩
          case measure => simp [intOf]; omega
        · have hs : ∀ W, _ = _ := fun W => eqPair W p1 p2 q1 q2
          rw [decide_eq_false hpq] at hs
          have HN' := Lib.hid (HN.out hpq)
          clear HS HN HI hpq
          go_wp2_with fail
          go_quiet (fail)
          go_wp2_with fail
          go_ret
          exact ⟨ret_bool (by rw [decide_eq_false HN'.out]), below_drewn HB.out _⟩
      · have HE : Hid (la = lb) := Lib.hid (list_eq (by rw [hn.out, hk.out]) fun j ha hb => HI.out j (by have := hn.out; omega) ha hb)
        go_wp2_with fail
        go_ret
        exact ⟨ret_bool (by rw [decide_eq_true HE.out]), HB.out⟩
  · have HE : Hid (¬ la = lb) := Lib.hid (fun e => hnk (by rw [← hn.out, ← hk.out, e]))
    go_enter Try.func39, Try.ntmps39
    go_wp2_with fail
    go_ret
    exact ⟨ret_bool (by rw [decide_eq_false HE.out]), Below.refl _ _⟩
end Go.Proofs.Ytjomchehnlnfcaa
/- Contracts of msg.Same and of the reference's Same. -/
namespace Go.Proofs.Ytjomchehnlnfcaa
open Go.RowKit
set_option linter.unusedVariables false
set_option maxRecDepth 100000
open Gm

set_option maxRecDepth 100000 in
set_option maxHeartbeats 1000000 in
theorem rmsame_any {w : World} {B C : Nat} {x y : Ms} {va vb : Value} (H : Mv w B x va) (K : Mv w C y vb) :
    Calls Try.prog 33 #[va, vb] w fun e w' => e = .returned (.bool (same x y)) ∧ Below w.heap.size w w' := by
  obtain ⟨b, vp, vq, w0, rfl, hb, hal, hsz, hx, hb0⟩ := boxed H
  obtain ⟨b2, wp, wq, w1, rfl, hb2, hal2, hsz2, hy, hb1⟩ := boxed (K.kept (by rw [hb]; exact hb0))
  have hbb : Below b w w1 := hb0.trans (hb1.mono (by omega))
  have hx1 := hx.below hb1 (by omega)
  have HC := Lib.hid hx1.cells
  have HD := Lib.hid hy.cells
  have E1 := Lib.hid (fun W (h : Below w1.heap.size w1 W) => rpeers_any ((hx1.kept h).peers) ((hy.kept h).peers))
  have E2 := Lib.hid (fun W (h : Below w1.heap.size w1 W) => rpairs_any ((hx1.kept h).pairs) ((hy.kept h).pairs))
  have hgd := guardPeer
  have HB := Lib.hid hbb
  have hsz3 : w1.heap.size = b + 2 := by omega
  have e2 : b2 = b + 1 := by omega
  subst e2
  have HL := Lib.hid (hx1.kept (Below.refl _ _)).bx
  have HR := Lib.hid (hy.kept (Below.refl _ _)).bx
  clear hx hx1 hy hb0 hb1 hbb hsz2 hb2 H K
  obtain ⟨xk, xr, xc, xh, xi, xs, xv, xp, xa, xl, xm⟩ := x
  obtain ⟨yk, yr, yc, yh, yi, ys, yv, yp, ya, yl, ym⟩ := y
  simp only at hal hal2 HC HD E1 E2 HL HR
  obtain ⟨r, hr⟩ : ∃ r, Hid (same ⟨xk, xr, xc, xh, xi, xs, xv, xp, xa, xl, xm⟩ ⟨yk, yr, yc, yh, yi, ys, yv, yp, ya, yl, ym⟩ = r) := ⟨_, rfl⟩
  rw [hr.out]
  by_cases hxk : xk = yk
  case neg =>
    have hs : ((xk) == (yk)) = false := by rw [beq_eq_false_iff_ne]; omega
    have er : r = false := by rw [← hr.out]; simp [same, same1, hxk]
    subst er
    have hs2 : ((xk) != (yk)) = true := by rw [bne, hs]; rfl
    clear hxk
    obtain ⟨c0, c1, c2, c3, c4, c5, c6, c7, c8, c9, c10⟩ := HC.out
    obtain ⟨d0, d1, d2, d3, d4, d5, d6, d7, d8, d9, d10⟩ := HD.out
    go_enter Try.func33, Try.ntmps33
    go_wp2_with fail
    go_ret
    exact ⟨rfl, by rw [hb]; exact HB.out⟩
  subst hxk
  by_cases hxr : xr = yr
  case neg =>
    have hs : ((xr : Int) == (yr : Int)) = false := by rw [beq_eq_false_iff_ne]; omega
    have er : r = false := by rw [← hr.out]; simp [same, same1, hxr]
    subst er
    have hs2 : ((xr : Int) != (yr : Int)) = true := by rw [bne, hs]; rfl
    clear hxr
    obtain ⟨c0, c1, c2, c3, c4, c5, c6, c7, c8, c9, c10⟩ := HC.out
    obtain ⟨d0, d1, d2, d3, d4, d5, d6, d7, d8, d9, d10⟩ := HD.out
    go_enter Try.func33, Try.ntmps33
    go_wp2_with fail
    go_ret
    exact ⟨rfl, by rw [hb]; exact HB.out⟩
  subst hxr
  by_cases hxc : xc = yc
  case neg =>
    have hs : ((xc : Int) == (yc : Int)) = false := by rw [beq_eq_false_iff_ne]; omega
    have er : r = false := by rw [← hr.out]; simp [same, same1, hxc]
    subst er
    have hs2 : ((xc : Int) != (yc : Int)) = true := by rw [bne, hs]; rfl
    clear hxc
    obtain ⟨c0, c1, c2, c3, c4, c5, c6, c7, c8, c9, c10⟩ := HC.out
    obtain ⟨d0, d1, d2, d3, d4, d5, d6, d7, d8, d9, d10⟩ := HD.out
    go_enter Try.func33, Try.ntmps33
    go_wp2_with fail
    go_ret
    exact ⟨rfl, by rw [hb]; exact HB.out⟩
  subst hxc
  by_cases hxh : xh = yh
  case neg =>
    have hs : (xh == yh) = false := by simpa using hxh
    have er : r = false := by rw [← hr.out]; simp [same, same1, hxh]
    subst er
    have hs2 : ((xh) != (yh)) = true := by rw [bne, hs]; rfl
    clear hxh
    obtain ⟨c0, c1, c2, c3, c4, c5, c6, c7, c8, c9, c10⟩ := HC.out
    obtain ⟨d0, d1, d2, d3, d4, d5, d6, d7, d8, d9, d10⟩ := HD.out
    go_enter Try.func33, Try.ntmps33
    go_wp2_with fail
    go_ret
    exact ⟨rfl, by rw [hb]; exact HB.out⟩
  subst hxh
  by_cases hxi : xi = yi
  case neg =>
    have hs : ((xi : Int) == (yi : Int)) = false := by rw [beq_eq_false_iff_ne]; omega
    have er : r = false := by rw [← hr.out]; simp [same, same1, hxi]
    subst er
    have hs2 : ((xi : Int) != (yi : Int)) = true := by rw [bne, hs]; rfl
    clear hxi
    obtain ⟨c0, c1, c2, c3, c4, c5, c6, c7, c8, c9, c10⟩ := HC.out
    obtain ⟨d0, d1, d2, d3, d4, d5, d6, d7, d8, d9, d10⟩ := HD.out
    go_enter Try.func33, Try.ntmps33
    go_wp2_with fail
    go_ret
    exact ⟨rfl, by rw [hb]; exact HB.out⟩
  subst hxi
  by_cases hxs : xs = ys
  case neg =>
    have hs := str_eq xs ys
    rw [decide_eq_false hxs] at hs
    have er : r = false := by rw [← hr.out]; simp [same, same1, hxs]
    subst er
    clear hxs
    obtain ⟨c0, c1, c2, c3, c4, c5, c6, c7, c8, c9, c10⟩ := HC.out
    obtain ⟨d0, d1, d2, d3, d4, d5, d6, d7, d8, d9, d10⟩ := HD.out
    go_enter Try.func33, Try.ntmps33
    go_wp2_with fail
    go_ret
    exact ⟨rfl, by rw [hb]; exact HB.out⟩
  subst hxs
  by_cases hxv : xv = yv
  case neg =>
    have hs := str_eq xv yv
    rw [decide_eq_false hxv] at hs
    have er : r = false := by rw [← hr.out]; simp [same, same1, hxv]
    subst er
    clear hxv
    obtain ⟨c0, c1, c2, c3, c4, c5, c6, c7, c8, c9, c10⟩ := HC.out
    obtain ⟨d0, d1, d2, d3, d4, d5, d6, d7, d8, d9, d10⟩ := HD.out
    go_enter Try.func33, Try.ntmps33
    go_wp2_with fail
    go_ret
    exact ⟨rfl, by rw [hb]; exact HB.out⟩
  subst hxv
  have hst : ∀ W, _ = _ := fun W => eqPeer W xp xa yp ya
  by_cases hp : (xp, xa) = (yp, ya)
  case neg =>
    rw [decide_eq_false hp] at hst
    have er : r = false := by rw [← hr.out]; simp only [Prod.mk.injEq, not_and] at hp; simpa [same, same1] using fun h1 h2 _ _ => hp h1 h2
    subst er
    clear hp
    obtain ⟨c0, c1, c2, c3, c4, c5, c6, c7, c8, c9, c10⟩ := HC.out
    obtain ⟨d0, d1, d2, d3, d4, d5, d6, d7, d8, d9, d10⟩ := HD.out
    go_enter Try.func33, Try.ntmps33
    go_wp2_with fail
    go_ret
    exact ⟨rfl, by rw [hb]; exact HB.out⟩
  rw [decide_eq_true hp] at hst
  simp only [Prod.mk.injEq] at hp
  obtain ⟨rfl, rfl⟩ := hp
  have hr2 : Hid (r = (decide (xl = yl) && decide (xm = ym))) := Lib.hid (by rw [← hr.out]; simp [same, same1])
  obtain ⟨c0, c1, c2, c3, c4, c5, c6, c7, c8, c9, c10⟩ := HC.out
  obtain ⟨d0, d1, d2, d3, d4, d5, d6, d7, d8, d9, d10⟩ := HD.out
  go_enter Try.func33, Try.ntmps33
  go_wp2_with fail
  refine (E1.out _ (Below.refl _ _)).mono ?_
  rintro e w2 ⟨rfl, hb2⟩
  have HB2 := Lib.hid hb2
  clear hb2 c0 c1 c2 c3 c4 c5 c6 c7 c8 c9 c10 d0 d1 d2 d3 d4 d5 d6 d7 d8 d9 d10
  have HF2 : Hid (Below b w w2) := Lib.hid (HB.out.trans (HB2.out.mono (by omega)))
  have c10 := ((HL.out.below HB2.out (by omega)).at_ 10)
  have d10 := ((HR.out.below HB2.out (by omega)).at_ 10)
  simp at c10 d10
  by_cases hl : xl = yl
  · rw [decide_eq_true hl]
    go_wp2_with fail
    refine (E2.out _ HB2.out).mono ?_
    rintro e w3 ⟨rfl, hb3⟩
    have HF3 : Hid (Below b w w3) := Lib.hid (HF2.out.trans (hb3.mono (by have := HB2.out.size; omega)))
    clear hb3
    go_wp2_with fail
    go_ret
    exact ⟨ret_bool (by rw [hr2.out, decide_eq_true hl, Bool.true_and]), by rw [hb]; exact HF3.out⟩
  · rw [decide_eq_false hl]
    go_wp2_with fail
    go_ret
    exact ⟨ret_bool (by rw [hr2.out, decide_eq_false hl, Bool.false_and]), by rw [hb]; exact HF2.out⟩
end Go.Proofs.Ytjomchehnlnfcaa
