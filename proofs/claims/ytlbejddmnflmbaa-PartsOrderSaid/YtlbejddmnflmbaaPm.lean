/- Layer 21 as plain mathematics: the parts of a message as they came. -/
import Derived.Test.YtlbejddmnflmbaaPA
namespace Go.Proofs.Ytlbejddmnflmbaa.Pm
set_option linter.unusedVariables false

/-- how many there are to be, and which came, in order: each one's place and bytes -/
structure S where
  count : Nat
  l : List (Nat × List Nat)
def S.idx (s : S) : List Nat := s.l.map (·.1)
def S.has (s : S) (i : Nat) : Bool := s.idx.contains i
def S.at_ (s : S) (i : Nat) : List Nat := match s.l.find? (fun x => x.1 == i) with
  | some x => x.2
  | none => []
def S.size (s : S) : Nat := (s.l.map (fun x => x.2.length)).sum
def S.whole (s : S) : List Nat := (List.range s.count).flatMap s.at_
def S.full (s : S) : Bool := decide (s.l.length = s.count)
def S.add (s : S) (i : Nat) (b : List Nat) : S := ⟨s.count, s.l ++ [(i, b)]⟩
/-- what Add answers -/
def S.err (s : S) (i : Int) : Nat := if i < 0 ∨ (s.count : Int) ≤ i then 1 else if s.has i.toNat then 12 else 0
def S.put (s : S) (i : Int) (b : List Nat) : S := if s.err i = 0 then s.add i.toNat b else s
structure S.Ok (s : S) : Prop where
  once : s.idx.Nodup
  lt : ∀ i ∈ s.idx, i < s.count
  most : s.count ≤ 65535
  byte : ∀ x ∈ s.l, ∀ y ∈ x.2, y < 256

theorem nodup_le : ∀ (n : Nat) (l : List Nat), l.Nodup → (∀ x ∈ l, x < n) → l.length ≤ n
  | 0, l, _, h => by
    cases l with
    | nil => simp
    | cons x l => exact absurd (h x List.mem_cons_self) (Nat.not_lt_zero _)
  | n + 1, l, hd, h => by
    by_cases hn : n ∈ l
    · have h1 := nodup_le n (l.erase n) (hd.erase n) (fun x hx => by
        have hx1 := List.mem_of_mem_erase hx
        have := h x hx1
        have hne : x ≠ n := fun e => by
          subst e
          exact (List.Nodup.mem_erase_iff hd).1 hx |>.1 rfl
        omega)
      rw [List.length_erase_of_mem hn] at h1
      omega
    · have h1 := nodup_le n l hd (fun x hx => by
        have := h x hx
        have hne : x ≠ n := fun e => hn (e ▸ hx)
        omega)
      omega
theorem all_there {n : Nat} {l : List Nat} (hd : l.Nodup) (h : ∀ x ∈ l, x < n) (hl : l.length = n) (i : Nat) (hi : i < n) : i ∈ l := by
  refine Classical.byContradiction fun hn => ?_
  have := nodup_le n (i :: l) (List.nodup_cons.2 ⟨hn, hd⟩) (fun x hx => by
    rcases List.mem_cons.1 hx with rfl | hx
    · exact hi
    · exact h x hx)
  rw [List.length_cons] at this
  omega
section
variable {s : S} {i : Nat} {b : List Nat}
theorem S.Ok.len (h : s.Ok) : s.l.length ≤ s.count := by
  have := nodup_le s.count s.idx h.once h.lt
  simpa [S.idx] using this
theorem S.has_iff : s.has i = true ↔ i ∈ s.idx := by simp [S.has]
theorem S.err_ok {z : Int} (h : s.err z = 0) : ∃ i : Nat, z = (i : Int) ∧ i < s.count ∧ s.has i = false := by
  unfold S.err at h
  split at h
  · cases h
  · split at h
    · cases h
    · rename_i h1 h2
      exact ⟨z.toNat, by omega, by omega, by simpa using h2⟩
theorem S.Ok.add (h : s.Ok) (hi : i < s.count) (hh : s.has i = false) (hb : ∀ y ∈ b, y < 256) : (s.add i b).Ok := by
  have hn : i ∉ s.idx := fun q => by rw [S.has_iff.2 q] at hh; cases hh
  refine ⟨?_, ?_, h.most, ?_⟩
  · unfold S.idx S.add
    rw [List.map_append, List.nodup_append]
    refine ⟨h.once, by simp, fun x hx y hy => ?_⟩
    simp at hy
    subst hy
    exact fun e => hn (e ▸ hx)
  · intro x hx
    unfold S.idx S.add at hx
    rw [List.map_append] at hx
    rcases List.mem_append.1 hx with hx | hx
    · exact h.lt x hx
    · simp at hx; subst hx; exact hi
  · intro x hx
    rcases List.mem_append.1 hx with hx | hx
    · exact h.byte x hx
    · simp at hx; subst hx; exact hb
theorem S.Ok.put (h : s.Ok) (z : Int) (hb : ∀ y ∈ b, y < 256) : (s.put z b).Ok := by
  unfold S.put
  split
  · obtain ⟨i, rfl, hi, hh⟩ := S.err_ok ‹_›
    simpa using h.add hi hh hb
  · exact h
theorem S.Ok.all (h : s.Ok) (hf : s.l.length = s.count) (hi : i < s.count) : i ∈ s.idx := all_there h.once h.lt (by simpa [S.idx] using hf) i hi
/-- where a part stands among those that came -/
def place (l : List Nat) (i : Nat) : Option Nat := l.findIdx? (· == i)
theorem place_some {l : List Nat} {i k : Nat} (hk : k < l.length) (he : l[k] = i) (hb : ∀ j, j < k → ∀ h : j < l.length, l[j] ≠ i) : place l i = some k := by
  unfold place
  rw [List.findIdx?_eq_some_iff_getElem]
  exact ⟨hk, by simpa using he, fun j hj => by simpa using hb j hj (by omega)⟩
theorem place_none {l : List Nat} {i : Nat} (h : ∀ j, ∀ h : j < l.length, l[j] ≠ i) : place l i = none := by
  unfold place
  rw [List.findIdx?_eq_none_iff]
  intro x hx
  obtain ⟨j, hj, rfl⟩ := List.mem_iff_getElem.1 hx
  simpa using h j hj
theorem place_has (l : List Nat) (i : Nat) : (place l i).isSome = l.contains i := by
  unfold place
  rw [List.findIdx?_isSome, List.any_beq']
/-- .. and its bytes -/
theorem at_place {k : Nat} (h : place s.idx i = some k) : ∃ hk : k < s.l.length, s.at_ i = s.l[k].2 := by
  unfold place at h
  rw [List.findIdx?_eq_some_iff_getElem] at h
  obtain ⟨hk, h1, h2⟩ := h
  have hk' : k < s.l.length := by simpa [S.idx] using hk
  refine ⟨hk', ?_⟩
  have e : s.l.find? (fun x => x.1 == i) = some s.l[k] := by
    rw [List.find?_eq_some_iff_getElem]
    refine ⟨by simpa [S.idx] using h1, k, hk', rfl, fun j hj => ?_⟩
    have := h2 j hj
    simpa [S.idx] using this
  unfold S.at_
  rw [e]
theorem S.Ok.at_byte (h : s.Ok) (i : Nat) : ∀ y ∈ s.at_ i, y < 256 := by
  unfold S.at_
  split
  · exact h.byte _ (List.mem_of_find?_eq_some ‹_›)
  · intro y hy; cases hy
theorem len_le_sum : ∀ (l : List (Nat × List Nat)), ∀ x ∈ l, x.2.length ≤ (l.map (fun x => x.2.length)).sum
  | [], x, h => by cases h
  | y :: l, x, h => by
    rw [List.map_cons, List.sum_cons]
    rcases List.mem_cons.1 h with rfl | h
    · omega
    · have := len_le_sum l x h; omega
theorem S.at_le (s : S) (i : Nat) : (s.at_ i).length ≤ s.size := by
  unfold S.at_
  split
  · exact len_le_sum s.l _ (List.mem_of_find?_eq_some ‹_›)
  · simp
/-- the first k of them, one behind the other -/
def S.first (s : S) (k : Nat) : List Nat := (List.range k).flatMap s.at_
theorem S.first_zero (s : S) : s.first 0 = [] := rfl
theorem S.first_succ (s : S) (k : Nat) : s.first (k + 1) = s.first k ++ s.at_ k := by simp [S.first, List.range_succ]
theorem S.first_all (s : S) : s.first s.count = s.whole := rfl
theorem S.first_le (s : S) (k : Nat) : (s.first k).length ≤ k * s.size := by
  induction k with
  | zero => simp [S.first]
  | succ k ih =>
    rw [S.first_succ, List.length_append, Nat.add_mul]
    have := s.at_le k
    omega
theorem S.Ok.first_byte (h : s.Ok) (k : Nat) : ∀ y ∈ s.first k, y < 256 := by
  induction k with
  | zero => intro y hy; cases hy
  | succ k ih =>
    intro y hy
    rw [S.first_succ] at hy
    rcases List.mem_append.1 hy with hy | hy
    · exact ih y hy
    · exact h.at_byte k y hy
theorem S.size_add (s : S) (i : Nat) (b : List Nat) : (s.add i b).size = s.size + b.length := by simp [S.add, S.size]
theorem S.at_add (s : S) (i : Nat) (b : List Nat) (hh : s.has i = false) (j : Nat) : (s.add i b).at_ j = if j = i then b else s.at_ j := by
  have hn : i ∉ s.idx := fun q => by rw [S.has_iff.2 q] at hh; cases hh
  unfold S.at_ S.add
  rw [List.find?_append]
  by_cases hj : j = i
  · subst hj
    have e : s.l.find? (fun x => x.1 == j) = none := by
      rw [List.find?_eq_none]
      intro x hx
      have : x.1 ∈ s.idx := List.mem_map.2 ⟨x, hx, rfl⟩
      simp
      exact fun e => hn (e ▸ this)
    simp [e]
  · rw [if_neg hj]
    have e : ([(i, b)] : List (Nat × List Nat)).find? (fun x => x.1 == j) = none := by simp [Ne.symm hj]
    rw [e, Option.or_none]
theorem S.has_add (s : S) (i : Nat) (b : List Nat) (j : Nat) : (s.add i b).has j = (s.has j || decide (j = i)) := by
  unfold S.has S.idx S.add
  rw [Bool.eq_iff_iff]
  simp
end
theorem sum_take_le : ∀ (l : List Nat) (k : Nat), (l.take k).sum ≤ l.sum
  | [], k => by simp
  | x :: l, 0 => by simp
  | x :: l, k + 1 => by
    rw [List.take_succ_cons, List.sum_cons, List.sum_cons]
    have := sum_take_le l k
    omega
end Go.Proofs.Ytlbejddmnflmbaa.Pm
