/- Plain mathematics of layer 12: the bytes that a tree is, and the tree that bytes are. No program. -/
import Derived.Test.YtphanlkobkkgfaaNm
import Derived.Test.YtphanlkobkkgfaaTnm
import Derived.Test.YtphanlkobkkgfaaPA
namespace Go.Proofs.Ytphanlkobkkgfaa
set_option linter.unusedVariables false
namespace Bn

/-- what reading comes to: an error, or what was read and what is left -/
inductive Rs (α : Type) where
  | bad (e : Nat)
  | ok (x : α) (r : List Nat)

/-! ### written -/
def text (s : ByteArray) : List Nat := Nm.put (s.size : Int) ++ 58 :: nums s
/-- keys and values in turn -/
def body (d : Bool) : List ByteArray → List (List Nat) → List Nat
  | _, [] => []
  | [], b :: bs => b ++ body d [] bs
  | k :: ks, b :: bs => (if d = true then text k else []) ++ (b ++ body d ks bs)
mutual
def ben : Tn → List Nat
  | .mk k n s keys kids => if k = 1 then 105 :: (Nm.put n ++ [101]) else if k = 2 then text s else (if k = 4 then 100 else 108) :: (body (decide (k = 4)) keys (bens kids) ++ [101])
def bens : List Tn → List (List Nat)
  | [] => []
  | t :: ts => ben t :: bens ts
end
theorem bens_map : ∀ l : List Tn, bens l = l.map ben
  | [] => by rw [bens]; rfl
  | t :: l => by rw [bens, bens_map l]; rfl
theorem ben_eq (t : Tn) : ben t = if t.kind = 1 then 105 :: (Nm.put t.n ++ [101]) else if t.kind = 2 then text t.s else (if t.kind = 4 then 100 else 108) :: (body (decide (t.kind = 4)) t.keys (t.kids.map ben) ++ [101]) := by
  obtain ⟨k, n, s, keys, kids⟩ := t
  rw [ben, bens_map]
  rfl
/-- the first i of them, and one more -/
theorem body_take (d : Bool) : ∀ (i : Nat) (ks : List ByteArray) (bs : List (List Nat)) (h : i < bs.length), body d ks (bs.take (i + 1)) = body d ks (bs.take i) ++ ((if h2 : i < ks.length then (if d = true then text ks[i] else []) else []) ++ bs[i])
  | _, _, [], h => by simp at h
  | 0, [], b :: bs, h => by simp [body]
  | 0, k :: ks, b :: bs, h => by simp [body]
  | i + 1, [], b :: bs, h => by
    have ih := body_take d i [] bs (by simpa using h)
    rw [List.take_succ_cons, List.take_succ_cons, body, body, ih]
    simp
  | i + 1, k :: ks, b :: bs, h => by
    have ih := body_take d i ks bs (by simpa using h)
    rw [List.take_succ_cons, List.take_succ_cons, body, body, ih]
    simp
/-- a dictionary's entries at their end -/
theorem body_snoc (d : Bool) : ∀ (ks : List ByteArray) (bs : List (List Nat)) (k : List ByteArray) (b : List Nat), (d = true → ks.length = bs.length ∧ k.length = 1) → (d = false → ks = [] ∧ k = []) → body d (ks ++ k) (bs ++ [b]) = body d ks bs ++ ((if h : 0 < k.length then text k[0] else []) ++ b)
  | ks, [], k, b, h1, h2 => by
    cases d with
    | true =>
      obtain ⟨e1, e2⟩ := h1 rfl
      obtain rfl : ks = [] := List.eq_nil_of_length_eq_zero e1
      match k, e2 with
      | [x], _ => simp [body]
    | false =>
      obtain ⟨rfl, rfl⟩ := h2 rfl
      simp [body]
  | [], c :: bs, k, b, h1, h2 => by
    cases d with
    | true => simp at h1
    | false =>
      obtain ⟨_, rfl⟩ := h2 rfl
      have ih := body_snoc false [] bs [] b (by simp) (by simp)
      simp only [List.append_nil, List.cons_append] at ih ⊢
      rw [body, body, ih]
      simp
  | x :: ks, c :: bs, k, b, h1, h2 => by
    cases d with
    | true =>
      obtain ⟨e1, e2⟩ := h1 rfl
      have ih := body_snoc true ks bs k b (fun _ => ⟨by simpa using e1, e2⟩) (by simp)
      rw [List.cons_append, List.cons_append, body, body, ih]
      simp
    | false =>
      obtain ⟨e, _⟩ := h2 rfl
      cases e

/-! ### read -/
def digit (c : Nat) : Bool := decide (47 < c) && decide (c < 58)
/-- the number up to the first byte c -/
noncomputable def number (c : Nat) (l : List Nat) : Rs Int :=
  if l.findIdx (fun x => decide (x = c)) < l.length then
    if (Nm.get (l.take (l.findIdx (fun x => decide (x = c))))).2 = 0 then .ok (Nm.get (l.take (l.findIdx (fun x => decide (x = c))))).1 (l.drop (l.findIdx (fun x => decide (x = c)) + 1)) else .bad 3
  else .bad 2
noncomputable def word (l : List Nat) : Rs ByteArray :=
  match number 58 l with
  | .bad e => .bad e
  | .ok n r => if 1048576 < n then .bad 5 else if (r.length : Int) < n then .bad 2 else .ok (strOf (r.take n.toNat)) (r.drop n.toNat)
/-- a dictionary's key -/
noncomputable def entry (d : Bool) (ks : List ByteArray) (l : List Nat) : Rs (List ByteArray) :=
  if d = false then .ok ks l
  else match l with
    | [] => .bad 2
    | c :: _ => if digit c = false then .bad 3 else match word l with
      | .bad e => .bad e
      | .ok s r => if (∃ k, ks.getLast? = some k ∧ Tn.less k s = false) then .bad 3 else .ok (ks ++ [s]) r
noncomputable def loop (v : List Nat → Rs Tn) (d : Bool) : Nat → List ByteArray → List Tn → List Nat → Rs Tn
  | 0, _, _, _ => .bad 0
  | f + 1, ks, ts, l =>
    if l.head? = some 101 then .ok (.mk (if d = true then 4 else 3) 0 ⟨#[]⟩ ks ts) l.tail
    else match entry d ks l with
      | .bad e => .bad e
      | .ok ks' r => match v r with
        | .bad e => .bad e
        | .ok t r' => loop v d f ks' (ts ++ [t]) r'
/-- a value, with so many levels left -/
noncomputable def value : Nat → List Nat → Rs Tn
  | _, [] => .bad 2
  | 0, c :: l => if digit c = false ∧ c ≠ 105 ∧ c ≠ 108 ∧ c ≠ 100 then .bad 3 else .bad 6
  | k + 1, c :: l =>
    if digit c = false ∧ c ≠ 105 ∧ c ≠ 108 ∧ c ≠ 100 then .bad 3
    else if digit c = true then match word (c :: l) with
      | .bad e => .bad e
      | .ok s r => .ok (.mk 2 0 s [] []) r
    else if c = 105 then match number 101 l with
      | .bad e => .bad e
      | .ok n r => .ok (.mk 1 n ⟨#[]⟩ [] []) r
    else loop (value k) (decide (c = 100)) (l.length + 1) [] [] l
noncomputable def parse (l : List Nat) : Tn × Nat :=
  match value 8 l with
  | .bad e => (.mk 0 0 ⟨#[]⟩ [] [], e)
  | .ok t r => if r = [] then (t, 0) else (.mk 0 0 ⟨#[]⟩ [] [], 4)

/-! ### what is left is shorter -/
theorem number_len {c : Nat} {l r : List Nat} {n : Int} (h : number c l = .ok n r) : r.length < l.length := by
  unfold number at h
  split at h
  · rename_i h1
    split at h
    · cases h
      rw [List.length_drop]; omega
    · cases h
  · cases h
theorem word_len {l r : List Nat} {s : ByteArray} (h : word l = .ok s r) : r.length < l.length := by
  unfold word at h
  split at h
  · cases h
  · rename_i n r1 h1
    have := number_len h1
    split at h
    · cases h
    · split at h
      · cases h
      · cases h
        rw [List.length_drop]; omega
theorem entry_len {d : Bool} {ks ks' : List ByteArray} {l r : List Nat} (h : entry d ks l = .ok ks' r) : r.length ≤ l.length := by
  unfold entry at h
  split at h
  · cases h; exact Nat.le_refl _
  · split at h
    · cases h
    · split at h
      · cases h
      · split at h
        · cases h
        · rename_i s r1 h1
          have := word_len h1
          split at h
          · cases h
          · cases h; omega
theorem loop_len {v : List Nat → Rs Tn} {d : Bool} (hv : ∀ l t r, v l = .ok t r → r.length < l.length) : ∀ (f : Nat) (ks : List ByteArray) (ts : List Tn) (l : List Nat) {t : Tn} {r : List Nat}, loop v d f ks ts l = .ok t r → r.length < l.length
  | 0, ks, ts, l, t, r, h => by cases h
  | f + 1, ks, ts, l, t, r, h => by
    rw [loop] at h
    split at h
    · rename_i h1
      cases h
      cases l with
      | nil => simp at h1
      | cons c l => simp
    · split at h
      · cases h
      · rename_i ks' r1 h1
        have a1 := entry_len h1
        split at h
        · cases h
        · rename_i t1 r2 h2
          have a2 := hv _ _ _ h2
          have a3 := loop_len hv f _ _ _ h
          omega
theorem value_len : ∀ (k : Nat) (l : List Nat) (t : Tn) (r : List Nat), value k l = .ok t r → r.length < l.length
  | k, [], t, r, h => by cases k <;> cases h
  | 0, c :: l, t, r, h => by
    rw [value] at h
    split at h <;> cases h
  | k + 1, c :: l, t, r, h => by
    rw [value] at h
    split at h
    · cases h
    · split at h
      · split at h
        · cases h
        · rename_i s r1 h1
          cases h
          exact word_len h1
      · split at h
        · split at h
          · cases h
          · rename_i n r1 h1
            cases h
            have := number_len h1
            simp; omega
        · have := loop_len (value_len k) _ _ _ _ h
          simp; omega
/-- how much fuel there is does not matter -/
theorem loop_fuel {v : List Nat → Rs Tn} {d : Bool} (hv : ∀ l t r, v l = .ok t r → r.length < l.length) : ∀ (f g : Nat) (ks : List ByteArray) (ts : List Tn) (l : List Nat), l.length < f → l.length < g → loop v d f ks ts l = loop v d g ks ts l
  | 0, g, ks, ts, l, h, _ => by omega
  | f + 1, 0, ks, ts, l, _, h => by omega
  | f + 1, g + 1, ks, ts, l, h1, h2 => by
    rw [loop, loop]
    split
    · rfl
    · split
      · rfl
      · rename_i ks' r1 h3
        have a1 := entry_len h3
        split
        · rfl
        · rename_i t1 r2 h4
          have a2 := hv _ _ _ h4
          exact loop_fuel hv f g _ _ _ (by omega) (by omega)
end Bn
end Go.Proofs.Ytphanlkobkkgfaa
