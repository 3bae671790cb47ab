/- Plain mathematics of layer 12: how many bytes a small tree is. No program. -/
import Derived.Test.YtphanlkobkkgfaaBn3
import Derived.Test.YtphanlkobkkgfaaRoom11
namespace Go.Proofs.Ytphanlkobkkgfaa
set_option linter.unusedVariables false
namespace Tn
mutual
def nodes : Tn → Nat
  | .mk _ _ _ _ kids => 1 + nodess kids
def nodess : List Tn → Nat
  | [] => 0
  | t :: ts => nodes t + nodess ts
end
theorem nodes_eq (t : Tn) : t.nodes = 1 + nodess t.kids := by obtain ⟨k, n, s, l, ks⟩ := t; rw [nodes]; rfl
mutual
theorem room_nodes : ∀ (t : Tn) (level : Nat) (left : Int), 0 ≤ room t level left → (nodes t : Int) + room t level left = left
  | .mk k n s keys kids, level, left, h => by
    rw [room] at h ⊢
    split at h
    · omega
    · rename_i h1
      rw [if_neg h1, nodes]
      have := rooms_nodes kids (level + 1) (left - 1) h
      omega
theorem rooms_nodes : ∀ (l : List Tn) (level : Nat) (left : Int), 0 ≤ rooms l level left → (nodess l : Int) + rooms l level left = left
  | [], level, left, h => by rw [rooms, nodess]; omega
  | t :: l, level, left, h => by
    rw [rooms] at h ⊢
    split at h
    · omega
    · rename_i h1
      rw [if_neg h1, nodess]
      have a1 := room_nodes t level left (by omega)
      have a2 := rooms_nodes l level _ h
      omega
end
theorem small_nodes {t : Tn} (h : ¬ t.room 1 400 < 0) : t.nodes ≤ 400 := by
  have := room_nodes t 1 400 (by omega)
  omega
theorem Lim.kid {t : Tn} (h : t.Lim) {i : Nat} (hi : i < t.kids.length) : t.kids[i].Lim := by
  cases h with
  | mk hs hk hq hx hl => exact hl _ (List.getElem_mem hi)
theorem nodess_mem : ∀ {l : List Tn} {t : Tn}, t ∈ l → t.nodes ≤ nodess l
  | a :: l, t, h => by
    rw [nodess]
    rcases List.mem_cons.1 h with rfl | h
    · omega
    · have := nodess_mem h; omega
end Tn
namespace Bn
theorem Ints.kid {t : Tn} (h : Ints t) {i : Nat} (hi : i < t.kids.length) : Ints t.kids[i] := by
  cases h with
  | mk hn hl => exact hl _ (List.getElem_mem hi)
theorem text_len {s : ByteArray} (h : s.size ≤ 300) : (text s).length ≤ 321 := by
  unfold text
  rw [List.length_append, List.length_cons, nums_len]
  have := Nm.put_length (n := (s.size : Int)) (by omega) (by omega)
  omega
theorem text_size (s : ByteArray) (h : s.size ≤ 1000000000) : (text s).length ≤ s.size + 21 := by
  unfold text
  rw [List.length_append, List.length_cons, nums_len]
  have := Nm.put_length (n := (s.size : Int)) (by omega) (by omega)
  omega
theorem body_len (d : Bool) : ∀ (ks : List ByteArray) (bs : List (List Nat)), (∀ k ∈ ks, k.size ≤ 300) → (body d ks bs).length ≤ 321 * ks.length + (bs.map List.length).sum
  | ks, [], h => by simp [body]
  | [], b :: bs, h => by
    have := body_len d [] bs (by simp)
    rw [body, List.map_cons, List.sum_cons, List.length_append]
    simp at this ⊢
    omega
  | k :: ks, b :: bs, h => by
    have a1 := body_len d ks bs (fun x hx => h x (List.mem_cons_of_mem _ hx))
    have a2 := text_len (h k List.mem_cons_self)
    rw [body, List.map_cons, List.sum_cons, List.length_append, List.length_append, List.length_cons]
    split <;> simp <;> omega
mutual
theorem ben_len : ∀ (t : Tn), t.Lim → Ints t → (ben t).length ≤ 8000 * t.nodes
  | .mk k n s keys kids, hl, hi => by
    have hin : Nm.In n := by cases hi with | mk hn hl => exact hn
    obtain ⟨hs, hk, hx, hkl⟩ : s.size ≤ 300 ∧ keys.length ≤ 20 ∧ (∀ x ∈ keys, x.size ≤ 300) ∧ ∀ u ∈ kids, u.Lim := by cases hl with | mk a b c d e => exact ⟨a, b, d, e⟩
    have hki : ∀ u ∈ kids, Ints u := by cases hi with | mk hn hl => exact hl
    have h1 := bens_len kids hkl hki
    have h2 := body_len (decide (k = 4)) keys (bens kids) hx
    have h3 := Nm.put_length hin.1 hin.2
    have h4 := text_len hs
    rw [ben, Tn.nodes]
    split
    · simp; omega
    · split
      · omega
      · simp; omega
theorem bens_len : ∀ (l : List Tn), (∀ u ∈ l, u.Lim) → (∀ u ∈ l, Ints u) → ((bens l).map List.length).sum ≤ 8000 * Tn.nodess l
  | [], h, hi => by rw [bens]; simp
  | t :: l, h, hi => by
    have a1 := ben_len t (h t List.mem_cons_self) (hi t List.mem_cons_self)
    have a2 := bens_len l (fun u hu => h u (List.mem_cons_of_mem _ hu)) (fun u hu => hi u (List.mem_cons_of_mem _ hu))
    rw [bens, List.map_cons, List.sum_cons, Tn.nodess]
    omega
end
theorem body_prefix (d : Bool) (ks : List ByteArray) (bs : List (List Nat)) : ∀ (n i : Nat), i + n = bs.length → (body d ks (bs.take i)).length ≤ (body d ks bs).length
  | 0, i, h => by rw [List.take_of_length_le (by omega)]; exact Nat.le_refl _
  | n + 1, i, h => by
    have := body_prefix d ks bs n (i + 1) (by omega)
    rw [body_take d i ks bs (by omega), List.length_append] at this
    omega
theorem body_pre (d : Bool) (ks : List ByteArray) (bs : List (List Nat)) (i : Nat) (h : i ≤ bs.length) : (body d ks (bs.take i)).length ≤ (body d ks bs).length := body_prefix d ks bs (bs.length - i) i (by omega)
theorem ben_byte : ∀ (k : Nat) (t : Tn), SizeOf.sizeOf t < k → Bytes (ben t)
  | 0, t, h => by omega
  | k + 1, t, h => by
    have hb : ∀ (ks : List ByteArray) (bs : List (List Nat)) (d : Bool), (∀ b ∈ bs, Bytes b) → Bytes (body d ks bs) := by
      intro ks bs d
      induction bs generalizing ks with
      | nil => intro _ x hx; simp [body] at hx
      | cons b bs ih =>
        intro hbs x hx
        cases ks with
        | nil =>
          rw [body] at hx
          rcases List.mem_append.1 hx with hx | hx
          · exact hbs b List.mem_cons_self x hx
          · exact ih [] (fun y hy => hbs y (List.mem_cons_of_mem _ hy)) x hx
        | cons y ks =>
          rw [body] at hx
          rcases List.mem_append.1 hx with hx | hx
          · split at hx
            · exact text_byte y x hx
            · cases hx
          · rcases List.mem_append.1 hx with hx | hx
            · exact hbs b List.mem_cons_self x hx
            · exact ih ks (fun y hy => hbs y (List.mem_cons_of_mem _ hy)) x hx
    intro x hx
    rw [ben_eq] at hx
    split at hx
    · simp at hx
      rcases hx with rfl | hx | rfl
      · omega
      · exact Nm.put_byte _ x hx
      · omega
    · split at hx
      · exact text_byte _ x hx
      · rcases List.mem_cons.1 hx with hx | hx
        · split at hx <;> omega
        · rcases List.mem_append.1 hx with hx | hx
          · refine hb _ _ _ (fun b hb => ?_) x hx
            obtain ⟨u, hu, rfl⟩ := List.mem_map.1 hb
            obtain ⟨i, hi, rfl⟩ := List.mem_iff_getElem.1 hu
            exact ben_byte k _ (by have := Tn.kid_lt (t := t) (i := i) hi; omega)
          · simp at hx; omega
where
  text_byte (s : ByteArray) : Bytes (text s) := fun x hx => by
    unfold text at hx
    rcases List.mem_append.1 hx with hx | hx
    · exact Nm.put_byte _ x hx
    · rcases List.mem_cons.1 hx with rfl | hx
      · omega
      · exact (Txt.nums s).byte x hx
end Bn
end Go.Proofs.Ytphanlkobkkgfaa
