/- Layer 22: the reference's list, with its things, held against the plain one. -/
import Derived.Test.YtbhdgfpaoghnbaaMid22
import Derived.LaidEqlPtr
namespace Go.Proofs.Ytbhdgfpaoghnbaa
set_option linter.unusedVariables false

theorem turned_set {g : Nat} (f : Tm.One → Tm.One) : ∀ (L : List (Tm.One × Nat)) (i : Nat) (hi : i < L.length), (L.map (fun x => x.2)).Nodup → (L[i]).2 = g → ones (turned g f L) = (ones L).set i (f (L[i]).1)
  | x :: L, 0, hi, hd, hg => by
    rw [List.map_cons, List.nodup_cons] at hd
    have e0 : turned g f (x :: L) = (f x.1, x.2) :: turned g f L := by
      unfold turned
      rw [List.map_cons, if_pos (by simpa using hg)]
    have e1 : turned g f L = L := by
      unfold turned
      conv => rhs; rw [← List.map_id L]
      refine List.map_congr_left fun y hy => ?_
      rw [if_neg (fun e => hd.1 (by rw [show x.2 = g by simpa using hg, ← e]; exact List.mem_map.2 ⟨y, hy, rfl⟩))]
      rfl
    rw [e0, e1]
    rfl
  | x :: L, i + 1, hi, hd, hg => by
    rw [List.map_cons, List.nodup_cons] at hd
    have hi' : i < L.length := by simpa using hi
    have hgi : (L[i]).2 = g := by simpa using hg
    have e0 : turned g f (x :: L) = x :: turned g f L := by
      unfold turned
      rw [List.map_cons, if_neg (fun e => hd.1 (by rw [e, ← hgi]; exact List.mem_map.2 ⟨L[i], List.getElem_mem hi', rfl⟩))]
    have ih := turned_set f L i hi' hd.2 hgi
    rw [e0]
    show x.1 :: ones (turned g f L) = (x.1 :: ones L).set (i + 1) (f L[i].1)
    rw [ih]
    rfl
theorem turned_last {g : Nat} (f : Tm.One → Tm.One) (L : List (Tm.One × Nat)) (o : Tm.One) (hd : ((L ++ [(o, g)]).map (fun x => x.2)).Nodup) : ones (turned g f (L ++ [(o, g)])) = ones L ++ [f o] := by
  have hi : L.length < (L ++ [(o, g)]).length := by simp
  rw [turned_set f (L ++ [(o, g)]) L.length hi hd (by simp)]
  unfold ones
  simp
theorem turned_has {g : Nat} (f : Tm.One → Tm.One) {L : List (Tm.One × Nat)} {o : Tm.One} (h : (o, g) ∈ L) : (f o, g) ∈ turned g f L := List.mem_map.2 ⟨(o, g), h, by simp⟩
theorem ones_erase (L : List (Tm.One × Nat)) (i : Nat) : ones (L.eraseIdx i) = (ones L).eraseIdx i := by
  unfold ones
  induction L generalizing i with
  | nil => simp
  | cons x L ih => cases i with
    | zero => simp
    | succ i => simp [ih]
theorem putS_plus {o : Tm.One} {gd : Gd} (hi : gd.index < o.s.count) (hh : o.s.has gd.index = false) : Tm.One.putS (gd.index : Int) gd.body o = o.plus gd := by
  unfold Tm.One.putS Tm.One.plus Pm.S.put
  rw [if_pos (by unfold Pm.S.err; rw [if_neg (by omega), if_neg (by rw [Int.toNat_natCast, hh]; decide)]), Int.toNat_natCast]
/-- what Put's loop has: the list is on its way to the plain one -/
structure Shr (b : Nat) (k : Tm.Key) (R : List Tm.One) (o : Tm.One) (g : Nat) (L : List (Tm.One × Nat)) : Prop where
  way : ∃ f, Tm.shrink b k f (ones L) = R ∧ (ones L).length ≤ f
  mem : (o, g) ∈ L
  key : o.key = k
  size : o.s.size ≤ b
  once : ((ones L).map Tm.One.key).Nodup
  two : (L.map (fun x => x.2)).Nodup
section
variable {b g : Nat} {k : Tm.Key} {R : List Tm.One} {o : Tm.One} {L : List (Tm.One × Nat)}
theorem Shr.end_ (h : Shr b k R o g L) (hl : Tm.held (ones L) ≤ b) : ones L = R := by
  obtain ⟨f, e, _⟩ := h.way
  rw [← e, Tm.shrink_done f b hl]
theorem key_uniq : ∀ (L : List (Tm.One × Nat)), ((ones L).map Tm.One.key).Nodup → ∀ x ∈ L, ∀ y ∈ L, x.1.key = y.1.key → x = y
  | [], _, x, hx, _, _, _ => by cases hx
  | z :: L, hd, x, hx, y, hy, e => by
    have hd' : (z.1.key :: (ones L).map Tm.One.key).Nodup := hd
    rw [List.nodup_cons] at hd'
    have hm : ∀ q ∈ L, q.1.key ∈ (ones L).map Tm.One.key := fun q hq => List.mem_map.2 ⟨q.1, List.mem_map.2 ⟨q, hq, rfl⟩, rfl⟩
    rcases List.mem_cons.1 hx with rfl | hx'
    · rcases List.mem_cons.1 hy with rfl | hy'
      · rfl
      · exact absurd (by rw [e]; exact hm y hy') hd'.1
    · rcases List.mem_cons.1 hy with rfl | hy'
      · exact absurd (by rw [← e]; exact hm x hx') hd'.1
      · exact key_uniq L hd'.2 x hx' y hy' e
theorem sub_once {L' : List (Tm.One × Nat)} (hs : L'.Sublist L) (h : ((ones L).map Tm.One.key).Nodup) : ((ones L').map Tm.One.key).Nodup := ((hs.map _).map _).nodup h
/-- the first one is this one: the second one goes -/
theorem Shr.this (h : Shr b k R o g L) (hl : ¬ Tm.held (ones L) ≤ b) (h0 : 0 < L.length) (hg : (L[0]).2 = g) : 1 < L.length ∧ Shr b k R o g (L.eraseIdx 1) := by
  cases L with
  | nil => simp at h0
  | cons x L =>
    have hx : x = (o, g) := snd_uniq (x :: L) h.two x List.mem_cons_self (o, g) h.mem (by simpa using hg)
    subst hx
    cases L with
    | nil => exact absurd (by have := h.size; simpa [ones, Tm.held] using this) hl
    | cons y L =>
      refine ⟨by simp, ?_⟩
      obtain ⟨f, e, hf⟩ := h.way
      cases f with
      | zero => simp [ones] at hf
      | succ f =>
        have hs : ((o, g) :: L).Sublist ((o, g) :: y :: L) := List.Sublist.cons_cons _ (List.Sublist.cons _ (List.Sublist.refl _))
        have e2 : ones ((o, g) :: y :: L) = o :: y.1 :: ones L := rfl
        rw [e2] at e hl hf
        rw [Tm.shrink_this hl h.key] at e
        exact ⟨⟨f, e, by simpa [ones] using hf⟩, List.mem_cons_self, h.key, h.size, sub_once hs h.once, (hs.map _).nodup h.two⟩
/-- the first one is another one: it goes -/
theorem Shr.other (h : Shr b k R o g L) (hl : ¬ Tm.held (ones L) ≤ b) (h0 : 0 < L.length) (hg : (L[0]).2 ≠ g) : Shr b k R o g (L.eraseIdx 0) := by
  cases L with
  | nil => simp at h0
  | cons x L =>
    have hk : x.1.key ≠ k := fun e => hg (by
      have := key_uniq (x :: L) h.once x List.mem_cons_self (o, g) h.mem (by rw [e]; exact h.key.symm)
      rw [List.getElem_cons_zero, this])
    obtain ⟨f, e, hf⟩ := h.way
    cases f with
    | zero => simp [ones] at hf
    | succ f =>
      have hs : L.Sublist (x :: L) := List.Sublist.cons _ (List.Sublist.refl _)
      have e2 : ones (x :: L) = x.1 :: ones L := rfl
      rw [e2] at e hl hf
      rw [Tm.shrink_other hl hk] at e
      refine ⟨⟨f, e, by simpa [ones] using hf⟩, ?_, h.key, h.size, sub_once hs h.once, (hs.map _).nodup h.two⟩
      rcases List.mem_cons.1 h.mem with h1 | h1
      · exact absurd (by rw [List.getElem_cons_zero, ← h1]) hg
      · exact h1
theorem Shr.pos (h : Shr b k R o g L) : 0 < L.length := List.length_pos_of_mem h.mem
end
theorem Tm.held_set : ∀ (l : List Tm.One) (i : Nat) (o : Tm.One), Tm.held (l.set i o) ≤ Tm.held l + o.s.size
  | [], i, o => by simp [Tm.held]
  | x :: l, 0, o => by rw [List.set_cons_zero, Tm.held_cons, Tm.held_cons]; omega
  | x :: l, i + 1, o => by
    rw [List.set_cons_succ, Tm.held_cons, Tm.held_cons]
    have := Tm.held_set l i o
    omega
theorem Tm.held_opened {m : Tm.Lim} {l : List Tm.One} {k : Tm.Key} {o : Tm.One} (h : Tm.Ok m l) : Tm.held (Tm.opened m l k o) ≤ m.by_ + o.s.size := by
  have := h.few
  cases e : Tm.find l k with
  | some i =>
    rw [Tm.opened_some e]
    have := Tm.held_set l i o
    omega
  | none =>
    rw [Tm.opened_none e, Tm.held_append]
    have h1 := Tm.held_sub (Tm.rest_sub l m.op)
    have h2 : Tm.held [o] = o.s.size := by simp [Tm.held]
    omega
open Go.RowKit
end Go.Proofs.Ytbhdgfpaoghnbaa
