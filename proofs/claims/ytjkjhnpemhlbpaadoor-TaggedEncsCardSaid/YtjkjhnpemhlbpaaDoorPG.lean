/- Texts Fm, Fm2, Keep, Fput, Fputs, Fown, in one. -/
import Derived.Test.YtjkjhnpemhlbpaaDoorPC
import Derived.Test.YtjkjhnpemhlbpaaDoorPE
import Derived.Test.YtjkjhnpemhlbpaaDoorPA
import Derived.Test.YtjkjhnpemhlbpaaDoorPF
/- Plain mathematics of layer 9: the bytes that a message is, and the message that bytes are. No program. -/
namespace Go.Proofs.YtjkjhnpemhlbpaaDoor
open Gm
set_option linter.unusedVariables false
namespace Fm

/-! ### written -/
def peerB (p : Nat × Nat) : List Nat := Bm.fix 8 p.1 ++ Bm.fix 2 p.2
def peersB (l : List (Nat × Nat)) : List Nat := Bm.fix 1 l.length ++ l.flatMap peerB
def strB (k : Nat) (s : ByteArray) : List Nat := Bm.fix k s.size ++ nums s
def pairB (p : ByteArray × ByteArray) : List Nat := strB 1 p.1 ++ strB 2 p.2
def pairsB (l : List (ByteArray × ByteArray)) : List Nat := Bm.fix 1 l.length ++ l.flatMap pairB
def hasB (b : Bool) : List Nat := [b.toNat]
def ownB (m : Ms) : List Nat :=
  if m.kind = 1 then Bm.fix 8 m.id
  else if m.kind = 2 then hasB m.has ++ peersB m.peers
  else if m.kind = 4 then hasB m.has ++ ((if m.has = true then peerB (m.pid, m.pad) else []) ++ peersB m.peers)
  else if m.kind = 5 then peerB (m.pid, m.pad)
  else if m.kind = 7 then strB 1 m.key ++ strB 2 m.val
  else if m.kind = 8 then strB 1 m.key
  else if m.kind = 9 then hasB m.has ++ (if m.has = true then strB 2 m.val else [])
  else if m.kind = 10 then hasB m.has ++ pairsB m.pairs
  else if m.kind = 12 then Bm.fix 1 m.code
  else []
def put (m : Ms) : List Nat := Bm.fix 1 m.kind.toNat ++ (Bm.fix 4 m.rid ++ ownB m)
def enc (m : Ms) : List Nat × Nat := if right m = 0 then (put m, 0) else ([], right m)

/-! ### read: what is read, what is left, the error -/
def peer (l : List Nat) (e : Int) : (Nat × Nat) × List Nat × Int :=
  (((Bm.rfix l e 8).1, (Bm.rfix (Bm.rfix l e 8).2.1 (Bm.rfix l e 8).2.2 2).1 % 65536), (Bm.rfix (Bm.rfix l e 8).2.1 (Bm.rfix l e 8).2.2 2).2)
def count (size : Int) (most : Nat) (l : List Nat) (e : Int) : Nat × List Nat × Int :=
  if most < (Bm.rfix l e size).1 then (0, (Bm.rfix l e size).2.1, Bm.fail (Bm.rfix l e size).2.2 5) else Bm.rfix l e size
def str (size : Int) (most : Nat) (l : List Nat) (e : Int) : List Nat × List Nat × Int :=
  Bm.take (count size most l e).2.1 (count size most l e).2.2 ((count size most l e).1 : Int)
def pair (l : List Nat) (e : Int) : (ByteArray × ByteArray) × List Nat × Int :=
  ((strOf (str 1 96 l e).1, strOf (str 2 512 (str 1 96 l e).2.1 (str 1 96 l e).2.2).1), (str 2 512 (str 1 96 l e).2.1 (str 1 96 l e).2.2).2)
def many {α : Type} (p : List Nat → Int → α × List Nat × Int) : Nat → List Nat → Int → List α × List Nat × Int
  | 0, l, e => ([], l, e)
  | n + 1, l, e => ((many p n l e).1 ++ [(p (many p n l e).2.1 (many p n l e).2.2).1], (p (many p n l e).2.1 (many p n l e).2.2).2)
def peers (l : List Nat) (e : Int) : List (Nat × Nat) × List Nat × Int := many peer (count 1 16 l e).1 (count 1 16 l e).2.1 (count 1 16 l e).2.2
def pairs (l : List Nat) (e : Int) : List (ByteArray × ByteArray) × List Nat × Int := many pair (count 1 8 l e).1 (count 1 8 l e).2.1 (count 1 8 l e).2.2
/-- no message -/
def zero : Ms := ⟨0, 0, 0, false, 0, ⟨#[]⟩, ⟨#[]⟩, 0, 0, [], []⟩
/-- a message of a kind and a number alone -/
def bald (k r : Nat) : Ms := ⟨(k : Int), r, 0, false, 0, ⟨#[]⟩, ⟨#[]⟩, 0, 0, [], []⟩
def own (k r : Nat) (l : List Nat) (e : Int) : Ms × List Nat × Int :=
  if k = 1 then ({ bald k r with id := (Bm.rfix l e 8).1 }, (Bm.rfix l e 8).2)
  else if k = 2 then ({ bald k r with has := (Bm.flag l e).1, peers := (peers (Bm.flag l e).2.1 (Bm.flag l e).2.2).1 }, (peers (Bm.flag l e).2.1 (Bm.flag l e).2.2).2)
  else if k = 4 then
    if (Bm.flag l e).1 = true then
      ({ bald k r with has := true, pid := (peer (Bm.flag l e).2.1 (Bm.flag l e).2.2).1.1, pad := (peer (Bm.flag l e).2.1 (Bm.flag l e).2.2).1.2, peers := (peers (peer (Bm.flag l e).2.1 (Bm.flag l e).2.2).2.1 (peer (Bm.flag l e).2.1 (Bm.flag l e).2.2).2.2).1 },
        (peers (peer (Bm.flag l e).2.1 (Bm.flag l e).2.2).2.1 (peer (Bm.flag l e).2.1 (Bm.flag l e).2.2).2.2).2)
    else ({ bald k r with peers := (peers (Bm.flag l e).2.1 (Bm.flag l e).2.2).1 }, (peers (Bm.flag l e).2.1 (Bm.flag l e).2.2).2)
  else if k = 5 then ({ bald k r with pid := (peer l e).1.1, pad := (peer l e).1.2 }, (peer l e).2)
  else if k = 7 then ({ bald k r with key := strOf (str 1 96 l e).1, val := strOf (str 2 512 (str 1 96 l e).2.1 (str 1 96 l e).2.2).1 }, (str 2 512 (str 1 96 l e).2.1 (str 1 96 l e).2.2).2)
  else if k = 8 then ({ bald k r with key := strOf (str 1 96 l e).1 }, (str 1 96 l e).2)
  else if k = 9 then
    if (Bm.flag l e).1 = true then ({ bald k r with has := true, val := strOf (str 2 512 (Bm.flag l e).2.1 (Bm.flag l e).2.2).1 }, (str 2 512 (Bm.flag l e).2.1 (Bm.flag l e).2.2).2)
    else (bald k r, (Bm.flag l e).2)
  else if k = 10 then ({ bald k r with has := (Bm.flag l e).1, pairs := (pairs (Bm.flag l e).2.1 (Bm.flag l e).2.2).1 }, (pairs (Bm.flag l e).2.1 (Bm.flag l e).2.2).2)
  else if k = 12 then ({ bald k r with code := (Bm.rfix l e 1).1 % 256 }, (Bm.rfix l e 1).2)
  else (bald k r, l, e)
/-- the kind, and the error behind it -/
def kindE (l : List Nat) : Int := if known ((Bm.rfix l 0 1).1 : Int) = true then (Bm.rfix l 0 1).2.2 else Bm.fail (Bm.rfix l 0 1).2.2 9
def ridR (l : List Nat) : Nat × List Nat × Int := Bm.rfix (Bm.rfix l 0 1).2.1 (kindE l) 4
def read (l : List Nat) : Ms × List Nat × Int := own (Bm.rfix l 0 1).1 ((ridR l).1 % 4294967296) (ridR l).2.1 (ridR l).2.2
def fin (l : List Nat) : Int := Bm.fin (read l).2.1 (read l).2.2
def dec (l : List Nat) : Ms × Int := if fin l ≠ 0 then (zero, fin l) else if right (read l).1 = 0 then ((read l).1, 0) else (zero, (right (read l).1 : Int))

/-! ### what is read is what was written -/
def Bytes (l : List Nat) : Prop := ∀ x ∈ l, x < 256
/-- p reads what f writes, of such as are ok -/
structure Good {α : Type} (p : List Nat → Int → α × List Nat × Int) (f : α → List Nat) (ok : α → Prop) : Prop where
  suf : ∀ l e, (p l e).2.1 <:+ l
  sound : ∀ l e, Bytes l → (p l e).2.2 = 0 → e = 0 ∧ l = f (p l e).1 ++ (p l e).2.1 ∧ ok (p l e).1
  full : ∀ x r, ok x → p (f x ++ r) 0 = (x, r, 0)
theorem Bytes.suf {l m : List Nat} (h : Bytes l) (k : m <:+ l) : Bytes m := fun x hx => h x (k.subset hx)
theorem fix_be : ∀ (l : List Nat), Bytes l → Bm.fix l.length (Bm.be l) = l := by
  intro l hl
  have key : ∀ n, n ≤ l.length → Bm.fix n (Bm.be (l.take n)) = l.take n := by
    intro n
    induction n with
    | zero => intro _; simp [Bm.fix]
    | succ n ih =>
      intro hn
      have hx := hl l[n] (List.getElem_mem (by omega))
      rw [List.take_succ_eq_append_getElem (by omega), Bm.be_snoc, Bm.fix, show (Bm.be (l.take n) * 256 + l[n]) / 256 = Bm.be (l.take n) by omega, show (Bm.be (l.take n) * 256 + l[n]) % 256 = l[n] by omega, ih (by omega)]
  have h := key l.length (Nat.le_refl _)
  rwa [List.take_length] at h
theorem be_lt {l : List Nat} (h : Bytes l) (k : Nat) (hk : k ≤ l.length) : Bm.be (l.take k) < 256 ^ k := Bm.be_take l h k hk
theorem rfix_suf (l : List Nat) (e s : Int) : (Bm.rfix l e s).2.1 <:+ l := by
  unfold Bm.rfix
  repeat' split
  all_goals first | exact List.suffix_refl _ | exact List.drop_suffix _ _
theorem flag_suf (l : List Nat) (e : Int) : (Bm.flag l e).2.1 <:+ l := by
  unfold Bm.flag
  repeat' split
  all_goals first | exact List.suffix_refl _ | exact List.drop_suffix _ _
theorem take_suf (l : List Nat) (e s : Int) : (Bm.take l e s).2.1 <:+ l := by
  unfold Bm.take
  repeat' split
  all_goals first | exact List.suffix_refl _ | exact List.drop_suffix _ _
theorem rfix_lt {l : List Nat} (h : Bytes l) (e : Int) (k : Nat) : (Bm.rfix l e (k : Int)).1 < 256 ^ k := by
  have hp : 0 < 256 ^ k := Nat.pow_pos (by decide)
  unfold Bm.rfix
  repeat' split
  · exact hp
  · exact hp
  · exact hp
  · rename_i h1 h2
    simp only [Int.toNat_natCast]
    exact be_lt h k (by omega)
theorem good_fix (k : Nat) (s : Int) (hs : s = (k : Int)) (h1 : 1 ≤ k) (h8 : k ≤ 8) : Good (fun l e => Bm.rfix l e s) (Bm.fix k) (fun x => x < 256 ^ k) := by
  subst hs
  refine ⟨fun l e => rfix_suf l e _, fun l e hb h => ?_, fun x r hx => ?_⟩
  · have hx := rfix_lt hb e k
    by_cases he : e = 0
    · subst he
      by_cases hl : l.length < k
      · simp only [Bm.rfix_short h1 h8 hl] at h; cases h
      · simp only [Bm.rfix_good h1 h8 (Nat.le_of_not_lt hl)] at hx ⊢
        refine ⟨by trivial, ?_, hx⟩
        have := fix_be (l.take k) (fun x hx => hb x (List.mem_of_mem_take hx))
        rw [List.length_take, Nat.min_eq_left (Nat.le_of_not_lt hl)] at this
        rw [this, List.take_append_drop]
    · simp only [Bm.rfix_err he] at h; exact absurd h he
  · show Bm.rfix (Bm.fix k x ++ r) 0 (k : Int) = _
    rw [Bm.rfix_put x k r h1 h8, Nat.mod_eq_of_lt hx]
theorem good_flag : Good Bm.flag hasB (fun _ => True) := by
  refine ⟨flag_suf, fun l e hb h => ?_, fun x r _ => ?_⟩
  · by_cases he : e = 0
    · subst he
      cases l with
      | nil => simp [Bm.flag] at h
      | cons a l =>
        by_cases ha : 1 < a
        · rw [Bm.flag_form (by simp) (by simpa using ha)] at h; cases h
        · have ha' : a = 0 ∨ a = 1 := by omega
          rw [Bm.flag_good (by simp) (by simpa using ha)]
          rcases ha' with rfl | rfl <;> refine ⟨rfl, ?_, trivial⟩ <;> simp [hasB]
    · rw [Bm.flag_err he] at h; exact absurd h he
  · cases x <;> rfl
theorem good_peer : Good peer peerB (fun p => p.1 < 18446744073709551616 ∧ p.2 < 65536) := by
  have G8 := good_fix 8 8 rfl (by omega) (by omega)
  have G2 := good_fix 2 2 rfl (by omega) (by omega)
  refine ⟨fun l e => (G2.suf _ _).trans (G8.suf l e), fun l e hb h => ?_, fun x r hx => ?_⟩
  · obtain ⟨h1, h2, h3⟩ := G2.sound _ _ (hb.suf (G8.suf l e)) h
    obtain ⟨h4, h5, h6⟩ := G8.sound l e hb h1
    have e2 : (peer l e).1 = ((Bm.rfix l e 8).1, (Bm.rfix (Bm.rfix l e 8).2.1 (Bm.rfix l e 8).2.2 2).1) := by
      show (_, _) = (_, _)
      rw [Nat.mod_eq_of_lt (by exact h3)]
    refine ⟨h4, ?_, by rw [e2]; exact ⟨h6, h3⟩⟩
    rw [e2]
    show l = (Bm.fix 8 _ ++ Bm.fix 2 _) ++ (Bm.rfix (Bm.rfix l e 8).2.1 (Bm.rfix l e 8).2.2 2).2.1
    rw [List.append_assoc, ← h2]
    exact h5
  · obtain ⟨x1, x2⟩ := x
    have a1 := G8.full x1 (Bm.fix 2 x2 ++ r) hx.1
    have a2 := G2.full x2 r hx.2
    try simp only at a1 a2
    unfold peer peerB
    rw [List.append_assoc, a1]
    simp only
    rw [a2]
    simp only [Nat.mod_eq_of_lt hx.2]
theorem good_count (k : Nat) (s : Int) (most : Nat) (hs : s = (k : Int)) (h1 : 1 ≤ k) (h8 : k ≤ 8) : Good (count s most) (Bm.fix k) (fun x => x < 256 ^ k ∧ x ≤ most) := by
  have G := good_fix k s hs h1 h8
  refine ⟨fun l e => ?_, fun l e hb h => ?_, fun x r hx => ?_⟩
  · unfold count
    split
    · exact G.suf l e
    · exact G.suf l e
  · by_cases hm : most < (Bm.rfix l e s).1
    · unfold count at h
      rw [if_pos hm] at h
      unfold Bm.fail at h
      simp only at h
      split at h
      · contradiction
      · cases h
    · have e1 : count s most l e = Bm.rfix l e s := by unfold count; rw [if_neg hm]
      rw [e1] at h ⊢
      obtain ⟨h2, h3, h4⟩ := G.sound l e hb h
      exact ⟨h2, h3, h4, Nat.le_of_not_lt hm⟩
  · have a := G.full x r hx.1
    try simp only at a
    unfold count
    rw [a, if_neg (by simpa using hx.2)]
theorem count_lt {k : Nat} (l : List Nat) (e : Int) (most : Nat) (s : Int) : (count s most l e).1 ≤ most := by
  unfold count
  split
  · exact Nat.zero_le _
  · rename_i h; exact Nat.le_of_not_lt h
theorem strOf_nums' (s : ByteArray) : strOf (nums s) = s := (Txt.nums s).str.symm
theorem nums_strOf {l : List Nat} (h : Bytes l) : nums (strOf l) = l := (Txt.nums (strOf l)).inj (Txt.of h)
theorem nums_length (s : ByteArray) : (nums s).length = s.size := (Txt.nums s).size.symm
theorem nums_bytes (s : ByteArray) : Bytes (nums s) := (Txt.nums s).byte
theorem good_str (k : Nat) (s : Int) (most : Nat) (hs : s = (k : Int)) (h1 : 1 ≤ k) (h8 : k ≤ 8) (hm : most < 256 ^ k) : Good (fun l e => (strOf (str s most l e).1, (str s most l e).2)) (strB k) (fun x => x.size ≤ most) := by
  have G := good_count k s most hs h1 h8
  refine ⟨fun l e => (take_suf _ _ _).trans (G.suf l e), fun l e hb h => ?_, fun x r hx => ?_⟩
  · try simp only at h ⊢
    have hs1 := G.suf l e
    by_cases hc : (count s most l e).2.2 = 0
    · obtain ⟨h2, h3, h4, h5⟩ := G.sound l e hb hc
      unfold str at h ⊢
      generalize hcc : count s most l e = q at *
      obtain ⟨c, l1, e1⟩ := q
      try simp only at h h3 h4 h5 hc hs1 ⊢
      subst hc
      by_cases hl : c ≤ l1.length
      · rw [Bm.take_good hl] at h ⊢
        simp only
        have hb1 := hb.suf hs1
        have hbt : Bytes (l1.take c) := fun x hx => hb1 x (List.mem_of_mem_take hx)
        have hz : (strOf (l1.take c)).size = c := by rw [strOf_size, List.length_take, Nat.min_eq_left hl]
        refine ⟨h2, ?_, by rw [hz]; exact h5⟩
        unfold strB
        rw [hz, nums_strOf hbt, List.append_assoc, List.take_append_drop]
        exact h3
      · rw [Bm.take_short (by omega)] at h
        cases h
    · unfold str at h
      rw [Bm.take_err hc] at h
      exact absurd h hc
  · have a := G.full x.size (nums x ++ r) ⟨by omega, hx⟩
    try simp only
    unfold str strB
    rw [List.append_assoc, a]
    simp only
    have hl : x.size ≤ (nums x ++ r).length := by rw [List.length_append, nums_length]; omega
    rw [Bm.take_good hl, ← nums_length x, List.take_left, List.drop_left]
    simp only [strOf_nums']
theorem good_pair : Good pair pairB (fun p => p.1.size ≤ 96 ∧ p.2.size ≤ 512) := by
  have G1 := good_str 1 1 96 rfl (by omega) (by omega) (by omega)
  have G2 := good_str 2 2 512 rfl (by omega) (by omega) (by omega)
  refine ⟨fun l e => (G2.suf _ _).trans (G1.suf l e), fun l e hb h => ?_, fun x r hx => ?_⟩
  · obtain ⟨h1, h2, h3⟩ := G2.sound _ _ (hb.suf (G1.suf l e)) h
    obtain ⟨h4, h5, h6⟩ := G1.sound l e hb h1
    refine ⟨h4, ?_, h6, h3⟩
    unfold pairB
    rw [List.append_assoc]
    show l = strB 1 (strOf (str 1 96 l e).1) ++ (strB 2 (strOf (str 2 512 (str 1 96 l e).2.1 (str 1 96 l e).2.2).1) ++ (str 2 512 (str 1 96 l e).2.1 (str 1 96 l e).2.2).2.1)
    rw [← h2]
    exact h5
  · obtain ⟨x1, x2⟩ := x
    have a1 := G1.full x1 (strB 2 x2 ++ r) hx.1
    have a2 := G2.full x2 r hx.2
    simp only [Prod.mk.injEq] at a1 a2
    obtain ⟨a3, a4⟩ := a1
    obtain ⟨a5, a6⟩ := a2
    unfold pair pairB
    rw [List.append_assoc, a3, a4]
    simp only
    rw [a5, a6]
theorem good_many {α : Type} {p : List Nat → Int → α × List Nat × Int} {f : α → List Nat} {ok : α → Prop} (G : Good p f ok) (n : Nat) : Good (many p n) (fun x => x.flatMap f) (fun x => x.length = n ∧ ∀ y ∈ x, ok y) := by
  refine ⟨?_, ?_, ?_⟩
  · induction n with
    | zero => exact fun l e => List.suffix_refl _
    | succ n ih => exact fun l e => (G.suf _ _).trans (ih l e)
  · induction n with
    | zero => exact fun l e _ h => ⟨h, rfl, rfl, fun y hy => by cases hy⟩
    | succ n ih =>
      intro l e hb h
      have hs : (many p n l e).2.1 <:+ l := by
        clear h ih
        induction n with
        | zero => exact List.suffix_refl _
        | succ n ih => exact (G.suf _ _).trans ih
      obtain ⟨h1, h2, h3⟩ := G.sound _ _ (hb.suf hs) h
      obtain ⟨h4, h5, h6, h7⟩ := ih l e hb h1
      refine ⟨h4, ?_, by simp [many, h6], ?_⟩
      · show l = ((many p n l e).1 ++ [(p (many p n l e).2.1 (many p n l e).2.2).1]).flatMap f ++ (p (many p n l e).2.1 (many p n l e).2.2).2.1
        rw [List.flatMap_append, List.append_assoc, List.flatMap_singleton, ← h2]
        exact h5
      · intro y hy
        simp only [many, List.mem_append, List.mem_singleton] at hy
        rcases hy with hy | hy
        · exact h7 y hy
        · rw [hy]; exact h3
  · intro x r hx
    obtain ⟨hn, hok⟩ := hx
    have key : ∀ j, j ≤ x.length → many p j (x.flatMap f ++ r) 0 = (x.take j, (x.drop j).flatMap f ++ r, 0) := by
      intro j
      induction j with
      | zero => intro _; simp [many]
      | succ j ih =>
        intro hj
        have hd : x.drop j = x[j] :: x.drop (j + 1) := List.drop_eq_getElem_cons (by omega)
        have a := G.full x[j] ((x.drop (j + 1)).flatMap f ++ r) (hok _ (List.getElem_mem _))
        unfold many
        rw [ih (by omega)]
        simp only
        rw [hd, List.flatMap_cons, List.append_assoc, a]
        simp only
        rw [List.take_succ_eq_append_getElem (by omega)]
    have h := key x.length (Nat.le_refl _)
    rw [List.take_length, List.drop_length] at h
    simpa [hn] using h
theorem good_list {α : Type} {p : List Nat → Int → α × List Nat × Int} {f : α → List Nat} {ok : α → Prop} (G : Good p f ok) (most : Nat) (hm : most < 256) :
    Good (fun l e => many p (count 1 most l e).1 (count 1 most l e).2.1 (count 1 most l e).2.2) (fun x => Bm.fix 1 x.length ++ x.flatMap f) (fun x => x.length ≤ most ∧ ∀ y ∈ x, ok y) := by
  have C := good_count 1 1 most rfl (by omega) (by omega)
  refine ⟨fun l e => ((good_many G _).suf _ _).trans (C.suf l e), fun l e hb h => ?_, fun x r hx => ?_⟩
  · obtain ⟨h1, h2, h3, h4⟩ := (good_many G _).sound _ _ (hb.suf (C.suf l e)) h
    obtain ⟨h5, h6, h7, h8⟩ := C.sound l e hb h1
    refine ⟨h5, ?_, by rw [h3]; exact h8, h4⟩
    try simp only at h2 ⊢
    rw [h3, List.append_assoc, ← h2]
    exact h6
  · have a := C.full x.length (x.flatMap f ++ r) ⟨by omega, hx.1⟩
    try simp only
    rw [List.append_assoc, a]
    exact (good_many G x.length).full x r ⟨rfl, hx.2⟩
theorem good_peers : Good peers peersB (fun x => x.length ≤ 16 ∧ ∀ y ∈ x, y.1 < 18446744073709551616 ∧ y.2 < 65536) := good_list good_peer 16 (by omega)
theorem good_pairs : Good pairs pairsB (fun x => x.length ≤ 8 ∧ ∀ y ∈ x, y.1.size ≤ 96 ∧ y.2.size ≤ 512) := good_list good_pair 8 (by omega)
end Fm
end Go.Proofs.YtjkjhnpemhlbpaaDoor
/- Plain mathematics of layer 9: a message that is written is read as it was, and the other way. No program. -/
namespace Go.Proofs.YtjkjhnpemhlbpaaDoor
open Gm
set_option linter.unusedVariables false
namespace Fm

theorem right_parts {m : Ms} (h : right m = 0) : known m.kind = true ∧ m = bare m ∧ badKey m = false ∧ isLong m = false := by
  have hs := right_zero h
  unfold right at h
  cases hk : known m.kind
  · rw [hk] at h; cases h
  · rw [hk, hs] at h
    cases hb : badKey m
    · cases hl : isLong m
      · exact ⟨rfl, same_iff.1 hs, rfl, rfl⟩
      · rw [hb, hl] at h; cases h
    · rw [hb] at h; cases h
theorem isKey_le {s : ByteArray} (h : isKey s = true) : s.size ≤ 96 := by
  unfold isKey at h
  simp at h
  omega
theorem long_parts {m : Ms} (h : isLong m = false) (hb : badKey m = false) : m.val.size ≤ 512 ∧ (m.peers.length ≤ 16) ∧ m.pairs.length ≤ 8 ∧ (∀ p ∈ m.pairs, p.1.size ≤ 96 ∧ p.2.size ≤ 512) ∧ (oKey m = true → m.key.size ≤ 96) := by
  unfold isLong at h
  unfold badKey at hb
  rw [Bool.or_eq_false_iff, Bool.or_eq_false_iff, Bool.or_eq_false_iff] at h
  rw [Bool.or_eq_false_iff] at hb
  obtain ⟨⟨⟨h1, h2⟩, h3⟩, h4⟩ := h
  obtain ⟨h5, h6⟩ := hb
  simp only [decide_eq_false_iff_not, Nat.not_lt] at h1 h2 h3
  refine ⟨h1, h2, h3, fun p hp => ?_, fun ho => ?_⟩
  · have a := List.any_eq_false.1 h4 p hp
    have b := List.any_eq_false.1 h6 p hp
    simp only [decide_eq_true_iff, Nat.not_lt, Bool.not_eq_true', Bool.not_eq_false] at a b
    exact ⟨isKey_le b, a⟩
  · rw [ho] at h5
    simp only [Bool.true_and, Bool.not_eq_false'] at h5
    exact isKey_le h5

/-- the numbers and lengths of what is read -/
def okOwn (m : Ms) : Prop := m.code < 256 ∧ m.id < 18446744073709551616 ∧ m.key.size ≤ 96 ∧ m.val.size ≤ 512 ∧ m.pid < 18446744073709551616 ∧ m.pad < 65536 ∧ (∀ p ∈ m.peers, p.1 < 18446744073709551616 ∧ p.2 < 65536) ∧ (∀ p ∈ m.pairs, p.1.size ≤ 96 ∧ p.2.size ≤ 512)
theorem okOwn_bald (k r : Nat) : okOwn (bald k r) := ⟨by simp [bald], by simp [bald], by simp [bald, ByteArray.size], by simp [bald, ByteArray.size], by simp [bald], by simp [bald], fun p hp => (by cases hp), fun p hp => (by cases hp)⟩
theorem read_kinds (k : Nat) : k = 1 ∨ k = 2 ∨ k = 4 ∨ k = 5 ∨ k = 7 ∨ k = 8 ∨ k = 9 ∨ k = 10 ∨ k = 12 ∨ (k ≠ 1 ∧ k ≠ 2 ∧ k ≠ 4 ∧ k ≠ 5 ∧ k ≠ 7 ∧ k ≠ 8 ∧ k ≠ 9 ∧ k ≠ 10 ∧ k ≠ 12) := by omega
theorem ownB_at {m : Ms} (k : Nat) (hk : m.kind = (k : Int)) : ownB m = if k = 1 then Bm.fix 8 m.id
  else if k = 2 then hasB m.has ++ peersB m.peers
  else if k = 4 then hasB m.has ++ ((if m.has = true then peerB (m.pid, m.pad) else []) ++ peersB m.peers)
  else if k = 5 then peerB (m.pid, m.pad)
  else if k = 7 then strB 1 m.key ++ strB 2 m.val
  else if k = 8 then strB 1 m.key
  else if k = 9 then hasB m.has ++ (if m.has = true then strB 2 m.val else [])
  else if k = 10 then hasB m.has ++ pairsB m.pairs
  else if k = 12 then Bm.fix 1 m.code
  else [] := by
  unfold ownB
  rw [hk]
  simp only [show ∀ a : Nat, ((k : Int) = (a : Int)) = (k = a) from fun a => by rw [Int.natCast_inj], show (1 : Int) = ((1 : Nat) : Int) from rfl, show (2 : Int) = ((2 : Nat) : Int) from rfl, show (4 : Int) = ((4 : Nat) : Int) from rfl, show (5 : Int) = ((5 : Nat) : Int) from rfl,
    show (7 : Int) = ((7 : Nat) : Int) from rfl, show (8 : Int) = ((8 : Nat) : Int) from rfl, show (9 : Int) = ((9 : Nat) : Int) from rfl, show (10 : Int) = ((10 : Nat) : Int) from rfl, show (12 : Int) = ((12 : Nat) : Int) from rfl]

theorem own_suf (k r : Nat) (l : List Nat) (e : Int) : (own k r l e).2.1 <:+ l := by
  have F := flag_suf l e
  have G8 := rfix_suf l e 8
  have G1 := rfix_suf l e 1
  have P := good_peer.suf
  have L := good_peers.suf
  have Q := good_pairs.suf
  have S1 := fun l e => (good_str 1 1 96 rfl (by omega) (by omega) (by omega)).suf l e
  have S2 := fun l e => (good_str 2 2 512 rfl (by omega) (by omega) (by omega)).suf l e
  unfold own
  repeat' split
  · exact G8
  · exact (L _ _).trans F
  · exact ((L _ _).trans (P _ _)).trans F
  · exact (L _ _).trans F
  · exact P _ _
  · exact (S2 _ _).trans (S1 _ _)
  · exact S1 _ _
  · exact (S2 _ _).trans F
  · exact F
  · exact (Q _ _).trans F
  · exact G1
  · exact List.suffix_refl _
set_option maxHeartbeats 1000000 in
theorem own_sound (k r : Nat) (l : List Nat) (e : Int) (hb : Bytes l) (h : (own k r l e).2.2 = 0) : e = 0 ∧ l = ownB (own k r l e).1 ++ (own k r l e).2.1 ∧ okOwn (own k r l e).1 ∧ (own k r l e).1.kind = (k : Int) ∧ (own k r l e).1.rid = r := by
  have B := okOwn_bald k r
  obtain ⟨b1, b2, b3, b4, b5, b6, b7, b8⟩ := B
  have F := good_flag
  have S1 := good_str 1 1 96 rfl (by omega) (by omega) (by omega)
  have S2 := good_str 2 2 512 rfl (by omega) (by omega) (by omega)
  have hkind : (own k r l e).1.kind = (k : Int) ∧ (own k r l e).1.rid = r := by
    unfold own
    repeat' split
    all_goals exact ⟨rfl, rfl⟩
  rw [ownB_at k hkind.1]
  rcases read_kinds k with rfl | rfl | rfl | rfl | rfl | rfl | rfl | rfl | rfl | ⟨n1, n2, n4, n5, n7, n8, n9, n10, n12⟩
  · have G := good_fix 8 8 rfl (by omega) (by omega)
    obtain ⟨h1, h2, h3⟩ := G.sound l e hb h
    exact ⟨h1, h2, ⟨b1, h3, b3, b4, b5, b6, b7, b8⟩, hkind⟩
  · obtain ⟨h1, h2, h3⟩ := good_peers.sound _ _ (hb.suf (F.suf l e)) h
    obtain ⟨h4, h5, _⟩ := F.sound l e hb h1
    exact ⟨h4, by
      show l = (hasB _ ++ peersB _) ++ _
      rw [List.append_assoc]
      exact h5.trans (congrArg _ h2), ⟨b1, b2, b3, b4, b5, b6, h3.2, b8⟩, hkind⟩
  · by_cases hf : (Bm.flag l e).1 = true
    · have e1 : own 4 r l e = ({ bald 4 r with has := true, pid := (peer (Bm.flag l e).2.1 (Bm.flag l e).2.2).1.1, pad := (peer (Bm.flag l e).2.1 (Bm.flag l e).2.2).1.2, peers := (peers (peer (Bm.flag l e).2.1 (Bm.flag l e).2.2).2.1 (peer (Bm.flag l e).2.1 (Bm.flag l e).2.2).2.2).1 },
        (peers (peer (Bm.flag l e).2.1 (Bm.flag l e).2.2).2.1 (peer (Bm.flag l e).2.1 (Bm.flag l e).2.2).2.2).2) := by
        unfold own; rw [if_neg (by omega), if_neg (by omega), if_pos rfl, if_pos hf]
      rw [e1] at h ⊢
      have hb1 := hb.suf (F.suf l e)
      obtain ⟨h1, h2, h3⟩ := good_peers.sound _ _ (hb1.suf (good_peer.suf _ _)) h
      obtain ⟨h4, h5, h6⟩ := good_peer.sound _ _ hb1 h1
      obtain ⟨h7, h8, _⟩ := F.sound l e hb h4
      refine ⟨h7, ?_, ⟨b1, b2, b3, b4, h6.1, h6.2, h3.2, b8⟩, rfl, rfl⟩
      show l = (hasB true ++ (peerB _ ++ peersB _)) ++ _
      rw [List.append_assoc, List.append_assoc, ← hf]
      exact h8.trans (congrArg _ (h5.trans (congrArg _ h2)))
    · have e1 : own 4 r l e = ({ bald 4 r with peers := (peers (Bm.flag l e).2.1 (Bm.flag l e).2.2).1 }, (peers (Bm.flag l e).2.1 (Bm.flag l e).2.2).2) := by
        unfold own; rw [if_neg (by omega), if_neg (by omega), if_pos rfl, if_neg hf]
      rw [e1] at h ⊢
      obtain ⟨h1, h2, h3⟩ := good_peers.sound _ _ (hb.suf (F.suf l e)) h
      obtain ⟨h4, h5, _⟩ := F.sound l e hb h1
      refine ⟨h4, ?_, ⟨b1, b2, b3, b4, b5, b6, h3.2, b8⟩, rfl, rfl⟩
      have hf' : (Bm.flag l e).1 = false := by simpa using hf
      show l = (hasB false ++ ([] ++ peersB _)) ++ _
      rw [List.nil_append, List.append_assoc, ← hf']
      exact h5.trans (congrArg _ h2)
  · obtain ⟨h1, h2, h3⟩ := good_peer.sound l e hb h
    exact ⟨h1, h2, ⟨b1, b2, b3, b4, h3.1, h3.2, b7, b8⟩, hkind⟩
  · obtain ⟨h1, h2, h3⟩ := S2.sound _ _ (hb.suf (S1.suf l e)) h
    obtain ⟨h4, h5, h6⟩ := S1.sound l e hb h1
    exact ⟨h4, by
      show l = (strB 1 _ ++ strB 2 _) ++ _
      rw [List.append_assoc]
      exact h5.trans (congrArg _ h2), ⟨b1, b2, h6, h3, b5, b6, b7, b8⟩, hkind⟩
  · obtain ⟨h1, h2, h3⟩ := S1.sound l e hb h
    exact ⟨h1, h2, ⟨b1, b2, h3, b4, b5, b6, b7, b8⟩, hkind⟩
  · by_cases hf : (Bm.flag l e).1 = true
    · have e1 : own 9 r l e = ({ bald 9 r with has := true, val := strOf (str 2 512 (Bm.flag l e).2.1 (Bm.flag l e).2.2).1 }, (str 2 512 (Bm.flag l e).2.1 (Bm.flag l e).2.2).2) := by
        unfold own; rw [if_neg (by omega), if_neg (by omega), if_neg (by omega), if_neg (by omega), if_neg (by omega), if_neg (by omega), if_pos rfl, if_pos hf]
      rw [e1] at h ⊢
      obtain ⟨h1, h2, h3⟩ := S2.sound _ _ (hb.suf (F.suf l e)) h
      obtain ⟨h4, h5, _⟩ := F.sound l e hb h1
      refine ⟨h4, ?_, ⟨b1, b2, b3, h3, b5, b6, b7, b8⟩, rfl, rfl⟩
      show l = (hasB true ++ strB 2 _) ++ _
      rw [List.append_assoc, ← hf]
      exact h5.trans (congrArg _ h2)
    · have e1 : own 9 r l e = (bald 9 r, (Bm.flag l e).2) := by
        unfold own; rw [if_neg (by omega), if_neg (by omega), if_neg (by omega), if_neg (by omega), if_neg (by omega), if_neg (by omega), if_pos rfl, if_neg hf]
      rw [e1] at h ⊢
      obtain ⟨h4, h5, _⟩ := F.sound l e hb h
      refine ⟨h4, ?_, ⟨b1, b2, b3, b4, b5, b6, b7, b8⟩, rfl, rfl⟩
      have hf' : (Bm.flag l e).1 = false := by simpa using hf
      show l = (hasB false ++ []) ++ _
      rw [List.append_nil, ← hf']
      exact h5
  · obtain ⟨h1, h2, h3⟩ := good_pairs.sound _ _ (hb.suf (F.suf l e)) h
    obtain ⟨h4, h5, _⟩ := F.sound l e hb h1
    exact ⟨h4, by
      show l = (hasB _ ++ pairsB _) ++ _
      rw [List.append_assoc]
      exact h5.trans (congrArg _ h2), ⟨b1, b2, b3, b4, b5, b6, b7, h3.2⟩, hkind⟩
  · have G := good_fix 1 1 rfl (by omega) (by omega)
    obtain ⟨h1, h2, h3⟩ := G.sound l e hb h
    have e1 : (Bm.rfix l e 1).1 % 256 = (Bm.rfix l e 1).1 := Nat.mod_eq_of_lt h3
    refine ⟨h1, ?_, ⟨by show (Bm.rfix l e 1).1 % 256 < 256; omega, b2, b3, b4, b5, b6, b7, b8⟩, hkind⟩
    show l = Bm.fix 1 ((Bm.rfix l e 1).1 % 256) ++ _
    rw [e1]
    exact h2
  · have e1 : own k r l e = (bald k r, l, e) := by
      unfold own
      rw [if_neg n1, if_neg n2, if_neg n4, if_neg n5, if_neg n7, if_neg n8, if_neg n9, if_neg n10, if_neg n12]
    rw [e1] at h ⊢
    refine ⟨h, ?_, ⟨b1, b2, b3, b4, b5, b6, b7, b8⟩, rfl, rfl⟩
    rw [if_neg n1, if_neg n2, if_neg n4, if_neg n5, if_neg n7, if_neg n8, if_neg n9, if_neg n10, if_neg n12]
    rfl
/-- what a kind does not have is nothing -/
theorem own_full {m : Ms} (k r : Nat) (hk : m.kind = (k : Int)) (hr : m.rid = r) (ho : Ok m) (h : right m = 0) (z : List Nat) : own k r (ownB m ++ z) 0 = (m, z, 0) := by
  obtain ⟨_, hbare, hbk, hlg⟩ := right_parts h
  obtain ⟨l1, l2, l3, l4, l5⟩ := long_parts hlg hbk
  have F := good_flag
  have S1 := good_str 1 1 96 rfl (by omega) (by omega) (by omega)
  have S2 := good_str 2 2 512 rfl (by omega) (by omega) (by omega)
  rw [ownB_at k hk]
  have o4 := ho.id
  have o7 := ho.pid
  have o8 := ho.pad
  have o9 := ho.peers
  have o2 := ho.code
  clear ho h hbk hlg
  obtain ⟨kind, rid, code, has, id, key, val, pid, pad, peers, pairs⟩ := m
  simp only at hk hr
  subst hk hr
  simp only [bare, bareBy, Ms.mk.injEq, true_and, oCode, oHas, oId, oPeer, oPeers, oKey, oVal, oPairs] at hbare
  simp only [oKey] at l1 l2 l3 l4 l5 o2 o4 o7 o8 o9
  obtain ⟨c1, c2, c3, c4, c5, c6, c7, c8, c9⟩ := hbare
  rcases read_kinds k with rfl | rfl | rfl | rfl | rfl | rfl | rfl | rfl | rfl | ⟨n1, n2, n4, n5, n7, n8, n9, n10, n12⟩
  · simp [oi] at c1 c2 c3 c4 c5 c6 c7 c8 c9
    subst c1 c2 c4 c5 c6 c7 c8 c9
    have a := (good_fix 8 8 rfl (by omega) (by omega)).full id z o4
    try simp only at a
    simp only [own, if_pos]
    rw [a]
    rfl
  · simp [oi] at c1 c2 c3 c4 c5 c6 c7 c8 c9
    subst c1 c3 c4 c5 c6 c7 c9
    have a := F.full has (peersB peers ++ z) trivial
    have b := good_peers.full peers z ⟨l2, o9⟩
    show own 2 rid ((hasB has ++ peersB peers) ++ z) 0 = _
    unfold own
    rw [if_neg (by omega), if_pos rfl, List.append_assoc, a]
    simp only
    rw [b]
    rfl
  · simp [oi] at c1 c2 c3 c4 c5 c6 c7 c8 c9
    subst c1 c3 c4 c5 c9
    cases has with
    | true =>
      have a := F.full true (peerB (pid, pad) ++ (peersB peers ++ z)) trivial
      have b := good_peer.full (pid, pad) (peersB peers ++ z) ⟨o7, o8⟩
      have c := good_peers.full peers z ⟨l2, o9⟩
      show own 4 rid ((hasB true ++ (peerB (pid, pad) ++ peersB peers)) ++ z) 0 = _
      unfold own
      rw [if_neg (by omega), if_neg (by omega), if_pos rfl, List.append_assoc, List.append_assoc, a]
      simp only [if_pos]
      rw [b]
      simp only
      rw [c]
      rfl
    | false =>
      simp at c6 c7
      subst c6 c7
      have a := F.full false (peersB peers ++ z) trivial
      have c := good_peers.full peers z ⟨l2, o9⟩
      show own 4 rid ((hasB false ++ ([] ++ peersB peers)) ++ z) 0 = _
      unfold own
      rw [if_neg (by omega), if_neg (by omega), if_pos rfl, List.nil_append, List.append_assoc, a]
      simp only [Bool.false_eq_true, if_false]
      rw [c]
      rfl
  · simp [oi] at c1 c2 c3 c4 c5 c6 c7 c8 c9
    subst c1 c2 c3 c4 c5 c8 c9
    have b := good_peer.full (pid, pad) z ⟨o7, o8⟩
    show own 5 rid (peerB (pid, pad) ++ z) 0 = _
    unfold own
    rw [if_neg (by omega), if_neg (by omega), if_neg (by omega), if_pos rfl, b]
    rfl
  · simp [oi] at c1 c2 c3 c4 c5 c6 c7 c8 c9
    subst c1 c2 c3 c6 c7 c8 c9
    have a := S1.full key (strB 2 val ++ z) (l5 rfl)
    have b := S2.full val z l1
    simp only [Prod.mk.injEq] at a b
    obtain ⟨a1, a2⟩ := a
    obtain ⟨b1, b2⟩ := b
    show own 7 rid ((strB 1 key ++ strB 2 val) ++ z) 0 = _
    unfold own
    rw [if_neg (by omega), if_neg (by omega), if_neg (by omega), if_neg (by omega), if_pos rfl, List.append_assoc, a1, a2]
    simp only
    rw [b1, b2]
    rfl
  · simp [oi] at c1 c2 c3 c4 c5 c6 c7 c8 c9
    subst c1 c2 c3 c5 c6 c7 c8 c9
    have a := S1.full key z (l5 rfl)
    simp only [Prod.mk.injEq] at a
    obtain ⟨a1, a2⟩ := a
    show own 8 rid (strB 1 key ++ z) 0 = _
    unfold own
    rw [if_neg (by omega), if_neg (by omega), if_neg (by omega), if_neg (by omega), if_neg (by omega), if_pos rfl, a1, a2]
    rfl
  · simp [oi] at c1 c2 c3 c4 c5 c6 c7 c8 c9
    subst c1 c3 c4 c6 c7 c8 c9
    cases has with
    | true =>
      have a := F.full true (strB 2 val ++ z) trivial
      have b := S2.full val z l1
      simp only [Prod.mk.injEq] at b
      obtain ⟨b1, b2⟩ := b
      show own 9 rid ((hasB true ++ strB 2 val) ++ z) 0 = _
      unfold own
      rw [if_neg (by omega), if_neg (by omega), if_neg (by omega), if_neg (by omega), if_neg (by omega), if_neg (by omega), if_pos rfl, List.append_assoc, a]
      simp only [if_pos]
      rw [b1, b2]
      rfl
    | false =>
      simp at c5
      subst c5
      have a := F.full false z trivial
      show own 9 rid ((hasB false ++ []) ++ z) 0 = _
      unfold own
      rw [if_neg (by omega), if_neg (by omega), if_neg (by omega), if_neg (by omega), if_neg (by omega), if_neg (by omega), if_pos rfl, List.append_nil, a]
      simp only [Bool.false_eq_true, if_false]
      rfl
  · simp [oi] at c1 c2 c3 c4 c5 c6 c7 c8 c9
    subst c1 c3 c4 c5 c6 c7 c8
    have a := F.full has (pairsB pairs ++ z) trivial
    have b := good_pairs.full pairs z ⟨l3, l4⟩
    show own 10 rid ((hasB has ++ pairsB pairs) ++ z) 0 = _
    unfold own
    rw [if_neg (by omega), if_neg (by omega), if_neg (by omega), if_neg (by omega), if_neg (by omega), if_neg (by omega), if_neg (by omega), if_pos rfl, List.append_assoc, a]
    simp only
    rw [b]
    rfl
  · simp [oi] at c1 c2 c3 c4 c5 c6 c7 c8 c9
    subst c2 c3 c4 c5 c6 c7 c8 c9
    have a := (good_fix 1 1 rfl (by omega) (by omega)).full code z o2
    try simp only at a
    show own 12 rid (Bm.fix 1 code ++ z) 0 = _
    unfold own
    rw [if_neg (by omega), if_neg (by omega), if_neg (by omega), if_neg (by omega), if_neg (by omega), if_neg (by omega), if_neg (by omega), if_neg (by omega), if_pos rfl, a]
    simp only [Nat.mod_eq_of_lt o2]
    rfl
  · have i1 : ¬ (k : Int) = 1 := by omega
    have i2 : ¬ (k : Int) = 2 := by omega
    have i4 : ¬ (k : Int) = 4 := by omega
    have i5 : ¬ (k : Int) = 5 := by omega
    have i7 : ¬ (k : Int) = 7 := by omega
    have i8 : ¬ (k : Int) = 8 := by omega
    have i9 : ¬ (k : Int) = 9 := by omega
    have i10 : ¬ (k : Int) = 10 := by omega
    have i12 : ¬ (k : Int) = 12 := by omega
    simp [oi, i1, i2, i4, i5, i7, i8, i9, i10, i12] at c1 c2 c3 c4 c5 c6 c7 c8 c9
    subst c1 c2 c3 c4 c5 c6 c7 c8 c9
    rw [if_neg n1, if_neg n2, if_neg n4, if_neg n5, if_neg n7, if_neg n8, if_neg n9, if_neg n10, if_neg n12]
    unfold own
    rw [if_neg n1, if_neg n2, if_neg n4, if_neg n5, if_neg n7, if_neg n8, if_neg n9, if_neg n10, if_neg n12]
    rfl

/-! ### the whole -/
theorem kindE_zero {l : List Nat} (h : kindE l = 0) : known ((Bm.rfix l 0 1).1 : Int) = true ∧ (Bm.rfix l 0 1).2.2 = 0 := by
  unfold kindE at h
  split at h
  · exact ⟨by assumption, h⟩
  · unfold Bm.fail at h
    split at h
    · contradiction
    · cases h
theorem fin_zero {l : List Nat} (h : fin l = 0) : (read l).2.1 = [] ∧ (read l).2.2 = 0 := by
  unfold fin Bm.fin at h
  split at h
  · contradiction
  · rename_i h0
    split at h
    · cases h
    · exact ⟨List.eq_nil_of_length_eq_zero (by omega), by simpa using h0⟩
theorem read_sound {l : List Nat} (hb : Bytes l) (h : fin l = 0) : l = put (read l).1 ∧ Ok (read l).1 := by
  obtain ⟨hl, he⟩ := fin_zero h
  have G1 := good_fix 1 1 rfl (by omega) (by omega)
  have G4 := good_fix 4 4 rfl (by omega) (by omega)
  have s1 := G1.suf l 0
  have s4 := G4.suf (Bm.rfix l 0 1).2.1 (kindE l)
  obtain ⟨h1, h2, ⟨o1, o2, o3, o4, o5, o6, o7, o8⟩, h4, h5⟩ := own_sound (Bm.rfix l 0 1).1 ((ridR l).1 % 4294967296) (ridR l).2.1 (ridR l).2.2 ((hb.suf s1).suf s4) he
  obtain ⟨h6, h7, h8⟩ := G4.sound _ _ (hb.suf s1) h1
  obtain ⟨h9, h10⟩ := kindE_zero h6
  obtain ⟨_, h11, h12⟩ := G1.sound l 0 hb h10
  have hr : (ridR l).1 % 4294967296 = (ridR l).1 := Nat.mod_eq_of_lt h8
  have e1 : (read l).1.kind.toNat = (Bm.rfix l 0 1).1 := by rw [show (read l).1.kind = _ from h4, Int.toNat_natCast]
  have e2 : (read l).1.rid = (ridR l).1 := by rw [show (read l).1.rid = _ from h5, hr]
  have hz : (own (Bm.rfix l 0 1).1 ((ridR l).1 % 4294967296) (ridR l).2.1 (ridR l).2.2).2.1 = [] := hl
  constructor
  · unfold put
    rw [e1, e2]
    have h2 : (ridR l).2.1 = ownB (read l).1 ++ (own (Bm.rfix l 0 1).1 ((ridR l).1 % 4294967296) (ridR l).2.1 (ridR l).2.2).2.1 := h2
    rw [hz, List.append_nil] at h2
    exact h11.trans (congrArg _ (h7.trans (congrArg _ h2)))
  · refine ⟨?_, ?_, o1, o2, ?_, ?_, o5, o6, o7, ?_⟩
    · rw [show (read l).1.kind = _ from h4]
      try simp only at h12
      omega
    · rw [e2]
      exact h8
    · exact Nat.le_trans o3 (by unfold maxLen; omega)
    · exact Nat.le_trans o4 (by unfold maxLen; omega)
    · intro p hp
      obtain ⟨a, b⟩ := o8 p hp
      exact ⟨Nat.le_trans a (by unfold maxLen; omega), Nat.le_trans b (by unfold maxLen; omega)⟩
theorem read_full {m : Ms} (ho : Ok m) (h : right m = 0) : read (put m) = (m, [], 0) := by
  have hk := (right_parts h).1
  have hb : 0 < m.kind ∧ m.kind < 13 := by
    unfold known at hk
    simpa using hk
  obtain ⟨k, hkk⟩ : ∃ k : Nat, m.kind = (k : Int) := ⟨m.kind.toNat, by omega⟩
  have a := (good_fix 1 1 rfl (by omega) (by omega)).full k (Bm.fix 4 m.rid ++ ownB m) (by omega)
  have b := (good_fix 4 4 rfl (by omega) (by omega)).full m.rid (ownB m) ho.rid
  try simp only at a b
  have e1 : put m = Bm.fix 1 k ++ (Bm.fix 4 m.rid ++ ownB m) := by unfold put; rw [hkk, Int.toNat_natCast]
  have e2 : kindE (put m) = 0 := by
    unfold kindE
    rw [e1, a]
    simp only
    rw [← hkk, hk]
    rfl
  have e3 : ridR (put m) = (m.rid, ownB m, 0) := by
    unfold ridR
    rw [e2, e1, a]
    simp only
    exact b
  unfold read
  rw [e3]
  simp only
  rw [e1, a]
  simp only
  have hr : m.rid % 4294967296 = m.rid := Nat.mod_eq_of_lt ho.rid
  have c := own_full k m.rid hkk rfl ho h []
  rw [List.append_nil] at c
  rw [hr, c]
theorem dec_put {m : Ms} (ho : Ok m) (h : right m = 0) : dec (put m) = (m, 0) := by
  have e := read_full ho h
  have f : fin (put m) = 0 := by unfold fin; rw [e]; rfl
  unfold dec
  rw [f, if_neg (by simp), e]
  simp only
  rw [if_pos h]
theorem put_dec {l : List Nat} (hb : Bytes l) (h : (dec l).2 = 0) : right (dec l).1 = 0 ∧ put (dec l).1 = l := by
  unfold dec at h ⊢
  by_cases hf : fin l = 0
  · rw [if_neg (by simpa using hf)] at h ⊢
    by_cases hr : right (read l).1 = 0
    · rw [if_pos hr]
      exact ⟨hr, (read_sound hb hf).1.symm⟩
    · rw [if_neg hr] at h
      simp only at h
      omega
  · rw [if_pos hf] at h
    exact absurd h hf
theorem ok_zero : Ok zero := ⟨by simp [zero], by simp [zero], by simp [zero], by simp [zero], by simp [zero, ByteArray.size], by simp [zero, ByteArray.size], by simp [zero], by simp [zero], fun p hp => (by cases hp), fun p hp => (by cases hp)⟩
theorem ok_dec {l : List Nat} (hb : Bytes l) : Ok (dec l).1 := by
  unfold dec
  split
  · exact ok_zero
  · rename_i h
    have h : fin l = 0 := by simpa using h
    split
    · exact (read_sound hb h).2
    · exact ok_zero
theorem dec_fin {l : List Nat} (h : fin l ≠ 0) : dec l = (zero, fin l) := by unfold dec; rw [if_pos h]
theorem dec_good {l : List Nat} (h : fin l = 0) (h2 : right (read l).1 = 0) : dec l = ((read l).1, 0) := by unfold dec; rw [if_neg (by simpa using h), if_pos h2]
theorem dec_bad {l : List Nat} (h : fin l = 0) (h2 : right (read l).1 ≠ 0) : dec l = (zero, (right (read l).1 : Int)) := by unfold dec; rw [if_neg (by simpa using h), if_neg h2]
theorem enc_good {m : Ms} (h : right m = 0) : enc m = (put m, 0) := by unfold enc; rw [if_pos h]
theorem enc_bad {m : Ms} (h : right m ≠ 0) : enc m = ([], right m) := by unfold enc; rw [if_neg h]
end Fm
end Go.Proofs.YtjkjhnpemhlbpaaDoor
/- Rows that a call goes on with: what else has turned; contracts of buf.Fix and of append that tell it. -/
namespace Go.Proofs.YtjkjhnpemhlbpaaDoor
open Go.RowKit
set_option linter.unusedVariables false
set_option maxRecDepth 100000

/-- none of the blocks that were there has turned but that of the row v; the row v' lies there, or in a new block -/
structure Kept (w w' : World) (v v' : Value) : Prop where
  grown : w.grownBy w' v.ownBlock
  own : v'.ownBlock = v.ownBlock ∨ ∀ k, v'.ownBlock = some k → w.heap.size ≤ k
section
variable {w w' w'' w1 wr a : World} {v v' v'' v0 : Value} {B b g : Nat} {t : TypeId} {cs : Array Value} {o : Obj}
theorem Kept.refl (w : World) (v : Value) : Kept w w v v := ⟨World.grownBy.refl w _, .inl rfl⟩
theorem Kept.trans (h : Kept w w' v v') (k : Kept w' w'' v' v'') : Kept w w'' v v'' := by
  refine ⟨⟨k.grown.os.trans h.grown.os, k.grown.tape.trans h.grown.tape, k.grown.output.trans h.grown.output, Nat.le_trans h.grown.size k.grown.size, fun i hi hv => ?_⟩, ?_⟩
  · refine (k.grown.block i (Nat.lt_of_lt_of_le hi h.grown.size) (fun e => ?_)).trans (h.grown.block i hi hv)
    rcases h.own with h1 | h1
    · exact hv (e.trans h1)
    · have := h1 i e.symm
      omega
  · rcases k.own with k1 | k1
    · rcases h.own with h1 | h1
      · exact .inl (k1.trans h1)
      · exact .inr fun i hi => h1 i (k1 ▸ hi)
    · exact .inr fun i hi => Nat.le_trans h.grown.size (k1 i hi)
theorem Kept.of_below (h : Below w.heap.size w w') (v : Value) : Kept w w' v v := ⟨⟨h.os, h.tape, h.output, h.size, fun i hi _ => h.block i hi⟩, .inl rfl⟩
theorem Kept.drew (h : Kept w w' v v') : Kept w w'.drew v v' := h.trans (Kept.of_below (Below.refl _ _).drew _)
theorem Kept.alloc (h : Kept w w' v v') (o : Obj) : Kept w (w'.alloc o) v v' := h.trans (Kept.of_below ((Below.refl _ _).alloc (Nat.le_refl _) o) _)
/-- behind whatever leaves all blocks that were there, the new ones aside -/
theorem Kept.behind (h : Kept w w' v v') (hb : Below w'.heap.size w' w'') : Kept w w'' v v' := h.trans (Kept.of_below hb _)
theorem Kept.below (h : Kept w w' v v') (hr : ∀ k, v.ownBlock = some k → B ≤ k) (hB : B ≤ w.heap.size) : Below B w w' :=
  ⟨h.grown.os, h.grown.tape, h.grown.output, h.grown.size, fun i hi => h.grown.block i (by omega) (fun e => by have := hr i e.symm; omega)⟩
theorem Kept.size (h : Kept w w' v v') : w.heap.size ≤ w'.heap.size := h.grown.size
theorem Kept.apart (h : Kept w w' v v') (hb : b < w.heap.size) (hne : v.ownBlock ≠ some b) : v'.ownBlock ≠ some b := by
  rcases h.own with h1 | h1
  · rw [h1]; exact hne
  · intro e
    have := h1 b e
    omega
theorem Kept.block (h : Kept w w' v v') (hb : b < w.heap.size) (hne : v.ownBlock ≠ some b) : w'.heap[b]? = w.heap[b]? := h.grown.block b hb (fun e => hne e.symm)
theorem Whole.kept (hw : Whole w b t cs) (h : Kept w w' v v') (hne : v.ownBlock ≠ some b) : Whole w' b t cs := (h.block hw.lt hne).trans hw
/-- a store into a block that is new -/
theorem Kept.setCell (h : Kept w w' v v') (hb : w.heap.size ≤ b) (i : Nat) (u : Value) : Kept w (w'.setCell ⟨b, i, none⟩ u) v v' :=
  ⟨⟨h.grown.os, h.grown.tape, h.grown.output, by simpa [World.setCell] using h.grown.size, fun j hj hv => (Below.heap_setCell _ _ _ _ (by show j ≠ b; omega)).trans (h.grown.block j hj hv)⟩, h.own⟩
theorem Kept.setRow (h : Kept w w' v v') (hb : w.heap.size ≤ b) (cs : Array Value) : Kept w (w'.setRow b cs) v v' :=
  ⟨⟨h.grown.os, h.grown.tape, h.grown.output, by rw [size_setRow]; exact h.grown.size, fun j hj hv => (setRow_other w' b j cs (by omega)).trans (h.grown.block j hj hv)⟩, h.own⟩
theorem own_lt {base n : Nat} {sz : Nat} {xs : List Value} (h : w.ownsRow base t sz v n xs) : ∀ k, v.ownBlock = some k → base ≤ k := fun k hk => (h.lt k hk).1
theorem own_new {base n : Nat} {sz : Nat} {xs : List Value} (h : w.ownsRow base t sz v n xs) : v.ownBlock ≠ some w.heap.size := fun e => by have := (h.lt _ e).2; omega
end

/-- the call answers the row of its own, v, with l in it -/
def MadeK (base : Nat) (l : List Nat) (v : Value) (w : World) (e : Ending) (w' : World) : Prop :=
  ∃ v', e = .returned v' ∧ w'.ownsRow base 5 1 v' l.length (ints .u8 l) ∧ Kept w w' v v'

section
variable {P : Program} {T E : TypeId} {z : Value} {bytes : Nat}
/-- 'append(s, x)' of one element, with what else has turned -/
theorem wpList_append1k (hT : ElemT P T E z bytes) {ops : Array Oper} {rest : List Oper} {o : Oper} {a : Act} {Q : Exit → Act → World → Prop} {wr : World} {u : Value} (s x : Operand) (hgd : o.guard = none)
    (ho : o.op = .call { callee := .builtin .append, args := #[s, x], argTypes := #[T, T] }) (base : Nat) (v : Value) (n : Nat) (xs : List Value) (hs : a.eval s = v) (hx : a.eval x = .slice (some ⟨wr.heap.size, 0, none⟩) 1 1) (hu : u.oneCell' = true)
    (hown : wr.ownsRow base E 1 v n xs) (hn : n ≤ 1000000001000) (hbase : base ≤ wr.heap.size)
    (h : ∀ v' w', w'.ownsRow base E 1 v' (n + 1) (xs ++ [u]) → Kept wr w' v v' → wpList P ops Q rest (a.put o.dst v') w') : wpList P ops Q (o :: rest) a (wr.alloc (.cells #[u] E)) := by
  obtain ⟨i0, hi, hz0, hz1, hz2⟩ := info_parts hT.info
  have hf := hT.few
  have hm : (n + 1) * bytes ≤ 140737488355328 := Nat.le_trans (Nat.mul_le_mul (show n + 1 ≤ 1000000001001 by omega) hf) (by omega)
  refine wpList_append_own_at _ hgd s x T ho base E i0 z 1 bytes hT.under hi hz0 hz1 hz2 hT.one (by decide) v n xs hs (hown.alloc _) ⟨wr.heap.size, 0, none⟩ 1 1 [u] hx rfl (cell_one_new _ _ _) (by simpa using hu) (by unfold maxLen; omega) hm (by simp; omega) (fun v' w' h1 h2 _ h4 => h v' w' h1 ?_)
  refine ((Kept.refl wr v).alloc (.cells #[u] E)).trans ⟨h2, ?_⟩
  rcases h4 with h4 | h4
  · exact .inl h4
  · exact .inr fun k hk => by rw [h4] at hk; injection hk with hk; omega
/-- 'append(s, x...)' of bytes in a plain walk, with what else has turned -/
theorem run_append_rowk (hT : ElemT P T E z bytes) {w : World} (ty base : Nat) (v : Value) (n : Nat) (xs : List Value) (hown : w.ownsRow base E 1 v n xs) {k : IntKind} {B : Nat} {A : Option Addr} {l : List Nat} (m c : Nat) (hm : l.length = m) (hc : A = none → c = 0)
    (hsee : Sees k w B A l) (hn : n + m ≤ 1000000001001) (hbase : base ≤ w.heap.size) :
    ∃ v' w', (Builtin.append_ #[T, T] ty #[v, .slice A m c]).run P w = .ok v' w' ∧ w'.ownsRow base E 1 v' (n + m) (xs ++ ints k l) ∧ Kept w w' v v' := by
  obtain ⟨i0, hi, hz0, hz1, hz2⟩ := info_parts hT.info
  have hf := hT.few
  have hb : (n + m) * bytes ≤ 140737488355328 := Nat.le_trans (Nat.mul_le_mul hn hf) (by omega)
  cases A with
  | none =>
    have h0 : l = [] := by
      rcases Nat.eq_zero_or_pos l.length with h | h
      · exact List.eq_nil_of_length_eq_zero h
      · obtain ⟨_, _, e, _⟩ := hsee h; cases e
    have hc0 := hc rfl
    subst h0 hc0
    have hm0 : m = 0 := by simpa using hm.symm
    subst hm0
    exact ⟨v, w, run_append_owned_none w base T ty E i0 1 hT.under hi v n xs hown, by simpa [ints] using hown, Kept.refl w _⟩
  | some ad =>
    have hnews : ∀ j u, (ints k l)[j]? = some u → w.cell? (ad.add j) = some u := by
      intro j u hu
      have hj : j < l.length := by
        rcases Nat.lt_or_ge j l.length with h | h
        · exact h
        · rw [List.getElem?_eq_none (by rw [ints_length]; exact h)] at hu; cases hu
      obtain ⟨b, off, e, _, hcell⟩ := hsee (by omega)
      injection e with e
      subst e
      have ha : (⟨b, off, none⟩ : Addr).add j = ⟨b, off + j, none⟩ := by unfold Addr.add; split <;> simp_all
      rw [ha, hcell j hj, ← ints_get k l j hj, hu]
    obtain ⟨v', w', h1, h2, h3, _, h5⟩ := run_append_own_at (P := P) w base T ty E i0 z 1 bytes hT.under hi hz0 hz1 hz2 hT.one (by decide) v n xs hown ad m c (ints k l) (by rw [ints_length]; omega) hnews (ints_one k l) (by unfold maxLen; omega) hb hbase
    refine ⟨v', w', h1, h2, h3, ?_⟩
    rcases h5 with h5 | h5
    · exact .inl h5
    · exact .inr fun k hk => by rw [h5] at hk; injection hk with hk; omega
theorem wpList_append_rowk (hT : ElemT P T E z bytes) {ops : Array Oper} {rest : List Oper} {o : Oper} {a : Act} {w : World} {Q : Exit → Act → World → Prop} (s x : Operand) (hgd : o.guard = none)
    (ho : o.op = .call { callee := .builtin .append, args := #[s, x], argTypes := #[T, T] }) (base : Nat) (v : Value) (n : Nat) (xs : List Value) (hs : a.eval s = v) (hown : w.ownsRow base E 1 v n xs) {k : IntKind} {B : Nat} {A : Option Addr} {l : List Nat} (m c : Nat)
    (hx : a.eval x = .slice A m c) (hm : l.length = m) (hc : A = none → c = 0) (hsee : Sees k w B A l) (hn : n + m ≤ 1000000001001) (hbase : base ≤ w.heap.size)
    (h : ∀ v' w', w'.ownsRow base E 1 v' (n + m) (xs ++ ints k l) → Kept w w' v v' → wpList P ops Q rest (a.put o.dst v') w') : wpList P ops Q (o :: rest) a w := by
  refine wpList_plain hgd fun K hK => ?_
  obtain ⟨v', w', hr, h2, h3⟩ := run_append_rowk hT (w := w) o.type base v n xs hown m c hm hc hsee hn hbase
  unfold Oper.wp execOp
  simp only [ho, resolve, invoke, builtin, Sem.run_bind, Sem.run_pure, Result.andThen_ok, List.map_toArray, List.map_cons, List.map_nil, hs, hx, hr]
  exact hK _ _ (h v' w' h2 h3)
end
/-- 'append(b, s...)' of a string, with what else has turned -/
theorem run_append_strk {w : World} (ty base : Nat) (v : Value) (n : Nat) (xs : List Value) (hown : w.ownsRow base 5 1 v n xs) {s : ByteArray} {l : List Nat} (T : Txt s l) (m : Nat) (hm : l.length = m) (hn : n + m ≤ 1000000001001) (hbase : base ≤ w.heap.size) :
    ∃ v' w', (Builtin.append_ #[33, 9] ty #[v, .string s]).run Tryd.prog w = .ok v' w' ∧ w'.ownsRow base 5 1 v' (n + m) (xs ++ ints .u8 l) ∧ Kept w w' v v' := by
  obtain ⟨i0, hi, hz0, hz1, hz2⟩ := info_parts (byteT.info)
  have hsz : s.size = m := by rw [T.size, hm]
  obtain ⟨v', w', h1, h2, h3, _⟩ := Lib.run_append_own_string (P := Tryd.prog) w base 33 9 ty 5 i0 Tryd.underlying33 Tryd.underlying9 hi hz0 hz1 hz2 v n xs hown s (by rw [hsz]; unfold maxLen; omega) (by rw [hsz]; omega) hbase
  refine ⟨v', w', h1, by rw [← hsz, ← T.cells]; exact h2, h3, ?_⟩
  rcases hown.2 with ⟨rfl, rfl⟩ | ⟨g, cap, cur, rfl, hbg, hg, hnc, hcm, hcs, htake⟩
  · have hx : xs = [] := List.eq_nil_of_length_eq_zero (by simpa using hown.1)
    subst hx
    obtain ⟨v2, w2, h4, h5, _⟩ := Lib.run_append_own_string (P := Tryd.prog) w w.heap.size 33 9 ty 5 i0 Tryd.underlying33 Tryd.underlying9 hi hz0 hz1 hz2 _ 0 [] (World.ownsRow_nil w w.heap.size _ 1) s (by rw [hsz]; unfold maxLen; omega) (by rw [hsz]; omega) (Nat.le_refl _)
    rw [h1] at h4
    injection h4 with h4 h6
    subst h4 h6
    exact .inr fun k hk => (h5.lt k hk).1
  · by_cases hroom : n + s.size ≤ cap
    · have hr := Lib.run_append_room_string (P := Tryd.prog) w 33 9 ty 5 i0 Tryd.underlying33 Tryd.underlying9 hi hz1 g n cap cur hg s hroom (by have : cur.size = cap := (by simpa using hcs); omega)
      rw [h1] at hr
      injection hr with hr _
      subst hr
      exact .inl rfl
    · have hxl : xs.length = n := by simpa using hown.1
      have hr := Lib.run_append_grow_string (P := Tryd.prog) w 33 9 ty 5 i0 (.int .u8 0) Tryd.underlying33 Tryd.underlying9 hi hz0 ⟨g, 0, none⟩ n cap xs (by rw [hz1]; simpa using hxl) (hown.cells (g := g) rfl) s (by omega) (by rw [hsz]; omega) (by rw [hz2]; exact growslice_fits (by unfold maxLen at hcm; omega) (by rw [hsz]; omega))
      rw [h1] at hr
      injection hr with hr _
      subst hr
      refine .inr fun k hk => ?_
      injection hk with hk
      rw [← hk]
      exact Nat.le_refl _
theorem wpList_append_strk {ops : Array Oper} {rest : List Oper} {o : Oper} {a : Act} {w : World} {Q : Exit → Act → World → Prop} (sl x : Operand) (hgd : o.guard = none)
    (ho : o.op = .call { callee := .builtin .append, args := #[sl, x], argTypes := #[33, 9] }) (base : Nat) (v : Value) (n : Nat) (xs : List Value) (hs : a.eval sl = v) (hown : w.ownsRow base 5 1 v n xs) {s : ByteArray} {l : List Nat} (T : Txt s l) (hx : a.eval x = .string s) (m : Nat) (hm : l.length = m) (hn : n + m ≤ 1000000001001) (hbase : base ≤ w.heap.size)
    (h : ∀ v' w', w'.ownsRow base 5 1 v' (n + m) (xs ++ ints .u8 l) → Kept w w' v v' → wpList Tryd.prog ops Q rest (a.put o.dst v') w') : wpList Tryd.prog ops Q (o :: rest) a w := by
  refine wpList_plain hgd fun K hK => ?_
  obtain ⟨v', w', hr, h2, h3⟩ := run_append_strk (w := w) o.type base v n xs hown T m hm hn hbase
  unfold Oper.wp execOp
  simp only [ho, resolve, invoke, builtin, Sem.run_bind, Sem.run_pure, Result.andThen_ok, List.map_toArray, List.map_cons, List.map_nil, hs, hx, hr]
  exact hK _ _ (h v' w' h2 h3)

/-- what a loop has done that writes ps behind xs, when the first j of them stand there -/
structure WroteK (base : Nat) (xs ps : List Nat) (w : World) (v0 : Value) (j : Nat) (v : Value) (wr : World) : Prop where
  own : wr.ownsRow base 5 1 v (xs.length + j) (ints .u8 (xs ++ ps.take j))
  kept : Kept w wr v0 v
  size : base ≤ wr.heap.size
section
variable {base : Nat} {xs ps : List Nat} {j : Nat} {v v' v0 : Value} {w wr w1 : World} {x : Int}
theorem WroteK.start (ho : w.ownsRow base 5 1 v xs.length (ints .u8 xs)) (hb : base ≤ w.heap.size) : WroteK base xs ps w v 0 v w :=
  ⟨by simpa using ho, Kept.refl _ _, hb⟩
theorem WroteK.next (h : WroteK base xs ps w v0 j v wr) (hj : j < ps.length) (hx : x = ((ps.getD j 0 : Nat) : Int))
    (ho : w1.ownsRow base 5 1 v' (xs.length + j + 1) (ints .u8 (xs ++ ps.take j) ++ [.int .u8 x])) (hg : Kept wr w1 v v') : WroteK base xs ps w v0 (j + 1) v' w1 := by
  obtain ⟨h1, h2, h3⟩ := h
  subst hx
  refine ⟨?_, h2.trans hg, Nat.le_trans h3 hg.size⟩
  rw [take_next hj, ← List.append_assoc, ints_append]
  exact ho
end

end Go.Proofs.YtjkjhnpemhlbpaaDoor
/- Contracts of the functions of layer 9 that write: what has a length, peers, pairs. -/
namespace Go.Proofs.YtjkjhnpemhlbpaaDoor
open Go.RowKit
set_option linter.unusedVariables false
set_option maxRecDepth 100000
open Gm

/-- a struct of two cells that is boxed -/
theorem boxed2 (w : World) (t : TypeId) (x y : Value) : ∃ b w0, w.heap.size = b ∧ w.alloc (.cells #[x, y] t) = w0 ∧ w0.heap.size = b + 1 ∧ Whole w0 b t #[x, y] ∧ Below b w w0 :=
  ⟨_, _, rfl, rfl, by simp, Whole.made _ _ _, (Below.refl _ _).alloc (Nat.le_refl _) _⟩

end Go.Proofs.YtjkjhnpemhlbpaaDoor
/- Contracts of the functions of layer 9 that write lists. -/
namespace Go.Proofs.YtjkjhnpemhlbpaaDoor
open Go.RowKit
set_option linter.unusedVariables false
set_option maxRecDepth 100000
open Gm

/-- a struct of two cells that is stored in a new variable, cell by cell -/
theorem var2 (w : World) (t : TypeId) (z0 z1 x y : Value) : ∃ b w0 u w1, w.heap.size = b ∧ w.alloc (.cells #[z0, z1] t) = w0 ∧ (w0.cell? ⟨b, 0, none⟩ = some z0 ∧ w0.frozen? ⟨b, 0, none⟩ = false) ∧ w0.setCell ⟨b, 0, none⟩ x = u ∧ (u.cell? ⟨b, 1, none⟩ = some z1 ∧ u.frozen? ⟨b, 1, none⟩ = false) ∧
    u.setCell ⟨b, 1, none⟩ y = w1 ∧ Whole w1 b t #[x, y] ∧ w1.heap.size = b + 1 ∧ Below b w w1 := by
  have h0 := Whole.made w t #[z0, z1]
  have h1 := h0.put 0 x
  have h2 := h1.put 1 y
  refine ⟨_, _, _, _, rfl, rfl, ⟨h0.at_ 0, h0.free 0⟩, rfl, ⟨h1.at_ 1, h1.free 1⟩, rfl, h2, by simp [World.setCell], ?_⟩
  exact (((Below.refl _ _).alloc (Nat.le_refl _) _).setCell (Nat.le_refl _) _).setCell (Nat.le_refl _) _
theorem fpeerI {cs : Array Value} (h : cs.size = 2) : (Tryd.prog.info? 26).map (·.size) = some cs.size := by rw [h]; kernel_rfl
theorem fpairI {cs : Array Value} (h : cs.size = 2) : (Tryd.prog.info? 43).map (·.size) = some cs.size := by rw [h]; kernel_rfl
theorem flat_next {α : Type} (f : α → List Nat) (l : List α) {j : Nat} (h : j < l.length) (x : α) (hx : l[j] = x) : (l.take (j + 1)).flatMap f = (l.take j).flatMap f ++ f x := by
  rw [List.take_succ_eq_append_getElem h, List.flatMap_append, List.flatMap_singleton, hx]
theorem peerB_length (p : Nat × Nat) : (Fm.peerB p).length = 10 := by unfold Fm.peerB; rw [List.length_append, Bm.fix_length, Bm.fix_length]
theorem flat_peers : ∀ (l : List (Nat × Nat)), (l.flatMap Fm.peerB).length = 10 * l.length
  | [] => rfl
  | p :: l => by rw [List.flatMap_cons, List.length_append, peerB_length, flat_peers l, List.length_cons]; omega

theorem strB_length (k : Nat) (s : ByteArray) : (Fm.strB k s).length = k + s.size := by unfold Fm.strB; rw [List.length_append, Bm.fix_length, Fm.nums_length]
theorem flat_pairs : ∀ (l : List (ByteArray × ByteArray)), (∀ p ∈ l, p.1.size ≤ 1000 ∧ p.2.size ≤ 1000) → (l.flatMap Fm.pairB).length ≤ 2003 * l.length
  | [], _ => by simp
  | p :: l, h => by
    have ih := flat_pairs l (fun q hq => h q (List.mem_cons_of_mem _ hq))
    have h1 := h p List.mem_cons_self
    rw [List.flatMap_cons, List.length_append, List.length_cons]
    unfold Fm.pairB at ih ⊢
    rw [List.length_append, strB_length, strB_length]
    omega

end Go.Proofs.YtjkjhnpemhlbpaaDoor
/- Contracts of fixed.putOwn and fixed.Enc. -/
namespace Go.Proofs.YtjkjhnpemhlbpaaDoor
open Go.RowKit
set_option linter.unusedVariables false
set_option maxRecDepth 100000
set_option linter.unusedSimpArgs false
open Gm

/-- a boxed message whose slices lie below base -/
structure Boxk (w : World) (base b : Nat) (m : Ms) (vp vq : Value) : Prop where
  bx : Bx w b m vp vq
  peers : Sl fPeer w base vp m.peers
  pairs : Sl fPair w base vq m.pairs
section
variable {w w' w0 : World} {base b : Nat} {m : Ms} {vp vq v v' v0 : Value} {xs ys : List Nat} {e : Ending}
theorem Boxk.kept (h : Boxk w base b m vp vq) (k : Kept w w' v v') (hr : ∀ k, v.ownBlock = some k → base ≤ k) (hne : v.ownBlock ≠ some b) (hb : base ≤ w.heap.size) : Boxk w' base b m vp vq :=
  ⟨Whole.kept h.bx k hne, h.peers.below (k.below hr hb), h.pairs.below (k.below hr hb)⟩
theorem boxedk (H : Mv w base m v) (hb : base ≤ w.heap.size) : ∃ b vp vq w0, v = .agg #[.int .i64 m.kind, .int .u32 (m.rid : Int), .int .u8 (m.code : Int), .bool m.has, .int .u64 (m.id : Int), .string m.key, .string m.val, .int .u64 (m.pid : Int), .int .u16 (m.pad : Int), vp, vq] ∧ w.heap.size = b ∧ w.alloc (.cells #[.int .i64 m.kind, .int .u32 (m.rid : Int), .int .u8 (m.code : Int), .bool m.has, .int .u64 (m.id : Int), .string m.key, .string m.val, .int .u64 (m.pid : Int), .int .u16 (m.pad : Int), vp, vq] 30) = w0 ∧ w0.heap.size = b + 1 ∧ Boxk w0 base b m vp vq ∧ Below b w w0 := by
  obtain ⟨vp, vq, rfl, hp, hq⟩ := H.ex
  have B0 : Below w.heap.size w (w.alloc (.cells #[.int .i64 m.kind, .int .u32 (m.rid : Int), .int .u8 (m.code : Int), .bool m.has, .int .u64 (m.id : Int), .string m.key, .string m.val, .int .u64 (m.pid : Int), .int .u16 (m.pad : Int), vp, vq] 30)) := (Below.refl _ _).alloc (Nat.le_refl _) _
  exact ⟨_, vp, vq, _, rfl, rfl, rfl, by simp, ⟨Whole.made _ _ _, hp.below (B0.mono hb), hq.below (B0.mono hb)⟩, B0⟩
/-- a row of the call's own, beside a boxed message -/
structure On (base b : Nat) (m : Ms) (vp vq : Value) (w0 : World) (v0 : Value) (xs : List Nat) (v : Value) (w : World) : Prop where
  own : w.ownsRow base 5 1 v xs.length (ints .u8 xs)
  box : Boxk w base b m vp vq
  kept : Kept w0 w v0 v
  ne : v.ownBlock ≠ some b
  size : base ≤ w.heap.size
theorem On.next (h : On base b m vp vq w0 v0 xs v w) (hm : MadeK base ys v w e w') : ∃ v', e = .returned v' ∧ On base b m vp vq w0 v0 ys v' w' := by
  obtain ⟨v', rfl, ho, hk⟩ := hm
  exact ⟨v', rfl, ho, h.box.kept hk (own_lt h.own) h.ne h.size, h.kept.trans hk, hk.apart (Whole.lt h.box.bx) h.ne, Nat.le_trans h.size hk.size⟩
theorem On.next' (h : On base b m vp vq w0 v0 xs v w) {F : Nat} {args : Array Value} (c : Calls Tryd.prog F args w (MadeK base ys v w)) : Calls Tryd.prog F args w fun e w' => ∃ v', e = .returned v' ∧ On base b m vp vq w0 v0 ys v' w' :=
  c.mono fun e w' hm => h.next hm
variable (h : On base b m vp vq w0 v0 xs v w)
include h
end
/-- what may be is small -/
structure Few (m : Ms) : Prop where
  ok : Ok m
  key : m.key.size ≤ 1000
  val : m.val.size ≤ 1000
  peers : m.peers.length ≤ 16
  pairs : m.pairs.length ≤ 8
  pair : ∀ p ∈ m.pairs, p.1.size ≤ 1000 ∧ p.2.size ≤ 1000


theorem ownB_1 {m : Ms} (hk : m.kind = 1) : Fm.ownB m = Bm.fix 8 m.id := by unfold Fm.ownB; rw [hk]; rfl
theorem ownB_2 {m : Ms} (hk : m.kind = 2) : Fm.ownB m = Fm.hasB m.has ++ Fm.peersB m.peers := by unfold Fm.ownB; rw [hk]; rfl
theorem ownB_5 {m : Ms} (hk : m.kind = 5) : Fm.ownB m = Fm.peerB (m.pid, m.pad) := by unfold Fm.ownB; rw [hk]; rfl
theorem ownB_7 {m : Ms} (hk : m.kind = 7) : Fm.ownB m = Fm.strB 1 m.key ++ Fm.strB 2 m.val := by unfold Fm.ownB; rw [hk]; rfl
theorem ownB_8 {m : Ms} (hk : m.kind = 8) : Fm.ownB m = Fm.strB 1 m.key := by unfold Fm.ownB; rw [hk]; rfl
theorem ownB_10 {m : Ms} (hk : m.kind = 10) : Fm.ownB m = Fm.hasB m.has ++ Fm.pairsB m.pairs := by unfold Fm.ownB; rw [hk]; rfl
theorem ownB_12 {m : Ms} (hk : m.kind = 12) : Fm.ownB m = Bm.fix 1 m.code := by unfold Fm.ownB; rw [hk]; rfl
theorem ownB_4t {m : Ms} (hk : m.kind = 4) (hh : m.has = true) : Fm.ownB m = Fm.hasB m.has ++ (Fm.peerB (m.pid, m.pad) ++ Fm.peersB m.peers) := by unfold Fm.ownB; rw [hk, hh]; rfl
theorem ownB_4f {m : Ms} (hk : m.kind = 4) (hh : m.has = false) : Fm.ownB m = Fm.hasB m.has ++ Fm.peersB m.peers := by unfold Fm.ownB; rw [hk, hh]; rfl
theorem ownB_9t {m : Ms} (hk : m.kind = 9) (hh : m.has = true) : Fm.ownB m = Fm.hasB m.has ++ Fm.strB 2 m.val := by unfold Fm.ownB; rw [hk, hh]; rfl
theorem ownB_9f {m : Ms} (hk : m.kind = 9) (hh : m.has = false) : Fm.ownB m = Fm.hasB m.has := by unfold Fm.ownB; rw [hk, hh]; rfl
theorem ownB_3 {m : Ms} (hk : m.kind = 3) : Fm.ownB m = [] := by unfold Fm.ownB; rw [hk]; rfl
theorem ownB_6 {m : Ms} (hk : m.kind = 6) : Fm.ownB m = [] := by unfold Fm.ownB; rw [hk]; rfl
theorem ownB_11 {m : Ms} (hk : m.kind = 11) : Fm.ownB m = [] := by unfold Fm.ownB; rw [hk]; rfl
theorem few_right {m : Ms} (ok : Ok m) (hk : m.key.size ≤ 1000) (h : right m = 0) : Few m := by
  obtain ⟨_, _, hbk, hlg⟩ := Fm.right_parts h
  obtain ⟨l1, l2, l3, l4, _⟩ := Fm.long_parts hlg hbk
  exact ⟨ok, hk, by omega, by omega, by omega, fun p hp => by have := l4 p hp; omega⟩

/-- bytes in new memory, and an error -/
def EncPost (r : List Nat × Nat) (w : World) (e : Ending) (w' : World) : Prop :=
  ∃ v, e = .returned (.tuple #[v, .int .i64 (r.2 : Int)]) ∧ w'.ownsRow w.heap.size 5 1 v r.1.length (ints .u8 r.1) ∧ Below w.heap.size w w'

end Go.Proofs.YtjkjhnpemhlbpaaDoor
