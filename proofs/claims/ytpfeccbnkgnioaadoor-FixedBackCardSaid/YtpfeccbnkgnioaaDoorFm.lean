/- Plain mathematics of layer 9: the bytes that a message is, and the message that bytes are. No program. -/
import Derived.Test.YtpfeccbnkgnioaaDoorBm
import Derived.Test.YtpfeccbnkgnioaaDoorGm
namespace Go.Proofs.YtpfeccbnkgnioaaDoor
open Gm
set_option linter.unusedVariables false
namespace Fm

/-! ### written -/
def peerB (p : Nat × Nat) : List Nat := Bm.fix 8 p.1 ++ Bm.fix 2 p.2
def peersB (l : List (Nat × Nat)) : List Nat := Bm.fix 1 l.length ++ l.flatMap peerB
def strB (k : Nat) (s : ByteArray) : List Nat := Bm.fix k s.size ++ nums s
def pairB (p : ByteArray × ByteArray) : List Nat := strB 1 p.1 ++ strB 2 p.2
def pairsB (l : List (ByteArray × ByteArray)) : List Nat := Bm.fix 1 l.length ++ l.flatMap pairB
def hasB (b : Bool) : List Nat := [b.toNat]
def ownB (m : Ms) : List Nat :=
  if m.kind = 1 then Bm.fix 8 m.id
  else if m.kind = 2 then hasB m.has ++ peersB m.peers
  else if m.kind = 4 then hasB m.has ++ ((if m.has = true then peerB (m.pid, m.pad) else []) ++ peersB m.peers)
  else if m.kind = 5 then peerB (m.pid, m.pad)
  else if m.kind = 7 then strB 1 m.key ++ strB 2 m.val
  else if m.kind = 8 then strB 1 m.key
  else if m.kind = 9 then hasB m.has ++ (if m.has = true then strB 2 m.val else [])
  else if m.kind = 10 then hasB m.has ++ pairsB m.pairs
  else if m.kind = 12 then Bm.fix 1 m.code
  else []
def put (m : Ms) : List Nat := Bm.fix 1 m.kind.toNat ++ (Bm.fix 4 m.rid ++ ownB m)
def enc (m : Ms) : List Nat × Nat := if right m = 0 then (put m, 0) else ([], right m)

/-! ### read: what is read, what is left, the error -/
def peer (l : List Nat) (e : Int) : (Nat × Nat) × List Nat × Int :=
  (((Bm.rfix l e 8).1, (Bm.rfix (Bm.rfix l e 8).2.1 (Bm.rfix l e 8).2.2 2).1 % 65536), (Bm.rfix (Bm.rfix l e 8).2.1 (Bm.rfix l e 8).2.2 2).2)
def count (size : Int) (most : Nat) (l : List Nat) (e : Int) : Nat × List Nat × Int :=
  if most < (Bm.rfix l e size).1 then (0, (Bm.rfix l e size).2.1, Bm.fail (Bm.rfix l e size).2.2 5) else Bm.rfix l e size
def str (size : Int) (most : Nat) (l : List Nat) (e : Int) : List Nat × List Nat × Int :=
  Bm.take (count size most l e).2.1 (count size most l e).2.2 ((count size most l e).1 : Int)
def pair (l : List Nat) (e : Int) : (ByteArray × ByteArray) × List Nat × Int :=
  ((strOf (str 1 96 l e).1, strOf (str 2 512 (str 1 96 l e).2.1 (str 1 96 l e).2.2).1), (str 2 512 (str 1 96 l e).2.1 (str 1 96 l e).2.2).2)
def many {α : Type} (p : List Nat → Int → α × List Nat × Int) : Nat → List Nat → Int → List α × List Nat × Int
  | 0, l, e => ([], l, e)
  | n + 1, l, e => ((many p n l e).1 ++ [(p (many p n l e).2.1 (many p n l e).2.2).1], (p (many p n l e).2.1 (many p n l e).2.2).2)
def peers (l : List Nat) (e : Int) : List (Nat × Nat) × List Nat × Int := many peer (count 1 16 l e).1 (count 1 16 l e).2.1 (count 1 16 l e).2.2
def pairs (l : List Nat) (e : Int) : List (ByteArray × ByteArray) × List Nat × Int := many pair (count 1 8 l e).1 (count 1 8 l e).2.1 (count 1 8 l e).2.2
/-- no message -/
def zero : Ms := ⟨0, 0, 0, false, 0, ⟨#[]⟩, ⟨#[]⟩, 0, 0, [], []⟩
/-- a message of a kind and a number alone -/
def bald (k r : Nat) : Ms := ⟨(k : Int), r, 0, false, 0, ⟨#[]⟩, ⟨#[]⟩, 0, 0, [], []⟩
def own (k r : Nat) (l : List Nat) (e : Int) : Ms × List Nat × Int :=
  if k = 1 then ({ bald k r with id := (Bm.rfix l e 8).1 }, (Bm.rfix l e 8).2)
  else if k = 2 then ({ bald k r with has := (Bm.flag l e).1, peers := (peers (Bm.flag l e).2.1 (Bm.flag l e).2.2).1 }, (peers (Bm.flag l e).2.1 (Bm.flag l e).2.2).2)
  else if k = 4 then
    if (Bm.flag l e).1 = true then
      ({ bald k r with has := true, pid := (peer (Bm.flag l e).2.1 (Bm.flag l e).2.2).1.1, pad := (peer (Bm.flag l e).2.1 (Bm.flag l e).2.2).1.2, peers := (peers (peer (Bm.flag l e).2.1 (Bm.flag l e).2.2).2.1 (peer (Bm.flag l e).2.1 (Bm.flag l e).2.2).2.2).1 },
        (peers (peer (Bm.flag l e).2.1 (Bm.flag l e).2.2).2.1 (peer (Bm.flag l e).2.1 (Bm.flag l e).2.2).2.2).2)
    else ({ bald k r with peers := (peers (Bm.flag l e).2.1 (Bm.flag l e).2.2).1 }, (peers (Bm.flag l e).2.1 (Bm.flag l e).2.2).2)
  else if k = 5 then ({ bald k r with pid := (peer l e).1.1, pad := (peer l e).1.2 }, (peer l e).2)
  else if k = 7 then ({ bald k r with key := strOf (str 1 96 l e).1, val := strOf (str 2 512 (str 1 96 l e).2.1 (str 1 96 l e).2.2).1 }, (str 2 512 (str 1 96 l e).2.1 (str 1 96 l e).2.2).2)
  else if k = 8 then ({ bald k r with key := strOf (str 1 96 l e).1 }, (str 1 96 l e).2)
  else if k = 9 then
    if (Bm.flag l e).1 = true then ({ bald k r with has := true, val := strOf (str 2 512 (Bm.flag l e).2.1 (Bm.flag l e).2.2).1 }, (str 2 512 (Bm.flag l e).2.1 (Bm.flag l e).2.2).2)
    else (bald k r, (Bm.flag l e).2)
  else if k = 10 then ({ bald k r with has := (Bm.flag l e).1, pairs := (pairs (Bm.flag l e).2.1 (Bm.flag l e).2.2).1 }, (pairs (Bm.flag l e).2.1 (Bm.flag l e).2.2).2)
  else if k = 12 then ({ bald k r with code := (Bm.rfix l e 1).1 % 256 }, (Bm.rfix l e 1).2)
  else (bald k r, l, e)
/-- the kind, and the error behind it -/
def kindE (l : List Nat) : Int := if known ((Bm.rfix l 0 1).1 : Int) = true then (Bm.rfix l 0 1).2.2 else Bm.fail (Bm.rfix l 0 1).2.2 9
def ridR (l : List Nat) : Nat × List Nat × Int := Bm.rfix (Bm.rfix l 0 1).2.1 (kindE l) 4
def read (l : List Nat) : Ms × List Nat × Int := own (Bm.rfix l 0 1).1 ((ridR l).1 % 4294967296) (ridR l).2.1 (ridR l).2.2
def fin (l : List Nat) : Int := Bm.fin (read l).2.1 (read l).2.2
def dec (l : List Nat) : Ms × Int := if fin l ≠ 0 then (zero, fin l) else if right (read l).1 = 0 then ((read l).1, 0) else (zero, (right (read l).1 : Int))

/-! ### what is read is what was written -/
def Bytes (l : List Nat) : Prop := ∀ x ∈ l, x < 256
/-- p reads what f writes, of such as are ok -/
structure Good {α : Type} (p : List Nat → Int → α × List Nat × Int) (f : α → List Nat) (ok : α → Prop) : Prop where
  suf : ∀ l e, (p l e).2.1 <:+ l
  sound : ∀ l e, Bytes l → (p l e).2.2 = 0 → e = 0 ∧ l = f (p l e).1 ++ (p l e).2.1 ∧ ok (p l e).1
  full : ∀ x r, ok x → p (f x ++ r) 0 = (x, r, 0)
theorem Bytes.suf {l m : List Nat} (h : Bytes l) (k : m <:+ l) : Bytes m := fun x hx => h x (k.subset hx)
theorem fix_be : ∀ (l : List Nat), Bytes l → Bm.fix l.length (Bm.be l) = l := by
  intro l hl
  have key : ∀ n, n ≤ l.length → Bm.fix n (Bm.be (l.take n)) = l.take n := by
    intro n
    induction n with
    | zero => intro _; simp [Bm.fix]
    | succ n ih =>
      intro hn
      have hx := hl l[n] (List.getElem_mem (by omega))
      rw [List.take_succ_eq_append_getElem (by omega), Bm.be_snoc, Bm.fix, show (Bm.be (l.take n) * 256 + l[n]) / 256 = Bm.be (l.take n) by omega, show (Bm.be (l.take n) * 256 + l[n]) % 256 = l[n] by omega, ih (by omega)]
  have h := key l.length (Nat.le_refl _)
  rwa [List.take_length] at h
theorem be_lt {l : List Nat} (h : Bytes l) (k : Nat) (hk : k ≤ l.length) : Bm.be (l.take k) < 256 ^ k := Bm.be_take l h k hk
theorem rfix_suf (l : List Nat) (e s : Int) : (Bm.rfix l e s).2.1 <:+ l := by
  unfold Bm.rfix
  repeat' split
  all_goals first | exact List.suffix_refl _ | exact List.drop_suffix _ _
theorem flag_suf (l : List Nat) (e : Int) : (Bm.flag l e).2.1 <:+ l := by
  unfold Bm.flag
  repeat' split
  all_goals first | exact List.suffix_refl _ | exact List.drop_suffix _ _
theorem take_suf (l : List Nat) (e s : Int) : (Bm.take l e s).2.1 <:+ l := by
  unfold Bm.take
  repeat' split
  all_goals first | exact List.suffix_refl _ | exact List.drop_suffix _ _
theorem rfix_lt {l : List Nat} (h : Bytes l) (e : Int) (k : Nat) : (Bm.rfix l e (k : Int)).1 < 256 ^ k := by
  have hp : 0 < 256 ^ k := Nat.pow_pos (by decide)
  unfold Bm.rfix
  repeat' split
  · exact hp
  · exact hp
  · exact hp
  · rename_i h1 h2
    simp only [Int.toNat_natCast]
    exact be_lt h k (by omega)
theorem good_fix (k : Nat) (s : Int) (hs : s = (k : Int)) (h1 : 1 ≤ k) (h8 : k ≤ 8) : Good (fun l e => Bm.rfix l e s) (Bm.fix k) (fun x => x < 256 ^ k) := by
  subst hs
  refine ⟨fun l e => rfix_suf l e _, fun l e hb h => ?_, fun x r hx => ?_⟩
  · have hx := rfix_lt hb e k
    by_cases he : e = 0
    · subst he
      by_cases hl : l.length < k
      · simp only [Bm.rfix_short h1 h8 hl] at h; cases h
      · simp only [Bm.rfix_good h1 h8 (Nat.le_of_not_lt hl)] at hx ⊢
        refine ⟨by trivial, ?_, hx⟩
        have := fix_be (l.take k) (fun x hx => hb x (List.mem_of_mem_take hx))
        rw [List.length_take, Nat.min_eq_left (Nat.le_of_not_lt hl)] at this
        rw [this, List.take_append_drop]
    · simp only [Bm.rfix_err he] at h; exact absurd h he
  · show Bm.rfix (Bm.fix k x ++ r) 0 (k : Int) = _
    rw [Bm.rfix_put x k r h1 h8, Nat.mod_eq_of_lt hx]
theorem good_flag : Good Bm.flag hasB (fun _ => True) := by
  refine ⟨flag_suf, fun l e hb h => ?_, fun x r _ => ?_⟩
  · by_cases he : e = 0
    · subst he
      cases l with
      | nil => simp [Bm.flag] at h
      | cons a l =>
        by_cases ha : 1 < a
        · rw [Bm.flag_form (by simp) (by simpa using ha)] at h; cases h
        · have ha' : a = 0 ∨ a = 1 := by omega
          rw [Bm.flag_good (by simp) (by simpa using ha)]
          rcases ha' with rfl | rfl <;> refine ⟨rfl, ?_, trivial⟩ <;> simp [hasB]
    · rw [Bm.flag_err he] at h; exact absurd h he
  · cases x <;> rfl
theorem good_peer : Good peer peerB (fun p => p.1 < 18446744073709551616 ∧ p.2 < 65536) := by
  have G8 := good_fix 8 8 rfl (by omega) (by omega)
  have G2 := good_fix 2 2 rfl (by omega) (by omega)
  refine ⟨fun l e => (G2.suf _ _).trans (G8.suf l e), fun l e hb h => ?_, fun x r hx => ?_⟩
  · obtain ⟨h1, h2, h3⟩ := G2.sound _ _ (hb.suf (G8.suf l e)) h
    obtain ⟨h4, h5, h6⟩ := G8.sound l e hb h1
    have e2 : (peer l e).1 = ((Bm.rfix l e 8).1, (Bm.rfix (Bm.rfix l e 8).2.1 (Bm.rfix l e 8).2.2 2).1) := by
      show (_, _) = (_, _)
      rw [Nat.mod_eq_of_lt (by exact h3)]
    refine ⟨h4, ?_, by rw [e2]; exact ⟨h6, h3⟩⟩
    rw [e2]
    show l = (Bm.fix 8 _ ++ Bm.fix 2 _) ++ (Bm.rfix (Bm.rfix l e 8).2.1 (Bm.rfix l e 8).2.2 2).2.1
    rw [List.append_assoc, ← h2]
    exact h5
  · obtain ⟨x1, x2⟩ := x
    have a1 := G8.full x1 (Bm.fix 2 x2 ++ r) hx.1
    have a2 := G2.full x2 r hx.2
    try simp only at a1 a2
    unfold peer peerB
    rw [List.append_assoc, a1]
    simp only
    rw [a2]
    simp only [Nat.mod_eq_of_lt hx.2]
theorem good_count (k : Nat) (s : Int) (most : Nat) (hs : s = (k : Int)) (h1 : 1 ≤ k) (h8 : k ≤ 8) : Good (count s most) (Bm.fix k) (fun x => x < 256 ^ k ∧ x ≤ most) := by
  have G := good_fix k s hs h1 h8
  refine ⟨fun l e => ?_, fun l e hb h => ?_, fun x r hx => ?_⟩
  · unfold count
    split
    · exact G.suf l e
    · exact G.suf l e
  · by_cases hm : most < (Bm.rfix l e s).1
    · unfold count at h
      rw [if_pos hm] at h
      unfold Bm.fail at h
      simp only at h
      split at h
      · contradiction
      · cases h
    · have e1 : count s most l e = Bm.rfix l e s := by unfold count; rw [if_neg hm]
      rw [e1] at h ⊢
      obtain ⟨h2, h3, h4⟩ := G.sound l e hb h
      exact ⟨h2, h3, h4, Nat.le_of_not_lt hm⟩
  · have a := G.full x r hx.1
    try simp only at a
    unfold count
    rw [a, if_neg (by simpa using hx.2)]
theorem count_lt {k : Nat} (l : List Nat) (e : Int) (most : Nat) (s : Int) : (count s most l e).1 ≤ most := by
  unfold count
  split
  · exact Nat.zero_le _
  · rename_i h; exact Nat.le_of_not_lt h
theorem strOf_nums' (s : ByteArray) : strOf (nums s) = s := (Txt.nums s).str.symm
theorem nums_strOf {l : List Nat} (h : Bytes l) : nums (strOf l) = l := (Txt.nums (strOf l)).inj (Txt.of h)
theorem nums_length (s : ByteArray) : (nums s).length = s.size := (Txt.nums s).size.symm
theorem nums_bytes (s : ByteArray) : Bytes (nums s) := (Txt.nums s).byte
theorem good_str (k : Nat) (s : Int) (most : Nat) (hs : s = (k : Int)) (h1 : 1 ≤ k) (h8 : k ≤ 8) (hm : most < 256 ^ k) : Good (fun l e => (strOf (str s most l e).1, (str s most l e).2)) (strB k) (fun x => x.size ≤ most) := by
  have G := good_count k s most hs h1 h8
  refine ⟨fun l e => (take_suf _ _ _).trans (G.suf l e), fun l e hb h => ?_, fun x r hx => ?_⟩
  · try simp only at h ⊢
    have hs1 := G.suf l e
    by_cases hc : (count s most l e).2.2 = 0
    · obtain ⟨h2, h3, h4, h5⟩ := G.sound l e hb hc
      unfold str at h ⊢
      generalize hcc : count s most l e = q at *
      obtain ⟨c, l1, e1⟩ := q
      try simp only at h h3 h4 h5 hc hs1 ⊢
      subst hc
      by_cases hl : c ≤ l1.length
      · rw [Bm.take_good hl] at h ⊢
        simp only
        have hb1 := hb.suf hs1
        have hbt : Bytes (l1.take c) := fun x hx => hb1 x (List.mem_of_mem_take hx)
        have hz : (strOf (l1.take c)).size = c := by rw [strOf_size, List.length_take, Nat.min_eq_left hl]
        refine ⟨h2, ?_, by rw [hz]; exact h5⟩
        unfold strB
        rw [hz, nums_strOf hbt, List.append_assoc, List.take_append_drop]
        exact h3
      · rw [Bm.take_short (by omega)] at h
        cases h
    · unfold str at h
      rw [Bm.take_err hc] at h
      exact absurd h hc
  · have a := G.full x.size (nums x ++ r) ⟨by omega, hx⟩
    try simp only
    unfold str strB
    rw [List.append_assoc, a]
    simp only
    have hl : x.size ≤ (nums x ++ r).length := by rw [List.length_append, nums_length]; omega
    rw [Bm.take_good hl, ← nums_length x, List.take_left, List.drop_left]
    simp only [strOf_nums']
theorem good_pair : Good pair pairB (fun p => p.1.size ≤ 96 ∧ p.2.size ≤ 512) := by
  have G1 := good_str 1 1 96 rfl (by omega) (by omega) (by omega)
  have G2 := good_str 2 2 512 rfl (by omega) (by omega) (by omega)
  refine ⟨fun l e => (G2.suf _ _).trans (G1.suf l e), fun l e hb h => ?_, fun x r hx => ?_⟩
  · obtain ⟨h1, h2, h3⟩ := G2.sound _ _ (hb.suf (G1.suf l e)) h
    obtain ⟨h4, h5, h6⟩ := G1.sound l e hb h1
    refine ⟨h4, ?_, h6, h3⟩
    unfold pairB
    rw [List.append_assoc]
    show l = strB 1 (strOf (str 1 96 l e).1) ++ (strB 2 (strOf (str 2 512 (str 1 96 l e).2.1 (str 1 96 l e).2.2).1) ++ (str 2 512 (str 1 96 l e).2.1 (str 1 96 l e).2.2).2.1)
    rw [← h2]
    exact h5
  · obtain ⟨x1, x2⟩ := x
    have a1 := G1.full x1 (strB 2 x2 ++ r) hx.1
    have a2 := G2.full x2 r hx.2
    simp only [Prod.mk.injEq] at a1 a2
    obtain ⟨a3, a4⟩ := a1
    obtain ⟨a5, a6⟩ := a2
    unfold pair pairB
    rw [List.append_assoc, a3, a4]
    simp only
    rw [a5, a6]
theorem good_many {α : Type} {p : List Nat → Int → α × List Nat × Int} {f : α → List Nat} {ok : α → Prop} (G : Good p f ok) (n : Nat) : Good (many p n) (fun x => x.flatMap f) (fun x => x.length = n ∧ ∀ y ∈ x, ok y) := by
  refine ⟨?_, ?_, ?_⟩
  · induction n with
    | zero => exact fun l e => List.suffix_refl _
    | succ n ih => exact fun l e => (G.suf _ _).trans (ih l e)
  · induction n with
    | zero => exact fun l e _ h => ⟨h, rfl, rfl, fun y hy => by cases hy⟩
    | succ n ih =>
      intro l e hb h
      have hs : (many p n l e).2.1 <:+ l := by
        clear h ih
        induction n with
        | zero => exact List.suffix_refl _
        | succ n ih => exact (G.suf _ _).trans ih
      obtain ⟨h1, h2, h3⟩ := G.sound _ _ (hb.suf hs) h
      obtain ⟨h4, h5, h6, h7⟩ := ih l e hb h1
      refine ⟨h4, ?_, by simp [many, h6], ?_⟩
      · show l = ((many p n l e).1 ++ [(p (many p n l e).2.1 (many p n l e).2.2).1]).flatMap f ++ (p (many p n l e).2.1 (many p n l e).2.2).2.1
        rw [List.flatMap_append, List.append_assoc, List.flatMap_singleton, ← h2]
        exact h5
      · intro y hy
        simp only [many, List.mem_append, List.mem_singleton] at hy
        rcases hy with hy | hy
        · exact h7 y hy
        · rw [hy]; exact h3
  · intro x r hx
    obtain ⟨hn, hok⟩ := hx
    have key : ∀ j, j ≤ x.length → many p j (x.flatMap f ++ r) 0 = (x.take j, (x.drop j).flatMap f ++ r, 0) := by
      intro j
      induction j with
      | zero => intro _; simp [many]
      | succ j ih =>
        intro hj
        have hd : x.drop j = x[j] :: x.drop (j + 1) := List.drop_eq_getElem_cons (by omega)
        have a := G.full x[j] ((x.drop (j + 1)).flatMap f ++ r) (hok _ (List.getElem_mem _))
        unfold many
        rw [ih (by omega)]
        simp only
        rw [hd, List.flatMap_cons, List.append_assoc, a]
        simp only
        rw [List.take_succ_eq_append_getElem (by omega)]
    have h := key x.length (Nat.le_refl _)
    rw [List.take_length, List.drop_length] at h
    simpa [hn] using h
theorem good_list {α : Type} {p : List Nat → Int → α × List Nat × Int} {f : α → List Nat} {ok : α → Prop} (G : Good p f ok) (most : Nat) (hm : most < 256) :
    Good (fun l e => many p (count 1 most l e).1 (count 1 most l e).2.1 (count 1 most l e).2.2) (fun x => Bm.fix 1 x.length ++ x.flatMap f) (fun x => x.length ≤ most ∧ ∀ y ∈ x, ok y) := by
  have C := good_count 1 1 most rfl (by omega) (by omega)
  refine ⟨fun l e => ((good_many G _).suf _ _).trans (C.suf l e), fun l e hb h => ?_, fun x r hx => ?_⟩
  · obtain ⟨h1, h2, h3, h4⟩ := (good_many G _).sound _ _ (hb.suf (C.suf l e)) h
    obtain ⟨h5, h6, h7, h8⟩ := C.sound l e hb h1
    refine ⟨h5, ?_, by rw [h3]; exact h8, h4⟩
    try simp only at h2 ⊢
    rw [h3, List.append_assoc, ← h2]
    exact h6
  · have a := C.full x.length (x.flatMap f ++ r) ⟨by omega, hx.1⟩
    try simp only
    rw [List.append_assoc, a]
    exact (good_many G x.length).full x r ⟨rfl, hx.2⟩
theorem good_peers : Good peers peersB (fun x => x.length ≤ 16 ∧ ∀ y ∈ x, y.1 < 18446744073709551616 ∧ y.2 < 65536) := good_list good_peer 16 (by omega)
theorem good_pairs : Good pairs pairsB (fun x => x.length ≤ 8 ∧ ∀ y ∈ x, y.1.size ≤ 96 ∧ y.2.size ≤ 512) := good_list good_pair 8 (by omega)
end Fm
end Go.Proofs.YtpfeccbnkgnioaaDoor
