/- Plain mathematics of messages as trees. -/
import Derived.Test.YtldjdoebappkoaaGreatDoorPJ
import Derived.Test.YtldjdoebappkoaaGreatDoorPE
import Derived.Test.YtldjdoebappkoaaGreatDoorPC
namespace Go.Proofs.YtldjdoebappkoaaGreatDoor
open Go.RowKit
set_option linter.unusedVariables false
set_option linter.unusedSimpArgs false
namespace Dm
open Gm
def num (n : Int) : Tn := .mk 1 n ⟨#[]⟩ [] []
def text (s : ByteArray) : Tn := .mk 2 0 s [] []
def list (l : List Tn) : Tn := .mk 3 0 ⟨#[]⟩ [] l
def idS (u : Nat) : ByteArray := strOf (Bm.fix 8 u)
def peerS (p : Nat × Nat) : ByteArray := strOf (Bm.fix 8 p.1 ++ Bm.fix 2 p.2)
def peerT (p : Nat × Nat) : Tn := text (peerS p)
def pairT (p : ByteArray × ByteArray) : Tn := list [text p.1, text p.2]
def none_ : Tn := .mk 0 0 ⟨#[]⟩ [] []
def base : Tn := .mk 4 0 ⟨#[]⟩ [] []
def put (b : Bool) (k : ByteArray) (x : Tn) (t : Tn) : Tn := if b = true then t.set k x else t
abbrev kC : ByteArray := ⟨#[99]⟩
abbrev kH : ByteArray := ⟨#[104]⟩
abbrev kI : ByteArray := ⟨#[105]⟩
abbrev kK : ByteArray := ⟨#[107]⟩
abbrev kO : ByteArray := ⟨#[111]⟩
abbrev kP : ByteArray := ⟨#[112]⟩
abbrev kQ : ByteArray := ⟨#[113]⟩
abbrev kR : ByteArray := ⟨#[114]⟩
abbrev kT : ByteArray := ⟨#[116]⟩
abbrev kV : ByteArray := ⟨#[118]⟩
/-! the tree of a message, key by key -/
def t1 (m : Ms) : Tn := put (!decide (m.code = 0)) kC (num m.code) base
def t2 (m : Ms) : Tn := put m.has kH (num 1) (t1 m)
def t3 (m : Ms) : Tn := put (!decide (m.id = 0)) kI (text (idS m.id)) (t2 m)
def t4 (m : Ms) : Tn := put (!decide (m.key = ⟨#[]⟩)) kK (text m.key) (t3 m)
def t5 (m : Ms) : Tn := put (!decide (m.pid = 0) || !decide (m.pad = 0)) kO (peerT (m.pid, m.pad)) (t4 m)
def t6 (m : Ms) : Tn := put (!decide (m.peers.length = 0)) kP (list (m.peers.map peerT)) (t5 m)
def t7 (m : Ms) : Tn := put true kQ (text (at_ m.kind).name) (t6 m)
def t8 (m : Ms) : Tn := put (!decide (m.rid = 0)) kR (num m.rid) (t7 m)
def t9 (m : Ms) : Tn := put (!decide (m.pairs.length = 0)) kT (list (m.pairs.map pairT)) (t8 m)
def tree (m : Ms) : Tn := put (!decide (m.val = ⟨#[]⟩)) kV (text m.val) (t9 m)
/-! the message whose tree a tree may be -/
def field (t : Tn) (k : ByteArray) : Tn := (t.get k).getD none_
def word (s : ByteArray) (i n : Nat) : Nat := Bm.be (((nums s).drop i).take n)
def one (s : ByteArray) : Nat × Nat := (word s 0 8, word s 8 2)
def pairOf (t : Tn) : ByteArray × ByteArray := match t.kids with
  | [a, b] => (a.s, b.s)
  | _ => (⟨#[]⟩, ⟨#[]⟩)
def read (t : Tn) : Ms where
  kind := (kindOf (field t kQ).s : Int)
  rid := ((field t kR).n % 4294967296).toNat
  code := ((field t kC).n % 256).toNat
  has := (t.get kH).isSome
  id := word (field t kI).s 0 8
  key := (field t kK).s
  val := (field t kV).s
  pid := (one (field t kO).s).1
  pad := (one (field t kO).s).2
  peers := (field t kP).kids.map fun x => one x.s
  pairs := (field t kT).kids.map pairOf
def zero : Ms := ⟨0, 0, 0, false, 0, ⟨#[]⟩, ⟨#[]⟩, 0, 0, [], []⟩
noncomputable def told (t : Tn) : Ms × Nat :=
  if t.fits = false then (zero, 3)
  else if (field t kQ).kind ≠ 2 ∨ kindOf (field t kQ).s = 0 then (zero, 9)
  else if @decide (tree (read t) = t) (Classical.propDecidable _) = false then (zero, 3)
  else if right (read t) = 0 then (read t, 0) else (zero, right (read t))
def to (m : Ms) : Tn × Nat := if right m = 0 then (tree m, 0) else (none_, right m)

/-! ### what stands under a key -/
theorem fits_of {t : Tn} (h1 : t.kind = 4) (h2 : t.keys.length = t.kids.length) : t.fits = true := by unfold Tn.fits; rw [h1, h2]; simp
theorem fits_set {t : Tn} (h : t.fits = true) (k : ByteArray) (x : Tn) : (t.set k x).fits = true := by
  obtain ⟨h1, h2⟩ := Tn.fits_eq h
  by_cases hp : Tn.place t.keys k < t.keys.length
  · rw [Tn.set_found h hp]
    refine fits_of h1 ?_
    show t.keys.length = (t.kids.set _ x).length
    rw [List.length_set]; exact h2
  · rw [Tn.set_new h hp]
    have hg := Tn.gap_le t.keys k
    refine fits_of h1 ?_
    show (Tn.put t.keys _ k).length = (Tn.put t.kids _ x).length
    rw [Tn.put_length t.keys _ k hg, Tn.put_length t.kids _ x (by omega)]
    omega
theorem fits_put {b : Bool} {k : ByteArray} {x t : Tn} (h : t.fits = true) : (put b k x t).fits = true := by
  unfold put
  split
  · exact fits_set h k x
  · exact h
theorem fits_base : base.fits = true := by decide
theorem get_put {b : Bool} {k : ByteArray} {x t : Tn} (h : t.fits = true) (k' : ByteArray) : (put b k x t).get k' = if b = true ∧ k' = k then some x else t.get k' := by
  unfold put
  cases b with
  | false => simp
  | true =>
    by_cases e : k' = k
    · subst e; simp [Tn.get_set h]
    · simp [e, Tn.get_other h e]
theorem get_base (k : ByteArray) : base.get k = none := by
  unfold Tn.get base
  simp [Tn.kind, Tn.keys, Tn.place]
theorem f1 (m : Ms) : (t1 m).fits = true := fits_put fits_base
theorem f2 (m : Ms) : (t2 m).fits = true := fits_put (f1 m)
theorem f3 (m : Ms) : (t3 m).fits = true := fits_put (f2 m)
theorem f4 (m : Ms) : (t4 m).fits = true := fits_put (f3 m)
theorem f5 (m : Ms) : (t5 m).fits = true := fits_put (f4 m)
theorem f6 (m : Ms) : (t6 m).fits = true := fits_put (f5 m)
theorem f7 (m : Ms) : (t7 m).fits = true := fits_put (f6 m)
theorem f8 (m : Ms) : (t8 m).fits = true := fits_put (f7 m)
theorem f9 (m : Ms) : (t9 m).fits = true := fits_put (f8 m)
theorem tree_fits (m : Ms) : (tree m).fits = true := fits_put (f9 m)
theorem get1 (m : Ms) (k : ByteArray) : (t1 m).get k = if (!decide (m.code = 0)) = true ∧ k = kC then some (num m.code) else none := by unfold t1; rw [get_put fits_base, get_base]
theorem get2 (m : Ms) (k : ByteArray) : (t2 m).get k = if m.has = true ∧ k = kH then some (num 1) else if (!decide (m.code = 0)) = true ∧ k = kC then some (num m.code) else none := by unfold t2; rw [get_put (f1 m), get1]
theorem get3 (m : Ms) (k : ByteArray) : (t3 m).get k = if (!decide (m.id = 0)) = true ∧ k = kI then some (text (idS m.id)) else if m.has = true ∧ k = kH then some (num 1) else if (!decide (m.code = 0)) = true ∧ k = kC then some (num m.code) else none := by unfold t3; rw [get_put (f2 m), get2]
theorem get4 (m : Ms) (k : ByteArray) : (t4 m).get k = if (!decide (m.key = ⟨#[]⟩)) = true ∧ k = kK then some (text m.key) else if (!decide (m.id = 0)) = true ∧ k = kI then some (text (idS m.id)) else if m.has = true ∧ k = kH then some (num 1) else if (!decide (m.code = 0)) = true ∧ k = kC then some (num m.code) else none := by unfold t4; rw [get_put (f3 m), get3]
theorem get5 (m : Ms) (k : ByteArray) : (t5 m).get k = if (!decide (m.pid = 0) || !decide (m.pad = 0)) = true ∧ k = kO then some (peerT (m.pid, m.pad)) else if (!decide (m.key = ⟨#[]⟩)) = true ∧ k = kK then some (text m.key) else if (!decide (m.id = 0)) = true ∧ k = kI then some (text (idS m.id)) else if m.has = true ∧ k = kH then some (num 1) else if (!decide (m.code = 0)) = true ∧ k = kC then some (num m.code) else none := by unfold t5; rw [get_put (f4 m), get4]
theorem get6 (m : Ms) (k : ByteArray) : (t6 m).get k = if (!decide (m.peers.length = 0)) = true ∧ k = kP then some (list (m.peers.map peerT)) else if (!decide (m.pid = 0) || !decide (m.pad = 0)) = true ∧ k = kO then some (peerT (m.pid, m.pad)) else if (!decide (m.key = ⟨#[]⟩)) = true ∧ k = kK then some (text m.key) else if (!decide (m.id = 0)) = true ∧ k = kI then some (text (idS m.id)) else if m.has = true ∧ k = kH then some (num 1) else if (!decide (m.code = 0)) = true ∧ k = kC then some (num m.code) else none := by unfold t6; rw [get_put (f5 m), get5]
theorem get7 (m : Ms) (k : ByteArray) : (t7 m).get k = if true = true ∧ k = kQ then some (text (at_ m.kind).name) else if (!decide (m.peers.length = 0)) = true ∧ k = kP then some (list (m.peers.map peerT)) else if (!decide (m.pid = 0) || !decide (m.pad = 0)) = true ∧ k = kO then some (peerT (m.pid, m.pad)) else if (!decide (m.key = ⟨#[]⟩)) = true ∧ k = kK then some (text m.key) else if (!decide (m.id = 0)) = true ∧ k = kI then some (text (idS m.id)) else if m.has = true ∧ k = kH then some (num 1) else if (!decide (m.code = 0)) = true ∧ k = kC then some (num m.code) else none := by unfold t7; rw [get_put (f6 m), get6]
theorem get8 (m : Ms) (k : ByteArray) : (t8 m).get k = if (!decide (m.rid = 0)) = true ∧ k = kR then some (num m.rid) else if true = true ∧ k = kQ then some (text (at_ m.kind).name) else if (!decide (m.peers.length = 0)) = true ∧ k = kP then some (list (m.peers.map peerT)) else if (!decide (m.pid = 0) || !decide (m.pad = 0)) = true ∧ k = kO then some (peerT (m.pid, m.pad)) else if (!decide (m.key = ⟨#[]⟩)) = true ∧ k = kK then some (text m.key) else if (!decide (m.id = 0)) = true ∧ k = kI then some (text (idS m.id)) else if m.has = true ∧ k = kH then some (num 1) else if (!decide (m.code = 0)) = true ∧ k = kC then some (num m.code) else none := by unfold t8; rw [get_put (f7 m), get7]
theorem get9 (m : Ms) (k : ByteArray) : (t9 m).get k = if (!decide (m.pairs.length = 0)) = true ∧ k = kT then some (list (m.pairs.map pairT)) else if (!decide (m.rid = 0)) = true ∧ k = kR then some (num m.rid) else if true = true ∧ k = kQ then some (text (at_ m.kind).name) else if (!decide (m.peers.length = 0)) = true ∧ k = kP then some (list (m.peers.map peerT)) else if (!decide (m.pid = 0) || !decide (m.pad = 0)) = true ∧ k = kO then some (peerT (m.pid, m.pad)) else if (!decide (m.key = ⟨#[]⟩)) = true ∧ k = kK then some (text m.key) else if (!decide (m.id = 0)) = true ∧ k = kI then some (text (idS m.id)) else if m.has = true ∧ k = kH then some (num 1) else if (!decide (m.code = 0)) = true ∧ k = kC then some (num m.code) else none := by unfold t9; rw [get_put (f8 m), get8]
theorem get_tree (m : Ms) (k : ByteArray) : (tree m).get k = if (!decide (m.val = ⟨#[]⟩)) = true ∧ k = kV then some (text m.val) else if (!decide (m.pairs.length = 0)) = true ∧ k = kT then some (list (m.pairs.map pairT)) else if (!decide (m.rid = 0)) = true ∧ k = kR then some (num m.rid) else if true = true ∧ k = kQ then some (text (at_ m.kind).name) else if (!decide (m.peers.length = 0)) = true ∧ k = kP then some (list (m.peers.map peerT)) else if (!decide (m.pid = 0) || !decide (m.pad = 0)) = true ∧ k = kO then some (peerT (m.pid, m.pad)) else if (!decide (m.key = ⟨#[]⟩)) = true ∧ k = kK then some (text m.key) else if (!decide (m.id = 0)) = true ∧ k = kI then some (text (idS m.id)) else if m.has = true ∧ k = kH then some (num 1) else if (!decide (m.code = 0)) = true ∧ k = kC then some (num m.code) else none := by unfold tree; rw [get_put (f9 m), get9]
theorem kne : kC ≠ kH ∧ kC ≠ kI ∧ kC ≠ kK ∧ kC ≠ kO ∧ kC ≠ kP ∧ kC ≠ kQ ∧ kC ≠ kR ∧ kC ≠ kT ∧ kC ≠ kV := by decide
theorem iteD {α : Type} {p : Prop} [Decidable p] (a b : α) : ((if p then some a else none).getD b) = if p then a else b := by split <;> rfl
theorem fC (m : Ms) : field (tree m) kC = if m.code = 0 then none_ else num m.code := by
  unfold field; rw [get_tree]; simp [kC, kH, kI, kK, kO, kP, kQ, kR, kT, kV]; split <;> rfl
theorem fH (m : Ms) : ((tree m).get kH).isSome = m.has := by
  rw [get_tree]; simp [kC, kH, kI, kK, kO, kP, kQ, kR, kT, kV]; cases m.has <;> rfl
theorem fI (m : Ms) : field (tree m) kI = if m.id = 0 then none_ else text (idS m.id) := by
  unfold field; rw [get_tree]; simp [kC, kH, kI, kK, kO, kP, kQ, kR, kT, kV]; split <;> rfl
theorem fK (m : Ms) : field (tree m) kK = if m.key = ⟨#[]⟩ then none_ else text m.key := by
  unfold field; rw [get_tree]; simp [kC, kH, kI, kK, kO, kP, kQ, kR, kT, kV]; split <;> rfl
theorem fO (m : Ms) : field (tree m) kO = if m.pid = 0 ∧ m.pad = 0 then none_ else peerT (m.pid, m.pad) := by
  unfold field; rw [get_tree]; simp [kC, kH, kI, kK, kO, kP, kQ, kR, kT, kV]
  by_cases h1 : m.pid = 0 <;> by_cases h2 : m.pad = 0 <;> simp [h1, h2]
theorem fP (m : Ms) : field (tree m) kP = if m.peers = [] then none_ else list (m.peers.map peerT) := by
  unfold field; rw [get_tree]; simp [kC, kH, kI, kK, kO, kP, kQ, kR, kT, kV]; split <;> rfl
theorem fQ (m : Ms) : field (tree m) kQ = text (at_ m.kind).name := by
  unfold field; rw [get_tree]; simp [kC, kH, kI, kK, kO, kP, kQ, kR, kT, kV]
theorem fR (m : Ms) : field (tree m) kR = if m.rid = 0 then none_ else num m.rid := by
  unfold field; rw [get_tree]; simp [kC, kH, kI, kK, kO, kP, kQ, kR, kT, kV]; split <;> rfl
theorem fT (m : Ms) : field (tree m) kT = if m.pairs = [] then none_ else list (m.pairs.map pairT) := by
  unfold field; rw [get_tree]; simp [kC, kH, kI, kK, kO, kP, kQ, kR, kT, kV]; split <;> rfl
theorem fV (m : Ms) : field (tree m) kV = if m.val = ⟨#[]⟩ then none_ else text m.val := by
  unfold field; rw [get_tree]; simp [kC, kH, kI, kK, kO, kP, kQ, kR, kT, kV]; split <;> rfl

/-! ### each key is new, and there are few -/
theorem place_new {t : Tn} {k : ByteArray} (hf : t.fits = true) (h : t.get k = none) : ¬ Tn.place t.keys k < t.keys.length := by
  intro hp
  obtain ⟨h1, h2⟩ := Tn.fits_eq hf
  rw [Tn.get_eq h1, if_pos hp, List.getElem?_eq_getElem (by omega)] at h
  cases h
theorem n1 (m : Ms) : ¬ Tn.place base.keys kC < base.keys.length := place_new fits_base (get_base _)
theorem n2 (m : Ms) : ¬ Tn.place (t1 m).keys kH < (t1 m).keys.length := place_new (f1 m) (by rw [get1]; simp [kC, kH, kI, kK, kO, kP, kQ, kR, kT, kV])
theorem n3 (m : Ms) : ¬ Tn.place (t2 m).keys kI < (t2 m).keys.length := place_new (f2 m) (by rw [get2]; simp [kC, kH, kI, kK, kO, kP, kQ, kR, kT, kV])
theorem n4 (m : Ms) : ¬ Tn.place (t3 m).keys kK < (t3 m).keys.length := place_new (f3 m) (by rw [get3]; simp [kC, kH, kI, kK, kO, kP, kQ, kR, kT, kV])
theorem n5 (m : Ms) : ¬ Tn.place (t4 m).keys kO < (t4 m).keys.length := place_new (f4 m) (by rw [get4]; simp [kC, kH, kI, kK, kO, kP, kQ, kR, kT, kV])
theorem n6 (m : Ms) : ¬ Tn.place (t5 m).keys kP < (t5 m).keys.length := place_new (f5 m) (by rw [get5]; simp [kC, kH, kI, kK, kO, kP, kQ, kR, kT, kV])
theorem n7 (m : Ms) : ¬ Tn.place (t6 m).keys kQ < (t6 m).keys.length := place_new (f6 m) (by rw [get6]; simp [kC, kH, kI, kK, kO, kP, kQ, kR, kT, kV])
theorem n8 (m : Ms) : ¬ Tn.place (t7 m).keys kR < (t7 m).keys.length := place_new (f7 m) (by rw [get7]; simp [kC, kH, kI, kK, kO, kP, kQ, kR, kT, kV])
theorem n9 (m : Ms) : ¬ Tn.place (t8 m).keys kT < (t8 m).keys.length := place_new (f8 m) (by rw [get8]; simp [kC, kH, kI, kK, kO, kP, kQ, kR, kT, kV])
theorem n10 (m : Ms) : ¬ Tn.place (t9 m).keys kV < (t9 m).keys.length := place_new (f9 m) (by rw [get9]; simp [kC, kH, kI, kK, kO, kP, kQ, kR, kT, kV])
theorem put_few {b : Bool} {k : ByteArray} {x t : Tn} {n : Nat} (hf : t.fits = true) (h : t.keys.length ≤ n) : (put b k x t).keys.length ≤ n + 1 := by
  unfold put
  split
  · by_cases hp : Tn.place t.keys k < t.keys.length
    · rw [Tn.set_found hf hp]; exact Nat.le_succ_of_le h
    · rw [Tn.set_new hf hp]
      show (Tn.put t.keys _ k).length ≤ n + 1
      rw [Tn.put_length _ _ _ (Tn.gap_le _ _)]; omega
  · omega
theorem l1 (m : Ms) : (t1 m).keys.length ≤ 1 := put_few fits_base (by decide)
theorem l2 (m : Ms) : (t2 m).keys.length ≤ 2 := put_few (f1 m) (l1 m)
theorem l3 (m : Ms) : (t3 m).keys.length ≤ 3 := put_few (f2 m) (l2 m)
theorem l4 (m : Ms) : (t4 m).keys.length ≤ 4 := put_few (f3 m) (l3 m)
theorem l5 (m : Ms) : (t5 m).keys.length ≤ 5 := put_few (f4 m) (l4 m)
theorem l6 (m : Ms) : (t6 m).keys.length ≤ 6 := put_few (f5 m) (l5 m)
theorem l7 (m : Ms) : (t7 m).keys.length ≤ 7 := put_few (f6 m) (l6 m)
theorem l8 (m : Ms) : (t8 m).keys.length ≤ 8 := put_few (f7 m) (l7 m)
theorem l9 (m : Ms) : (t9 m).keys.length ≤ 9 := put_few (f8 m) (l8 m)
theorem kids_few {t : Tn} {n : Nat} (hf : t.fits = true) (h : t.keys.length ≤ n) : t.kids.length ≤ n := by have := (Tn.fits_eq hf).2; omega
theorem put_yes {b : Bool} {k : ByteArray} {x t : Tn} (h : b = true) : put b k x t = t.set k x := by unfold put; rw [if_pos h]
theorem put_no {b : Bool} {k : ByteArray} {x t : Tn} (h : b = false) : put b k x t = t := by unfold put; rw [if_neg (by rw [h]; decide)]

/-! ### a message comes back from its tree -/
theorem nums_str {l : List Nat} (h : ∀ x ∈ l, x < 256) : nums (strOf l) = l := (Txt.nums (strOf l)).inj (Txt.of h)
theorem word_id {u : Nat} (h : u < 18446744073709551616) : word (idS u) 0 8 = u := by
  unfold word idS
  rw [nums_str (Bm.fix_byte 8 u), List.drop_zero, List.take_of_length_le (by rw [Bm.fix_length]; omega), Bm.be_fix]
  exact Nat.mod_eq_of_lt (by simpa using h)
theorem one_peer {p : Nat × Nat} (h1 : p.1 < 18446744073709551616) (h2 : p.2 < 65536) : one (peerS p) = p := by
  have hb : ∀ x ∈ Bm.fix 8 p.1 ++ Bm.fix 2 p.2, x < 256 := by
    intro x hx
    rcases List.mem_append.1 hx with h | h
    · exact Bm.fix_byte _ _ x h
    · exact Bm.fix_byte _ _ x h
  unfold one word peerS
  rw [nums_str hb, List.drop_zero, List.take_append_of_le_length (by rw [Bm.fix_length]; omega), List.take_of_length_le (by rw [Bm.fix_length]; omega),
    List.drop_append_of_le_length (by rw [Bm.fix_length]; omega), List.drop_of_length_le (by rw [Bm.fix_length]; omega), List.nil_append, List.take_of_length_le (by rw [Bm.fix_length]; omega), Bm.be_fix, Bm.be_fix]
  rw [Nat.mod_eq_of_lt (by simpa using h1), Nat.mod_eq_of_lt (by simpa using h2)]
theorem kind_name {k : Int} (h : known k = true) : (kindOf (at_ k).name : Int) = k := by
  unfold known at h
  simp at h
  obtain ⟨n, rfl⟩ : ∃ n : Nat, k = (n : Int) := ⟨k.toNat, by omega⟩
  rw [at_nat (by omega)]
  have : n < 13 := by omega
  have h0 : 0 < n := by omega
  clear h
  rcases n with _ | _ | _ | _ | _ | _ | _ | _ | _ | _ | _ | _ | _ | n
  · omega
  all_goals first | (exfalso; omega) | (decide +kernel)
theorem read_tree {m : Ms} (hk : known m.kind = true) (h1 : m.rid < 4294967296) (h2 : m.code < 256) (h3 : m.id < 18446744073709551616) (h4 : m.pid < 18446744073709551616) (h5 : m.pad < 65536)
    (h6 : ∀ p ∈ m.peers, p.1 < 18446744073709551616 ∧ p.2 < 65536) : read (tree m) = m := by
  have z8 : word ⟨#[]⟩ 0 8 = 0 := by decide
  have z2 : word ⟨#[]⟩ 8 2 = 0 := by decide
  have e1 : ((field (tree m) kR).n % 4294967296).toNat = m.rid := by
    rw [fR]; split
    · rename_i h; rw [h]; rfl
    · show (((m.rid : Nat) : Int) % 4294967296).toNat = m.rid; omega
  have e2 : ((field (tree m) kC).n % 256).toNat = m.code := by
    rw [fC]; split
    · rename_i h; rw [h]; rfl
    · show (((m.code : Nat) : Int) % 256).toNat = m.code; omega
  have e3 : word (field (tree m) kI).s 0 8 = m.id := by
    rw [fI]; split
    · rename_i h; rw [h]; exact z8
    · exact word_id h3
  have e4 : (field (tree m) kK).s = m.key := by
    rw [fK]; split
    · rename_i h; rw [h]; rfl
    · rfl
  have e5 : (field (tree m) kV).s = m.val := by
    rw [fV]; split
    · rename_i h; rw [h]; rfl
    · rfl
  have e6 : one (field (tree m) kO).s = (m.pid, m.pad) := by
    rw [fO]; split
    · rename_i h; rw [h.1, h.2]; unfold one; rw [show none_.s = ⟨#[]⟩ from rfl, z8, z2]
    · exact one_peer h4 h5
  have e7 : (field (tree m) kP).kids.map (fun x => one x.s) = m.peers := by
    rw [fP]; split
    · rename_i h; rw [h]; rfl
    · show (m.peers.map peerT).map (fun x => one x.s) = m.peers
      rw [List.map_map]
      conv => rhs; rw [← List.map_id m.peers]
      exact List.map_congr_left (fun p hp => one_peer (h6 p hp).1 (h6 p hp).2)
  have e8 : (field (tree m) kT).kids.map pairOf = m.pairs := by
    rw [fT]; split
    · rename_i h; rw [h]; rfl
    · show (m.pairs.map pairT).map pairOf = m.pairs
      rw [List.map_map]
      conv => rhs; rw [← List.map_id m.pairs]
      exact List.map_congr_left (fun p hp => rfl)
  have e9 : (kindOf (field (tree m) kQ).s : Int) = m.kind := by rw [fQ]; exact kind_name hk
  unfold read
  rw [e1, e2, e3, e4, e5, e6, e7, e8, e9, fH]
theorem right_known {m : Ms} (h : right m = 0) : known m.kind = true := by
  cases hk : known m.kind with
  | true => rfl
  | false => unfold right at h; rw [hk] at h; exact absurd (show (9 : Nat) = 0 from h) (by decide)
theorem told_tree {m : Ms} (h : right m = 0) (h1 : m.rid < 4294967296) (h2 : m.code < 256) (h3 : m.id < 18446744073709551616) (h4 : m.pid < 18446744073709551616) (h5 : m.pad < 65536)
    (h6 : ∀ p ∈ m.peers, p.1 < 18446744073709551616 ∧ p.2 < 65536) : told (tree m) = (m, 0) := by
  have hk := right_known h
  have hr := read_tree hk h1 h2 h3 h4 h5 h6
  unfold told
  rw [hr, if_neg (by rw [tree_fits]; decide), if_neg, if_neg, if_pos h]
  · rw [@decide_eq_true _ (Classical.propDecidable _) rfl]; decide
  · rw [fQ]
    intro e
    rcases e with e | e
    · exact e rfl
    · have := kind_name hk
      rw [show (text (at_ m.kind).name).s = (at_ m.kind).name from rfl] at e
      rw [e] at this
      rw [← this] at hk
      exact absurd hk (by decide)
theorem to_told {t : Tn} (h : (told t).2 = 0) : to (told t).1 = (t, 0) := by
  unfold told at h ⊢
  split at h
  · exact absurd h (by simp)
  · split at h
    · exact absurd h (by simp)
    · split at h
      · exact absurd h (by simp)
      · rename_i a1 a2 a3
        split at h
        · rename_i a4
          rw [if_neg a1, if_neg a2, if_neg a3, if_pos a4]
          have a5 : tree (read t) = t := by
            have : @decide (tree (read t) = t) (Classical.propDecidable _) = true := by simpa using a3
            exact @of_decide_eq_true _ (Classical.propDecidable _) this
          unfold to
          rw [if_pos a4, a5]
        · rename_i a4
          exact absurd h a4
end Dm
end Go.Proofs.YtldjdoebappkoaaGreatDoor
