/- Plain mathematics of the program's own order in layer 13: the tree with its keys set in another order, and what it reads out of a tree that may be no message's. -/
import Derived.Test.YtldjdoebappkoaaGreatDoorDm
import Derived.Test.YtldjdoebappkoaaGreatDoorRs13
namespace Go.Proofs.YtldjdoebappkoaaGreatDoor
open Go.RowKit
set_option linter.unusedVariables false
set_option linter.unusedSimpArgs false
set_option maxRecDepth 100000
namespace Dx
open Gm Dm
/-! ### a dictionary whose keys rise is known by what is got -/
theorem set_n {t : Tn} {k : ByteArray} {x : Tn} : (t.set k x).n = t.n ∧ (t.set k x).s = t.s := by
  unfold Tn.set
  split
  · exact ⟨rfl, rfl⟩
  · split <;> exact ⟨rfl, rfl⟩
theorem rises_set {t : Tn} {k : ByteArray} {x : Tn} (hf : t.fits = true) (h : Tn.rises t.keys = true) : Tn.rises (t.set k x).keys = true := by
  by_cases hp : Tn.place t.keys k < t.keys.length
  · rw [Tn.set_found hf hp]; exact h
  · rw [Tn.set_new hf hp]; exact Tn.rises_put h (Tn.none_is hp)
/-- what stays whatever is put -/
structure Du (t : Tn) : Prop where
  fits : t.fits = true
  rise : Tn.rises t.keys = true
  n : t.n = 0
  s : t.s = ⟨#[]⟩
theorem Du.base : Du base := ⟨fits_base, rfl, rfl, rfl⟩
theorem Du.put {t : Tn} (h : Du t) (b : Bool) (k : ByteArray) (x : Tn) : Du (put b k x t) := by
  unfold Dm.put
  split
  · exact ⟨fits_set h.fits k x, rises_set h.fits h.rise, by rw [set_n.1]; exact h.n, by rw [set_n.2]; exact h.s⟩
  · exact h
theorem less_all : ∀ {l : List ByteArray} {i j : Nat} (h : Tn.rises l = true) (hij : i < j) (hj : j < l.length), Tn.less (l[i]'(by omega)) l[j] = true
  | l, i, 0, h, hij, hj => by omega
  | l, i, j + 1, h, hij, hj => by
    have h1 := (Tn.rises_iff.1 h) j hj
    rcases Nat.lt_or_ge i j with h2 | h2
    · exact Tn.less_trans (less_all h h2 (by omega)) h1
    · have e : i = j := by omega
      subst e
      exact h1
theorem place_self {l : List ByteArray} (h : Tn.rises l = true) {i : Nat} (hi : i < l.length) : Tn.place l l[i] = i := by
  refine Tn.place_first hi rfl (fun j hj e => ?_)
  have := less_all h hj hi
  rw [e, Tn.less_irrefl] at this
  cases this
theorem rises_tail {a : ByteArray} {l : List ByteArray} (h : Tn.rises (a :: l) = true) : Tn.rises l = true := by
  rw [Tn.rises_iff] at h ⊢
  exact fun i hi => h (i + 1) (by simpa using hi)
theorem head_less {a : ByteArray} {l : List ByteArray} (h : Tn.rises (a :: l) = true) {k : ByteArray} (hk : k ∈ l) : Tn.less a k = true := by
  obtain ⟨i, hi, rfl⟩ := List.mem_iff_getElem.1 hk
  exact less_all (l := a :: l) (i := 0) (j := i + 1) h (by omega) (by simpa using hi)
theorem rises_ext : ∀ {l m : List ByteArray}, Tn.rises l = true → Tn.rises m = true → (∀ k, k ∈ l ↔ k ∈ m) → l = m
  | [], [], _, _, _ => rfl
  | [], b :: m, _, _, h => absurd ((h b).2 List.mem_cons_self) (by simp)
  | a :: l, [], _, _, h => absurd ((h a).1 List.mem_cons_self) (by simp)
  | a :: l, b :: m, h1, h2, h => by
    have e : a = b := by
      rcases List.mem_cons.1 ((h a).1 List.mem_cons_self) with e | ha
      · exact e
      · rcases List.mem_cons.1 ((h b).2 List.mem_cons_self) with e | hb
        · exact e.symm
        · have := Tn.less_trans (head_less h2 ha) (head_less h1 hb)
          rw [Tn.less_irrefl] at this
          cases this
    subst e
    refine congrArg (a :: ·) (rises_ext (rises_tail h1) (rises_tail h2) (fun k => ?_))
    have ne1 : k ∈ l → k ≠ a := fun hk e => by have := head_less h1 hk; rw [e, Tn.less_irrefl] at this; cases this
    have ne2 : k ∈ m → k ≠ a := fun hk e => by have := head_less h2 hk; rw [e, Tn.less_irrefl] at this; cases this
    constructor
    · intro hk
      rcases List.mem_cons.1 ((h k).1 (List.mem_cons_of_mem _ hk)) with e | hm
      · exact absurd e (ne1 hk)
      · exact hm
    · intro hk
      rcases List.mem_cons.1 ((h k).2 (List.mem_cons_of_mem _ hk)) with e | hm
      · exact absurd e (ne2 hk)
      · exact hm
theorem mem_get {t : Tn} (hf : t.fits = true) (k : ByteArray) : k ∈ t.keys ↔ (t.get k).isSome = true := by
  obtain ⟨h1, h2⟩ := Tn.fits_eq hf
  rw [Tn.get_eq h1]
  by_cases hp : Tn.place t.keys k < t.keys.length
  · rw [if_pos hp, List.getElem?_eq_getElem (by omega)]
    exact ⟨fun _ => rfl, fun _ => by have := Tn.place_is hp; rw [← this]; exact List.getElem_mem hp⟩
  · rw [if_neg hp]
    refine ⟨fun h => ?_, fun h => by cases h⟩
    obtain ⟨i, hi, rfl⟩ := List.mem_iff_getElem.1 h
    exact absurd rfl (Tn.none_is hp i hi)
theorem ext_get {a b : Tn} (ha : Du a) (hb : Du b) (h : ∀ k, a.get k = b.get k) : a = b := by
  have hk : a.keys = b.keys := rises_ext ha.rise hb.rise (fun k => by rw [mem_get ha.fits, mem_get hb.fits, h k])
  obtain ⟨a1, a2⟩ := Tn.fits_eq ha.fits
  obtain ⟨b1, b2⟩ := Tn.fits_eq hb.fits
  refine Tn.ext (by rw [a1, b1]) (by rw [ha.n, hb.n]) (by rw [ha.s, hb.s]) hk ?_
  refine List.ext_getElem? (fun i => ?_)
  by_cases hi : i < a.keys.length
  · have hi' : i < b.keys.length := by rw [← hk]; exact hi
    have e := h (a.keys[i]'hi)
    rw [Tn.get_eq a1, Tn.get_eq b1, place_self ha.rise hi, if_pos hi] at e
    have e2 : a.keys[i]'hi = b.keys[i]'hi' := by simp only [hk]
    rw [e2, place_self hb.rise hi', if_pos hi'] at e
    exact e
  · have hi' : ¬ i < b.keys.length := by rw [← hk]; exact hi
    rw [List.getElem?_eq_none (by omega), List.getElem?_eq_none (by omega)]
/-! ### the tree, key by key in the program's order -/
def c1 (m : Ms) : Tn := put true kQ (text (at_ m.kind).name) base
def c2 (m : Ms) : Tn := put (!decide (m.code = 0)) kC (num m.code) (c1 m)
def c3 (m : Ms) : Tn := put m.has kH (num 1) (c2 m)
def c4 (m : Ms) : Tn := put (!decide (m.id = 0)) kI (text (idS m.id)) (c3 m)
def c5 (m : Ms) : Tn := put (!decide (m.key = ⟨#[]⟩)) kK (text m.key) (c4 m)
def c6 (m : Ms) : Tn := put (!decide (m.pid = 0) || !decide (m.pad = 0)) kO (peerT (m.pid, m.pad)) (c5 m)
def c7 (m : Ms) : Tn := put (!decide (m.rid = 0)) kR (num m.rid) (c6 m)
def c8 (m : Ms) : Tn := put (!decide (m.val = ⟨#[]⟩)) kV (text m.val) (c7 m)
def c9 (m : Ms) : Tn := put (!decide (m.peers.length = 0)) kP (list (m.peers.map peerT)) (c8 m)
def c10 (m : Ms) : Tn := put (!decide (m.pairs.length = 0)) kT (list (m.pairs.map pairT)) (c9 m)
theorem u1 (m : Ms) : Du (c1 m) := Du.base.put _ _ _
theorem u2 (m : Ms) : Du (c2 m) := (u1 m).put _ _ _
theorem u3 (m : Ms) : Du (c3 m) := (u2 m).put _ _ _
theorem u4 (m : Ms) : Du (c4 m) := (u3 m).put _ _ _
theorem u5 (m : Ms) : Du (c5 m) := (u4 m).put _ _ _
theorem u6 (m : Ms) : Du (c6 m) := (u5 m).put _ _ _
theorem u7 (m : Ms) : Du (c7 m) := (u6 m).put _ _ _
theorem u8 (m : Ms) : Du (c8 m) := (u7 m).put _ _ _
theorem u9 (m : Ms) : Du (c9 m) := (u8 m).put _ _ _
theorem u10 (m : Ms) : Du (c10 m) := (u9 m).put _ _ _
theorem ut (m : Ms) : Du (tree m) := (((((((((Du.base.put _ _ _).put _ _ _).put _ _ _).put _ _ _).put _ _ _).put _ _ _).put _ _ _).put _ _ _).put _ _ _).put _ _ _
theorem pick {α : Type} {p : Prop} [Decidable p] {q k k' : ByteArray} (a b : α) (hk : k = q → False) : (if p ∧ k = q then a else b) = b := if_neg (fun h => hk h.2)
theorem c10_get (m : Ms) (k : ByteArray) : (c10 m).get k = (tree m).get k := by
  rw [get_tree]
  unfold c10; rw [get_put (u9 m).fits]
  unfold c9; rw [get_put (u8 m).fits]
  unfold c8; rw [get_put (u7 m).fits]
  unfold c7; rw [get_put (u6 m).fits]
  unfold c6; rw [get_put (u5 m).fits]
  unfold c5; rw [get_put (u4 m).fits]
  unfold c4; rw [get_put (u3 m).fits]
  unfold c3; rw [get_put (u2 m).fits]
  unfold c2; rw [get_put (u1 m).fits]
  unfold c1; rw [get_put fits_base, get_base]
  by_cases hT : k = kT
  · subst hT; simp [kC, kH, kI, kK, kO, kP, kQ, kR, kT, kV]
  by_cases hP : k = kP
  · subst hP; simp [kC, kH, kI, kK, kO, kP, kQ, kR, kT, kV]
  by_cases hV : k = kV
  · subst hV; simp [kC, kH, kI, kK, kO, kP, kQ, kR, kT, kV]
  by_cases hR : k = kR
  · subst hR; simp [kC, kH, kI, kK, kO, kP, kQ, kR, kT, kV]
  by_cases hO : k = kO
  · subst hO; simp [kC, kH, kI, kK, kO, kP, kQ, kR, kT, kV]
  by_cases hK : k = kK
  · subst hK; simp [kC, kH, kI, kK, kO, kP, kQ, kR, kT, kV]
  by_cases hI : k = kI
  · subst hI; simp [kC, kH, kI, kK, kO, kP, kQ, kR, kT, kV]
  by_cases hH : k = kH
  · subst hH; simp [kC, kH, kI, kK, kO, kP, kQ, kR, kT, kV]
  by_cases hC : k = kC
  · subst hC; simp [kC, kH, kI, kK, kO, kP, kQ, kR, kT, kV]
  by_cases hQ : k = kQ
  · subst hQ; simp [kC, kH, kI, kK, kO, kP, kQ, kR, kT, kV]
  simp only [hT, hP, hV, hR, hO, hK, hI, hH, hC, hQ, and_false, if_false]
theorem c10_tree (m : Ms) : c10 m = tree m := ext_get (u10 m) (ut m) (c10_get m)
/-! ### what the program reads -/
def idC (s : ByteArray) : Nat := (Bm.rfix (nums s) 0 8).1
def oneC (s : ByteArray) : Nat × Nat := ((Bm.rfix (nums s) 0 8).1, (Bm.rfix (Bm.rfix (nums s) 0 8).2.1 (Bm.rfix (nums s) 0 8).2.2 2).1)
def readK (t : Tn) (kd : Int) : Ms where
  kind := kd
  rid := ((field t kR).n % 4294967296).toNat
  code := ((field t kC).n % 256).toNat
  has := decide ((field t kH).n = 1)
  id := idC (field t kI).s
  key := (field t kK).s
  val := (field t kV).s
  pid := (oneC (field t kO).s).1
  pad := (oneC (field t kO).s).2
  peers := (field t kP).kids.map fun x => oneC x.s
  pairs := (field t kT).kids.map pairOf
def kindC (t : Tn) : Nat := if (field t kQ).kind ≠ 2 then 0 else kindOf (field t kQ).s
noncomputable def toldC (t : Tn) : Ms × Nat :=
  if t.fits = false then (zero, 3)
  else if kindC t = 0 then (zero, 9)
  else if @decide (tree (readK t (kindC t)) = t) (Classical.propDecidable _) = false then (zero, 3)
  else if right (readK t (kindC t)) = 0 then (readK t (kindC t), 0) else (zero, right (readK t (kindC t)))
theorem pow8 : (256 : Nat) ^ 8 = 18446744073709551616 := by decide
theorem pow2 : (256 : Nat) ^ 2 = 65536 := by decide
theorem fix_one (u : Nat) (k : Nat) (h1 : 1 ≤ k) (h8 : k ≤ 8) : Bm.rfix (Bm.fix k u) 0 (k : Int) = (u % 256 ^ k, [], 0) := by
  have h := Bm.rfix_put u k [] h1 h8
  rw [List.append_nil] at h
  exact h
theorem idC_id {u : Nat} (h : u < 18446744073709551616) : idC (idS u) = u := by
  unfold idC idS
  rw [nums_str (Bm.fix_byte 8 u), show (8 : Int) = ((8 : Nat) : Int) from rfl, fix_one u 8 (by omega) (by omega), pow8]
  exact Nat.mod_eq_of_lt h
theorem idC_none : idC ⟨#[]⟩ = 0 := by decide
theorem oneC_none : oneC ⟨#[]⟩ = (0, 0) := by decide
theorem oneC_peer {p : Nat × Nat} (h1 : p.1 < 18446744073709551616) (h2 : p.2 < 65536) : oneC (peerS p) = p := by
  have hb : ∀ x ∈ Bm.fix 8 p.1 ++ Bm.fix 2 p.2, x < 256 := by
    intro x hx
    rcases List.mem_append.1 hx with h | h
    · exact Bm.fix_byte _ _ x h
    · exact Bm.fix_byte _ _ x h
  have e := Bm.rfix_put p.1 8 (Bm.fix 2 p.2) (by omega) (by omega)
  have e2 := fix_one p.2 2 (by omega) (by omega)
  unfold oneC peerS
  rw [nums_str hb, show (8 : Int) = ((8 : Nat) : Int) from rfl, e, show (2 : Int) = ((2 : Nat) : Int) from rfl, e2, pow8, pow2, Nat.mod_eq_of_lt h1, Nat.mod_eq_of_lt h2]
theorem rfix_lt (l : List Nat) (hb : ∀ x ∈ l, x < 256) (e : Int) (k : Nat) (h1 : 1 ≤ k) (h8 : k ≤ 8) : (Bm.rfix l e (k : Int)).1 < 256 ^ k ∧ ∀ x ∈ (Bm.rfix l e (k : Int)).2.1, x < 256 := by
  have hz : 0 < 256 ^ k := Nat.pow_pos (by omega)
  by_cases he : e = 0
  · subst he
    rcases Nat.lt_or_ge l.length k with h | h
    · rw [Bm.rfix_short h1 h8 h]; exact ⟨hz, hb⟩
    · rw [Bm.rfix_good h1 h8 h]; exact ⟨Bm.be_take l hb k h, fun x hx => hb x (List.mem_of_mem_drop hx)⟩
  · rw [Bm.rfix_err he]; exact ⟨hz, hb⟩
theorem idC_lt (s : ByteArray) : idC s < 18446744073709551616 := by
  have h := (rfix_lt (nums s) (Txt.nums s).byte 0 8 (by omega) (by omega)).1
  rw [pow8] at h
  exact h
theorem oneC_lt (s : ByteArray) : (oneC s).1 < 18446744073709551616 ∧ (oneC s).2 < 65536 := by
  have h := rfix_lt (nums s) (Txt.nums s).byte 0 8 (by omega) (by omega)
  have h2 := (rfix_lt _ h.2 (Bm.rfix (nums s) 0 8).2.2 2 (by omega) (by omega)).1
  rw [pow8] at h
  rw [pow2] at h2
  exact ⟨h.1, h2⟩
theorem readK_tree {m : Ms} (h1 : m.rid < 4294967296) (h2 : m.code < 256) (h3 : m.id < 18446744073709551616) (h4 : m.pid < 18446744073709551616) (h5 : m.pad < 65536)
    (h6 : ∀ p ∈ m.peers, p.1 < 18446744073709551616 ∧ p.2 < 65536) : readK (tree m) m.kind = m := by
  have e1 : ((field (tree m) kR).n % 4294967296).toNat = m.rid := by
    rw [fR]; split
    · rename_i h; rw [h]; rfl
    · show (((m.rid : Nat) : Int) % 4294967296).toNat = m.rid; omega
  have e2 : ((field (tree m) kC).n % 256).toNat = m.code := by
    rw [fC]; split
    · rename_i h; rw [h]; rfl
    · show (((m.code : Nat) : Int) % 256).toNat = m.code; omega
  have e3 : idC (field (tree m) kI).s = m.id := by
    rw [fI]; split
    · rename_i h; rw [h]; exact idC_none
    · exact idC_id h3
  have e4 : (field (tree m) kK).s = m.key := by
    rw [fK]; split
    · rename_i h; rw [h]; rfl
    · rfl
  have e5 : (field (tree m) kV).s = m.val := by
    rw [fV]; split
    · rename_i h; rw [h]; rfl
    · rfl
  have e6 : oneC (field (tree m) kO).s = (m.pid, m.pad) := by
    rw [fO]; split
    · rename_i h; rw [h.1, h.2]; exact oneC_none
    · exact oneC_peer h4 h5
  have e7 : (field (tree m) kP).kids.map (fun x => oneC x.s) = m.peers := by
    rw [fP]; split
    · rename_i h; rw [h]; rfl
    · show (m.peers.map peerT).map (fun x => oneC x.s) = m.peers
      rw [List.map_map]
      conv => rhs; rw [← List.map_id m.peers]
      exact List.map_congr_left (fun p hp => oneC_peer (h6 p hp).1 (h6 p hp).2)
  have e8 : (field (tree m) kT).kids.map pairOf = m.pairs := by
    rw [fT]; split
    · rename_i h; rw [h]; rfl
    · show (m.pairs.map pairT).map pairOf = m.pairs
      rw [List.map_map]
      conv => rhs; rw [← List.map_id m.pairs]
      exact List.map_congr_left (fun p hp => rfl)
  have e9 : decide ((field (tree m) kH).n = 1) = m.has := by
    unfold field
    rw [get_tree]
    simp [kC, kH, kI, kK, kO, kP, kQ, kR, kT, kV]
    cases m.has <;> rfl
  unfold readK
  rw [e1, e2, e3, e4, e5, e6, e7, e8, e9]
theorem kindFrom_lt (s : ByteArray) : ∀ (n i : Nat), kindFrom s n i = 0 ∨ kindFrom s n i < i + n
  | 0, i => .inl rfl
  | n + 1, i => by
    unfold kindFrom
    split
    · right; omega
    · rcases kindFrom_lt s n (i + 1) with h | h
      · exact .inl h
      · right; omega
theorem kind_le (s : ByteArray) : kindOf s ≤ 12 := by
  have h := kindFrom_lt s 12 1
  unfold kindOf
  omega
theorem toldC_told {t : Tn} : toldC t = told t := by
  unfold toldC told
  by_cases hf : t.fits = false
  · rw [if_pos hf, if_pos hf]
  rw [if_neg hf, if_neg hf]
  by_cases hk : (field t kQ).kind ≠ 2 ∨ kindOf (field t kQ).s = 0
  · have h0 : kindC t = 0 := by
      unfold kindC
      split
      · rfl
      · rename_i h; rcases hk with hk | hk
        · exact absurd hk h
        · exact hk
    rw [if_pos h0, if_pos hk]
  have h2 : ¬ (field t kQ).kind ≠ 2 := fun h => hk (.inl h)
  have e0 : kindC t = kindOf (field t kQ).s := by unfold kindC; rw [if_neg h2]
  have h3 : ¬ kindC t = 0 := fun h => hk (.inr (by rw [← e0]; exact h))
  rw [if_neg h3, if_neg hk]
  have b1 : readK (tree (read t)) (read t).kind = read t := readK_tree (m := read t) (by show ((field t kR).n % 4294967296).toNat < _; omega) (by show ((field t kC).n % 256).toNat < _; omega)
    (by have := word_lt (field t kI).s 0 8; rw [pow8] at this; exact this) (one_lt _).1 (one_lt _).2 (fun p hp => by
      obtain ⟨u, _, rfl⟩ := List.mem_map.1 (show p ∈ (field t kP).kids.map (fun x => one x.s) from hp)
      exact one_lt _)
  have hkn : known ((kindC t : Nat) : Int) = true := by
    have h5 : kindC t ≤ 12 := by
      rw [e0]
      have := kind_le (field t kQ).s
      omega
    unfold known
    simp
    omega
  have b2 : read (tree (readK t (kindC t))) = readK t (kindC t) := read_tree (m := readK t (kindC t)) hkn (by show ((field t kR).n % 4294967296).toNat < _; omega) (by show ((field t kC).n % 256).toNat < _; omega)
    (idC_lt _) (oneC_lt _).1 (oneC_lt _).2 (fun p hp => by
      obtain ⟨u, _, rfl⟩ := List.mem_map.1 (show p ∈ (field t kP).kids.map (fun x => oneC x.s) from hp)
      exact oneC_lt _)
  have b3 : (read t).kind = (kindC t : Int) := by show ((kindOf (field t kQ).s : Nat) : Int) = _; rw [e0]
  have key : tree (readK t (kindC t)) = t ↔ tree (read t) = t := by
    constructor
    · intro h; rw [h] at b2; rw [b2]; exact h
    · intro h; rw [h, b3] at b1; rw [b1]; exact h
  by_cases ht : tree (read t) = t
  · have ht' := key.2 ht
    have e : readK t (kindC t) = read t := by rw [ht, b3] at b1; exact b1
    rw [e]
  · have ht' : ¬ tree (readK t (kindC t)) = t := fun h => ht (key.1 h)
    rw [@decide_eq_false _ (Classical.propDecidable _) ht, @decide_eq_false _ (Classical.propDecidable _) ht', if_pos rfl, if_pos rfl]
end Dx
end Go.Proofs.YtldjdoebappkoaaGreatDoor
