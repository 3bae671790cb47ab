/- Texts Tg, Tg2, in one. -/
import Derived.Test.YtjkjhnpemhlbpaaDoorPG
/- Plain mathematics of layer 10: the bytes that a message is, field by field with its tag, and the message that bytes are. No program. -/
namespace Go.Proofs.YtjkjhnpemhlbpaaDoor
open Gm
set_option linter.unusedVariables false
namespace Tg


/-! ### written -/
def txtB (s : ByteArray) : List Nat := Um.put s.size ++ nums s
def peerB (p : Nat × Nat) : List Nat := Um.put p.1 ++ Um.put p.2
def pairB (p : ByteArray × ByteArray) : List Nat := txtB p.1 ++ txtB p.2
def peersB (l : List (Nat × Nat)) : List Nat := Um.put l.length ++ l.flatMap peerB
def pairsB (l : List (ByteArray × ByteArray)) : List Nat := Um.put l.length ++ l.flatMap pairB
/-- a field is there -/
def has (m : Ms) (t : Nat) : Bool :=
  if t = 1 then !decide (m.rid = 0) else if t = 2 then !decide (m.code = 0) else if t = 3 then m.has else if t = 4 then !decide (m.id = 0) else if t = 5 then !decide (m.key = ⟨#[]⟩)
  else if t = 6 then !decide (m.val = ⟨#[]⟩) else if t = 7 then !(decide (m.pid = 0) && decide (m.pad = 0)) else if t = 8 then !decide (m.peers = []) else if t = 9 then !decide (m.pairs = []) else false
/-- what stands behind its tag -/
def body (m : Ms) (t : Nat) : List Nat :=
  if t = 1 then Um.put m.rid else if t = 2 then Um.put m.code else if t = 3 then [] else if t = 4 then Um.put m.id else if t = 5 then txtB m.key
  else if t = 6 then txtB m.val else if t = 7 then peerB (m.pid, m.pad) else if t = 8 then peersB m.peers else if t = 9 then pairsB m.pairs else []
def field (m : Ms) (t : Nat) : List Nat := if has m t = true then t :: body m t else []
/-- the fields from tag t + 1 on, n of them -/
def fields (m : Ms) : Nat → Nat → List Nat
  | 0, _ => []
  | n + 1, t => field m (t + 1) ++ fields m n (t + 1)
def put (m : Ms) : List Nat := Um.put m.kind.toNat ++ fields m 9 0
def enc (m : Ms) : List Nat × Nat := if right m = 0 then (put m, 0) else ([], right m)

/-! ### read -/
def u64 : Nat := 18446744073709551615
def peer (l : List Nat) (e : Int) : (Nat × Nat) × List Nat × Int :=
  (((Bm.uvar l e u64).1, (Bm.uvar (Bm.uvar l e u64).2.1 (Bm.uvar l e u64).2.2 65535).1), (Bm.uvar (Bm.uvar l e u64).2.1 (Bm.uvar l e u64).2.2 65535).2)
def str (most : Int) (l : List Nat) (e : Int) : ByteArray × List Nat × Int := (strOf (Bm.text l e most).1, (Bm.text l e most).2)
def pair (l : List Nat) (e : Int) : (ByteArray × ByteArray) × List Nat × Int := (((str 96 l e).1, (str 512 (str 96 l e).2.1 (str 96 l e).2.2).1), (str 512 (str 96 l e).2.1 (str 96 l e).2.2).2)
def list {α : Type} (p : List Nat → Int → α × List Nat × Int) (most : Nat) (l : List Nat) (e : Int) : List α × List Nat × Int :=
  Fm.many p (Bm.uvar l e most).1 (Bm.uvar l e most).2.1 (Bm.uvar l e most).2.2
def read (t : Nat) (m : Ms) (l : List Nat) (e : Int) : Ms × List Nat × Int :=
  if t = 1 then ({ m with rid := (Bm.uvar l e 4294967295).1 }, (Bm.uvar l e 4294967295).2)
  else if t = 2 then ({ m with code := (Bm.uvar l e 255).1 }, (Bm.uvar l e 255).2)
  else if t = 3 then ({ m with has := true }, l, e)
  else if t = 4 then ({ m with id := (Bm.uvar l e u64).1 }, (Bm.uvar l e u64).2)
  else if t = 5 then ({ m with key := (str 96 l e).1 }, (str 96 l e).2)
  else if t = 6 then ({ m with val := (str 512 l e).1 }, (str 512 l e).2)
  else if t = 7 then ({ m with pid := (peer l e).1.1, pad := (peer l e).1.2 }, (peer l e).2)
  else if t = 8 then ({ m with peers := m.peers ++ (list peer 16 l e).1 }, (list peer 16 l e).2)
  else if t = 9 then ({ m with pairs := m.pairs ++ (list pair 8 l e).1 }, (list pair 8 l e).2)
  else (m, l, e)
/-- the tag, and the error behind it -/
def tagE (last : Nat) (l : List Nat) (e : Int) : Int := if (Bm.uvar l e u64).1 ≤ last ∨ 9 < (Bm.uvar l e u64).1 then Bm.fail (Bm.uvar l e u64).2.2 3 else (Bm.uvar l e u64).2.2
def next (last : Nat) (m : Ms) (l : List Nat) (e : Int) : Ms × List Nat × Int := read (Bm.uvar l e u64).1 m (Bm.uvar l e u64).2.1 (tagE last l e)
/-- the error when the field was read -/
def zeroE (t : Nat) (r : Ms × List Nat × Int) : Int := if r.2.2 = 0 ∧ has r.1 t = false then 3 else r.2.2
def loop : Nat → Nat → Ms → List Nat → Int → Ms × List Nat × Int
  | 0, _, m, l, e => (m, l, e)
  | f + 1, last, m, l, e => if Bm.left l e = 0 then (m, l, e) else loop f (Bm.uvar l e u64).1 (next last m l e).1 (next last m l e).2.1 (zeroE (Bm.uvar l e u64).1 (next last m l e))
def kindE (l : List Nat) : Int := if (Bm.uvar l 0 u64).1 < 1 ∨ 12 < (Bm.uvar l 0 u64).1 then Bm.fail (Bm.uvar l 0 u64).2.2 9 else (Bm.uvar l 0 u64).2.2
def bald (k : Nat) : Ms := Fm.bald k 0
def all (l : List Nat) : Ms × List Nat × Int := loop (l.length + 1) 0 (bald ((Bm.uvar l 0 u64).1 % 16)) (Bm.uvar l 0 u64).2.1 (kindE l)
def dec (l : List Nat) : Ms × Int := if (all l).2.2 ≠ 0 then (Fm.zero, (all l).2.2) else if right (all l).1 = 0 then ((all l).1, 0) else (Fm.zero, (right (all l).1 : Int))

/-! ### what is read is what was written -/
theorem uvar_suf (l : List Nat) (e : Int) (m : Nat) : (Bm.uvar l e m).2.1 <:+ l := by
  unfold Bm.uvar
  repeat' split
  all_goals first | exact List.suffix_refl _ | exact List.drop_suffix _ _
theorem text_suf (l : List Nat) (e m : Int) : (Bm.text l e m).2.1 <:+ l := by
  unfold Bm.text
  repeat' split
  all_goals first | exact List.suffix_refl _ | exact List.drop_suffix _ _ | exact (List.drop_suffix _ _).trans (List.drop_suffix _ _)
theorem uvar_sound {l : List Nat} {e : Int} {most : Nat} (hb : Fm.Bytes l) (h : (Bm.uvar l e most).2.2 = 0) : e = 0 ∧ l = Um.put (Bm.uvar l e most).1 ++ (Bm.uvar l e most).2.1 ∧ (Bm.uvar l e most).1 ≤ most := by
  unfold Bm.uvar at h ⊢
  by_cases he : e = 0
  · subst he
    rw [if_neg (by simp)] at h ⊢
    by_cases hx : (Um.get l).2.2 = 0
    · rw [if_neg (by simpa using hx)] at h ⊢
      by_cases hm : most < (Um.get l).1
      · rw [if_pos hm] at h; cases h
      · rw [if_neg hm]
        refine ⟨rfl, ?_, Nat.le_of_not_lt hm⟩
        have := Um.put_get l hb hx
        simp only
        rw [this]
        exact (List.take_append_drop _ _).symm
    · rw [if_pos hx] at h
      simp only at h
      omega
  · rw [if_pos he] at h
    exact absurd h he
theorem good_uvar (most : Nat) (hm : most < 18446744073709551616) : Fm.Good (fun l e => Bm.uvar l e most) Um.put (fun x => x ≤ most) := by
  refine ⟨fun l e => uvar_suf l e most, fun l e hb h => uvar_sound hb h, fun x r hx => ?_⟩
  have hg := Um.get_put x r (by omega)
  show Bm.uvar (Um.put x ++ r) 0 most = _
  rw [Bm.uvar_good hg (by omega), List.drop_left]
theorem good_str (k : Nat) (most : Int) (hk : most = (k : Int)) (hs : k < 1000000) : Fm.Good (str most) txtB (fun x => x.size ≤ k) := by
  subst hk
  refine ⟨fun l e => text_suf l e _, fun l e hb h => ?_, fun x r hx => ?_⟩
  · unfold str at h ⊢
    simp only at h ⊢
    unfold Bm.text at h ⊢
    by_cases he : e = 0
    · subst he
      rw [if_neg (by simp)] at h ⊢
      by_cases hx : (Um.get l).2.2 = 0
      · rw [if_neg (by simpa using hx)] at h ⊢
        by_cases hm : (k : Int) < ((Um.get l).1 : Int)
        · rw [if_pos hm] at h; cases h
        · rw [if_neg hm] at h ⊢
          by_cases hl : l.length - (Um.get l).2.1 < (Um.get l).1
          · rw [if_pos hl] at h; cases h
          · rw [if_neg hl]
            simp only
            have hp := Um.put_get l hb hx
            have hbd : Fm.Bytes ((l.drop (Um.get l).2.1).take (Um.get l).1) := fun y hy => hb y (List.mem_of_mem_drop (List.mem_of_mem_take hy))
            have hz : (strOf ((l.drop (Um.get l).2.1).take (Um.get l).1)).size = (Um.get l).1 := by rw [strOf_size, List.length_take, List.length_drop]; omega
            refine ⟨by trivial, ?_, by rw [hz]; omega⟩
            unfold txtB
            rw [hz, Fm.nums_strOf hbd, hp, List.append_assoc, List.take_append_drop, List.take_append_drop]
      · rw [if_pos hx] at h
        simp only at h
        omega
    · rw [if_pos he] at h
      exact absurd h he
  · have h := Bm.text_put (most := (k : Int)) (nums x) r (by rw [Fm.nums_length]; omega) (by rw [Fm.nums_length]; omega)
    rw [Fm.nums_length] at h
    unfold str txtB
    rw [h]
    simp only [Fm.strOf_nums']
theorem good_peer : Fm.Good peer peerB (fun p => p.1 < 18446744073709551616 ∧ p.2 < 65536) := by
  have G1 := good_uvar u64 (by unfold u64; omega)
  have G2 := good_uvar 65535 (by omega)
  refine ⟨fun l e => (G2.suf _ _).trans (G1.suf l e), fun l e hb h => ?_, fun x r hx => ?_⟩
  · obtain ⟨h1, h2, h3⟩ := G2.sound _ _ (hb.suf (G1.suf l e)) h
    obtain ⟨h4, h5, h6⟩ := G1.sound l e hb h1
    refine ⟨h4, ?_, ?_, ?_⟩
    · show l = (Um.put _ ++ Um.put _) ++ (Bm.uvar (Bm.uvar l e u64).2.1 (Bm.uvar l e u64).2.2 65535).2.1
      rw [List.append_assoc]
      exact h5.trans (congrArg _ h2)
    · have h6 : (Bm.uvar l e u64).1 ≤ u64 := h6
      unfold u64 at h6
      show (Bm.uvar l e u64).1 < _
      unfold u64
      omega
    · have h3 : (Bm.uvar (Bm.uvar l e u64).2.1 (Bm.uvar l e u64).2.2 65535).1 ≤ 65535 := h3
      show (Bm.uvar (Bm.uvar l e u64).2.1 (Bm.uvar l e u64).2.2 65535).1 < _
      omega
  · obtain ⟨x1, x2⟩ := x
    have a1 : Bm.uvar (Um.put x1 ++ (Um.put x2 ++ r)) 0 u64 = (x1, Um.put x2 ++ r, 0) := G1.full x1 _ (by unfold u64; have := hx.1; simp only at this; omega)
    have a2 : Bm.uvar (Um.put x2 ++ r) 0 65535 = (x2, r, 0) := G2.full x2 r (by have := hx.2; simp only at this; omega)
    unfold peer peerB
    rw [List.append_assoc, a1]
    simp only
    rw [a2]
theorem good_pair : Fm.Good pair pairB (fun p => p.1.size ≤ 96 ∧ p.2.size ≤ 512) := by
  have G1 := good_str 96 96 rfl (by omega)
  have G2 := good_str 512 512 rfl (by omega)
  refine ⟨fun l e => (G2.suf _ _).trans (G1.suf l e), fun l e hb h => ?_, fun x r hx => ?_⟩
  · obtain ⟨h1, h2, h3⟩ := G2.sound _ _ (hb.suf (G1.suf l e)) h
    obtain ⟨h4, h5, h6⟩ := G1.sound l e hb h1
    refine ⟨h4, ?_, h6, h3⟩
    show l = (txtB _ ++ txtB _) ++ _
    rw [List.append_assoc]
    exact h5.trans (congrArg _ h2)
  · obtain ⟨x1, x2⟩ := x
    have a1 := G1.full x1 (txtB x2 ++ r) hx.1
    have a2 := G2.full x2 r hx.2
    unfold pair pairB
    rw [List.append_assoc, a1]
    simp only
    rw [a2]
theorem good_list {α : Type} {p : List Nat → Int → α × List Nat × Int} {f : α → List Nat} {ok : α → Prop} (G : Fm.Good p f ok) (most : Nat) (hm : most < 256) : Fm.Good (list p most) (fun x => Um.put x.length ++ x.flatMap f) (fun x => x.length ≤ most ∧ ∀ y ∈ x, ok y) := by
  have C := good_uvar most (by omega)
  refine ⟨fun l e => ((Fm.good_many G _).suf _ _).trans (C.suf l e), fun l e hb h => ?_, fun x r hx => ?_⟩
  · obtain ⟨h1, h2, h3, h4⟩ := (Fm.good_many G _).sound _ _ (hb.suf (C.suf l e)) h
    obtain ⟨h5, h6, h7⟩ := C.sound l e hb h1
    refine ⟨h5, ?_, by show (Fm.many p _ _ _).1.length ≤ most; rw [h3]; exact h7, h4⟩
    show l = (Um.put (Fm.many p _ _ _).1.length ++ (Fm.many p _ _ _).1.flatMap f) ++ _
    rw [h3, List.append_assoc]
    exact h6.trans (congrArg _ h2)
  · have a : Bm.uvar (Um.put x.length ++ (x.flatMap f ++ r)) 0 most = (x.length, x.flatMap f ++ r, 0) := C.full x.length _ hx.1
    unfold list
    rw [List.append_assoc, a]
    exact (Fm.good_many G x.length).full x r ⟨rfl, hx.2⟩
theorem good_peers : Fm.Good (list peer 16) peersB (fun x => x.length ≤ 16 ∧ ∀ y ∈ x, y.1 < 18446744073709551616 ∧ y.2 < 65536) := good_list good_peer 16 (by omega)
theorem good_pairs : Fm.Good (list pair 8) pairsB (fun x => x.length ≤ 8 ∧ ∀ y ∈ x, y.1.size ≤ 96 ∧ y.2.size ≤ 512) := good_list good_pair 8 (by omega)
end Tg
end Go.Proofs.YtjkjhnpemhlbpaaDoor
/- Plain mathematics of layer 10: a message that is written is read as it was, and the other way. No program. -/
namespace Go.Proofs.YtjkjhnpemhlbpaaDoor
open Gm
set_option linter.unusedVariables false
namespace Tg

/-- the numbers and lengths of what is read -/
structure OkT (m : Ms) : Prop where
  rid : m.rid < 4294967296
  code : m.code < 256
  id : m.id < 18446744073709551616
  key : m.key.size ≤ 96
  val : m.val.size ≤ 512
  pid : m.pid < 18446744073709551616
  pad : m.pad < 65536
  peers : m.peers.length ≤ 16 ∧ ∀ p ∈ m.peers, p.1 < 18446744073709551616 ∧ p.2 < 65536
  pairs : m.pairs.length ≤ 8 ∧ ∀ p ∈ m.pairs, p.1.size ≤ 96 ∧ p.2.size ≤ 512
theorem okT_bald (k : Nat) : OkT (bald k) := ⟨by simp [bald, Fm.bald], by simp [bald, Fm.bald], by simp [bald, Fm.bald], by simp [bald, Fm.bald, ByteArray.size], by simp [bald, Fm.bald, ByteArray.size], by simp [bald, Fm.bald], by simp [bald, Fm.bald], ⟨by simp [bald, Fm.bald], fun p hp => (by cases hp)⟩, ⟨by simp [bald, Fm.bald], fun p hp => (by cases hp)⟩⟩
theorem tags {t : Nat} (h1 : 1 ≤ t) (h9 : t ≤ 9) : t = 1 ∨ t = 2 ∨ t = 3 ∨ t = 4 ∨ t = 5 ∨ t = 6 ∨ t = 7 ∨ t = 8 ∨ t = 9 := by omega
theorem has_other {m m' : Ms} (s : Nat) (h : ∀ x, has m' x = has m x ∧ body m' x = body m x) : field m' s = field m s := by unfold field; rw [(h s).1, (h s).2]
theorem read_suf (t : Nat) (m : Ms) (l : List Nat) (e : Int) : (read t m l e).2.1 <:+ l := by
  unfold read
  repeat' split
  · exact uvar_suf _ _ _
  · exact uvar_suf _ _ _
  · exact List.suffix_refl _
  · exact uvar_suf _ _ _
  · exact text_suf _ _ _
  · exact text_suf _ _ _
  · exact good_peer.suf _ _
  · exact good_peers.suf _ _
  · exact good_pairs.suf _ _
  · exact List.suffix_refl _

/-- what reading a field does -/
structure Reads (t : Nat) (m m' : Ms) (l l' : List Nat) (e : Int) : Prop where
  err : e = 0
  bytes : l = body m' t ++ l'
  ok : OkT m'
  rest : ∀ s, s ≠ t → has m' s = has m s ∧ body m' s = body m s
  kind : m'.kind = m.kind
theorem read_sound {t : Nat} {m : Ms} {l : List Nat} {e : Int} (h1 : 1 ≤ t) (h9 : t ≤ 9) (hb : Fm.Bytes l) (ok : OkT m) (hm : has m t = false) (h : (read t m l e).2.2 = 0) : Reads t m (read t m l e).1 l (read t m l e).2.1 e := by
  obtain ⟨b1, b2, b3, b4, b5, b6, b7, b8, b9⟩ := ok
  have other : ∀ (m' : Ms) (t : Nat), (∀ s, s ≠ t → has m' s = has m s ∧ body m' s = body m s) → (∀ s, s ≠ t → has m' s = has m s ∧ body m' s = body m s) := fun _ _ h => h
  rcases tags h1 h9 with rfl | rfl | rfl | rfl | rfl | rfl | rfl | rfl | rfl
  · obtain ⟨a1, a2, a3⟩ := uvar_sound hb (show (Bm.uvar l e 4294967295).2.2 = 0 from h)
    refine ⟨a1, a2, ⟨by show (Bm.uvar l e 4294967295).1 < _; omega, b2, b3, b4, b5, b6, b7, b8, b9⟩, fun s hs => ?_, rfl⟩
    constructor
    · unfold has; rw [if_neg hs, if_neg hs]; rfl
    · unfold body; rw [if_neg hs, if_neg hs]; rfl
  · obtain ⟨a1, a2, a3⟩ := uvar_sound hb (show (Bm.uvar l e 255).2.2 = 0 from h)
    refine ⟨a1, a2, ⟨b1, by show (Bm.uvar l e 255).1 < _; omega, b3, b4, b5, b6, b7, b8, b9⟩, fun s hs => ?_, rfl⟩
    constructor
    · unfold has; simp only [if_neg hs]; rfl
    · unfold body; simp only [if_neg hs]; rfl
  · refine ⟨h, rfl, ⟨b1, b2, b3, b4, b5, b6, b7, b8, b9⟩, fun s hs => ?_, rfl⟩
    constructor
    · unfold has; simp only [if_neg hs]; rfl
    · unfold body; simp only [if_neg hs]; rfl
  · obtain ⟨a1, a2, a3⟩ := uvar_sound hb (show (Bm.uvar l e u64).2.2 = 0 from h)
    unfold u64 at a3
    refine ⟨a1, a2, ⟨b1, b2, by show (Bm.uvar l e u64).1 < _; unfold u64; omega, b4, b5, b6, b7, b8, b9⟩, fun s hs => ?_, rfl⟩
    constructor
    · unfold has; simp only [if_neg hs]; rfl
    · unfold body; simp only [if_neg hs]; rfl
  · obtain ⟨a1, a2, a3⟩ := (good_str 96 96 rfl (by omega)).sound l e hb h
    refine ⟨a1, a2, ⟨b1, b2, b3, a3, b5, b6, b7, b8, b9⟩, fun s hs => ?_, rfl⟩
    constructor
    · unfold has; simp only [if_neg hs]; rfl
    · unfold body; simp only [if_neg hs]; rfl
  · obtain ⟨a1, a2, a3⟩ := (good_str 512 512 rfl (by omega)).sound l e hb h
    refine ⟨a1, a2, ⟨b1, b2, b3, b4, a3, b6, b7, b8, b9⟩, fun s hs => ?_, rfl⟩
    constructor
    · unfold has; simp only [if_neg hs]; rfl
    · unfold body; simp only [if_neg hs]; rfl
  · obtain ⟨a1, a2, a3⟩ := good_peer.sound l e hb h
    refine ⟨a1, a2, ⟨b1, b2, b3, b4, b5, a3.1, a3.2, b8, b9⟩, fun s hs => ?_, rfl⟩
    constructor
    · unfold has; simp only [if_neg hs]; rfl
    · unfold body; simp only [if_neg hs]; rfl
  · obtain ⟨a1, a2, a3⟩ := good_peers.sound l e hb h
    have hn : m.peers = [] := by simpa [has] using hm
    have e1 : (read 8 m l e).1 = { m with peers := (list peer 16 l e).1 } := by
      show { m with peers := m.peers ++ (list peer 16 l e).1 } = _
      rw [hn, List.nil_append]
    rw [e1]
    refine ⟨a1, a2, ⟨b1, b2, b3, b4, b5, b6, b7, a3, b9⟩, fun s hs => ?_, rfl⟩
    constructor
    · unfold has; simp only [if_neg hs]
    · unfold body; simp only [if_neg hs]
  · obtain ⟨a1, a2, a3⟩ := good_pairs.sound l e hb h
    have hn : m.pairs = [] := by simpa [has] using hm
    have e1 : (read 9 m l e).1 = { m with pairs := (list pair 8 l e).1 } := by
      show { m with pairs := m.pairs ++ (list pair 8 l e).1 } = _
      rw [hn, List.nil_append]
    rw [e1]
    refine ⟨a1, a2, ⟨b1, b2, b3, b4, b5, b6, b7, b8, a3⟩, fun s hs => ?_, rfl⟩
    constructor
    · unfold has; simp only [if_neg hs]
    · unfold body; simp only [if_neg hs]
theorem left_zero {l : List Nat} {e : Int} : Bm.left l e = 0 ↔ e ≠ 0 ∨ l = [] := by
  unfold Bm.left
  split
  · rename_i h; simp [h]
  · rename_i h
    have h : e = 0 := by simpa using h
    simp [h]
theorem loop_err (f last : Nat) (m : Ms) (l : List Nat) {e : Int} (h : e ≠ 0) : loop f last m l e = (m, l, e) := by
  cases f with
  | zero => rfl
  | succ f => unfold loop; rw [if_pos (left_zero.2 (.inl h))]
theorem fields_nil {m : Ms} : ∀ (n last : Nat), (∀ s, last < s → s ≤ last + n → has m s = false) → fields m n last = []
  | 0, _, _ => rfl
  | n + 1, last, h => by
    unfold fields
    rw [fields_nil n (last + 1) (fun s h1 h2 => h s (by omega) (by omega))]
    unfold field
    rw [if_neg (by rw [h (last + 1) (by omega) (by omega)]; simp)]
    rfl
theorem fields_cut {m : Ms} : ∀ (k n last : Nat), (∀ s, last < s → s ≤ last + k → has m s = false) → fields m (k + n) last = fields m n (last + k)
  | 0, n, last, _ => by rw [Nat.zero_add, Nat.add_zero]
  | k + 1, n, last, h => by
    rw [show k + 1 + n = (k + n) + 1 by omega]
    show field m (last + 1) ++ fields m (k + n) (last + 1) = _
    rw [fields_cut k n (last + 1) (fun s h1 h2 => h s (by omega) (by omega))]
    unfold field
    rw [if_neg (by rw [h (last + 1) (by omega) (by omega)]; simp), List.nil_append, show last + 1 + k = last + (k + 1) by omega]
theorem fields_same {m m' : Ms} : ∀ (n last : Nat), (∀ s, last < s → s ≤ last + n → field m' s = field m s) → fields m' n last = fields m n last
  | 0, _, _ => rfl
  | n + 1, last, h => by
    unfold fields
    rw [fields_same n (last + 1) (fun s h1 h2 => h s (by omega) (by omega)), h (last + 1) (by omega) (by omega)]
/-- what the loop has read -/
structure Loops (last : Nat) (m m' : Ms) (l : List Nat) (e : Int) : Prop where
  err : e = 0
  bytes : l = fields m' (9 - last) last
  ok : OkT m'
  rest : ∀ s, s ≤ last → has m' s = has m s ∧ body m' s = body m s
  kind : m'.kind = m.kind
theorem loop_sound : ∀ (f last : Nat) (m : Ms) (l : List Nat) (e : Int), Fm.Bytes l → l.length < f → last ≤ 9 → OkT m → (∀ s, last < s → has m s = false) → (loop f last m l e).2.2 = 0 → Loops last m (loop f last m l e).1 l e
  | 0, _, _, _, _, _, h, _, _, _, _ => by omega
  | f + 1, last, m, l, e, hb, hf, h9, ok, hn, h => by
    by_cases h0 : Bm.left l e = 0
    · have E : loop (f + 1) last m l e = (m, l, e) := by unfold loop; rw [if_pos h0]
      rw [E] at h ⊢
      have he : e = 0 := h
      have hl : l = [] := by
        rcases left_zero.1 h0 with h1 | h1
        · exact absurd he h1
        · exact h1
      exact ⟨he, by rw [hl, fields_nil _ _ (fun s h1 _ => hn s h1)], ok, fun _ _ => ⟨rfl, rfl⟩, rfl⟩
    · have E : loop (f + 1) last m l e = loop f (Bm.uvar l e u64).1 (next last m l e).1 (next last m l e).2.1 (zeroE (Bm.uvar l e u64).1 (next last m l e)) := by
        show (if _ then _ else _) = _
        rw [if_neg h0]
      rw [E] at h ⊢
      have hz : zeroE (Bm.uvar l e u64).1 (next last m l e) = 0 := by
        by_cases hz : zeroE (Bm.uvar l e u64).1 (next last m l e) = 0
        · exact hz
        · rw [loop_err _ _ _ _ hz] at h
          exact absurd h hz
      have hr : (next last m l e).2.2 = 0 ∧ has (next last m l e).1 (Bm.uvar l e u64).1 = true := by
        unfold zeroE at hz
        split at hz
        · cases hz
        · rename_i hq
          refine ⟨hz, ?_⟩
          cases hh : has (next last m l e).1 (Bm.uvar l e u64).1
          · exact absurd ⟨hz, hh⟩ hq
          · rfl
      obtain ⟨hr1, hr2⟩ := hr
      have hsu := uvar_suf l e u64
      -- the tag fits: else the error is there
      have key : ∀ {t : Nat} {M : Ms} {L : List Nat} {x : Int}, (read t M L x).2.2 = 0 → x = 0 := by
        intro t M L x hx
        by_cases h0 : x = 0
        · exact h0
        · exfalso
          revert hx
          unfold read
          have hu : ∀ L (x : Int) k, x ≠ 0 → (Bm.uvar L x k).2.2 = x := fun L x k hx => by rw [Bm.uvar_err hx]
          have ht : ∀ L (x : Int) k, x ≠ 0 → (Bm.text L x k).2.2 = x := fun L x k hx => by rw [Bm.text_err hx]
          have hp : ∀ L (x : Int), x ≠ 0 → (peer L x).2.2 = x := fun L x hx => by unfold peer; rw [Bm.uvar_err hx, Bm.uvar_err hx]
          have hl : ∀ {α : Type} (p : List Nat → Int → α × List Nat × Int) k L (x : Int), x ≠ 0 → (list p k L x).2.2 = x := fun p k L x hx => by unfold list; rw [Bm.uvar_err hx]; rfl
          repeat' split
          · rw [hu _ _ _ h0]; exact h0
          · rw [hu _ _ _ h0]; exact h0
          · exact h0
          · rw [hu _ _ _ h0]; exact h0
          · show (Bm.text L x 96).2.2 = 0 → False; rw [ht _ _ _ h0]; exact h0
          · show (Bm.text L x 512).2.2 = 0 → False; rw [ht _ _ _ h0]; exact h0
          · rw [hp _ _ h0]; exact h0
          · rw [hl _ _ _ _ h0]; exact h0
          · rw [hl _ _ _ _ h0]; exact h0
          · exact h0
      have ht0 : tagE last l e = 0 := key hr1
      have ht : last < (Bm.uvar l e u64).1 ∧ (Bm.uvar l e u64).1 ≤ 9 ∧ (Bm.uvar l e u64).2.2 = 0 := by
        unfold tagE at ht0
        split at ht0
        · unfold Bm.fail at ht0
          split at ht0
          · contradiction
          · cases ht0
        · rename_i hq
          exact ⟨by omega, by omega, ht0⟩
      obtain ⟨ht1, ht2, ht3⟩ := ht
      obtain ⟨he, hl, _⟩ := uvar_sound hb ht3
      obtain ⟨t, hte⟩ : ∃ t, (Bm.uvar l e u64).1 = t := ⟨_, rfl⟩
      obtain ⟨l1, hle⟩ : ∃ l1, (Bm.uvar l e u64).2.1 = l1 := ⟨_, rfl⟩
      have hnx : next last m l e = read t m l1 0 := by unfold next; rw [ht0, hte, hle]
      rw [hnx] at hr1 hr2 h ⊢
      rw [hte] at ht1 ht2 hl hr2 h ⊢
      rw [hle] at hl hsu
      rw [hnx, hte] at hz
      rw [hz] at h ⊢
      have hb1 := hb.suf hsu
      obtain ⟨_, r2, r3, r4, r5⟩ := read_sound (by omega) ht2 hb1 ok (hn t ht1) hr1
      obtain ⟨M, hM⟩ : ∃ M, (read t m l1 0).1 = M := ⟨_, rfl⟩
      obtain ⟨l2, hl2⟩ : ∃ l2, (read t m l1 0).2.1 = l2 := ⟨_, rfl⟩
      have hs2 := read_suf t m l1 0
      rw [hM] at hr2 h r2 r3 r4 r5 ⊢
      rw [hl2] at h r2 hs2 ⊢
      have hput : Um.put t = [t] := Um.enc_small (by omega)
      have hlen : l2.length < l.length := by
        have h1 := hs2.length_le
        rw [hl, hput, List.length_append, List.length_cons, List.length_nil]
        omega
      have ih := loop_sound f t M l2 0 (hb1.suf hs2) (by omega) ht2 r3 (fun s hs => by rw [(r4 s (by omega)).1]; exact hn s (by omega)) h
      obtain ⟨i1, i2, i3, i4, i5⟩ := ih
      refine ⟨he, ?_, i3, fun s hs => ?_, by rw [i5, r5]⟩
      · have e9 : 9 - last = (t - last - 1) + ((9 - t) + 1) := by omega
        rw [e9, fields_cut (t - last - 1) _ last (fun s h1 h2 => by rw [(i4 s (by omega)).1, (r4 s (by omega)).1]; exact hn s h1), show last + (t - last - 1) = t - 1 by omega]
        unfold fields
        rw [show t - 1 + 1 = t by omega, ← i2]
        unfold field
        rw [(i4 t (Nat.le_refl _)).1, hr2, if_pos rfl, (i4 t (Nat.le_refl _)).2, List.cons_append, ← r2, hl, hput]
        rfl
      · rw [(i4 s (by omega)).1, (i4 s (by omega)).2]
        exact r4 s (by omega)

/-! ### what was written is read -/
def keep (m : Ms) (k : Nat) : Ms where
  kind := m.kind
  rid := if 1 ≤ k then m.rid else 0
  code := if 2 ≤ k then m.code else 0
  has := if 3 ≤ k then m.has else false
  id := if 4 ≤ k then m.id else 0
  key := if 5 ≤ k then m.key else ⟨#[]⟩
  val := if 6 ≤ k then m.val else ⟨#[]⟩
  pid := if 7 ≤ k then m.pid else 0
  pad := if 7 ≤ k then m.pad else 0
  peers := if 8 ≤ k then m.peers else []
  pairs := if 9 ≤ k then m.pairs else []
theorem keep_nine (m : Ms) : keep m 9 = m := rfl
theorem keep_none {m : Ms} {k : Nat} (hk : k < 9) (h : has m (k + 1) = false) : keep m k = keep m (k + 1) := by
  rcases tags (show 1 ≤ k + 1 by omega) (by omega) with h1 | h1 | h1 | h1 | h1 | h1 | h1 | h1 | h1
  all_goals (obtain rfl : k = _ := Nat.succ.inj h1)
  · have h2 : m.rid = 0 := by simpa [has] using h
    simp [keep, h2]
  · have h2 : m.code = 0 := by simpa [has] using h
    simp [keep, h2]
  · have h2 : m.has = false := by simpa [has] using h
    simp [keep, h2]
  · have h2 : m.id = 0 := by simpa [has] using h
    simp [keep, h2]
  · have h2 : m.key = ⟨#[]⟩ := by simpa [has] using h
    simp [keep, h2]
  · have h2 : m.val = ⟨#[]⟩ := by simpa [has] using h
    simp [keep, h2]
  · have h2 : m.pid = 0 ∧ m.pad = 0 := by simpa [has] using h
    simp [keep, h2.1, h2.2]
  · have h2 : m.peers = [] := by simpa [has] using h
    simp [keep, h2]
  · have h2 : m.pairs = [] := by simpa [has] using h
    simp [keep, h2]
theorem read_full {m : Ms} {k : Nat} (hk : k < 9) (ok : OkT m) (h : has m (k + 1) = true) (z : List Nat) : read (k + 1) (keep m k) (body m (k + 1) ++ z) 0 = (keep m (k + 1), z, 0) := by
  obtain ⟨b1, b2, b3, b4, b5, b6, b7, b8, b9⟩ := ok
  rcases tags (show 1 ≤ k + 1 by omega) (by omega) with h1 | h1 | h1 | h1 | h1 | h1 | h1 | h1 | h1
  all_goals (obtain rfl : k = _ := Nat.succ.inj h1)
  · have a : Bm.uvar (Um.put m.rid ++ z) 0 4294967295 = (m.rid, z, 0) := (good_uvar 4294967295 (by omega)).full m.rid z (by omega)
    show ({ keep m 0 with rid := (Bm.uvar (Um.put m.rid ++ z) 0 4294967295).1 }, (Bm.uvar (Um.put m.rid ++ z) 0 4294967295).2) = _
    rw [a]; rfl
  · have a : Bm.uvar (Um.put m.code ++ z) 0 255 = (m.code, z, 0) := (good_uvar 255 (by omega)).full m.code z (by omega)
    show ({ keep m 1 with code := (Bm.uvar (Um.put m.code ++ z) 0 255).1 }, (Bm.uvar (Um.put m.code ++ z) 0 255).2) = _
    rw [a]; rfl
  · have h2 : m.has = true := h
    have e : body m (2 + 1) ++ z = z := rfl
    rw [e]
    have e2 : keep m (2 + 1) = { keep m 2 with has := true } := by rw [← h2]; rfl
    rw [e2]
    rfl
  · have a : Bm.uvar (Um.put m.id ++ z) 0 u64 = (m.id, z, 0) := (good_uvar u64 (by unfold u64; omega)).full m.id z (by unfold u64; omega)
    show ({ keep m 3 with id := (Bm.uvar (Um.put m.id ++ z) 0 u64).1 }, (Bm.uvar (Um.put m.id ++ z) 0 u64).2) = _
    rw [a]; rfl
  · have a := (good_str 96 96 rfl (by omega)).full m.key z b4
    show ({ keep m 4 with key := (str 96 (txtB m.key ++ z) 0).1 }, (str 96 (txtB m.key ++ z) 0).2) = _
    rw [a]; rfl
  · have a := (good_str 512 512 rfl (by omega)).full m.val z b5
    show ({ keep m 5 with val := (str 512 (txtB m.val ++ z) 0).1 }, (str 512 (txtB m.val ++ z) 0).2) = _
    rw [a]; rfl
  · have a := good_peer.full (m.pid, m.pad) z ⟨b6, b7⟩
    show ({ keep m 6 with pid := (peer (peerB (m.pid, m.pad) ++ z) 0).1.1, pad := (peer (peerB (m.pid, m.pad) ++ z) 0).1.2 }, (peer (peerB (m.pid, m.pad) ++ z) 0).2) = _
    rw [a]; rfl
  · have a := good_peers.full m.peers z b8
    show ({ keep m 7 with peers := [] ++ (list peer 16 (peersB m.peers ++ z) 0).1 }, (list peer 16 (peersB m.peers ++ z) 0).2) = _
    rw [a]; rfl
  · have a := good_pairs.full m.pairs z b9
    show ({ keep m 8 with pairs := [] ++ (list pair 8 (pairsB m.pairs ++ z) 0).1 }, (list pair 8 (pairsB m.pairs ++ z) 0).2) = _
    rw [a]; rfl
theorem has_keep {m : Ms} {k : Nat} (hk : k < 9) : has (keep m (k + 1)) (k + 1) = has m (k + 1) := by
  rcases tags (show 1 ≤ k + 1 by omega) (by omega) with h1 | h1 | h1 | h1 | h1 | h1 | h1 | h1 | h1
  all_goals (obtain rfl : k = _ := Nat.succ.inj h1; rfl)
theorem loop_full {m : Ms} (ok : OkT m) : ∀ (n f lst last : Nat), last + n = 9 → lst ≤ last → (fields m n last).length < f → loop f lst (keep m last) (fields m n last) 0 = (m, [], 0)
  | 0, f, lst, last, h9, _, hf => by
    obtain ⟨g, rfl⟩ : ∃ g, f = g + 1 := ⟨f - 1, by omega⟩
    obtain rfl : last = 9 := by omega
    have h0 : fields m 0 9 = [] := rfl
    rw [h0]
    unfold loop
    rw [if_pos (left_zero.2 (.inr rfl))]
    rfl
  | n + 1, f, lst, last, h9, hl, hf => by
    cases hh : has m (last + 1)
    · have e : fields m (n + 1) last = fields m n (last + 1) := by
        have := fields_cut (m := m) 1 n last (fun s h1 h2 => by rw [show s = last + 1 by omega]; exact hh)
        rw [← this, Nat.add_comm]
      rw [e] at hf ⊢
      rw [keep_none (by omega) hh]
      exact loop_full ok n f lst (last + 1) (by omega) (by omega) hf
    · obtain ⟨g, rfl⟩ : ∃ g, f = g + 1 := ⟨f - 1, by omega⟩
      have e : fields m (n + 1) last = Um.put (last + 1) ++ (body m (last + 1) ++ fields m n (last + 1)) := by
        have hput : Um.put (last + 1) = [last + 1] := Um.enc_small (by omega)
        show field m (last + 1) ++ fields m n (last + 1) = _
        unfold field
        rw [if_pos hh, hput]
        rfl
      have hlr : (fields m n (last + 1)).length < g := by
        rw [e, List.length_append, List.length_append] at hf
        have h1 : 0 < (Um.put (last + 1)).length := Um.enc_pos _ _
        omega
      rw [e]
      have u : Bm.uvar (Um.put (last + 1) ++ (body m (last + 1) ++ fields m n (last + 1))) 0 u64 = (last + 1, body m (last + 1) ++ fields m n (last + 1), 0) := (good_uvar u64 (by unfold u64; omega)).full (last + 1) _ (by unfold u64; omega)
      have ht : tagE lst (Um.put (last + 1) ++ (body m (last + 1) ++ fields m n (last + 1))) 0 = 0 := by
        unfold tagE
        rw [u]
        exact if_neg (by simp only; omega)
      have hx : next lst (keep m last) (Um.put (last + 1) ++ (body m (last + 1) ++ fields m n (last + 1))) 0 = (keep m (last + 1), fields m n (last + 1), 0) := by
        unfold next
        rw [ht, u]
        exact read_full (by omega) ok hh _
      have hz : zeroE (last + 1) (keep m (last + 1), fields m n (last + 1), 0) = 0 := by
        unfold zeroE
        refine if_neg (fun h => ?_)
        have h2 : has (keep m (last + 1)) (last + 1) = false := h.2
        rw [has_keep (by omega), hh] at h2
        cases h2
      have hne : ¬ Bm.left (Um.put (last + 1) ++ (body m (last + 1) ++ fields m n (last + 1))) 0 = 0 := by
        rw [left_zero]
        have hput : Um.put (last + 1) = [last + 1] := Um.enc_small (by omega)
        rw [hput]
        simp
      show (if _ then _ else _) = _
      rw [if_neg hne, hx, u, hz]
      exact loop_full ok n g (last + 1) (last + 1) (by omega) (Nat.le_refl _) hlr

/-! ### the whole -/
theorem okT_of {m : Ms} (ok : Ok m) (h : right m = 0) : OkT m := by
  obtain ⟨_, hbare, hbk, hlg⟩ := Fm.right_parts h
  obtain ⟨l1, l2, l3, l4, l5⟩ := Fm.long_parts hlg hbk
  refine ⟨ok.rid, ok.code, ok.id, ?_, l1, ok.pid, ok.pad, ⟨l2, ok.peers⟩, ⟨l3, l4⟩⟩
  cases ho : oKey m
  · have e := congrArg Ms.key hbare
    rw [show (bare m).key = oi (oKey m) m.key ⟨#[]⟩ from rfl, ho, oi_false] at e
    rw [e]
    exact Nat.zero_le _
  · exact l5 ho
theorem okM_of {m : Ms} (ok : OkT m) (hk : -9223372036854775808 ≤ m.kind ∧ m.kind ≤ 9223372036854775807) : Ok m :=
  ⟨hk, ok.rid, ok.code, ok.id, Nat.le_trans ok.key (by unfold maxLen; omega), Nat.le_trans ok.val (by unfold maxLen; omega), ok.pid, ok.pad, ok.peers.2, fun p hp => by
    have h := ok.pairs.2 p hp
    exact ⟨Nat.le_trans h.1 (by unfold maxLen; omega), Nat.le_trans h.2 (by unfold maxLen; omega)⟩⟩
theorem kindE_zero {l : List Nat} (h : kindE l = 0) : 1 ≤ (Bm.uvar l 0 u64).1 ∧ (Bm.uvar l 0 u64).1 ≤ 12 ∧ (Bm.uvar l 0 u64).2.2 = 0 := by
  unfold kindE at h
  split at h
  · unfold Bm.fail at h
    split at h
    · contradiction
    · cases h
  · rename_i hq
    exact ⟨by omega, by omega, h⟩
theorem all_sound {l : List Nat} (hb : Fm.Bytes l) (h : (all l).2.2 = 0) : l = put (all l).1 ∧ Ok (all l).1 ∧ (all l).1.key.size ≤ 96 ∧ (all l).1.peers.length ≤ 16 ∧ (all l).1.pairs.length ≤ 8 := by
  have hs := uvar_suf l 0 u64
  have hln := hs.length_le
  obtain ⟨i1, i2, i3, i4, i5⟩ := loop_sound (l.length + 1) 0 (bald ((Bm.uvar l 0 u64).1 % 16)) (Bm.uvar l 0 u64).2.1 (kindE l) (hb.suf hs) (by omega) (by omega) (okT_bald _) (fun s h1 => by
    unfold has
    repeat' split
    all_goals first | rfl | simp [bald, Fm.bald]) h
  obtain ⟨k1, k2, k3⟩ := kindE_zero i1
  obtain ⟨_, hl, _⟩ := uvar_sound hb k3
  have hk : (all l).1.kind = (((Bm.uvar l 0 u64).1 % 16 : Nat) : Int) := i5
  have hm : (Bm.uvar l 0 u64).1 % 16 = (Bm.uvar l 0 u64).1 := Nat.mod_eq_of_lt (by omega)
  rw [hm] at hk
  refine ⟨?_, okM_of i3 (by rw [show (all l).1.kind = _ from hk]; omega), i3.key, i3.peers.1, i3.pairs.1⟩
  unfold put
  rw [hk, Int.toNat_natCast]
  exact hl.trans (congrArg _ i2)
theorem all_full {m : Ms} (ok : Ok m) (h : right m = 0) : all (put m) = (m, [], 0) := by
  have hk := (Fm.right_parts h).1
  have hb : 0 < m.kind ∧ m.kind < 13 := by
    unfold known at hk
    simpa using hk
  obtain ⟨k, hkk⟩ : ∃ k : Nat, m.kind = (k : Int) := ⟨m.kind.toNat, by omega⟩
  have e1 : put m = Um.put k ++ fields m 9 0 := by unfold put; rw [hkk, Int.toNat_natCast]
  have u : Bm.uvar (put m) 0 u64 = (k, fields m 9 0, 0) := by rw [e1]; exact (good_uvar u64 (by unfold u64; omega)).full k _ (by unfold u64; omega)
  have e2 : kindE (put m) = 0 := by
    unfold kindE
    rw [u]
    exact if_neg (by simp only; omega)
  have e3 : bald (k % 16) = keep m 0 := by
    rw [Nat.mod_eq_of_lt (by omega)]
    unfold bald Fm.bald keep
    rw [hkk]
    rfl
  have hlen : (fields m 9 0).length < (put m).length + 1 := by rw [e1, List.length_append]; omega
  unfold all
  rw [u, e2]
  simp only
  rw [e3]
  exact loop_full (okT_of ok h) 9 _ 0 0 rfl (Nat.le_refl _) hlen
theorem dec_put {m : Ms} (ok : Ok m) (h : right m = 0) : dec (put m) = (m, 0) := by
  unfold dec
  rw [all_full ok h, if_neg (by simp)]
  simp only
  rw [if_pos h]
theorem put_dec {l : List Nat} (hb : Fm.Bytes l) (h : (dec l).2 = 0) : right (dec l).1 = 0 ∧ put (dec l).1 = l := by
  unfold dec at h ⊢
  by_cases hf : (all l).2.2 = 0
  · rw [if_neg (by simpa using hf)] at h ⊢
    by_cases hr : right (all l).1 = 0
    · rw [if_pos hr]
      exact ⟨hr, (all_sound hb hf).1.symm⟩
    · rw [if_neg hr] at h
      simp only at h
      omega
  · rw [if_pos hf] at h
    exact absurd h hf
theorem ok_dec {l : List Nat} (hb : Fm.Bytes l) : Ok (dec l).1 ∧ (dec l).1.key.size ≤ 96 := by
  unfold dec
  split
  · exact ⟨Fm.ok_zero, Nat.zero_le _⟩
  · rename_i h
    have h : (all l).2.2 = 0 := by simpa using h
    split
    · exact ⟨(all_sound hb h).2.1, (all_sound hb h).2.2.1⟩
    · exact ⟨Fm.ok_zero, Nat.zero_le _⟩
theorem dec_err {l : List Nat} (h : (all l).2.2 ≠ 0) : dec l = (Fm.zero, (all l).2.2) := by unfold dec; rw [if_pos h]
theorem dec_good {l : List Nat} (h : (all l).2.2 = 0) (h2 : right (all l).1 = 0) : dec l = ((all l).1, 0) := by unfold dec; rw [if_neg (by simpa using h), if_pos h2]
theorem dec_bad {l : List Nat} (h : (all l).2.2 = 0) (h2 : right (all l).1 ≠ 0) : dec l = (Fm.zero, (right (all l).1 : Int)) := by unfold dec; rw [if_neg (by simpa using h), if_neg h2]
theorem enc_good {m : Ms} (h : right m = 0) : enc m = (put m, 0) := by unfold enc; rw [if_pos h]
theorem enc_bad {m : Ms} (h : right m ≠ 0) : enc m = ([], right m) := by unfold enc; rw [if_neg h]
end Tg
end Go.Proofs.YtjkjhnpemhlbpaaDoor
