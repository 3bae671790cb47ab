/- Plain mathematics of layer 9: a message that is written is read as it was, and the other way. No program. -/
import Derived.Test.YtpfeccbnkgnioaaDoorFm
import Derived.Test.YtpfeccbnkgnioaaDoorMv
namespace Go.Proofs.YtpfeccbnkgnioaaDoor
open Gm
set_option linter.unusedVariables false
namespace Fm

theorem right_parts {m : Ms} (h : right m = 0) : known m.kind = true ∧ m = bare m ∧ badKey m = false ∧ isLong m = false := by
  have hs := right_zero h
  unfold right at h
  cases hk : known m.kind
  · rw [hk] at h; cases h
  · rw [hk, hs] at h
    cases hb : badKey m
    · cases hl : isLong m
      · exact ⟨rfl, same_iff.1 hs, rfl, rfl⟩
      · rw [hb, hl] at h; cases h
    · rw [hb] at h; cases h
theorem isKey_le {s : ByteArray} (h : isKey s = true) : s.size ≤ 96 := by
  unfold isKey at h
  simp at h
  omega
theorem long_parts {m : Ms} (h : isLong m = false) (hb : badKey m = false) : m.val.size ≤ 512 ∧ (m.peers.length ≤ 16) ∧ m.pairs.length ≤ 8 ∧ (∀ p ∈ m.pairs, p.1.size ≤ 96 ∧ p.2.size ≤ 512) ∧ (oKey m = true → m.key.size ≤ 96) := by
  unfold isLong at h
  unfold badKey at hb
  rw [Bool.or_eq_false_iff, Bool.or_eq_false_iff, Bool.or_eq_false_iff] at h
  rw [Bool.or_eq_false_iff] at hb
  obtain ⟨⟨⟨h1, h2⟩, h3⟩, h4⟩ := h
  obtain ⟨h5, h6⟩ := hb
  simp only [decide_eq_false_iff_not, Nat.not_lt] at h1 h2 h3
  refine ⟨h1, h2, h3, fun p hp => ?_, fun ho => ?_⟩
  · have a := List.any_eq_false.1 h4 p hp
    have b := List.any_eq_false.1 h6 p hp
    simp only [decide_eq_true_iff, Nat.not_lt, Bool.not_eq_true', Bool.not_eq_false] at a b
    exact ⟨isKey_le b, a⟩
  · rw [ho] at h5
    simp only [Bool.true_and, Bool.not_eq_false'] at h5
    exact isKey_le h5

/-- the numbers and lengths of what is read -/
def okOwn (m : Ms) : Prop := m.code < 256 ∧ m.id < 18446744073709551616 ∧ m.key.size ≤ 96 ∧ m.val.size ≤ 512 ∧ m.pid < 18446744073709551616 ∧ m.pad < 65536 ∧ (∀ p ∈ m.peers, p.1 < 18446744073709551616 ∧ p.2 < 65536) ∧ (∀ p ∈ m.pairs, p.1.size ≤ 96 ∧ p.2.size ≤ 512)
theorem okOwn_bald (k r : Nat) : okOwn (bald k r) := ⟨by simp [bald], by simp [bald], by simp [bald, ByteArray.size], by simp [bald, ByteArray.size], by simp [bald], by simp [bald], fun p hp => (by cases hp), fun p hp => (by cases hp)⟩
theorem read_kinds (k : Nat) : k = 1 ∨ k = 2 ∨ k = 4 ∨ k = 5 ∨ k = 7 ∨ k = 8 ∨ k = 9 ∨ k = 10 ∨ k = 12 ∨ (k ≠ 1 ∧ k ≠ 2 ∧ k ≠ 4 ∧ k ≠ 5 ∧ k ≠ 7 ∧ k ≠ 8 ∧ k ≠ 9 ∧ k ≠ 10 ∧ k ≠ 12) := by omega
theorem ownB_at {m : Ms} (k : Nat) (hk : m.kind = (k : Int)) : ownB m = if k = 1 then Bm.fix 8 m.id
  else if k = 2 then hasB m.has ++ peersB m.peers
  else if k = 4 then hasB m.has ++ ((if m.has = true then peerB (m.pid, m.pad) else []) ++ peersB m.peers)
  else if k = 5 then peerB (m.pid, m.pad)
  else if k = 7 then strB 1 m.key ++ strB 2 m.val
  else if k = 8 then strB 1 m.key
  else if k = 9 then hasB m.has ++ (if m.has = true then strB 2 m.val else [])
  else if k = 10 then hasB m.has ++ pairsB m.pairs
  else if k = 12 then Bm.fix 1 m.code
  else [] := by
  unfold ownB
  rw [hk]
  simp only [show ∀ a : Nat, ((k : Int) = (a : Int)) = (k = a) from fun a => by rw [Int.natCast_inj], show (1 : Int) = ((1 : Nat) : Int) from rfl, show (2 : Int) = ((2 : Nat) : Int) from rfl, show (4 : Int) = ((4 : Nat) : Int) from rfl, show (5 : Int) = ((5 : Nat) : Int) from rfl,
    show (7 : Int) = ((7 : Nat) : Int) from rfl, show (8 : Int) = ((8 : Nat) : Int) from rfl, show (9 : Int) = ((9 : Nat) : Int) from rfl, show (10 : Int) = ((10 : Nat) : Int) from rfl, show (12 : Int) = ((12 : Nat) : Int) from rfl]

theorem own_suf (k r : Nat) (l : List Nat) (e : Int) : (own k r l e).2.1 <:+ l := by
  have F := flag_suf l e
  have G8 := rfix_suf l e 8
  have G1 := rfix_suf l e 1
  have P := good_peer.suf
  have L := good_peers.suf
  have Q := good_pairs.suf
  have S1 := fun l e => (good_str 1 1 96 rfl (by omega) (by omega) (by omega)).suf l e
  have S2 := fun l e => (good_str 2 2 512 rfl (by omega) (by omega) (by omega)).suf l e
  unfold own
  repeat' split
  · exact G8
  · exact (L _ _).trans F
  · exact ((L _ _).trans (P _ _)).trans F
  · exact (L _ _).trans F
  · exact P _ _
  · exact (S2 _ _).trans (S1 _ _)
  · exact S1 _ _
  · exact (S2 _ _).trans F
  · exact F
  · exact (Q _ _).trans F
  · exact G1
  · exact List.suffix_refl _
set_option maxHeartbeats 1000000 in
theorem own_sound (k r : Nat) (l : List Nat) (e : Int) (hb : Bytes l) (h : (own k r l e).2.2 = 0) : e = 0 ∧ l = ownB (own k r l e).1 ++ (own k r l e).2.1 ∧ okOwn (own k r l e).1 ∧ (own k r l e).1.kind = (k : Int) ∧ (own k r l e).1.rid = r := by
  have B := okOwn_bald k r
  obtain ⟨b1, b2, b3, b4, b5, b6, b7, b8⟩ := B
  have F := good_flag
  have S1 := good_str 1 1 96 rfl (by omega) (by omega) (by omega)
  have S2 := good_str 2 2 512 rfl (by omega) (by omega) (by omega)
  have hkind : (own k r l e).1.kind = (k : Int) ∧ (own k r l e).1.rid = r := by
    unfold own
    repeat' split
    all_goals exact ⟨rfl, rfl⟩
  rw [ownB_at k hkind.1]
  rcases read_kinds k with rfl | rfl | rfl | rfl | rfl | rfl | rfl | rfl | rfl | ⟨n1, n2, n4, n5, n7, n8, n9, n10, n12⟩
  · have G := good_fix 8 8 rfl (by omega) (by omega)
    obtain ⟨h1, h2, h3⟩ := G.sound l e hb h
    exact ⟨h1, h2, ⟨b1, h3, b3, b4, b5, b6, b7, b8⟩, hkind⟩
  · obtain ⟨h1, h2, h3⟩ := good_peers.sound _ _ (hb.suf (F.suf l e)) h
    obtain ⟨h4, h5, _⟩ := F.sound l e hb h1
    exact ⟨h4, by
      show l = (hasB _ ++ peersB _) ++ _
      rw [List.append_assoc]
      exact h5.trans (congrArg _ h2), ⟨b1, b2, b3, b4, b5, b6, h3.2, b8⟩, hkind⟩
  · by_cases hf : (Bm.flag l e).1 = true
    · have e1 : own 4 r l e = ({ bald 4 r with has := true, pid := (peer (Bm.flag l e).2.1 (Bm.flag l e).2.2).1.1, pad := (peer (Bm.flag l e).2.1 (Bm.flag l e).2.2).1.2, peers := (peers (peer (Bm.flag l e).2.1 (Bm.flag l e).2.2).2.1 (peer (Bm.flag l e).2.1 (Bm.flag l e).2.2).2.2).1 },
        (peers (peer (Bm.flag l e).2.1 (Bm.flag l e).2.2).2.1 (peer (Bm.flag l e).2.1 (Bm.flag l e).2.2).2.2).2) := by
        unfold own; rw [if_neg (by omega), if_neg (by omega), if_pos rfl, if_pos hf]
      rw [e1] at h ⊢
      have hb1 := hb.suf (F.suf l e)
      obtain ⟨h1, h2, h3⟩ := good_peers.sound _ _ (hb1.suf (good_peer.suf _ _)) h
      obtain ⟨h4, h5, h6⟩ := good_peer.sound _ _ hb1 h1
      obtain ⟨h7, h8, _⟩ := F.sound l e hb h4
      refine ⟨h7, ?_, ⟨b1, b2, b3, b4, h6.1, h6.2, h3.2, b8⟩, rfl, rfl⟩
      show l = (hasB true ++ (peerB _ ++ peersB _)) ++ _
      rw [List.append_assoc, List.append_assoc, ← hf]
      exact h8.trans (congrArg _ (h5.trans (congrArg _ h2)))
    · have e1 : own 4 r l e = ({ bald 4 r with peers := (peers (Bm.flag l e).2.1 (Bm.flag l e).2.2).1 }, (peers (Bm.flag l e).2.1 (Bm.flag l e).2.2).2) := by
        unfold own; rw [if_neg (by omega), if_neg (by omega), if_pos rfl, if_neg hf]
      rw [e1] at h ⊢
      obtain ⟨h1, h2, h3⟩ := good_peers.sound _ _ (hb.suf (F.suf l e)) h
      obtain ⟨h4, h5, _⟩ := F.sound l e hb h1
      refine ⟨h4, ?_, ⟨b1, b2, b3, b4, b5, b6, h3.2, b8⟩, rfl, rfl⟩
      have hf' : (Bm.flag l e).1 = false := by simpa using hf
      show l = (hasB false ++ ([] ++ peersB _)) ++ _
      rw [List.nil_append, List.append_assoc, ← hf']
      exact h5.trans (congrArg _ h2)
  · obtain ⟨h1, h2, h3⟩ := good_peer.sound l e hb h
    exact ⟨h1, h2, ⟨b1, b2, b3, b4, h3.1, h3.2, b7, b8⟩, hkind⟩
  · obtain ⟨h1, h2, h3⟩ := S2.sound _ _ (hb.suf (S1.suf l e)) h
    obtain ⟨h4, h5, h6⟩ := S1.sound l e hb h1
    exact ⟨h4, by
      show l = (strB 1 _ ++ strB 2 _) ++ _
      rw [List.append_assoc]
      exact h5.trans (congrArg _ h2), ⟨b1, b2, h6, h3, b5, b6, b7, b8⟩, hkind⟩
  · obtain ⟨h1, h2, h3⟩ := S1.sound l e hb h
    exact ⟨h1, h2, ⟨b1, b2, h3, b4, b5, b6, b7, b8⟩, hkind⟩
  · by_cases hf : (Bm.flag l e).1 = true
    · have e1 : own 9 r l e = ({ bald 9 r with has := true, val := strOf (str 2 512 (Bm.flag l e).2.1 (Bm.flag l e).2.2).1 }, (str 2 512 (Bm.flag l e).2.1 (Bm.flag l e).2.2).2) := by
        unfold own; rw [if_neg (by omega), if_neg (by omega), if_neg (by omega), if_neg (by omega), if_neg (by omega), if_neg (by omega), if_pos rfl, if_pos hf]
      rw [e1] at h ⊢
      obtain ⟨h1, h2, h3⟩ := S2.sound _ _ (hb.suf (F.suf l e)) h
      obtain ⟨h4, h5, _⟩ := F.sound l e hb h1
      refine ⟨h4, ?_, ⟨b1, b2, b3, h3, b5, b6, b7, b8⟩, rfl, rfl⟩
      show l = (hasB true ++ strB 2 _) ++ _
      rw [List.append_assoc, ← hf]
      exact h5.trans (congrArg _ h2)
    · have e1 : own 9 r l e = (bald 9 r, (Bm.flag l e).2) := by
        unfold own; rw [if_neg (by omega), if_neg (by omega), if_neg (by omega), if_neg (by omega), if_neg (by omega), if_neg (by omega), if_pos rfl, if_neg hf]
      rw [e1] at h ⊢
      obtain ⟨h4, h5, _⟩ := F.sound l e hb h
      refine ⟨h4, ?_, ⟨b1, b2, b3, b4, b5, b6, b7, b8⟩, rfl, rfl⟩
      have hf' : (Bm.flag l e).1 = false := by simpa using hf
      show l = (hasB false ++ []) ++ _
      rw [List.append_nil, ← hf']
      exact h5
  · obtain ⟨h1, h2, h3⟩ := good_pairs.sound _ _ (hb.suf (F.suf l e)) h
    obtain ⟨h4, h5, _⟩ := F.sound l e hb h1
    exact ⟨h4, by
      show l = (hasB _ ++ pairsB _) ++ _
      rw [List.append_assoc]
      exact h5.trans (congrArg _ h2), ⟨b1, b2, b3, b4, b5, b6, b7, h3.2⟩, hkind⟩
  · have G := good_fix 1 1 rfl (by omega) (by omega)
    obtain ⟨h1, h2, h3⟩ := G.sound l e hb h
    have e1 : (Bm.rfix l e 1).1 % 256 = (Bm.rfix l e 1).1 := Nat.mod_eq_of_lt h3
    refine ⟨h1, ?_, ⟨by show (Bm.rfix l e 1).1 % 256 < 256; omega, b2, b3, b4, b5, b6, b7, b8⟩, hkind⟩
    show l = Bm.fix 1 ((Bm.rfix l e 1).1 % 256) ++ _
    rw [e1]
    exact h2
  · have e1 : own k r l e = (bald k r, l, e) := by
      unfold own
      rw [if_neg n1, if_neg n2, if_neg n4, if_neg n5, if_neg n7, if_neg n8, if_neg n9, if_neg n10, if_neg n12]
    rw [e1] at h ⊢
    refine ⟨h, ?_, ⟨b1, b2, b3, b4, b5, b6, b7, b8⟩, rfl, rfl⟩
    rw [if_neg n1, if_neg n2, if_neg n4, if_neg n5, if_neg n7, if_neg n8, if_neg n9, if_neg n10, if_neg n12]
    rfl
/-- what a kind does not have is nothing -/
theorem own_full {m : Ms} (k r : Nat) (hk : m.kind = (k : Int)) (hr : m.rid = r) (ho : Ok m) (h : right m = 0) (z : List Nat) : own k r (ownB m ++ z) 0 = (m, z, 0) := by
  obtain ⟨_, hbare, hbk, hlg⟩ := right_parts h
  obtain ⟨l1, l2, l3, l4, l5⟩ := long_parts hlg hbk
  have F := good_flag
  have S1 := good_str 1 1 96 rfl (by omega) (by omega) (by omega)
  have S2 := good_str 2 2 512 rfl (by omega) (by omega) (by omega)
  rw [ownB_at k hk]
  have o4 := ho.id
  have o7 := ho.pid
  have o8 := ho.pad
  have o9 := ho.peers
  have o2 := ho.code
  clear ho h hbk hlg
  obtain ⟨kind, rid, code, has, id, key, val, pid, pad, peers, pairs⟩ := m
  simp only at hk hr
  subst hk hr
  simp only [bare, bareBy, Ms.mk.injEq, true_and, oCode, oHas, oId, oPeer, oPeers, oKey, oVal, oPairs] at hbare
  simp only [oKey] at l1 l2 l3 l4 l5 o2 o4 o7 o8 o9
  obtain ⟨c1, c2, c3, c4, c5, c6, c7, c8, c9⟩ := hbare
  rcases read_kinds k with rfl | rfl | rfl | rfl | rfl | rfl | rfl | rfl | rfl | ⟨n1, n2, n4, n5, n7, n8, n9, n10, n12⟩
  · simp [oi] at c1 c2 c3 c4 c5 c6 c7 c8 c9
    subst c1 c2 c4 c5 c6 c7 c8 c9
    have a := (good_fix 8 8 rfl (by omega) (by omega)).full id z o4
    try simp only at a
    simp only [own, if_pos]
    rw [a]
    rfl
  · simp [oi] at c1 c2 c3 c4 c5 c6 c7 c8 c9
    subst c1 c3 c4 c5 c6 c7 c9
    have a := F.full has (peersB peers ++ z) trivial
    have b := good_peers.full peers z ⟨l2, o9⟩
    show own 2 rid ((hasB has ++ peersB peers) ++ z) 0 = _
    unfold own
    rw [if_neg (by omega), if_pos rfl, List.append_assoc, a]
    simp only
    rw [b]
    rfl
  · simp [oi] at c1 c2 c3 c4 c5 c6 c7 c8 c9
    subst c1 c3 c4 c5 c9
    cases has with
    | true =>
      have a := F.full true (peerB (pid, pad) ++ (peersB peers ++ z)) trivial
      have b := good_peer.full (pid, pad) (peersB peers ++ z) ⟨o7, o8⟩
      have c := good_peers.full peers z ⟨l2, o9⟩
      show own 4 rid ((hasB true ++ (peerB (pid, pad) ++ peersB peers)) ++ z) 0 = _
      unfold own
      rw [if_neg (by omega), if_neg (by omega), if_pos rfl, List.append_assoc, List.append_assoc, a]
      simp only [if_pos]
      rw [b]
      simp only
      rw [c]
      rfl
    | false =>
      simp at c6 c7
      subst c6 c7
      have a := F.full false (peersB peers ++ z) trivial
      have c := good_peers.full peers z ⟨l2, o9⟩
      show own 4 rid ((hasB false ++ ([] ++ peersB peers)) ++ z) 0 = _
      unfold own
      rw [if_neg (by omega), if_neg (by omega), if_pos rfl, List.nil_append, List.append_assoc, a]
      simp only [Bool.false_eq_true, if_false]
      rw [c]
      rfl
  · simp [oi] at c1 c2 c3 c4 c5 c6 c7 c8 c9
    subst c1 c2 c3 c4 c5 c8 c9
    have b := good_peer.full (pid, pad) z ⟨o7, o8⟩
    show own 5 rid (peerB (pid, pad) ++ z) 0 = _
    unfold own
    rw [if_neg (by omega), if_neg (by omega), if_neg (by omega), if_pos rfl, b]
    rfl
  · simp [oi] at c1 c2 c3 c4 c5 c6 c7 c8 c9
    subst c1 c2 c3 c6 c7 c8 c9
    have a := S1.full key (strB 2 val ++ z) (l5 rfl)
    have b := S2.full val z l1
    simp only [Prod.mk.injEq] at a b
    obtain ⟨a1, a2⟩ := a
    obtain ⟨b1, b2⟩ := b
    show own 7 rid ((strB 1 key ++ strB 2 val) ++ z) 0 = _
    unfold own
    rw [if_neg (by omega), if_neg (by omega), if_neg (by omega), if_neg (by omega), if_pos rfl, List.append_assoc, a1, a2]
    simp only
    rw [b1, b2]
    rfl
  · simp [oi] at c1 c2 c3 c4 c5 c6 c7 c8 c9
    subst c1 c2 c3 c5 c6 c7 c8 c9
    have a := S1.full key z (l5 rfl)
    simp only [Prod.mk.injEq] at a
    obtain ⟨a1, a2⟩ := a
    show own 8 rid (strB 1 key ++ z) 0 = _
    unfold own
    rw [if_neg (by omega), if_neg (by omega), if_neg (by omega), if_neg (by omega), if_neg (by omega), if_pos rfl, a1, a2]
    rfl
  · simp [oi] at c1 c2 c3 c4 c5 c6 c7 c8 c9
    subst c1 c3 c4 c6 c7 c8 c9
    cases has with
    | true =>
      have a := F.full true (strB 2 val ++ z) trivial
      have b := S2.full val z l1
      simp only [Prod.mk.injEq] at b
      obtain ⟨b1, b2⟩ := b
      show own 9 rid ((hasB true ++ strB 2 val) ++ z) 0 = _
      unfold own
      rw [if_neg (by omega), if_neg (by omega), if_neg (by omega), if_neg (by omega), if_neg (by omega), if_neg (by omega), if_pos rfl, List.append_assoc, a]
      simp only [if_pos]
      rw [b1, b2]
      rfl
    | false =>
      simp at c5
      subst c5
      have a := F.full false z trivial
      show own 9 rid ((hasB false ++ []) ++ z) 0 = _
      unfold own
      rw [if_neg (by omega), if_neg (by omega), if_neg (by omega), if_neg (by omega), if_neg (by omega), if_neg (by omega), if_pos rfl, List.append_nil, a]
      simp only [Bool.false_eq_true, if_false]
      rfl
  · simp [oi] at c1 c2 c3 c4 c5 c6 c7 c8 c9
    subst c1 c3 c4 c5 c6 c7 c8
    have a := F.full has (pairsB pairs ++ z) trivial
    have b := good_pairs.full pairs z ⟨l3, l4⟩
    show own 10 rid ((hasB has ++ pairsB pairs) ++ z) 0 = _
    unfold own
    rw [if_neg (by omega), if_neg (by omega), if_neg (by omega), if_neg (by omega), if_neg (by omega), if_neg (by omega), if_neg (by omega), if_pos rfl, List.append_assoc, a]
    simp only
    rw [b]
    rfl
  · simp [oi] at c1 c2 c3 c4 c5 c6 c7 c8 c9
    subst c2 c3 c4 c5 c6 c7 c8 c9
    have a := (good_fix 1 1 rfl (by omega) (by omega)).full code z o2
    try simp only at a
    show own 12 rid (Bm.fix 1 code ++ z) 0 = _
    unfold own
    rw [if_neg (by omega), if_neg (by omega), if_neg (by omega), if_neg (by omega), if_neg (by omega), if_neg (by omega), if_neg (by omega), if_neg (by omega), if_pos rfl, a]
    simp only [Nat.mod_eq_of_lt o2]
    rfl
  · have i1 : ¬ (k : Int) = 1 := by omega
    have i2 : ¬ (k : Int) = 2 := by omega
    have i4 : ¬ (k : Int) = 4 := by omega
    have i5 : ¬ (k : Int) = 5 := by omega
    have i7 : ¬ (k : Int) = 7 := by omega
    have i8 : ¬ (k : Int) = 8 := by omega
    have i9 : ¬ (k : Int) = 9 := by omega
    have i10 : ¬ (k : Int) = 10 := by omega
    have i12 : ¬ (k : Int) = 12 := by omega
    simp [oi, i1, i2, i4, i5, i7, i8, i9, i10, i12] at c1 c2 c3 c4 c5 c6 c7 c8 c9
    subst c1 c2 c3 c4 c5 c6 c7 c8 c9
    rw [if_neg n1, if_neg n2, if_neg n4, if_neg n5, if_neg n7, if_neg n8, if_neg n9, if_neg n10, if_neg n12]
    unfold own
    rw [if_neg n1, if_neg n2, if_neg n4, if_neg n5, if_neg n7, if_neg n8, if_neg n9, if_neg n10, if_neg n12]
    rfl

/-! ### the whole -/
theorem kindE_zero {l : List Nat} (h : kindE l = 0) : known ((Bm.rfix l 0 1).1 : Int) = true ∧ (Bm.rfix l 0 1).2.2 = 0 := by
  unfold kindE at h
  split at h
  · exact ⟨by assumption, h⟩
  · unfold Bm.fail at h
    split at h
    · contradiction
    · cases h
theorem fin_zero {l : List Nat} (h : fin l = 0) : (read l).2.1 = [] ∧ (read l).2.2 = 0 := by
  unfold fin Bm.fin at h
  split at h
  · contradiction
  · rename_i h0
    split at h
    · cases h
    · exact ⟨List.eq_nil_of_length_eq_zero (by omega), by simpa using h0⟩
theorem read_sound {l : List Nat} (hb : Bytes l) (h : fin l = 0) : l = put (read l).1 ∧ Ok (read l).1 := by
  obtain ⟨hl, he⟩ := fin_zero h
  have G1 := good_fix 1 1 rfl (by omega) (by omega)
  have G4 := good_fix 4 4 rfl (by omega) (by omega)
  have s1 := G1.suf l 0
  have s4 := G4.suf (Bm.rfix l 0 1).2.1 (kindE l)
  obtain ⟨h1, h2, ⟨o1, o2, o3, o4, o5, o6, o7, o8⟩, h4, h5⟩ := own_sound (Bm.rfix l 0 1).1 ((ridR l).1 % 4294967296) (ridR l).2.1 (ridR l).2.2 ((hb.suf s1).suf s4) he
  obtain ⟨h6, h7, h8⟩ := G4.sound _ _ (hb.suf s1) h1
  obtain ⟨h9, h10⟩ := kindE_zero h6
  obtain ⟨_, h11, h12⟩ := G1.sound l 0 hb h10
  have hr : (ridR l).1 % 4294967296 = (ridR l).1 := Nat.mod_eq_of_lt h8
  have e1 : (read l).1.kind.toNat = (Bm.rfix l 0 1).1 := by rw [show (read l).1.kind = _ from h4, Int.toNat_natCast]
  have e2 : (read l).1.rid = (ridR l).1 := by rw [show (read l).1.rid = _ from h5, hr]
  have hz : (own (Bm.rfix l 0 1).1 ((ridR l).1 % 4294967296) (ridR l).2.1 (ridR l).2.2).2.1 = [] := hl
  constructor
  · unfold put
    rw [e1, e2]
    have h2 : (ridR l).2.1 = ownB (read l).1 ++ (own (Bm.rfix l 0 1).1 ((ridR l).1 % 4294967296) (ridR l).2.1 (ridR l).2.2).2.1 := h2
    rw [hz, List.append_nil] at h2
    exact h11.trans (congrArg _ (h7.trans (congrArg _ h2)))
  · refine ⟨?_, ?_, o1, o2, ?_, ?_, o5, o6, o7, ?_⟩
    · rw [show (read l).1.kind = _ from h4]
      try simp only at h12
      omega
    · rw [e2]
      exact h8
    · exact Nat.le_trans o3 (by unfold maxLen; omega)
    · exact Nat.le_trans o4 (by unfold maxLen; omega)
    · intro p hp
      obtain ⟨a, b⟩ := o8 p hp
      exact ⟨Nat.le_trans a (by unfold maxLen; omega), Nat.le_trans b (by unfold maxLen; omega)⟩
theorem read_full {m : Ms} (ho : Ok m) (h : right m = 0) : read (put m) = (m, [], 0) := by
  have hk := (right_parts h).1
  have hb : 0 < m.kind ∧ m.kind < 13 := by
    unfold known at hk
    simpa using hk
  obtain ⟨k, hkk⟩ : ∃ k : Nat, m.kind = (k : Int) := ⟨m.kind.toNat, by omega⟩
  have a := (good_fix 1 1 rfl (by omega) (by omega)).full k (Bm.fix 4 m.rid ++ ownB m) (by omega)
  have b := (good_fix 4 4 rfl (by omega) (by omega)).full m.rid (ownB m) ho.rid
  try simp only at a b
  have e1 : put m = Bm.fix 1 k ++ (Bm.fix 4 m.rid ++ ownB m) := by unfold put; rw [hkk, Int.toNat_natCast]
  have e2 : kindE (put m) = 0 := by
    unfold kindE
    rw [e1, a]
    simp only
    rw [← hkk, hk]
    rfl
  have e3 : ridR (put m) = (m.rid, ownB m, 0) := by
    unfold ridR
    rw [e2, e1, a]
    simp only
    exact b
  unfold read
  rw [e3]
  simp only
  rw [e1, a]
  simp only
  have hr : m.rid % 4294967296 = m.rid := Nat.mod_eq_of_lt ho.rid
  have c := own_full k m.rid hkk rfl ho h []
  rw [List.append_nil] at c
  rw [hr, c]
theorem dec_put {m : Ms} (ho : Ok m) (h : right m = 0) : dec (put m) = (m, 0) := by
  have e := read_full ho h
  have f : fin (put m) = 0 := by unfold fin; rw [e]; rfl
  unfold dec
  rw [f, if_neg (by simp), e]
  simp only
  rw [if_pos h]
theorem put_dec {l : List Nat} (hb : Bytes l) (h : (dec l).2 = 0) : right (dec l).1 = 0 ∧ put (dec l).1 = l := by
  unfold dec at h ⊢
  by_cases hf : fin l = 0
  · rw [if_neg (by simpa using hf)] at h ⊢
    by_cases hr : right (read l).1 = 0
    · rw [if_pos hr]
      exact ⟨hr, (read_sound hb hf).1.symm⟩
    · rw [if_neg hr] at h
      simp only at h
      omega
  · rw [if_pos hf] at h
    exact absurd h hf
theorem ok_zero : Ok zero := ⟨by simp [zero], by simp [zero], by simp [zero], by simp [zero], by simp [zero, ByteArray.size], by simp [zero, ByteArray.size], by simp [zero], by simp [zero], fun p hp => (by cases hp), fun p hp => (by cases hp)⟩
theorem ok_dec {l : List Nat} (hb : Bytes l) : Ok (dec l).1 := by
  unfold dec
  split
  · exact ok_zero
  · rename_i h
    have h : fin l = 0 := by simpa using h
    split
    · exact (read_sound hb h).2
    · exact ok_zero
theorem dec_fin {l : List Nat} (h : fin l ≠ 0) : dec l = (zero, fin l) := by unfold dec; rw [if_pos h]
theorem dec_good {l : List Nat} (h : fin l = 0) (h2 : right (read l).1 = 0) : dec l = ((read l).1, 0) := by unfold dec; rw [if_neg (by simpa using h), if_pos h2]
theorem dec_bad {l : List Nat} (h : fin l = 0) (h2 : right (read l).1 ≠ 0) : dec l = (zero, (right (read l).1 : Int)) := by unfold dec; rw [if_neg (by simpa using h), if_neg h2]
theorem enc_good {m : Ms} (h : right m = 0) : enc m = (put m, 0) := by unfold enc; rw [if_pos h]
theorem enc_bad {m : Ms} (h : right m ≠ 0) : enc m = ([], right m) := by unfold enc; rw [if_neg h]
end Fm
end Go.Proofs.YtpfeccbnkgnioaaDoor
