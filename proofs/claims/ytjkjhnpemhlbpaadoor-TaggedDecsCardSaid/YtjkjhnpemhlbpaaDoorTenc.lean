/- Contracts of tagged.putSmall, tagged.putLarge, tagged.Enc. -/
import Derived.Test.YtjkjhnpemhlbpaaDoorTput
import Derived.Test.YtjkjhnpemhlbpaaDoorBoxc
import Derived.Test.YtjkjhnpemhlbpaaDoorPF
import Derived.Test.YtjkjhnpemhlbpaaDoorPA
import Derived.Deep.CutRange
namespace Go.Proofs.YtjkjhnpemhlbpaaDoor
open Go.RowKit
set_option linter.unusedVariables false
set_option maxRecDepth 100000
set_option linter.unusedSimpArgs false
open Gm

theorem Tg.field_no {m : Ms} {t : Nat} (h : Tg.has m t = false) : Tg.field m t = [] := by unfold Tg.field; rw [h]; rfl
theorem Tg.field_yes {m : Ms} {t : Nat} (h : Tg.has m t = true) : Tg.field m t = t :: Tg.body m t := by unfold Tg.field; rw [if_pos h]
theorem Tg.peersB_length (l : List (Nat × Nat)) : (Tg.peersB l).length ≤ 10 + 20 * l.length := by
  have := Um.put_le l.length
  have := Tg.flat_peers l
  unfold Tg.peersB
  rw [List.length_append]
  omega
theorem Tg.pairsB_length (l : List (ByteArray × ByteArray)) (h : ∀ p ∈ l, p.1.size ≤ 1000 ∧ p.2.size ≤ 1000) : (Tg.pairsB l).length ≤ 10 + 2020 * l.length := by
  have := Um.put_le l.length
  have := Tg.flat_pairs l h
  unfold Tg.pairsB
  rw [List.length_append]
  omega
theorem Tg.field_few {m : Ms} (HF : Few m) (t : Nat) : (Tg.field m t).length ≤ 20000 := by
  have h1 := Um.put_le m.rid
  have h2 := Um.put_le m.code
  have h3 := Um.put_le m.id
  have h4 := Tg.txtB_length m.key
  have h5 := Tg.txtB_length m.val
  have h6 := Tg.peerB_length (m.pid, m.pad)
  have h7 := Tg.peersB_length m.peers
  have h8 := Tg.pairsB_length m.pairs HF.pair
  have := HF.key
  have := HF.val
  have := HF.peers
  have := HF.pairs
  have hb : (Tg.body m t).length ≤ 19999 := by
    unfold Tg.body
    repeat' split
    all_goals first | (rw [List.length_nil]; omega) | omega
  unfold Tg.field
  split
  · rw [List.length_cons]; omega
  · rw [List.length_nil]; omega

section
variable {w w' w0 : World} {base b : Nat} {m : Ms} {vp vq v v' v0 : Value} {xs ys : List Nat} {e : Ending}
variable (h : On base b m vp vq w0 v0 xs v w)
include h
theorem On.nums (l : List Nat) {cs : Array Value} (hcs : cs = (ints .u64 l).toArray) (n : Nat) (hn : l.length = n) (hn8 : n ≤ 8) (hl : ∀ x ∈ l, x < 18446744073709551616) (hx : xs.length ≤ 10000000000) :
    Calls Tryd.prog 14 #[v, .slice (some ⟨w.heap.size, 0, none⟩) n n] (w.alloc (.cells cs 23)) fun e w' => ∃ v', e = .returned v' ∧ On base b m vp vq w0 v0 (xs ++ l.flatMap Um.put) v' w' :=
  (nums_call base v xs l w hcs n hn hn8 hl h.own h.size (by omega)).mono fun e w' hm => h.next hm
theorem On.tag (t : Nat) (ht : t < 128) {cs : Array Value} (hcs : cs = #[.int .u64 (t : Int)]) (hx : xs.length ≤ 10000000000) :
    Calls Tryd.prog 14 #[v, .slice (some ⟨w.heap.size, 0, none⟩) 1 1] (w.alloc (.cells cs 23)) fun e w' => ∃ v', e = .returned v' ∧ On base b m vp vq w0 v0 (xs ++ [t]) v' w' := by
  have c := h.nums [t] (cs := cs) (by rw [hcs]; rfl) 1 rfl (by omega) (by intro x hx; simp at hx; omega) hx
  rw [tag_put t ht] at c
  exact c
theorem On.txt (s : ByteArray) (hs : s.size ≤ 1000) (hx : xs.length ≤ 10000000000) : Calls Tryd.prog 42 #[v, .string s] w fun e w' => ∃ v', e = .returned v' ∧ On base b m vp vq w0 v0 (xs ++ Tg.txtB s) v' w' :=
  h.next' (texts_any base v xs s (by omega) w h.own h.size (by omega))
theorem On.tpeers (ok : Ok m) (hl : m.peers.length ≤ 1000000) (hx : xs.length ≤ 10000000000) : Calls Tryd.prog 43 #[v, vp] w fun e w' => ∃ v', e = .returned v' ∧ On base b m vp vq w0 v0 (xs ++ Tg.peersB m.peers) v' w' :=
  h.next' (tputpeers_any base v vp xs m.peers w ok.peers (by omega) h.box.peers h.own h.size (by omega))
theorem On.tpairs (ok : ∀ p ∈ m.pairs, p.1.size ≤ 1000 ∧ p.2.size ≤ 1000) (hl : m.pairs.length ≤ 1000000) (hx : xs.length ≤ 10000000000) : Calls Tryd.prog 44 #[v, vq] w fun e w' => ∃ v', e = .returned v' ∧ On base b m vp vq w0 v0 (xs ++ Tg.pairsB m.pairs) v' w' :=
  h.next' (tputpairs_any base v vq xs m.pairs w ok (by omega) h.box.pairs h.own h.size (by omega))
end
theorem str_emp (s : ByteArray) : s.toList.isEmpty = decide (s = ⟨#[]⟩) := by
  have h := str_eq s ⟨#[]⟩
  rw [show (⟨#[]⟩ : ByteArray).toList = [] from ByteArray.toList_mk []] at h
  rw [← h]
  cases s.toList <;> rfl
theorem tag_two (t : Nat) (ht : t < 128) (x : Nat) : [t, x].flatMap Um.put = t :: Um.put x := by rw [two_put, show Um.put t = [t] from Um.enc_small ht]; rfl
theorem tag_three (t : Nat) (ht : t < 128) (x y : Nat) : [t, x, y].flatMap Um.put = t :: (Um.put x ++ Um.put y) := by
  rw [show [t, x, y].flatMap Um.put = Um.put t ++ [x, y].flatMap Um.put from List.flatMap_cons, two_put, show Um.put t = [t] from Um.enc_small ht]; rfl

set_option maxHeartbeats 1000000 in
theorem putsmall_any {w : World} {base : Nat} {m : Ms} {v vm : Value} {xs : List Nat} (H : Mv w base m vm) (HF : Few m) (ho : w.ownsRow base 5 1 v xs.length (ints .u8 xs)) (hb : base ≤ w.heap.size) (hx : xs.length ≤ 1000000000) :
    Calls Tryd.prog 15 #[v, vm] w (MadeK base ((((xs ++ Tg.field m 1) ++ Tg.field m 2) ++ Tg.field m 3) ++ Tg.field m 4) v w) := by
  obtain ⟨b, vp, vq, w0, rfl, hsb, hal, hsz, hx0, hb0⟩ := boxedk H hb
  have hob : w0.ownsRow base 5 1 v xs.length (ints .u8 xs) := own_below ho (by rw [hsb]; exact hb0)
  have hne : v.ownBlock ≠ some b := by rw [← hsb]; exact own_new ho
  have HN : Hid (On base b m vp vq w v xs v w0) := Lib.hid ⟨hob, hx0, Kept.of_below (by rw [hsb]; exact hb0) _, hne, by omega⟩
  have c1 := (Bx.cells hx0.bx).2.1
  have hr1 := HF.ok.rid
  have hr2 := HF.ok.code
  have hr4 := HF.ok.id
  have l1 := Tg.field_few HF 1
  have l2 := Tg.field_few HF 2
  have l3 := Tg.field_few HF 3
  have L1 : (xs ++ Tg.field m 1).length ≤ 1000020000 := by rw [List.length_append]; omega
  have L2 : ((xs ++ Tg.field m 1) ++ Tg.field m 2).length ≤ 1000040000 := by rw [List.length_append]; omega
  have L3 : (((xs ++ Tg.field m 1) ++ Tg.field m 2) ++ Tg.field m 3).length ≤ 1000060000 := by rw [List.length_append]; omega
  clear H ho hob hx0 hb0 hne l1 l2 l3 hsz
  go_enter Tryd.func15, Tryd.ntmps15
  go_upto_if 7 with fail
  go_cut [0, 1] from 5 (fun s0 s1 wx => Hid (On base b m vp vq w v (xs ++ Tg.field m 1) s0 wx))
  case first =>
    by_cases h : m.rid = 0
    · have HR : Hid (On base b m vp vq w v (xs ++ Tg.field m 1) v w0) := Lib.hid (HN.out.as (by rw [Tg.field_no (by simp [Tg.has, h]), List.append_nil]))
      go_wp2_with fail
      go_meet
      exact HR
    · have C := Lib.hid (HN.out.nums [1, m.rid] (cs := #[.int .u64 1, .int .u64 (m.rid : Int)]) rfl 2 rfl (by omega) (by intro x hx; simp at hx; omega) (by omega))
      have E : xs ++ [1, m.rid].flatMap Um.put = xs ++ Tg.field m 1 := by rw [tag_two 1 (by omega), Tg.field_yes (by simp [Tg.has, h])]; rfl
      rw [E] at C
      clear E
      go_wp2_with fail
      refine (C.out).mono ?_
      rintro e w1 ⟨v1, rfl, h1⟩
      have HN1 := Lib.hid h1
      clear h1
      go_wp2_with fail
      go_meet
      exact HN1
  case rest =>
  have HN1 := hcut
  clear hcut c1
  have c2 := (Bx.cells HN1.out.box.bx).2.2.1
  go_upto_if 16 with fail
  go_cut [0] from 5 (fun s0 wx => Hid (On base b m vp vq w v ((xs ++ Tg.field m 1) ++ Tg.field m 2) s0 wx))
  case first =>
    by_cases h : m.code = 0
    · have HR := Lib.hid (HN1.out.as (show (xs ++ Tg.field m 1) = ((xs ++ Tg.field m 1) ++ Tg.field m 2) by rw [Tg.field_no (t := 2) (by simp [Tg.has, h]), List.append_nil]))
      go_wp2_with fail
      go_meet
      exact HR
    · have C := Lib.hid (HN1.out.nums [2, m.code] (cs := #[.int .u64 2, .int .u64 (m.code : Int)]) rfl 2 rfl (by omega) (by intro x hx; simp at hx; omega) (by omega))
      have E : (xs ++ Tg.field m 1) ++ [2, m.code].flatMap Um.put = ((xs ++ Tg.field m 1) ++ Tg.field m 2) := by rw [tag_two 2 (by omega), Tg.field_yes (t := 2) (by simp [Tg.has, h])]; rfl
      rw [E] at C
      clear E
      go_wp2_with fail
      refine (C.out).mono ?_
      rintro e w1 ⟨v1, rfl, h1⟩
      have HN2 := Lib.hid h1
      clear h1
      go_wp2_with fail
      go_meet
      exact HN2
  case rest =>
  have HN1 := hcut
  clear hcut c2
  have c3 := (Bx.cells HN1.out.box.bx).2.2.2.1
  go_upto_if 24 with fail
  go_cut [0] from 5 (fun s0 wx => Hid (On base b m vp vq w v (((xs ++ Tg.field m 1) ++ Tg.field m 2) ++ Tg.field m 3) s0 wx))
  case first =>
    cases h : m.has
    · have HR := Lib.hid (HN1.out.as (show ((xs ++ Tg.field m 1) ++ Tg.field m 2) = (((xs ++ Tg.field m 1) ++ Tg.field m 2) ++ Tg.field m 3) by rw [Tg.field_no (t := 3) (by simp [Tg.has, h]), List.append_nil]))
      rw [h] at c3
      go_wp2_with fail
      go_meet
      exact HR
    · have C := Lib.hid (HN1.out.tag 3 (by omega) (cs := #[.int .u64 3]) rfl (by omega))
      have E : ((xs ++ Tg.field m 1) ++ Tg.field m 2) ++ [3] = (((xs ++ Tg.field m 1) ++ Tg.field m 2) ++ Tg.field m 3) := by rw [Tg.field_yes (t := 3) (by simp [Tg.has, h])]; rfl
      rw [E] at C
      clear E
      rw [h] at c3
      go_wp2_with fail
      refine (C.out).mono ?_
      rintro e w1 ⟨v1, rfl, h1⟩
      have HN2 := Lib.hid h1
      clear h1
      go_wp2_with fail
      go_meet
      exact HN2
  case rest =>
  have HN1 := hcut
  clear hcut c3
  have c4 := (Bx.cells HN1.out.box.bx).2.2.2.2.1
  go_upto_if 30 with fail
  go_cut [0] from 5 (fun s0 wx => Hid (On base b m vp vq w v ((((xs ++ Tg.field m 1) ++ Tg.field m 2) ++ Tg.field m 3) ++ Tg.field m 4) s0 wx))
  case first =>
    by_cases h : m.id = 0
    · have HR := Lib.hid (HN1.out.as (show (((xs ++ Tg.field m 1) ++ Tg.field m 2) ++ Tg.field m 3) = ((((xs ++ Tg.field m 1) ++ Tg.field m 2) ++ Tg.field m 3) ++ Tg.field m 4) by rw [Tg.field_no (t := 4) (by simp [Tg.has, h]), List.append_nil]))
      go_wp2_with fail
      go_meet
      exact HR
    · have C := Lib.hid (HN1.out.nums [4, m.id] (cs := #[.int .u64 4, .int .u64 (m.id : Int)]) rfl 2 rfl (by omega) (by intro x hx; simp at hx; omega) (by omega))
      have E : (((xs ++ Tg.field m 1) ++ Tg.field m 2) ++ Tg.field m 3) ++ [4, m.id].flatMap Um.put = ((((xs ++ Tg.field m 1) ++ Tg.field m 2) ++ Tg.field m 3) ++ Tg.field m 4) := by rw [tag_two 4 (by omega), Tg.field_yes (t := 4) (by simp [Tg.has, h])]; rfl
      rw [E] at C
      clear E
      go_wp2_with fail
      refine (C.out).mono ?_
      rintro e w1 ⟨v1, rfl, h1⟩
      have HN2 := Lib.hid h1
      clear h1
      go_wp2_with fail
      go_meet
      exact HN2
  case rest =>
  have HN1 := hcut
  clear hcut c4
  go_wp2_with fail
  go_ret
  exact ⟨_, rfl, HN1.out.own, HN1.out.kept⟩

set_option maxHeartbeats 4000000 in
theorem putlarge_any {w : World} {base : Nat} {m : Ms} {v vm : Value} {xs : List Nat} (H : Mv w base m vm) (HF : Few m) (ho : w.ownsRow base 5 1 v xs.length (ints .u8 xs)) (hb : base ≤ w.heap.size) (hx : xs.length ≤ 1000000000) :
    Calls Tryd.prog 16 #[v, vm] w (MadeK base (((((xs ++ Tg.field m 5) ++ Tg.field m 6) ++ Tg.field m 7) ++ Tg.field m 8) ++ Tg.field m 9) v w) := by
  obtain ⟨b, vp, vq, w0, rfl, hsb, hal, hsz, hx0, hb0⟩ := boxedk H hb
  obtain ⟨Ap, cp, hvp, _, hp1, hp2, _⟩ := hx0.peers.ex
  obtain ⟨Aq, cq, hvq, _, hq1, hq2, _⟩ := hx0.pairs.ex
  unfold maxLen at hp2 hq2
  obtain ⟨np, hnp⟩ : ∃ np, Hid (m.peers.length = np) := ⟨_, rfl⟩
  obtain ⟨nq, hnq⟩ : ∃ nq, Hid (m.pairs.length = nq) := ⟨_, rfl⟩
  rw [hnp.out] at hvp hp1
  rw [hnq.out] at hvq hq1
  subst hvp hvq
  have hob : w0.ownsRow base 5 1 v xs.length (ints .u8 xs) := own_below ho (by rw [hsb]; exact hb0)
  have hne : v.ownBlock ≠ some b := by rw [← hsb]; exact own_new ho
  have HN1 : Hid (On base b m (.slice Ap np cp) (.slice Aq nq cq) w v xs v w0) := Lib.hid ⟨hob, hx0, Kept.of_below (by rw [hsb]; exact hb0) _, hne, by omega⟩
  have HC := Lib.hid (fun W (h : Bx W b m (.slice Ap np cp) (.slice Aq nq cq)) => Bx.cells h)
  have hgd := guardPeer
  have l5 := Tg.field_few HF 5
  have l6 := Tg.field_few HF 6
  have l7 := Tg.field_few HF 7
  have l8 := Tg.field_few HF 8
  have hk5 := HF.key
  have hk6 := HF.val
  have hpid := HF.ok.pid
  have hpad := HF.ok.pad
  have L5 : (xs ++ Tg.field m 5).length ≤ 1000020000 := by rw [List.length_append]; omega
  have L6 : ((xs ++ Tg.field m 5) ++ Tg.field m 6).length ≤ 1000040000 := by rw [List.length_append]; omega
  have L7 : (((xs ++ Tg.field m 5) ++ Tg.field m 6) ++ Tg.field m 7).length ≤ 1000060000 := by rw [List.length_append]; omega
  have L8 : ((((xs ++ Tg.field m 5) ++ Tg.field m 6) ++ Tg.field m 7) ++ Tg.field m 8).length ≤ 1000080000 := by rw [List.length_append]; omega
  have HFF := Lib.hid HF
  obtain ⟨c0, c1, c2, c3, c4, c5, c6, c7, c8, c9, c10⟩ := Bx.cells hx0.bx
  clear H ho hob hx0 hb0 hne hsz l5 l6 l7 l8 HF c0 c1 c2 c3 c4 c6 c7 c8 c9 c10
  go_enter Tryd.func16, Tryd.ntmps16
  obtain ⟨ke, HKE⟩ : ∃ ke, Hid (m.key.toList.isEmpty = ke) := ⟨_, rfl⟩
  have s5 := HKE.out
  go_upto_if 7 with fail
  go_cut [0, 1] from 5 (fun s0 s1 wx => Hid (On base b m (.slice Ap np cp) (.slice Aq nq cq) w v (xs ++ Tg.field m 5) s0 wx))
  case first =>
    clear s5
    cases ke
    case' true =>
      have h : m.key = ⟨#[]⟩ := by have := HKE.out; rw [str_emp] at this; simpa using this
      have HR := Lib.hid (HN1.out.as (show xs = (xs ++ Tg.field m 5) by rw [Tg.field_no (t := 5) (by simp [Tg.has, h]), List.append_nil]))
      clear h
      go_wp2_with fail
      go_meet
      exact HR
    case' false =>
      have h : ¬ m.key = ⟨#[]⟩ := by have := HKE.out; rw [str_emp] at this; simpa using this
      have C := Lib.hid (HN1.out.drew.tag 5 (by omega) (cs := #[.int .u64 5]) rfl (by omega))
      have LT : (xs ++ [5]).length ≤ 2000000000 := by rw [List.length_append, List.length_singleton]; omega
      have E : (xs ++ [5]) ++ Tg.txtB m.key = (xs ++ Tg.field m 5) := by rw [Tg.field_yes (t := 5) (by simp [Tg.has, h]), List.append_assoc]; rfl
      have HE := Lib.hid E
      clear E
      go_wp2_with fail
      refine wp_region_plan (S := fun W => Bx W b m (.slice Ap np cp) (.slice Aq nq cq)) [(0, true), (3, true), (4, true), (1, false), (2, false), (5, false), (6, true)] (by kernel_rfl) (by kernel_rfl) rfl (by kernel_rfl) (fun _ _ _ _ _ h => h) (Whole.drew HN1.out.box.bx) ?_
      iterate 3
        refine along_take (v := ?_) rfl (by rfl) ?_ ?_
        rotate_left
        · intro W hW; have d := (HC.out W hW).2.2.2.2.2.1; clear hW; go_simp; try with_reducible rfl
        try simp only [Act.put, List.setIfInBounds_toArray, List.set_cons_zero, List.set_cons_succ]
      refine along_step rfl (fun K hK => ?_)
      go_simp
      refine hK.out _ _ (Whole.alloc (Whole.drew HN1.out.box.bx) _) ?_
      clear hK K
      try simp only [Act.put, List.setIfInBounds_toArray, List.set_cons_zero, List.set_cons_succ]
      refine along_step rfl (fun K hK => ?_)
      go_simp
      refine (C.out).mono ?_
      rintro e w1 ⟨v1, rfl, h1⟩
      have HN2 := Lib.hid h1
      have C2 := Lib.hid (h1.txt m.key (by omega) (by omega))
      rw [HE.out] at C2
      clear h1
      refine hK.out _ _ HN2.out.box.bx ?_
      clear hK K
      try simp only [Act.put, List.setIfInBounds_toArray, List.set_cons_zero, List.set_cons_succ]
      refine along_step rfl (fun K hK => ?_)
      go_simp
      refine (C2.out).mono ?_
      rintro e w2 ⟨v2, rfl, h2⟩
      have HN3 := Lib.hid h2
      clear h2
      refine hK.out _ _ HN3.out.box.bx ?_
      clear hK K
      try simp only [Act.put, List.setIfInBounds_toArray, List.set_cons_zero, List.set_cons_succ]
      refine along_take (v := ?_) rfl (by rfl) ?_ ?_
      rotate_left
      · intro W hW; clear hW; go_simp; try with_reducible rfl
      simp only [Act.put, List.setIfInBounds_toArray, List.set_cons_zero, List.set_cons_succ]
      refine along_done ?_
      go_wp2_with fail
      go_meet
      exact HN3
  case rest =>
  have HN1 := hcut
  clear hcut s5 c5
  obtain ⟨c0, c1, c2, c3, c4, c5, c6, c7, c8, c9, c10⟩ := Bx.cells HN1.out.box.bx
  clear c0 c1 c2 c3 c4 c5 c7 c8 c9 c10
  obtain ⟨ke, HKE⟩ : ∃ ke, Hid (m.val.toList.isEmpty = ke) := ⟨_, rfl⟩
  have s5 := HKE.out
  go_upto_if 16 with fail
  go_cut [0] from 5 (fun s0 wx => Hid (On base b m (.slice Ap np cp) (.slice Aq nq cq) w v ((xs ++ Tg.field m 5) ++ Tg.field m 6) s0 wx))
  case first =>
    clear s5
    cases ke
    case' true =>
      have h : m.val = ⟨#[]⟩ := by have := HKE.out; rw [str_emp] at this; simpa using this
      have HR := Lib.hid (HN1.out.as (show (xs ++ Tg.field m 5) = ((xs ++ Tg.field m 5) ++ Tg.field m 6) by rw [Tg.field_no (t := 6) (by simp [Tg.has, h]), List.append_nil]))
      clear h
      go_wp2_with fail
      go_meet
      exact HR
    case' false =>
      have h : ¬ m.val = ⟨#[]⟩ := by have := HKE.out; rw [str_emp] at this; simpa using this
      have C := Lib.hid (HN1.out.drew.tag 6 (by omega) (cs := #[.int .u64 6]) rfl (by omega))
      have LT : ((xs ++ Tg.field m 5) ++ [6]).length ≤ 2000000000 := by rw [List.length_append, List.length_singleton]; omega
      have E : ((xs ++ Tg.field m 5) ++ [6]) ++ Tg.txtB m.val = ((xs ++ Tg.field m 5) ++ Tg.field m 6) := by rw [Tg.field_yes (t := 6) (by simp [Tg.has, h]), List.append_assoc]; rfl
      have HE := Lib.hid E
      clear E
      go_wp2_with fail
      refine wp_region_plan (S := fun W => Bx W b m (.slice Ap np cp) (.slice Aq nq cq)) [(0, true), (3, true), (4, true), (1, false), (2, false), (5, false), (6, true)] (by kernel_rfl) (by kernel_rfl) rfl (by kernel_rfl) (fun _ _ _ _ _ h => h) (Whole.drew HN1.out.box.bx) ?_
      iterate 3
        refine along_take (v := ?_) rfl (by rfl) ?_ ?_
        rotate_left
        · intro W hW; have d := (HC.out W hW).2.2.2.2.2.2.1; clear hW; go_simp; try with_reducible rfl
        try simp only [Act.put, List.setIfInBounds_toArray, List.set_cons_zero, List.set_cons_succ]
      refine along_step rfl (fun K hK => ?_)
      go_simp
      refine hK.out _ _ (Whole.alloc (Whole.drew HN1.out.box.bx) _) ?_
      clear hK K
      try simp only [Act.put, List.setIfInBounds_toArray, List.set_cons_zero, List.set_cons_succ]
      refine along_step rfl (fun K hK => ?_)
      go_simp
      refine (C.out).mono ?_
      rintro e w1 ⟨v1, rfl, h1⟩
      have HN2 := Lib.hid h1
      have C2 := Lib.hid (h1.txt m.val (by omega) (by omega))
      rw [HE.out] at C2
      clear h1
      refine hK.out _ _ HN2.out.box.bx ?_
      clear hK K
      try simp only [Act.put, List.setIfInBounds_toArray, List.set_cons_zero, List.set_cons_succ]
      refine along_step rfl (fun K hK => ?_)
      go_simp
      refine (C2.out).mono ?_
      rintro e w2 ⟨v2, rfl, h2⟩
      have HN3 := Lib.hid h2
      clear h2
      refine hK.out _ _ HN3.out.box.bx ?_
      clear hK K
      try simp only [Act.put, List.setIfInBounds_toArray, List.set_cons_zero, List.set_cons_succ]
      refine along_take (v := ?_) rfl (by rfl) ?_ ?_
      rotate_left
      · intro W hW; clear hW; go_simp; try with_reducible rfl
      simp only [Act.put, List.setIfInBounds_toArray, List.set_cons_zero, List.set_cons_succ]
      refine along_done ?_
      go_wp2_with fail
      go_meet
      exact HN3
  case rest =>
  have HN1 := hcut
  clear hcut s5 c6
  obtain ⟨c0, c1, c2, c3, c4, c5, c6, c7, c8, c9, c10⟩ := Bx.cells HN1.out.box.bx
  clear c0 c1 c2 c3 c4 c5 c6 c9 c10
  have hst : ∀ W, (Op.equalIn 10000 26 (.agg #[.int .u64 (m.pid : Int), .int .u16 (m.pad : Int)]) (.agg #[.int .u64 0, .int .u16 0])).run Tryd.prog W = .ok (decide (m.pid = 0) && decide (m.pad = 0)) W := fun W => by
    have h := eqPeer W m.pid m.pad 0 0
    rw [show decide ((m.pid, m.pad) = (0, 0)) = (decide (m.pid = 0) && decide (m.pad = 0)) by rw [Bool.eq_iff_iff]; simp] at h
    exact h
  obtain ⟨hp, HP⟩ : ∃ hp, Hid ((decide (m.pid = 0) && decide (m.pad = 0)) = hp) := ⟨_, rfl⟩
  rw [HP.out] at hst
  go_upto_if 26 with fail
  go_cut [0] from 5 (fun s0 wx => Hid (On base b m (.slice Ap np cp) (.slice Aq nq cq) w v (((xs ++ Tg.field m 5) ++ Tg.field m 6) ++ Tg.field m 7) s0 wx))
  case first =>
    cases hp
    case' true =>
      have HR := Lib.hid (HN1.out.as (show ((xs ++ Tg.field m 5) ++ Tg.field m 6) = (((xs ++ Tg.field m 5) ++ Tg.field m 6) ++ Tg.field m 7) by rw [Tg.field_no (t := 7) (by simp only [Tg.has]; have := HP.out; simpa using this), List.append_nil]))
      go_wp2_with fail
      go_meet
      exact HR
    case' false =>
      have C := Lib.hid (HN1.out.nums [7, m.pid, m.pad] (cs := #[.int .u64 7, .int .u64 (m.pid : Int), .int .u64 (m.pad : Int)]) rfl 3 rfl (by omega) (by intro x hx; simp at hx; omega) (by omega))
      have E : ((xs ++ Tg.field m 5) ++ Tg.field m 6) ++ [7, m.pid, m.pad].flatMap Um.put = (((xs ++ Tg.field m 5) ++ Tg.field m 6) ++ Tg.field m 7) := by rw [tag_three 7 (by omega), Tg.field_yes (t := 7) (by show (!(decide (m.pid = 0) && decide (m.pad = 0))) = true; rw [HP.out]; rfl)]; rfl
      rw [E] at C
      clear E
      go_wp2_with fail
      refine (C.out).mono ?_
      rintro e w1 ⟨v1, rfl, h1⟩
      have HN2 := Lib.hid h1
      clear h1
      go_wp2_with fail
      go_meet
      exact HN2
  case rest =>
  have HN1 := hcut
  clear hcut hst c7 c8
  obtain ⟨c0, c1, c2, c3, c4, c5, c6, c7, c8, c9, c10⟩ := Bx.cells HN1.out.box.bx
  clear c0 c1 c2 c3 c4 c5 c6 c7 c8 c10
  go_upto_if 40 with fail
  go_cut [0] from 5 (fun s0 wx => Hid (On base b m (.slice Ap np cp) (.slice Aq nq cq) w v ((((xs ++ Tg.field m 5) ++ Tg.field m 6) ++ Tg.field m 7) ++ Tg.field m 8) s0 wx))
  case first =>
    by_cases h : m.peers = []
    · have HR := Lib.hid (HN1.out.as (show (((xs ++ Tg.field m 5) ++ Tg.field m 6) ++ Tg.field m 7) = ((((xs ++ Tg.field m 5) ++ Tg.field m 6) ++ Tg.field m 7) ++ Tg.field m 8) by rw [Tg.field_no (t := 8) (by simp [Tg.has, h]), List.append_nil]))
      have hz : np = 0 := by rw [← hnp.out, h]; rfl
      clear h
      go_wp2_with fail
      go_meet
      exact HR
    · have hz : 0 < np := by rw [← hnp.out]; exact List.length_pos_iff.2 h
      have C := Lib.hid (HN1.out.drew.tag 8 (by omega) (cs := #[.int .u64 8]) rfl (by omega))
      have LT : ((((xs ++ Tg.field m 5) ++ Tg.field m 6) ++ Tg.field m 7) ++ [8]).length ≤ 2000000000 := by rw [List.length_append, List.length_singleton]; omega
      have E : ((((xs ++ Tg.field m 5) ++ Tg.field m 6) ++ Tg.field m 7) ++ [8]) ++ Tg.peersB m.peers = ((((xs ++ Tg.field m 5) ++ Tg.field m 6) ++ Tg.field m 7) ++ Tg.field m 8) := by rw [Tg.field_yes (t := 8) (by simp [Tg.has, h]), List.append_assoc]; rfl
      have HE := Lib.hid E
      clear E
      go_wp2_with fail
      refine wp_region_plan (S := fun W => Bx W b m (.slice Ap np cp) (.slice Aq nq cq)) [(0, true), (3, true), (4, true), (1, false), (2, false), (5, false), (6, true)] (by kernel_rfl) (by kernel_rfl) rfl (by kernel_rfl) (fun _ _ _ _ _ h => h) (Whole.drew HN1.out.box.bx) ?_
      iterate 3
        refine along_take (v := ?_) rfl (by rfl) ?_ ?_
        rotate_left
        · intro W hW; have d := (HC.out W hW).2.2.2.2.2.2.2.2.2.1; clear hW; go_simp; try with_reducible rfl
        try simp only [Act.put, List.setIfInBounds_toArray, List.set_cons_zero, List.set_cons_succ]
      refine along_step rfl (fun K hK => ?_)
      go_simp
      refine hK.out _ _ (Whole.alloc (Whole.drew HN1.out.box.bx) _) ?_
      clear hK K
      try simp only [Act.put, List.setIfInBounds_toArray, List.set_cons_zero, List.set_cons_succ]
      refine along_step rfl (fun K hK => ?_)
      go_simp
      refine (C.out).mono ?_
      rintro e w1 ⟨v1, rfl, h1⟩
      have HN2 := Lib.hid h1
      have C2 := Lib.hid (h1.tpeers HFF.out.ok (by have := HFF.out.peers; omega) (by omega))
      rw [HE.out] at C2
      clear h1
      refine hK.out _ _ HN2.out.box.bx ?_
      clear hK K
      try simp only [Act.put, List.setIfInBounds_toArray, List.set_cons_zero, List.set_cons_succ]
      refine along_step rfl (fun K hK => ?_)
      go_simp
      refine (C2.out).mono ?_
      rintro e w2 ⟨v2, rfl, h2⟩
      have HN3 := Lib.hid h2
      clear h2
      refine hK.out _ _ HN3.out.box.bx ?_
      clear hK K
      try simp only [Act.put, List.setIfInBounds_toArray, List.set_cons_zero, List.set_cons_succ]
      refine along_take (v := ?_) rfl (by rfl) ?_ ?_
      rotate_left
      · intro W hW; clear hW; go_simp; try with_reducible rfl
      simp only [Act.put, List.setIfInBounds_toArray, List.set_cons_zero, List.set_cons_succ]
      refine along_done ?_
      go_wp2_with fail
      go_meet
      exact HN3
  case rest =>
  have HN1 := hcut
  clear hcut c9
  obtain ⟨c0, c1, c2, c3, c4, c5, c6, c7, c8, c9, c10⟩ := Bx.cells HN1.out.box.bx
  clear c0 c1 c2 c3 c4 c5 c6 c7 c8 c9
  go_upto_if 50 with fail
  go_cut [0] from 5 (fun s0 wx => Hid (On base b m (.slice Ap np cp) (.slice Aq nq cq) w v (((((xs ++ Tg.field m 5) ++ Tg.field m 6) ++ Tg.field m 7) ++ Tg.field m 8) ++ Tg.field m 9) s0 wx))
  case first =>
    by_cases h : m.pairs = []
    · have HR := Lib.hid (HN1.out.as (show ((((xs ++ Tg.field m 5) ++ Tg.field m 6) ++ Tg.field m 7) ++ Tg.field m 8) = (((((xs ++ Tg.field m 5) ++ Tg.field m 6) ++ Tg.field m 7) ++ Tg.field m 8) ++ Tg.field m 9) by rw [Tg.field_no (t := 9) (by simp [Tg.has, h]), List.append_nil]))
      have hz : nq = 0 := by rw [← hnq.out, h]; rfl
      clear h
      go_wp2_with fail
      go_meet
      exact HR
    · have hz : 0 < nq := by rw [← hnq.out]; exact List.length_pos_iff.2 h
      have C := Lib.hid (HN1.out.drew.tag 9 (by omega) (cs := #[.int .u64 9]) rfl (by omega))
      have LT : (((((xs ++ Tg.field m 5) ++ Tg.field m 6) ++ Tg.field m 7) ++ Tg.field m 8) ++ [9]).length ≤ 2000000000 := by rw [List.length_append, List.length_singleton]; omega
      have E : (((((xs ++ Tg.field m 5) ++ Tg.field m 6) ++ Tg.field m 7) ++ Tg.field m 8) ++ [9]) ++ Tg.pairsB m.pairs = (((((xs ++ Tg.field m 5) ++ Tg.field m 6) ++ Tg.field m 7) ++ Tg.field m 8) ++ Tg.field m 9) := by rw [Tg.field_yes (t := 9) (by simp [Tg.has, h]), List.append_assoc]; rfl
      have HE := Lib.hid E
      clear E
      go_wp2_with fail
      refine wp_region_plan (S := fun W => Bx W b m (.slice Ap np cp) (.slice Aq nq cq)) [(0, true), (3, true), (4, true), (1, false), (2, false), (5, false), (6, true)] (by kernel_rfl) (by kernel_rfl) rfl (by kernel_rfl) (fun _ _ _ _ _ h => h) (Whole.drew HN1.out.box.bx) ?_
      iterate 3
        refine along_take (v := ?_) rfl (by rfl) ?_ ?_
        rotate_left
        · intro W hW; have d := (HC.out W hW).2.2.2.2.2.2.2.2.2.2; clear hW; go_simp; try with_reducible rfl
        try simp only [Act.put, List.setIfInBounds_toArray, List.set_cons_zero, List.set_cons_succ]
      refine along_step rfl (fun K hK => ?_)
      go_simp
      refine hK.out _ _ (Whole.alloc (Whole.drew HN1.out.box.bx) _) ?_
      clear hK K
      try simp only [Act.put, List.setIfInBounds_toArray, List.set_cons_zero, List.set_cons_succ]
      refine along_step rfl (fun K hK => ?_)
      go_simp
      refine (C.out).mono ?_
      rintro e w1 ⟨v1, rfl, h1⟩
      have HN2 := Lib.hid h1
      have C2 := Lib.hid (h1.tpairs HFF.out.pair (by have := HFF.out.pairs; omega) (by omega))
      rw [HE.out] at C2
      clear h1
      refine hK.out _ _ HN2.out.box.bx ?_
      clear hK K
      try simp only [Act.put, List.setIfInBounds_toArray, List.set_cons_zero, List.set_cons_succ]
      refine along_step rfl (fun K hK => ?_)
      go_simp
      refine (C2.out).mono ?_
      rintro e w2 ⟨v2, rfl, h2⟩
      have HN3 := Lib.hid h2
      clear h2
      refine hK.out _ _ HN3.out.box.bx ?_
      clear hK K
      try simp only [Act.put, List.setIfInBounds_toArray, List.set_cons_zero, List.set_cons_succ]
      refine along_take (v := ?_) rfl (by rfl) ?_ ?_
      rotate_left
      · intro W hW; clear hW; go_simp; try with_reducible rfl
      simp only [Act.put, List.setIfInBounds_toArray, List.set_cons_zero, List.set_cons_succ]
      refine along_done ?_
      go_wp2_with fail
      go_meet
      exact HN3
  case rest =>
  have HN1 := hcut
  clear hcut
  go_wp2_with fail
  go_ret
  exact ⟨_, rfl, HN1.out.own, HN1.out.kept⟩
end Go.Proofs.YtjkjhnpemhlbpaaDoor
