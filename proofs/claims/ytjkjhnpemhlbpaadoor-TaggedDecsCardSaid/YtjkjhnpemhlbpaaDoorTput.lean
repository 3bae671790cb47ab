/- Contracts of the functions of layer 10 that write numbers and lists. -/
import Derived.Test.YtjkjhnpemhlbpaaDoorPutk
import Derived.Test.YtjkjhnpemhlbpaaDoorPG
import Derived.Test.YtjkjhnpemhlbpaaDoorPH
namespace Go.Proofs.YtjkjhnpemhlbpaaDoor
open Go.RowKit
set_option linter.unusedVariables false
set_option maxRecDepth 100000
set_option linter.unusedSimpArgs false
open Gm

theorem Um.put_le (n : Nat) : (Um.put n).length ≤ 10 := Um.enc_le 9 n
theorem flatput_le : ∀ (l : List Nat), (l.flatMap Um.put).length ≤ 10 * l.length
  | [] => by simp
  | x :: l => by
    have := flatput_le l
    have := Um.put_le x
    rw [List.flatMap_cons, List.length_append, List.length_cons]
    omega
theorem Ints.elem {k : IntKind} {w : World} {g t : Nat} {l : List Nat} (h : Ints k w g t l) (i : Nat) (hi : i < l.length) : w.cell? ⟨g, i, none⟩ = some (.int k ((l[i] : Nat) : Int)) := by
  have := h.at_ i hi
  rwa [show l.getD i 0 = l[i] by simp [List.getD, List.getElem?_eq_getElem hi]] at this
/-- what the loop of putNumbers has done when j numbers are written -/
structure NumsK (base : Nat) (xs l : List Nat) (w : World) (v0 : Value) (j : Nat) (v : Value) (wr : World) : Prop where
  own : wr.ownsRow base 5 1 v (xs ++ (l.take j).flatMap Um.put).length (ints .u8 (xs ++ (l.take j).flatMap Um.put))
  kept : Kept w wr v0 v
  size : base ≤ wr.heap.size
  few : (xs ++ (l.take j).flatMap Um.put).length ≤ xs.length + 80

theorem putnums_any (base : Nat) (v : Value) (xs l : List Nat) (w : World) {b : Nat} (n c : Nat) (hI : Ints .u64 w b 23 l) (hl : ∀ x ∈ l, x < 18446744073709551616) (hn : l.length = n) (hn8 : n ≤ 8) (hne : v.ownBlock ≠ some b)
    (ho : w.ownsRow base 5 1 v xs.length (ints .u8 xs)) (hb : base ≤ w.heap.size) (hx : xs.length ≤ 100000000000) :
    Calls Tryd.prog 14 #[v, .slice (some ⟨b, 0, none⟩) n c] w (MadeK base (xs ++ l.flatMap Um.put) v w) := by
  have few : ∀ j, (xs ++ (l.take j).flatMap Um.put).length ≤ xs.length + 80 := fun j => by
    have := flatput_le (l.take j)
    rw [List.length_take] at this
    rw [List.length_append]
    omega
  have HS : Hid (NumsK base xs l w v 0 v w) := Lib.hid ⟨by simpa using ho, Kept.refl _ _, hb, few 0⟩
  have HFew := Lib.hid few
  have HI := Lib.hid hI
  have HL := Lib.hid hl
  have Hn := Lib.hid hn
  have HNe := Lib.hid hne
  clear ho hI hl hn few hne
  go_enter Tryd.func14, Tryd.ntmps14
  go_wp2_with fail
  go_loopw [0, 9] (fun vb vi wr => ∃ (j : Nat), j ≤ n ∧ vi = .int .i64 j ∧ Hid (NumsK base xs l w v j vb wr)) (fun _ vi _ => n - (intOf vi).toNat)
  case atStart => exact ⟨0, by omega, rfl, HS⟩
  case round =>
    obtain ⟨j, hj, rfl, HP⟩ := hrel
    by_cases hlt : j < n
    · have hia : j < l.length := by rw [Hn.out]; exact hlt
      have hcell := Ints.elem (show Ints .u64 wr b 23 l from Whole.kept HI.out HP.out.kept HNe.out) j hia
      have hx64 := HL.out _ (List.getElem_mem hia)
      have HN := Lib.hid (flat_next Um.put l hia)
      obtain ⟨x, Hx⟩ : ∃ x, Hid (l[j] = x) := ⟨l[j], Lib.hid rfl⟩
      rw [Hx.out] at hcell hx64
      have HN2 := Lib.hid (HN.out _ Hx.out)
      have hfw := HP.out.few
      have P := Lib.hid (putk_any base _ _ x _ hx64 HP.out.own HP.out.size (by omega))
      clear HN hfw
      go_wp2_with fail
      refine (P.out).mono ?_
      rintro e w1 ⟨v1, rfl, ho1, hk1⟩
      have HP1 : Hid (NumsK base xs l w v (j + 1) v1 w1) := Lib.hid ⟨by rw [HN2.out, ← List.append_assoc]; exact ho1, HP.out.kept.trans hk1, Nat.le_trans HP.out.size hk1.size, HFew.out _⟩
      clear ho1 hk1
      go_wp2_with fail
      go_roundw
      case rel => exact ⟨j + 1, by omega, by go_num, HP1⟩
      case measure => simp [intOf]; omega
    · have hjn : j = n := by omega
      go_wp2_with fail
      go_ret
      have h := HP.out.own
      rw [hjn, ← Hn.out, List.take_length] at h
      exact ⟨_, rfl, h, HP.out.kept⟩
/-- the same, behind the making of the numbers' block -/
theorem nums_call (base : Nat) (v : Value) (xs l : List Nat) (w : World) {cs : Array Value} (hcs : cs = (ints .u64 l).toArray) (n : Nat) (hn : l.length = n) (hn8 : n ≤ 8) (hl : ∀ x ∈ l, x < 18446744073709551616)
    (ho : w.ownsRow base 5 1 v xs.length (ints .u8 xs)) (hb : base ≤ w.heap.size) (hx : xs.length ≤ 100000000000) :
    Calls Tryd.prog 14 #[v, .slice (some ⟨w.heap.size, 0, none⟩) n n] (w.alloc (.cells cs 23)) (MadeK base (xs ++ l.flatMap Um.put) v w) := by
  subst hcs
  have c := putnums_any base v xs l (w.alloc (.cells (ints .u64 l).toArray 23)) (b := w.heap.size) n n (Whole.made _ _ _) hl hn hn8 (own_new ho) (ho.alloc _) (by simp; omega) hx
  exact c.mono fun e w' ⟨v', h1, h2, h3⟩ => ⟨v', h1, h2, ((Kept.refl w v).alloc _).trans h3⟩

/-! ### how long -/
theorem Tg.txtB_length (s : ByteArray) : (Tg.txtB s).length ≤ 10 + s.size := by
  have := Um.put_le s.size
  unfold Tg.txtB
  rw [List.length_append, Fm.nums_length]
  omega
theorem Tg.peerB_length (p : Nat × Nat) : (Tg.peerB p).length ≤ 20 := by
  have := Um.put_le p.1
  have := Um.put_le p.2
  unfold Tg.peerB
  rw [List.length_append]
  omega
theorem Tg.flat_peers : ∀ (l : List (Nat × Nat)), (l.flatMap Tg.peerB).length ≤ 20 * l.length
  | [] => by simp
  | p :: l => by
    have := Tg.flat_peers l
    have := Tg.peerB_length p
    rw [List.flatMap_cons, List.length_append, List.length_cons]
    omega
theorem Tg.flat_pairs : ∀ (l : List (ByteArray × ByteArray)), (∀ p ∈ l, p.1.size ≤ 1000 ∧ p.2.size ≤ 1000) → (l.flatMap Tg.pairB).length ≤ 2020 * l.length
  | [], _ => by simp
  | p :: l, h => by
    have ih := Tg.flat_pairs l (fun q hq => h q (List.mem_cons_of_mem _ hq))
    have h1 := h p List.mem_cons_self
    have h2 := Tg.txtB_length p.1
    have h3 := Tg.txtB_length p.2
    rw [List.flatMap_cons, List.length_append, List.length_cons]
    unfold Tg.pairB at ih ⊢
    rw [List.length_append]
    omega

theorem one_put (x : Nat) : [x].flatMap Um.put = Um.put x := by simp
theorem two_put (x y : Nat) : [x, y].flatMap Um.put = Um.put x ++ Um.put y := by simp
theorem tag_put (t : Nat) (h : t < 128) : [t].flatMap Um.put = [t] := by rw [one_put]; exact Um.enc_small h

theorem tputpeers_any (base : Nat) (v vl : Value) (xs : List Nat) (l : List (Nat × Nat)) (w : World) (ok : ∀ p ∈ l, p.1 < 18446744073709551616 ∧ p.2 < 65536) (hl : l.length ≤ 100000000) (hL : Sl fPeer w base vl l) (ho : w.ownsRow base 5 1 v xs.length (ints .u8 xs)) (hb : base ≤ w.heap.size) (hx : xs.length ≤ 10000000000) :
    Calls Tryd.prog 43 #[v, vl] w (MadeK base (xs ++ Tg.peersB l) v w) := by
  obtain ⟨A, c, rfl, TA0, hc, hcm, _⟩ := hL.ex
  unfold maxLen at hcm
  have TA := Lib.hid TA0
  have OK := Lib.hid ok
  have OWN := Lib.hid (own_lt ho)
  obtain ⟨n, hn⟩ : ∃ n, Hid (l.length = n) := ⟨_, rfl⟩
  rw [hn.out] at hl hc ⊢
  have C := Lib.hid (nums_call base v xs [n] w (cs := #[.int .u64 (n : Int)]) rfl 1 rfl (by omega) (by intro x hx; simp at hx; omega) ho hb (by omega))
  rw [one_put] at C
  have hlen : (xs ++ Um.put n).length ≤ xs.length + 10 := by rw [List.length_append]; have := Um.put_le n; omega
  obtain ⟨ys, hys⟩ : ∃ ys, Hid (xs ++ Um.put n = ys) := ⟨_, rfl⟩
  rw [hys.out] at C hlen
  have hfin : Hid (xs ++ Tg.peersB l = ys ++ l.flatMap Tg.peerB) := Lib.hid (by rw [← hys.out]; unfold Tg.peersB; rw [hn.out, List.append_assoc])
  rw [hfin.out]
  have hy : ys.length ≤ 10000000010 := by omega
  clear ho hL TA0 ok
  go_enter Tryd.func43, Tryd.ntmps43
  go_wp2_with fail
  refine (C.out).mono ?_
  rintro e w1 ⟨v1, rfl, ho1, hk1⟩
  have HO1 := Lib.hid ho1
  have HK1 := Lib.hid hk1
  have hs1 := hk1.size
  clear ho1 hk1 hlen
  go_wp2_with fail
  go_loopw [0, 15] (fun vb vi wr => ∃ (j : Nat), j ≤ n ∧ vi = .int .i64 j ∧ Hid (wr.ownsRow base 5 1 vb (ys ++ (l.take j).flatMap Tg.peerB).length (ints .u8 (ys ++ (l.take j).flatMap Tg.peerB))) ∧ Hid (Kept w wr v vb)) (fun _ vi _ => n - (intOf vi).toNat)
  case atStart => exact ⟨0, by omega, rfl, Lib.hid (by simpa using HO1.out), HK1⟩
  case round =>
    obtain ⟨j, hj, rfl, HO, HK⟩ := hrel
    have hsz := HK.out.size
    by_cases hlt : j < n
    · have hia : j < l.length := by rw [hn.out]; exact hlt
      obtain ⟨b1, o1, rfl, _, d0, d1⟩ := (TA.out.below (HK.out.below OWN.out hb)).at_ hia
      obtain ⟨OK1, OK2⟩ := OK.out _ (List.getElem_mem hia)
      have HN := Lib.hid (flat_next Tg.peerB l hia)
      obtain ⟨p, hp⟩ : ∃ p : Nat × Nat, Hid (l[j] = p) := ⟨l[j], Lib.hid rfl⟩
      obtain ⟨p1, p2⟩ := p
      rw [hp.out] at d0 d1 OK1 OK2
      simp only [fPeer] at d0 d1
      simp only at OK1 OK2
      have HN2 := Lib.hid (HN.out _ hp.out)
      obtain ⟨g, u0, ua, u1, hg, hal, ⟨z0, f0⟩, hst0, ⟨z1, f1⟩, hst1, hw1, hz1, hbb⟩ := var2 wr 26 (.int .u64 0) (.int .u16 0) (.int .u64 (p1 : Int)) (.int .u16 (p2 : Int))
      have hlen : (ys ++ (l.take j).flatMap Tg.peerB).length ≤ 100000000000 := by
        have := Tg.flat_peers (l.take j)
        rw [List.length_take] at this
        rw [List.length_append]
        omega
      have P := Lib.hid (nums_call base _ (ys ++ (l.take j).flatMap Tg.peerB) [p1, p2] u1 (cs := #[.int .u64 (p1 : Int), .int .u64 (p2 : Int)]) rfl 2 rfl (by omega) (by intro x hx; simp at hx; rcases hx with rfl | rfl <;> omega) (own_below HO.out (by rw [hg]; exact hbb)) (by omega) hlen)
      rw [two_put] at P
      have HU := Lib.hid (HK.out.behind (by rw [hg]; exact hbb))
      have e0 := hw1.at_ 0
      have e1 := hw1.at_ 1
      clear HN OK1 hw1 hbb hz1
      go_wp2_with fail
      refine (P.out).mono ?_
      rintro e w2 ⟨v2, rfl, ho2, hk2⟩
      have HO2 : Hid (w2.ownsRow base 5 1 v2 (ys ++ (l.take (j + 1)).flatMap Tg.peerB).length (ints .u8 (ys ++ (l.take (j + 1)).flatMap Tg.peerB))) := Lib.hid (by rw [HN2.out, ← List.append_assoc]; exact ho2)
      have HK2 := Lib.hid (HU.out.trans hk2)
      clear ho2 hk2
      go_wp2_with fail
      go_roundw
      case rel => exact ⟨j + 1, by omega, by go_num, HO2, HK2⟩
      case measure => simp [intOf]; omega
    · have hjn : j = n := by omega
      go_wp2_with fail
      go_ret
      have h := HO.out
      rw [hjn, ← hn.out, List.take_length] at h
      exact ⟨_, rfl, h, HK.out⟩

theorem texts_any (base : Nat) (v : Value) (xs : List Nat) (s : ByteArray) (hs : s.size ≤ 1000000000) (w : World) (ho : w.ownsRow base 5 1 v xs.length (ints .u8 xs)) (hb : base ≤ w.heap.size) (hx : xs.length ≤ 100000000000) :
    Calls Tryd.prog 42 #[v, .string s] w (MadeK base (xs ++ Tg.txtB s) v w) := by
  have c := textk_any base v xs (Txt.nums s) (by rw [Fm.nums_length]; exact hs) w ho hb hx
  rw [Fm.nums_length] at c
  exact c

theorem tputpairs_any (base : Nat) (v vl : Value) (xs : List Nat) (l : List (ByteArray × ByteArray)) (w : World) (ok : ∀ p ∈ l, p.1.size ≤ 1000 ∧ p.2.size ≤ 1000) (hl : l.length ≤ 10000000) (hL : Sl fPair w base vl l) (ho : w.ownsRow base 5 1 v xs.length (ints .u8 xs)) (hb : base ≤ w.heap.size) (hx : xs.length ≤ 10000000000) :
    Calls Tryd.prog 44 #[v, vl] w (MadeK base (xs ++ Tg.pairsB l) v w) := by
  obtain ⟨A, c, rfl, TA0, hc, hcm, _⟩ := hL.ex
  unfold maxLen at hcm
  have TA := Lib.hid TA0
  have OK := Lib.hid ok
  have OWN := Lib.hid (own_lt ho)
  have FL := Lib.hid (fun j => Tg.flat_pairs (l.take j) (fun p hp => ok p (List.mem_of_mem_take hp)))
  obtain ⟨n, hn⟩ : ∃ n, Hid (l.length = n) := ⟨_, rfl⟩
  rw [hn.out] at hl hc ⊢
  have C := Lib.hid (nums_call base v xs [n] w (cs := #[.int .u64 (n : Int)]) rfl 1 rfl (by omega) (by intro x hx; simp at hx; omega) ho hb (by omega))
  rw [one_put] at C
  have hlen : (xs ++ Um.put n).length ≤ xs.length + 10 := by rw [List.length_append]; have := Um.put_le n; omega
  obtain ⟨ys, hys⟩ : ∃ ys, Hid (xs ++ Um.put n = ys) := ⟨_, rfl⟩
  rw [hys.out] at C hlen
  have hfin : Hid (xs ++ Tg.pairsB l = ys ++ l.flatMap Tg.pairB) := Lib.hid (by rw [← hys.out]; unfold Tg.pairsB; rw [hn.out, List.append_assoc])
  rw [hfin.out]
  have hy : ys.length ≤ 10000000010 := by omega
  clear ho hL TA0 ok
  go_enter Tryd.func44, Tryd.ntmps44
  go_wp2_with fail
  refine (C.out).mono ?_
  rintro e w1 ⟨v1, rfl, ho1, hk1⟩
  have HO1 := Lib.hid ho1
  have HK1 := Lib.hid hk1
  have hs1 := hk1.size
  clear ho1 hk1 hlen
  go_wp2_with fail
  go_loopw [0, 15] (fun vb vi wr => ∃ (j : Nat), j ≤ n ∧ vi = .int .i64 j ∧ Hid (wr.ownsRow base 5 1 vb (ys ++ (l.take j).flatMap Tg.pairB).length (ints .u8 (ys ++ (l.take j).flatMap Tg.pairB))) ∧ Hid (Kept w wr v vb)) (fun _ vi _ => n - (intOf vi).toNat)
  case atStart => exact ⟨0, by omega, rfl, Lib.hid (by simpa using HO1.out), HK1⟩
  case round =>
    obtain ⟨j, hj, rfl, HO, HK⟩ := hrel
    have hsz := HK.out.size
    by_cases hlt : j < n
    · have hia : j < l.length := by rw [hn.out]; exact hlt
      obtain ⟨b1, o1, rfl, _, d0, d1⟩ := (TA.out.below (HK.out.below OWN.out hb)).at_ hia
      obtain ⟨OK1, OK2⟩ := OK.out _ (List.getElem_mem hia)
      have HN := Lib.hid (flat_next Tg.pairB l hia)
      obtain ⟨p, hp⟩ : ∃ p : ByteArray × ByteArray, Hid (l[j] = p) := ⟨l[j], Lib.hid rfl⟩
      obtain ⟨p1, p2⟩ := p
      rw [hp.out] at d0 d1 OK1 OK2
      simp only [fPair] at d0 d1
      simp only at OK1 OK2
      have HN2 := Lib.hid (HN.out _ hp.out)
      obtain ⟨g, u0, ua, u1, hg, hal, ⟨z0, f0⟩, hst0, ⟨z1, f1⟩, hst1, hw1, hz1, hbb⟩ := var2 wr 43 (.string ⟨#[]⟩) (.string ⟨#[]⟩) (.string p1) (.string p2)
      have hlen : (ys ++ (l.take j).flatMap Tg.pairB).length ≤ 50000000000 := by have := FL.out j; rw [List.length_take] at this; rw [List.length_append]; omega
      have hlen2 : ((ys ++ (l.take j).flatMap Tg.pairB) ++ Tg.txtB p1).length ≤ 100000000000 := by rw [List.length_append]; have := Tg.txtB_length p1; omega
      have HOu := own_below HO.out (by rw [hg]; exact hbb)
      have P := Lib.hid (texts_any base _ (ys ++ (l.take j).flatMap Tg.pairB) p1 (by omega) u1.drew HOu.drew (by simp; omega) (by omega))
      have HU : Hid (Kept w u1 v _) := Lib.hid (HK.out.behind (by rw [hg]; exact hbb))
      have hgne := Lib.hid (own_new HO.out)
      rw [hg] at hgne
      have HW1 := Lib.hid hw1
      have HC := Lib.hid (fun W (h : Whole W g 43 #[.string p1, .string p2]) => (⟨h.at_ 0, h.at_ 1⟩ : W.cell? ⟨g, 0, none⟩ = some (.string p1) ∧ W.cell? ⟨g, 1, none⟩ = some (.string p2)))
      clear HN hw1 hbb HOu
      go_wp2_with fail
      refine wp_region_plan (S := fun W => Whole W g 43 #[.string p1, .string p2]) [(0, true), (1, true), (2, true), (4, true), (5, true), (3, false), (6, false), (7, true)] (by kernel_rfl) (by kernel_rfl) rfl (by kernel_rfl) (fun _ _ _ _ _ h => h) HW1.out.drew ?_
      iterate 5
        refine along_take (v := ?_) rfl (by rfl) ?_ ?_
        rotate_left
        · intro W hW; obtain ⟨c0, c1⟩ := HC.out W hW; clear hW; go_simp; try with_reducible rfl
        try simp only [Act.put, List.setIfInBounds_toArray, List.set_cons_zero, List.set_cons_succ]
      refine along_step rfl (fun K hK => ?_)
      go_simp
      refine (P.out).mono ?_
      rintro e w2 ⟨v2, rfl, ho2, hk2⟩
      have HW2 := Lib.hid (HW1.out.drew.kept hk2 hgne.out)
      have P2 := Lib.hid (texts_any base v2 _ p2 (by omega) w2 ho2 (by have := hk2.size; simp at this; omega) hlen2)
      have HNE2 := Lib.hid (hk2.apart (by simpa using HW1.out.lt) hgne.out)
      have HK2 := Lib.hid (HU.out.drew.trans hk2)
      clear ho2 hk2 hlen2
      refine hK.out _ _ HW2.out ?_
      clear hK K
      try simp only [Act.put, List.setIfInBounds_toArray, List.set_cons_zero, List.set_cons_succ]
      refine along_step rfl (fun K hK => ?_)
      go_simp
      refine (P2.out).mono ?_
      rintro e w3 ⟨v3, rfl, ho3, hk3⟩
      have HO3 : Hid (w3.ownsRow base 5 1 v3 (ys ++ (l.take (j + 1)).flatMap Tg.pairB).length (ints .u8 (ys ++ (l.take (j + 1)).flatMap Tg.pairB))) := Lib.hid (by rw [HN2.out]; unfold Tg.pairB; rw [← List.append_assoc, ← List.append_assoc]; exact ho3)
      have HK3 := Lib.hid (HK2.out.trans hk3)
      have HW3 := Lib.hid (HW2.out.kept hk3 HNE2.out)
      clear ho3 hk3
      refine hK.out _ _ HW3.out ?_
      clear hK K
      try simp only [Act.put, List.setIfInBounds_toArray, List.set_cons_zero, List.set_cons_succ]
      refine along_take (v := ?_) rfl (by rfl) ?_ ?_
      rotate_left
      · intro W hW; clear hW; go_simp; try with_reducible rfl
      simp only [Act.put, List.setIfInBounds_toArray, List.set_cons_zero, List.set_cons_succ]
      refine along_done ?_
      go_wp2_with fail
      go_roundw
      case rel => exact ⟨j + 1, by omega, by go_num, HO3, HK3⟩
      case measure => simp [intOf]; omega
    · have hjn : j = n := by omega
      go_wp2_with fail
      go_ret
      have h := HO.out
      rw [hjn, ← hn.out, List.take_length] at h
      exact ⟨_, rfl, h, HK.out⟩
end Go.Proofs.YtjkjhnpemhlbpaaDoor
