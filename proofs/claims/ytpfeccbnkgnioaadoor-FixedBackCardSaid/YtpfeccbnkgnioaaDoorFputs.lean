/- Contracts of the functions of layer 9 that write lists. -/
import Derived.Test.YtpfeccbnkgnioaaDoorFput
namespace Go.Proofs.YtpfeccbnkgnioaaDoor
open Go.RowKit
set_option linter.unusedVariables false
set_option maxRecDepth 100000
open Gm

/-- a struct of two cells that is stored in a new variable, cell by cell -/
theorem var2 (w : World) (t : TypeId) (z0 z1 x y : Value) : ∃ b w0 u w1, w.heap.size = b ∧ w.alloc (.cells #[z0, z1] t) = w0 ∧ (w0.cell? ⟨b, 0, none⟩ = some z0 ∧ w0.frozen? ⟨b, 0, none⟩ = false) ∧ w0.setCell ⟨b, 0, none⟩ x = u ∧ (u.cell? ⟨b, 1, none⟩ = some z1 ∧ u.frozen? ⟨b, 1, none⟩ = false) ∧
    u.setCell ⟨b, 1, none⟩ y = w1 ∧ Whole w1 b t #[x, y] ∧ w1.heap.size = b + 1 ∧ Below b w w1 := by
  have h0 := Whole.made w t #[z0, z1]
  have h1 := h0.put 0 x
  have h2 := h1.put 1 y
  refine ⟨_, _, _, _, rfl, rfl, ⟨h0.at_ 0, h0.free 0⟩, rfl, ⟨h1.at_ 1, h1.free 1⟩, rfl, h2, by simp [World.setCell], ?_⟩
  exact (((Below.refl _ _).alloc (Nat.le_refl _) _).setCell (Nat.le_refl _) _).setCell (Nat.le_refl _) _
theorem fpeerI {cs : Array Value} (h : cs.size = 2) : (Tryd.prog.info? 26).map (·.size) = some cs.size := by rw [h]; kernel_rfl
theorem fpairI {cs : Array Value} (h : cs.size = 2) : (Tryd.prog.info? 43).map (·.size) = some cs.size := by rw [h]; kernel_rfl
theorem flat_next {α : Type} (f : α → List Nat) (l : List α) {j : Nat} (h : j < l.length) (x : α) (hx : l[j] = x) : (l.take (j + 1)).flatMap f = (l.take j).flatMap f ++ f x := by
  rw [List.take_succ_eq_append_getElem h, List.flatMap_append, List.flatMap_singleton, hx]
theorem peerB_length (p : Nat × Nat) : (Fm.peerB p).length = 10 := by unfold Fm.peerB; rw [List.length_append, Bm.fix_length, Bm.fix_length]
theorem flat_peers : ∀ (l : List (Nat × Nat)), (l.flatMap Fm.peerB).length = 10 * l.length
  | [] => rfl
  | p :: l => by rw [List.flatMap_cons, List.length_append, peerB_length, flat_peers l, List.length_cons]; omega

theorem putpeers_any (base : Nat) (v vl : Value) (xs : List Nat) (l : List (Nat × Nat)) (w : World) (ok : ∀ p ∈ l, p.1 < 18446744073709551616 ∧ p.2 < 65536) (hl : l.length ≤ 1000000000) (hL : Sl fPeer w base vl l) (ho : w.ownsRow base 5 1 v xs.length (ints .u8 xs)) (hb : base ≤ w.heap.size) (hx : xs.length ≤ 10000000000) :
    Calls Tryd.prog 42 #[v, vl] w (MadeK base (xs ++ Fm.peersB l) v w) := by
  obtain ⟨A, c, rfl, TA0, hc, hcm, _⟩ := hL.ex
  unfold maxLen at hcm
  have TA := Lib.hid TA0
  have OK := Lib.hid ok
  have OWN := Lib.hid (own_lt ho)
  obtain ⟨n, hn⟩ : ∃ n, Hid (l.length = n) := ⟨_, rfl⟩
  rw [hn.out] at hl hc ⊢
  have C := Lib.hid (fixk_any base v xs n 1 w (by omega) (by omega) (by omega) ho hb (by omega))
  rw [show (1 : Int) = ((1 : Nat) : Int) from rfl, Bm.fixI_good (by omega) (by omega)] at C
  have hlen : (xs ++ Bm.fix 1 n).length = xs.length + 1 := by rw [List.length_append, Bm.fix_length]
  obtain ⟨ys, hys⟩ : ∃ ys, Hid (xs ++ Bm.fix 1 n = ys) := ⟨_, rfl⟩
  rw [hys.out] at C hlen
  have hfin : Hid (xs ++ Fm.peersB l = ys ++ l.flatMap Fm.peerB) := Lib.hid (by rw [← hys.out]; unfold Fm.peersB; rw [hn.out, List.append_assoc])
  rw [hfin.out]
  have hy : ys.length ≤ 10000000001 := by omega
  clear ho hL TA0 ok
  go_enter Tryd.func42, Tryd.ntmps42
  go_wp2_with fail
  refine (C.out).mono ?_
  rintro e w1 ⟨v1, rfl, ho1, hk1⟩
  have HO1 := Lib.hid ho1
  have HK1 := Lib.hid hk1
  have hs1 := hk1.size
  clear ho1 hk1 hlen
  go_wp2_with fail
  go_loopw [0, 14] (fun vb vi wr => ∃ (j : Nat), j ≤ n ∧ vi = .int .i64 j ∧ Hid (wr.ownsRow base 5 1 vb (ys ++ (l.take j).flatMap Fm.peerB).length (ints .u8 (ys ++ (l.take j).flatMap Fm.peerB))) ∧ Hid (Kept w wr v vb)) (fun _ vi _ => n - (intOf vi).toNat)
  case atStart => exact ⟨0, by omega, rfl, Lib.hid (by simpa using HO1.out), HK1⟩
  case round =>
    obtain ⟨j, hj, rfl, HO, HK⟩ := hrel
    have hsz := HK.out.size
    by_cases hlt : j < n
    · have hia : j < l.length := by rw [hn.out]; exact hlt
      obtain ⟨b1, o1, rfl, _, d0, d1⟩ := (TA.out.below (HK.out.below OWN.out hb)).at_ hia
      obtain ⟨OK1, OK2⟩ := OK.out _ (List.getElem_mem hia)
      have HN := Lib.hid (flat_next Fm.peerB l hia)
      obtain ⟨p, hp⟩ : ∃ p : Nat × Nat, Hid (l[j] = p) := ⟨l[j], Lib.hid rfl⟩
      obtain ⟨p1, p2⟩ := p
      rw [hp.out] at d0 d1 OK1 OK2
      simp only [fPeer] at d0 d1
      simp only at OK1 OK2
      have HN2 := Lib.hid (HN.out _ hp.out)
      obtain ⟨g, u0, ua, u1, hg, hal, ⟨z0, f0⟩, hst0, ⟨z1, f1⟩, hst1, hw1, hz1, hbb⟩ := var2 wr 26 (.int .u64 0) (.int .u16 0) (.int .u64 (p1 : Int)) (.int .u16 (p2 : Int))
      have hlen : (ys ++ (l.take j).flatMap Fm.peerB).length ≤ 100000000000 := by rw [List.length_append, flat_peers, List.length_take]; omega
      have P := Lib.hid (putpeer_any base _ (ys ++ (l.take j).flatMap Fm.peerB) p1 p2 u1 OK1 OK2 (own_below HO.out (by rw [hg]; exact hbb)) (by omega) hlen)
      have HU := Lib.hid (HK.out.behind (by rw [hg]; exact hbb))
      have HW1 := Lib.hid hw1
      clear HN OK1 OK2 hw1 hbb
      go_wp2_with (refine wpList_load_struct Tryd.underlying26 (fpeerI rfl) rfl rfl rfl HW1.out ?_)
      refine (P.out).mono ?_
      rintro e w2 ⟨v2, rfl, ho2, hk2⟩
      have HO2 : Hid (w2.ownsRow base 5 1 v2 (ys ++ (l.take (j + 1)).flatMap Fm.peerB).length (ints .u8 (ys ++ (l.take (j + 1)).flatMap Fm.peerB))) := Lib.hid (by rw [HN2.out, ← List.append_assoc]; exact ho2)
      have HK2 := Lib.hid (HU.out.trans hk2)
      clear ho2 hk2
      go_wp2_with fail
      go_roundw
      case rel => exact ⟨j + 1, by omega, by go_num, HO2, HK2⟩
      case measure => simp [intOf]; omega
    · have hjn : j = n := by omega
      go_wp2_with fail
      go_ret
      have h := HO.out
      rw [hjn, ← hn.out, List.take_length] at h
      exact ⟨_, rfl, h, HK.out⟩
theorem strB_length (k : Nat) (s : ByteArray) : (Fm.strB k s).length = k + s.size := by unfold Fm.strB; rw [List.length_append, Bm.fix_length, Fm.nums_length]
theorem flat_pairs : ∀ (l : List (ByteArray × ByteArray)), (∀ p ∈ l, p.1.size ≤ 1000 ∧ p.2.size ≤ 1000) → (l.flatMap Fm.pairB).length ≤ 2003 * l.length
  | [], _ => by simp
  | p :: l, h => by
    have ih := flat_pairs l (fun q hq => h q (List.mem_cons_of_mem _ hq))
    have h1 := h p List.mem_cons_self
    rw [List.flatMap_cons, List.length_append, List.length_cons]
    unfold Fm.pairB at ih ⊢
    rw [List.length_append, strB_length, strB_length]
    omega

theorem putpairs_any (base : Nat) (v vl : Value) (xs : List Nat) (l : List (ByteArray × ByteArray)) (w : World) (ok : ∀ p ∈ l, p.1.size ≤ 1000 ∧ p.2.size ≤ 1000) (hl : l.length ≤ 10000000) (hL : Sl fPair w base vl l) (ho : w.ownsRow base 5 1 v xs.length (ints .u8 xs)) (hb : base ≤ w.heap.size) (hx : xs.length ≤ 10000000000) :
    Calls Tryd.prog 46 #[v, vl] w (MadeK base (xs ++ Fm.pairsB l) v w) := by
  obtain ⟨A, c, rfl, TA0, hc, hcm, _⟩ := hL.ex
  unfold maxLen at hcm
  have TA := Lib.hid TA0
  have OK := Lib.hid ok
  have OWN := Lib.hid (own_lt ho)
  have FL := Lib.hid (fun j => flat_pairs (l.take j) (fun p hp => ok p (List.mem_of_mem_take hp)))
  obtain ⟨n, hn⟩ : ∃ n, Hid (l.length = n) := ⟨_, rfl⟩
  rw [hn.out] at hl hc ⊢
  have C := Lib.hid (fixk_any base v xs n 1 w (by omega) (by omega) (by omega) ho hb (by omega))
  rw [show (1 : Int) = ((1 : Nat) : Int) from rfl, Bm.fixI_good (by omega) (by omega)] at C
  have hlen : (xs ++ Bm.fix 1 n).length = xs.length + 1 := by rw [List.length_append, Bm.fix_length]
  obtain ⟨ys, hys⟩ : ∃ ys, Hid (xs ++ Bm.fix 1 n = ys) := ⟨_, rfl⟩
  rw [hys.out] at C hlen
  have hfin : Hid (xs ++ Fm.pairsB l = ys ++ l.flatMap Fm.pairB) := Lib.hid (by rw [← hys.out]; unfold Fm.pairsB; rw [hn.out, List.append_assoc])
  rw [hfin.out]
  have hy : ys.length ≤ 10000000001 := by omega
  clear ho hL TA0 ok
  go_enter Tryd.func46, Tryd.ntmps46
  go_wp2_with fail
  refine (C.out).mono ?_
  rintro e w1 ⟨v1, rfl, ho1, hk1⟩
  have HO1 := Lib.hid ho1
  have HK1 := Lib.hid hk1
  have hs1 := hk1.size
  clear ho1 hk1 hlen
  go_wp2_with fail
  go_loopw [0, 14] (fun vb vi wr => ∃ (j : Nat), j ≤ n ∧ vi = .int .i64 j ∧ Hid (wr.ownsRow base 5 1 vb (ys ++ (l.take j).flatMap Fm.pairB).length (ints .u8 (ys ++ (l.take j).flatMap Fm.pairB))) ∧ Hid (Kept w wr v vb)) (fun _ vi _ => n - (intOf vi).toNat)
  case atStart => exact ⟨0, by omega, rfl, Lib.hid (by simpa using HO1.out), HK1⟩
  case round =>
    obtain ⟨j, hj, rfl, HO, HK⟩ := hrel
    have hsz := HK.out.size
    by_cases hlt : j < n
    · have hia : j < l.length := by rw [hn.out]; exact hlt
      obtain ⟨b1, o1, rfl, _, d0, d1⟩ := (TA.out.below (HK.out.below OWN.out hb)).at_ hia
      obtain ⟨OK1, OK2⟩ := OK.out _ (List.getElem_mem hia)
      have HN := Lib.hid (flat_next Fm.pairB l hia)
      obtain ⟨p, hp⟩ : ∃ p : ByteArray × ByteArray, Hid (l[j] = p) := ⟨l[j], Lib.hid rfl⟩
      obtain ⟨p1, p2⟩ := p
      rw [hp.out] at d0 d1 OK1 OK2
      simp only [fPair] at d0 d1
      simp only at OK1 OK2
      have HN2 := Lib.hid (HN.out _ hp.out)
      obtain ⟨g, u0, ua, u1, hg, hal, ⟨z0, f0⟩, hst0, ⟨z1, f1⟩, hst1, hw1, hz1, hbb⟩ := var2 wr 43 (.string ⟨#[]⟩) (.string ⟨#[]⟩) (.string p1) (.string p2)
      have hlen : (ys ++ (l.take j).flatMap Fm.pairB).length ≤ 50000000000 := by have := FL.out j; rw [List.length_take] at this; rw [List.length_append]; omega
      have P := Lib.hid (putkey_any base _ (ys ++ (l.take j).flatMap Fm.pairB) p1 u1 (by omega) (own_below HO.out (by rw [hg]; exact hbb)) (by omega) (by omega))
      have HU := Lib.hid (HK.out.behind (by rw [hg]; exact hbb))
      have HW1 := Lib.hid hw1
      have hgne := Lib.hid (own_new HO.out)
      rw [hg] at hgne
      have e0 := hw1.at_ 0
      clear HN hw1 hbb
      go_wp2_with fail
      refine (P.out).mono ?_
      rintro e w2 ⟨v2, rfl, ho2, hk2⟩
      have e1 := (HW1.out.kept hk2 hgne.out).at_ 1
      have hlen2 : ((ys ++ (l.take j).flatMap Fm.pairB) ++ Fm.strB 1 p1).length ≤ 100000000000 := by rw [List.length_append, strB_length]; omega
      have P2 := Lib.hid (putval_any base v2 _ p2 w2 (by omega) ho2 (by have := hk2.size; omega) hlen2)
      have HK2 := Lib.hid (HU.out.trans hk2)
      clear ho2 hk2 hlen2
      go_wp2_with fail
      refine (P2.out).mono ?_
      rintro e w3 ⟨v3, rfl, ho3, hk3⟩
      have HO3 : Hid (w3.ownsRow base 5 1 v3 (ys ++ (l.take (j + 1)).flatMap Fm.pairB).length (ints .u8 (ys ++ (l.take (j + 1)).flatMap Fm.pairB))) := Lib.hid (by rw [HN2.out]; unfold Fm.pairB; rw [← List.append_assoc, ← List.append_assoc]; exact ho3)
      have HK3 := Lib.hid (HK2.out.trans hk3)
      clear ho3 hk3
      go_wp2_with fail
      go_roundw
      case rel => exact ⟨j + 1, by omega, by go_num, HO3, HK3⟩
      case measure => simp [intOf]; omega
    · have hjn : j = n := by omega
      go_wp2_with fail
      go_ret
      have h := HO.out
      rw [hjn, ← hn.out, List.take_length] at h
      exact ⟨_, rfl, h, HK.out⟩
end Go.Proofs.YtpfeccbnkgnioaaDoor
