/- Contracts of the functions of layer 9 that write: what has a length, peers, pairs. -/
import Derived.Test.YtpfeccbnkgnioaaDoorKeep
import Derived.Test.YtpfeccbnkgnioaaDoorFm2
namespace Go.Proofs.YtpfeccbnkgnioaaDoor
open Go.RowKit
set_option linter.unusedVariables false
set_option maxRecDepth 100000
open Gm

theorem puthas_any (base : Nat) (v : Value) (xs : List Nat) (h : Bool) (w : World) (ho : w.ownsRow base 5 1 v xs.length (ints .u8 xs)) (hb : base ≤ w.heap.size) (hx : xs.length ≤ 1000000000000) :
    Calls Tryd.prog 41 #[v, .bool h] w (MadeK base (xs ++ Fm.hasB h) v w) := by
  have C1 := Lib.hid (fixk_any base v xs 1 1 w (by omega) (by omega) (by omega) ho hb hx)
  have C0 := Lib.hid (fixk_any base v xs 0 1 w (by omega) (by omega) (by omega) ho hb hx)
  rw [show Bm.fixI 1 1 = Fm.hasB true by rfl] at C1
  rw [show Bm.fixI 0 1 = Fm.hasB false by rfl] at C0
  clear ho
  cases h with
  | true =>
    clear C0
    go_enter Tryd.func41, Tryd.ntmps41
    go_wp2_with fail
    refine (C1.out).mono ?_
    rintro e w1 ⟨v1, rfl, ho1, hk1⟩
    have HO := Lib.hid ho1
    have HK := Lib.hid hk1
    clear ho1 hk1
    go_wp2_with fail
    go_ret
    exact ⟨_, rfl, HO.out, HK.out⟩
  | false =>
    clear C1
    go_enter Tryd.func41, Tryd.ntmps41
    go_wp2_with fail
    refine (C0.out).mono ?_
    rintro e w1 ⟨v1, rfl, ho1, hk1⟩
    have HO := Lib.hid ho1
    have HK := Lib.hid hk1
    clear ho1 hk1
    go_wp2_with fail
    go_ret
    exact ⟨_, rfl, HO.out, HK.out⟩

/-- a struct of two cells that is boxed -/
theorem boxed2 (w : World) (t : TypeId) (x y : Value) : ∃ b w0, w.heap.size = b ∧ w.alloc (.cells #[x, y] t) = w0 ∧ w0.heap.size = b + 1 ∧ Whole w0 b t #[x, y] ∧ Below b w w0 :=
  ⟨_, _, rfl, rfl, by simp, Whole.made _ _ _, (Below.refl _ _).alloc (Nat.le_refl _) _⟩

theorem putpeer_any (base : Nat) (v : Value) (xs : List Nat) (p q : Nat) (w : World) (hp : p < 18446744073709551616) (hq : q < 65536) (ho : w.ownsRow base 5 1 v xs.length (ints .u8 xs)) (hb : base ≤ w.heap.size) (hx : xs.length ≤ 100000000000) :
    Calls Tryd.prog 43 #[v, .agg #[.int .u64 (p : Int), .int .u16 (q : Int)]] w (MadeK base (xs ++ Fm.peerB (p, q)) v w) := by
  obtain ⟨b, w0, hs, hal, hs0, hw0, hb0⟩ := boxed2 w 26 (.int .u64 (p : Int)) (.int .u16 (q : Int))
  have ho0 : w0.ownsRow base 5 1 v xs.length (ints .u8 xs) := own_below ho (by rw [hs]; exact hb0)
  have hne : v.ownBlock ≠ some b := by rw [← hs]; exact own_new ho
  have c0 := hw0.at_ 0
  have C := Lib.hid (fixk_any base v xs p 8 w0 hp (by omega) (by omega) ho0 (by omega) (by omega))
  rw [show (8 : Int) = ((8 : Nat) : Int) from rfl, Bm.fixI_good (by omega) (by omega)] at C
  have HW := Lib.hid hw0
  have HB : Hid (Kept w w0 v v) := Lib.hid (Kept.of_below (by rw [hs]; exact hb0) v)
  have HNE := Lib.hid hne
  have hl : (xs ++ Bm.fix 8 p).length ≤ 100000000008 := by rw [List.length_append, Bm.fix_length]; omega
  obtain ⟨ys, hys⟩ : ∃ ys, Hid (xs ++ Bm.fix 8 p = ys) := ⟨_, rfl⟩
  rw [hys.out] at C hl
  have hfin : Hid (xs ++ Fm.peerB (p, q) = ys ++ Bm.fix 2 q) := Lib.hid (by rw [← hys.out]; unfold Fm.peerB; rw [List.append_assoc])
  rw [hfin.out]
  clear ho ho0 hw0 hb0 hne
  go_enter Tryd.func43, Tryd.ntmps43
  go_wp2_with fail
  refine (C.out).mono ?_
  rintro e w1 ⟨v1, rfl, ho1, hk1⟩
  have c1 := (HW.out.kept hk1 HNE.out).at_ 1
  have C2 := Lib.hid (fixk_any base v1 ys q 2 w1 (by omega) (by omega) (by omega) ho1 (by have := hk1.size; omega) (by omega))
  rw [show (2 : Int) = ((2 : Nat) : Int) from rfl, Bm.fixI_good (by omega) (by omega)] at C2
  have HK1 := Lib.hid (HB.out.trans hk1)
  clear ho1 hk1
  go_wp2_with fail
  refine (C2.out).mono ?_
  rintro e w2 ⟨v2, rfl, ho2, hk2⟩
  have HO := Lib.hid ho2
  have HK := Lib.hid (HK1.out.trans hk2)
  clear ho2 hk2
  go_wp2_with fail
  go_ret
  exact ⟨_, rfl, HO.out, HK.out⟩

theorem putkey_any (base : Nat) (v : Value) (xs : List Nat) (s : ByteArray) (w : World) (hs : s.size ≤ 1000000000) (ho : w.ownsRow base 5 1 v xs.length (ints .u8 xs)) (hb : base ≤ w.heap.size) (hx : xs.length ≤ 100000000000) :
    Calls Tryd.prog 44 #[v, .string s] w (MadeK base (xs ++ Fm.strB 1 s) v w) := by
  have T := Txt.nums s
  have Hlen := Fm.nums_length s
  obtain ⟨n, hn⟩ : ∃ n, Hid (s.size = n) := ⟨_, rfl⟩
  have hsz : s.size = n := hn.out
  have C := Lib.hid (fixk_any base v xs n 1 w (by omega) (by omega) (by omega) ho hb (by omega))
  rw [show (1 : Int) = ((1 : Nat) : Int) from rfl, Bm.fixI_good (by omega) (by omega)] at C
  have hl : (xs ++ Bm.fix 1 n).length = xs.length + 1 := by rw [List.length_append, Bm.fix_length]
  obtain ⟨q, hq⟩ : ∃ q, Hid ((xs ++ Bm.fix 1 n).length = q) := ⟨_, rfl⟩
  have hq1 : q ≤ 100000000001 := by rw [← hq.out, hl]; omega
  rw [hq.out] at hl
  have hln : (nums s).length = n := by rw [Hlen, hsz]
  have hfin : Hid (xs ++ Fm.strB 1 s = (xs ++ Bm.fix 1 n) ++ nums s) := Lib.hid (by unfold Fm.strB; rw [hsz, List.append_assoc])
  rw [hfin.out]
  have HT := Lib.hid T
  clear ho T Hlen
  rw [hsz] at hs
  go_enter Tryd.func44, Tryd.ntmps44
  go_wp2_with fail
  refine (C.out).mono ?_
  rintro e w1 ⟨v1, rfl, ho1, hk1⟩
  rw [hq.out] at ho1
  have HO1 := Lib.hid ho1
  have HK1 := Lib.hid hk1
  have hb1 : base ≤ w1.heap.size := by have := hk1.size; omega
  clear ho1 hk1
  go_wp2_with (at_builtin; refine wpList_append_strk _ _ rfl rfl base _ q (ints .u8 (xs ++ Bm.fix 1 n)) rfl HO1.out HT.out rfl n hln (by omega) hb1 ?_; intro v2 w2 ho2 hk2)
  have HO2 := Lib.hid ho2
  have HK2 := Lib.hid (HK1.out.trans hk2)
  clear ho2 hk2
  go_ret
  refine ⟨_, rfl, ?_, HK2.out⟩
  have h := HO2.out
  rw [← ints_append] at h
  rw [List.length_append, hq.out, hln]
  exact h
theorem putval_any (base : Nat) (v : Value) (xs : List Nat) (s : ByteArray) (w : World) (hs : s.size ≤ 1000000000) (ho : w.ownsRow base 5 1 v xs.length (ints .u8 xs)) (hb : base ≤ w.heap.size) (hx : xs.length ≤ 100000000000) :
    Calls Tryd.prog 45 #[v, .string s] w (MadeK base (xs ++ Fm.strB 2 s) v w) := by
  have T := Txt.nums s
  have Hlen := Fm.nums_length s
  obtain ⟨n, hn⟩ : ∃ n, Hid (s.size = n) := ⟨_, rfl⟩
  have hsz : s.size = n := hn.out
  have C := Lib.hid (fixk_any base v xs n 2 w (by omega) (by omega) (by omega) ho hb (by omega))
  rw [show (2 : Int) = ((2 : Nat) : Int) from rfl, Bm.fixI_good (by omega) (by omega)] at C
  have hl : (xs ++ Bm.fix 2 n).length = xs.length + 2 := by rw [List.length_append, Bm.fix_length]
  obtain ⟨q, hq⟩ : ∃ q, Hid ((xs ++ Bm.fix 2 n).length = q) := ⟨_, rfl⟩
  have hq1 : q ≤ 100000000002 := by rw [← hq.out, hl]; omega
  rw [hq.out] at hl
  have hln : (nums s).length = n := by rw [Hlen, hsz]
  have hfin : Hid (xs ++ Fm.strB 2 s = (xs ++ Bm.fix 2 n) ++ nums s) := Lib.hid (by unfold Fm.strB; rw [hsz, List.append_assoc])
  rw [hfin.out]
  have HT := Lib.hid T
  clear ho T Hlen
  rw [hsz] at hs
  go_enter Tryd.func45, Tryd.ntmps45
  go_wp2_with fail
  refine (C.out).mono ?_
  rintro e w1 ⟨v1, rfl, ho1, hk1⟩
  rw [hq.out] at ho1
  have HO1 := Lib.hid ho1
  have HK1 := Lib.hid hk1
  have hb1 : base ≤ w1.heap.size := by have := hk1.size; omega
  clear ho1 hk1
  go_wp2_with (at_builtin; refine wpList_append_strk _ _ rfl rfl base _ q (ints .u8 (xs ++ Bm.fix 2 n)) rfl HO1.out HT.out rfl n hln (by omega) hb1 ?_; intro v2 w2 ho2 hk2)
  have HO2 := Lib.hid ho2
  have HK2 := Lib.hid (HK1.out.trans hk2)
  clear ho2 hk2
  go_ret
  refine ⟨_, rfl, ?_, HK2.out⟩
  have h := HO2.out
  rw [← ints_append] at h
  rw [List.length_append, hq.out, hln]
  exact h
end Go.Proofs.YtpfeccbnkgnioaaDoor
