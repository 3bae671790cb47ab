/- The walk of the law RingOrders: it answers true, and nothing that was there has turned. -/
import Derived.Test.YtjkpkailcemjhaaRefSort
import Derived.Test.YtjkpkailcemjhaaSame
import Derived.Test.YtjkpkailcemjhaaFrame
namespace Go.Proofs.Ytjkpkailcemjhaa
open Go.RowKit
set_option linter.unusedVariables false

/-- two rows of the same numbers in order are one -/
theorem order_one {frm : Nat} {l l1 l2 : List Nat} (hf : frm < 18446744073709551616) (hu : ∀ x ∈ l, x < 18446744073709551616) (h1 : l1.Perm l) (h2 : l2.Perm l) (a1 : Sm.Asc (Rm.dist frm) 0 l.length l1) (a2 : Sm.Asc (Rm.dist frm) 0 l.length l2) : l1 = l2 := by
  refine Sm.sorted_unique (k := Rm.dist frm) (fun x hx y hy h => Rm.dist_inj hf (hu x (h1.mem_iff.1 hx)) (hu y (h1.mem_iff.1 hy)) h) (h1.trans h2.symm) (Sm.asc_sorted ?_) (Sm.asc_sorted ?_)
  · rw [h1.length_eq]; exact a1
  · rw [h2.length_eq]; exact a2

set_option maxRecDepth 100000 in
set_option maxHeartbeats 800000 in
theorem ringOrders_walk (frm : Int) (a : Option Addr) (len cap : Nat) (l : List Nat) (w : World) (wf : (Lit.int .u64 frm).wf = true) (hr : Row .u64 w a len cap l) :
    Calls Try.prog 4 #[.int .u64 frm, .slice a len cap] w fun e w' => e = .returned (.bool true) ∧ Below w.heap.size w w' := by
  obtain ⟨h1, h2⟩ := bounds_u64 wf
  clear wf
  obtain ⟨frm, rfl⟩ := Int.eq_ofNat_of_zero_le h1
  have hf : frm < 18446744073709551616 := by omega
  clear h1 h2
  have Hu := Lib.hid hr.u64
  obtain ⟨hl, hs, _, hle, hmax, hnull⟩ := hr
  have Hl := Lib.hid hl
  have Hs := Lib.hid hs
  have Hnull := Lib.hid hnull
  clear hl hs hnull
  have hlen : len ≤ 9223372036854775807 := by unfold maxLen at hmax; omega
  by_cases hbig : 40 < len
  · go_enter Try.func4, Try.ntmps4
    go_wp2_with fail
    refine (awake3_any _).mono ?_
    rintro e w1 ⟨rfl, hb⟩
    have HB := Lib.hid hb
    clear hb
    go_wp2_with fail
    go_ret
    exact ⟨rfl, HB.out⟩
  · have h40 : ¬ 40 < len := hbig
    have C1 := Lib.hid (owner_any w.heap.size a l len cap frm w Hl.out (by omega) Hs.out Hu.out hf)
    obtain ⟨o, Ho⟩ : ∃ o, Hid (Rm.owner frm l = o) := ⟨_, rfl⟩
    rw [Ho.out] at C1
    go_enter Try.func4, Try.ntmps4
    go_wp2_with fail
    refine C1.out.mono ?_
    rintro e w1 ⟨rfl, k1, hw1⟩
    have Hb1 : Hid (Below w.heap.size w w1) := Lib.hid (by rw [hw1]; exact below_drewN (Below.refl _ _) k1)
    clear hw1
    have C2 := Lib.hid (ownerr_any w.heap.size a l len cap frm w1 Hl.out (by omega) (Hs.out.below Hb1.out) Hu.out hf)
    rw [Ho.out] at C2
    go_wp2_with fail
    refine C2.out.mono ?_
    rintro e w2 ⟨rfl, k2, hw2⟩
    have Hb2 : Hid (Below w.heap.size w w2) := Lib.hid (by rw [hw2]; exact below_drewN Hb1.out k2)
    clear hw2 Hb1
    have C3 := Lib.hid (sort_any w.heap.size a l len cap frm w2 Hl.out (by omega) Hnull.out (Hs.out.below Hb2.out) Hb2.out.size Hu.out hf)
    go_wp2_with fail
    refine C3.out.mono ?_
    rintro e w3 ⟨v3, l3, rfl, ho3, hb3, hp3, ha3⟩
    have Hb3 := Lib.hid (Hb2.out.trans (hb3.mono Hb2.out.size))
    have C4 := Lib.hid (sortr_any w3.heap.size w.heap.size a l len cap frm w3 Hl.out (by omega) (Hs.out.below Hb3.out) Hb3.out.size (Nat.le_refl _) Hu.out hf)
    have Ho3 := Lib.hid ho3
    have Hp3 := Lib.hid hp3
    have Ha3 := Lib.hid ha3
    obtain ⟨A3, c3, rfl⟩ := own_shape Ho3.out
    clear ho3 hb3 hp3 ha3
    rw [Hl.out] at Ho3 ⊢
    go_wp2_with fail
    refine C4.out.mono ?_
    rintro e w4 ⟨v4, l4, rfl, hq4⟩
    have Hq4 := Lib.hid hq4
    clear hq4
    have HE : Hid (l4 = l3) := by
      have hp := Hq4.out.perm
      rw [List.take_of_length_le (by rw [Hl.out]; exact Nat.le_refl _)] at hp
      exact Lib.hid (order_one hf Hu.out hp Hp3.out (by rw [Hl.out]; exact Hq4.out.asc) Ha3.out)
    have Hlen3 : Hid (l3.length = len) := Lib.hid (by rw [Hp3.out.length_eq]; exact Hl.out)
    have HS3 := Lib.hid (Sees.of_own (by rw [Hlen3.out]; exact own_below Ho3.out Hq4.out.below : w4.ownsRow w2.heap.size 22 1 (.slice A3 len c3) l3.length (ints .u64 l3)))
    obtain ⟨A4, c4, rfl⟩ := own_shape Hq4.out.own
    have HS4 := Lib.hid (Sees.of_own (by rw [Hlen3.out]; have := Hq4.out.own; rw [HE.out] at this; exact this : w4.ownsRow w3.heap.size 22 1 (.slice A4 len c4) l3.length (ints .u64 l3)))
    have Hb4 := Lib.hid (Hb3.out.trans (Hq4.out.below.mono Hb3.out.size))
    have C5 := Lib.hid (same_any l3 len Hlen3.out (by omega) w4.heap.size A3 A4 c3 c4 w4 HS3.out HS4.out)
    go_wp2_with fail
    refine C5.out.mono ?_
    rintro e w5 ⟨rfl, k5, hw5⟩
    have Hb5 : Hid (Below w.heap.size w w5) := Lib.hid (by rw [hw5]; exact below_drewN Hb4.out k5)
    clear hw5
    go_wp2_with fail
    refine (awake3_any _).mono ?_
    rintro e w6 ⟨rfl, hb⟩
    have HB := Lib.hid (Hb5.out.trans (hb.mono Hb5.out.size))
    clear hb
    go_wp2_with fail
    go_ret
    exact ⟨rfl, HB.out⟩
end Go.Proofs.Ytjkpkailcemjhaa
