/- The walk of the law RingFirst: it answers true, and nothing that was there has turned. -/
import Derived.Test.YtjkpkailcemjhaaRsort
import Derived.Test.YtjkpkailcemjhaaFrame
namespace Go.Proofs.Ytjkpkailcemjhaa
open Go.RowKit
set_option linter.unusedVariables false

theorem count_next {l : List Nat} {j : Nat} (h : j < l.length) (x : Nat) : (l.take (j + 1)).count x = (l.take j).count x + if l.getD j 0 = x then 1 else 0 := by
  rw [take_next h, List.count_append, List.count_singleton]
  simp
theorem count_small (l : List Nat) (j x : Nat) : (l.take j).count x ≤ j := Nat.le_trans List.count_le_length (by rw [List.length_take]; omega)
theorem getD_mem {l : List Nat} {j : Nat} (h : j < l.length) : l.getD j 0 ∈ l := by
  simp [List.getD, List.getElem?_eq_getElem h]
theorem mem_getD {l : List Nat} {x : Nat} (h : x ∈ l) : ∃ j, j < l.length ∧ l.getD j 0 = x := by
  obtain ⟨j, hj, rfl⟩ := List.getElem_of_mem h
  exact ⟨j, hj, by simp [List.getD, List.getElem?_eq_getElem hj]⟩
/-- the first one in order is the owner -/
theorem first_owner {frm : Nat} {l l3 : List Nat} (hf : frm < 18446744073709551616) (hu : ∀ x ∈ l, x < 18446744073709551616) (h0 : 0 < l.length) (hp : l3.Perm l) (ha : Sm.Asc (Rm.dist frm) 0 l.length l3) : l3.getD 0 0 = l.getD (Rm.best frm l l.length) 0 := by
  have hlen := hp.length_eq
  have hb := Rm.best_lt frm l l.length h0
  have m1 : l3.getD 0 0 ∈ l := hp.mem_iff.1 (getD_mem (by omega))
  have m2 : l.getD (Rm.best frm l l.length) 0 ∈ l3 := hp.mem_iff.2 (getD_mem hb)
  obtain ⟨j1, hj1, e1⟩ := mem_getD m1
  obtain ⟨j2, hj2, e2⟩ := mem_getD m2
  have a1 := Rm.best_min frm l l.length j1 hj1
  have a2 := ha.le (show 0 ≤ 0 by omega) (show 0 ≤ j2 by omega) (show j2 < l.length by omega)
  rw [e1] at a1
  rw [e2] at a2
  exact Rm.dist_inj hf (hu _ m1) (hu _ (getD_mem hb)) (by omega)

set_option maxRecDepth 100000 in
set_option maxHeartbeats 1600000 in
theorem ringFirst_walk (frm : Int) (a : Option Addr) (len cap : Nat) (l : List Nat) (w : World) (wf : (Lit.int .u64 frm).wf = true) (hr : Row .u64 w a len cap l) :
    Calls Try.prog 6 #[.int .u64 frm, .slice a len cap] w fun e w' => e = .returned (.bool true) ∧ Below w.heap.size w w' := by
  obtain ⟨h1, h2⟩ := bounds_u64 wf
  clear wf
  obtain ⟨frm, rfl⟩ := Int.eq_ofNat_of_zero_le h1
  have hf : frm < 18446744073709551616 := by omega
  clear h1 h2
  have Hu := Lib.hid hr.u64
  obtain ⟨hl, hs, _, hle, hmax, hnull⟩ := hr
  have Hl := Lib.hid hl
  have Hs := Lib.hid hs
  have Hnull := Lib.hid hnull
  clear hl hs hnull
  have hlen : len ≤ 9223372036854775807 := by unfold maxLen at hmax; omega
  by_cases hbig : 40 < len
  · go_enter Try.func6, Try.ntmps6
    go_wp2_with fail
    refine (awake3_any _).mono ?_
    rintro e w1 ⟨rfl, hb⟩
    have HB := Lib.hid hb
    clear hb
    go_wp2_with fail
    go_ret
    exact ⟨rfl, HB.out⟩
  · have h40 : ¬ 40 < len := hbig
    have C3 := Lib.hid (sort_any w.heap.size a l len cap frm w Hl.out (by omega) Hnull.out Hs.out (Nat.le_refl _) Hu.out hf)
    go_enter Try.func6, Try.ntmps6
    go_wp2_with fail
    refine C3.out.mono ?_
    rintro e w3 ⟨v3, l3, rfl, ho3, hb3, hp3, ha3⟩
    have Hb3 := Lib.hid hb3
    have Ho3 := Lib.hid ho3
    have Hp3 := Lib.hid hp3
    have Ha3 := Lib.hid ha3
    obtain ⟨A3, c3, rfl⟩ := own_shape Ho3.out
    clear ho3 hb3 hp3 ha3
    have Hlen3 : Hid (l3.length = len) := Lib.hid (by rw [Hp3.out.length_eq]; exact Hl.out)
    have HS3 := Lib.hid (Sees.of_own (by rw [Hlen3.out, ← Hl.out]; exact Ho3.out : w3.ownsRow w.heap.size 22 1 (.slice A3 l.length c3) l3.length (ints .u64 l3)))
    rw [Hl.out] at Ha3 ⊢
    have HF := Lib.hid (fun h0 => first_owner hf Hu.out h0 Hp3.out (by rw [Hl.out]; exact Ha3.out))
    have hbest := Rm.best_lt frm l len
    have C1 := Lib.hid (owner_any w.heap.size a l len cap frm w3 Hl.out (by omega) (Hs.out.below Hb3.out) Hu.out hf)
    unfold Rm.owner at C1
    rw [Hl.out] at C1 HF
    obtain ⟨m, Hm⟩ : ∃ m, Hid (Rm.best frm l len = m) := ⟨_, rfl⟩
    rw [Hm.out] at C1 HF hbest
    by_cases h0 : len = 0
    · subst h0
      rw [if_pos rfl] at C1
      clear hbest HF
      go_wp2_with fail
      refine C1.out.mono ?_
      rintro e w1 ⟨rfl, k1, hw1⟩
      have Hb1 : Hid (Below w.heap.size w w1) := Lib.hid (by rw [hw1]; exact below_drewN Hb3.out k1)
      clear hw1
      go_wp2_with fail
      go_quiet (fail)
      go_wp2_with fail
      go_loopw [7] (fun vi wr => ∃ k, vi = .int .i64 0 ∧ Hid (wr = w1.drewN k)) (fun _ _ => 0)
      case atStart => exact ⟨_, rfl, Lib.hid rfl⟩
      case round =>
        obtain ⟨k, rfl, HW⟩ := hrel
        have Hbr : Hid (Below w.heap.size w wr) := Lib.hid (by rw [HW.out]; exact below_drewN Hb1.out k)
        clear HW
        go_wp2_with fail
        refine (awake3_any _).mono ?_
        rintro e w2 ⟨rfl, hb⟩
        have HB := Lib.hid (Hbr.out.trans (hb.mono Hbr.out.size))
        clear hb
        go_wp2_with fail
        go_ret
        exact ⟨rfl, HB.out⟩
    · rw [if_neg h0] at C1
      have hm1 : m < len := hbest (by omega)
      have HF' := Lib.hid (HF.out (by omega))
      clear hbest HF
      go_wp2_with fail
      refine C1.out.mono ?_
      rintro e w1 ⟨rfl, k1, hw1⟩
      have Hb1 : Hid (Below w.heap.size w w1) := Lib.hid (by rw [hw1]; exact below_drewN Hb3.out k1)
      have HS1 : Hid (Sees .u64 w1 w1.heap.size A3 l3) := Lib.hid (by rw [hw1]; exact HS3.out.below (below_drewN (Below.refl _ _) k1))
      have HI1 : Hid (Sees .u64 w1 w1.heap.size a l) := Lib.hid ((Hs.out.below Hb1.out).more Hb1.out.size)
      clear hw1 HS3
      obtain ⟨g3, o3, rfl, _, hc0⟩ := HS1.out.at_ (i := 0) (by rw [Hlen3.out]; omega)
      obtain ⟨ga, oa, rfl, _, hcm⟩ := HI1.out.at_ (i := m) (by rw [Hl.out]; omega)
      rw [Nat.add_zero, HF'.out] at hc0
      obtain ⟨y, Hy⟩ : ∃ y, Hid (l.getD m 0 = y) := ⟨_, rfl⟩
      rw [Hy.out] at hc0 hcm
      have g1 : ((len : Int) != (len : Int)) = false := by simp
      have g2 : decide ((m : Int) < 0) = false := decide_eq_false (by omega)
      have g3' : ((len : Int) == 0) = false := by simp; omega
      have g4 : decide ((len : Int) ≤ (m : Int)) = false := decide_eq_false (by omega)
      have g4n : decide (len ≤ m) = false := decide_eq_false (by omega)
      have g5 : (0 : Int) ≤ (m : Int) := by omega
      have g6 : (m : Int) < (len : Int) := by omega
      have g7 : (0 : Int) < (len : Int) := by omega
      have g8 : ((y : Int) != (y : Int)) = false := by simp
      go_wp2_with fail
      go_quiet (fail)
      clear hc0 hcm g1 g2 g3' g4 g4n g5 g6 g8
      go_wp2_with fail
      go_loopw [7] (fun vi wr => ∃ (i k : Nat), vi = .int .i64 i ∧ i ≤ len ∧ Hid (wr = w1.drewN k)) (fun vi _ => len - (intOf vi).toNat)
      case atStart => exact ⟨0, _, rfl, by omega, Lib.hid rfl⟩
      case round =>
        obtain ⟨i, k, rfl, hi, HW⟩ := hrel
        have Hwr : Hid (Below w1.heap.size w1 wr) := Lib.hid (by rw [HW.out]; exact below_drewN (Below.refl _ _) k)
        by_cases hlt : i < len
        · obtain ⟨x, Hx⟩ : ∃ x, Hid (l.getD i 0 = x) := ⟨_, rfl⟩
          go_wp2_with fail
          go_loopw [8, 9, 10] (fun vh vt vj wr => ∃ (hh tt j k : Nat), vh = .int .i64 hh ∧ vt = .int .i64 tt ∧ vj = .int .i64 j ∧ j ≤ len ∧ hh ≤ j ∧ tt ≤ j ∧ Hid (hh = (l3.take j).count x) ∧ Hid (tt = (l.take j).count x) ∧ Hid (wr = w1.drewN k)) (fun _ _ vj _ => len - (intOf vj).toNat)
          case atStart => exact ⟨0, 0, 0, k, rfl, rfl, rfl, by omega, by omega, by omega, Lib.hid (by simp), Lib.hid (by simp), HW⟩
          case round =>
            clear HW Hwr
            obtain ⟨hh, tt, j, k, rfl, rfl, rfl, hj, hhj, htj, HH, HT, HW⟩ := hrel
            have Hwr : Hid (Below w1.heap.size w1 wr) := Lib.hid (by rw [HW.out]; exact below_drewN (Below.refl _ _) k)
            obtain ⟨ga2, oa2, e2, _, hci⟩ := (HI1.out.below Hwr.out).at_ (i := i) (by rw [Hl.out]; exact hlt)
            injection e2 with e2
            injection e2 with e3 e4 _
            subst e3 e4
            rw [Hx.out] at hci
            have hi0 : (0 : Int) ≤ (i : Int) := by omega
            have hi1 : (i : Int) < (len : Int) := by omega
            by_cases hjl : j < len
            · obtain ⟨ga3, oa3, e5, _, hcj⟩ := (HI1.out.below Hwr.out).at_ (i := j) (by rw [Hl.out]; exact hjl)
              injection e5 with e5
              injection e5 with e6 e7 _
              subst e6 e7
              obtain ⟨y, Hy⟩ : ∃ y, Hid (l.getD j 0 = y) := ⟨_, rfl⟩
              obtain ⟨z, Hz⟩ : ∃ z, Hid (l3.getD j 0 = z) := ⟨_, rfl⟩
              rw [Hy.out] at hcj
              have hj0 : (0 : Int) ≤ (j : Int) := by omega
              have hj1 : (j : Int) < (len : Int) := by omega
              by_cases hyx : y = x
              · by_cases hzx : z = x
                · have HT' : Hid (tt + 1 = (l.take (j + 1)).count x) := Lib.hid (by rw [count_next (by rw [Hl.out]; exact hjl) x, if_pos (by rw [Hy.out]; exact hyx), ← HT.out])
                  have HH' : Hid (hh + 1 = (l3.take (j + 1)).count x) := Lib.hid (by rw [count_next (by rw [Hlen3.out]; exact hjl) x, if_pos (by rw [Hz.out]; exact hzx), ← HH.out])
                  have q1 : ((y : Int) == (x : Int)) = true := by simp; omega
                  have q2 : ((z : Int) == (x : Int)) = true := by simp; omega
                  have Hyx := Lib.hid hyx
                  have Hzx := Lib.hid hzx
                  clear HT HH hyx hzx
                  go_wp2_with fail
                  go_quiet (fail)
                  have HW1 : Hid (wr.drewN nq = w1.drewN (k + nq)) := Lib.hid (by rw [HW.out, World.drewN_drewN])
                  have Hwr1 := Lib.hid (below_drewN Hwr.out nq)
                  clear HW Hwr hci hcj
                  generalize wr.drewN nq = wr at *
                  have HW := HW1
                  have Hwr := Hwr1
                  clear HW1 Hwr1
                  obtain ⟨ga3, oa3, e5, _, hci⟩ := (HI1.out.below Hwr.out).at_ (i := i) (by rw [Hl.out]; exact hlt)
                  injection e5 with e5
                  injection e5 with e6 e7 _
                  subst e6 e7
                  rw [Hx.out] at hci
                  obtain ⟨g4, o4, e8, _, hcz⟩ := (HS1.out.below Hwr.out).at_ (i := j) (by rw [Hlen3.out]; exact hjl)
                  injection e8 with e8
                  injection e8 with e9 e10 _
                  subst e9 e10
                  rw [Hz.out] at hcz
                  go_wp2_with fail
                  go_quiet (fail)
                  go_wp2_with fail
                  go_roundw
                  case rel => exact ⟨hh + 1, tt + 1, j + 1, _, by go_num, by go_num, by go_num, hjl, by omega, by omega, HH', HT', Lib.hid (by rw [HW.out, World.drewN_drewN])⟩
                  case measure => go_light; simp [intOf]; omega
                · have HT' : Hid (tt + 1 = (l.take (j + 1)).count x) := Lib.hid (by rw [count_next (by rw [Hl.out]; exact hjl) x, if_pos (by rw [Hy.out]; exact hyx), ← HT.out])
                  have HH' : Hid (hh = (l3.take (j + 1)).count x) := Lib.hid (by rw [count_next (by rw [Hlen3.out]; exact hjl) x, if_neg (by rw [Hz.out]; exact hzx), ← HH.out, Nat.add_zero])
                  have q1 : ((y : Int) == (x : Int)) = true := by simp; omega
                  have q2 : ((z : Int) == (x : Int)) = false := by simp; omega
                  have Hyx := Lib.hid hyx
                  have Hzx := Lib.hid hzx
                  clear HT HH hyx hzx
                  go_wp2_with fail
                  go_quiet (fail)
                  have HW1 : Hid (wr.drewN nq = w1.drewN (k + nq)) := Lib.hid (by rw [HW.out, World.drewN_drewN])
                  have Hwr1 := Lib.hid (below_drewN Hwr.out nq)
                  clear HW Hwr hci hcj
                  generalize wr.drewN nq = wr at *
                  have HW := HW1
                  have Hwr := Hwr1
                  clear HW1 Hwr1
                  obtain ⟨ga3, oa3, e5, _, hci⟩ := (HI1.out.below Hwr.out).at_ (i := i) (by rw [Hl.out]; exact hlt)
                  injection e5 with e5
                  injection e5 with e6 e7 _
                  subst e6 e7
                  rw [Hx.out] at hci
                  obtain ⟨g4, o4, e8, _, hcz⟩ := (HS1.out.below Hwr.out).at_ (i := j) (by rw [Hlen3.out]; exact hjl)
                  injection e8 with e8
                  injection e8 with e9 e10 _
                  subst e9 e10
                  rw [Hz.out] at hcz
                  go_wp2_with fail
                  go_quiet (fail)
                  go_wp2_with fail
                  go_roundw
                  case rel => exact ⟨hh, tt + 1, j + 1, _, by go_num, by go_num, by go_num, hjl, by omega, by omega, HH', HT', Lib.hid (by rw [HW.out, World.drewN_drewN])⟩
                  case measure => go_light; simp [intOf]; omega
              · by_cases hzx : z = x
                · have HT' : Hid (tt = (l.take (j + 1)).count x) := Lib.hid (by rw [count_next (by rw [Hl.out]; exact hjl) x, if_neg (by rw [Hy.out]; exact hyx), ← HT.out, Nat.add_zero])
                  have HH' : Hid (hh + 1 = (l3.take (j + 1)).count x) := Lib.hid (by rw [count_next (by rw [Hlen3.out]; exact hjl) x, if_pos (by rw [Hz.out]; exact hzx), ← HH.out])
                  have q1 : ((y : Int) == (x : Int)) = false := by simp; omega
                  have q2 : ((z : Int) == (x : Int)) = true := by simp; omega
                  have Hyx := Lib.hid hyx
                  have Hzx := Lib.hid hzx
                  clear HT HH hyx hzx
                  go_wp2_with fail
                  go_quiet (fail)
                  have HW1 : Hid (wr.drewN nq = w1.drewN (k + nq)) := Lib.hid (by rw [HW.out, World.drewN_drewN])
                  have Hwr1 := Lib.hid (below_drewN Hwr.out nq)
                  clear HW Hwr hci hcj
                  generalize wr.drewN nq = wr at *
                  have HW := HW1
                  have Hwr := Hwr1
                  clear HW1 Hwr1
                  obtain ⟨ga3, oa3, e5, _, hci⟩ := (HI1.out.below Hwr.out).at_ (i := i) (by rw [Hl.out]; exact hlt)
                  injection e5 with e5
                  injection e5 with e6 e7 _
                  subst e6 e7
                  rw [Hx.out] at hci
                  obtain ⟨g4, o4, e8, _, hcz⟩ := (HS1.out.below Hwr.out).at_ (i := j) (by rw [Hlen3.out]; exact hjl)
                  injection e8 with e8
                  injection e8 with e9 e10 _
                  subst e9 e10
                  rw [Hz.out] at hcz
                  go_wp2_with fail
                  go_quiet (fail)
                  go_wp2_with fail
                  go_roundw
                  case rel => exact ⟨hh + 1, tt, j + 1, _, by go_num, by go_num, by go_num, hjl, by omega, by omega, HH', HT', Lib.hid (by rw [HW.out, World.drewN_drewN])⟩
                  case measure => go_light; simp [intOf]; omega
                · have HT' : Hid (tt = (l.take (j + 1)).count x) := Lib.hid (by rw [count_next (by rw [Hl.out]; exact hjl) x, if_neg (by rw [Hy.out]; exact hyx), ← HT.out, Nat.add_zero])
                  have HH' : Hid (hh = (l3.take (j + 1)).count x) := Lib.hid (by rw [count_next (by rw [Hlen3.out]; exact hjl) x, if_neg (by rw [Hz.out]; exact hzx), ← HH.out, Nat.add_zero])
                  have q1 : ((y : Int) == (x : Int)) = false := by simp; omega
                  have q2 : ((z : Int) == (x : Int)) = false := by simp; omega
                  have Hyx := Lib.hid hyx
                  have Hzx := Lib.hid hzx
                  clear HT HH hyx hzx
                  go_wp2_with fail
                  go_quiet (fail)
                  have HW1 : Hid (wr.drewN nq = w1.drewN (k + nq)) := Lib.hid (by rw [HW.out, World.drewN_drewN])
                  have Hwr1 := Lib.hid (below_drewN Hwr.out nq)
                  clear HW Hwr hci hcj
                  generalize wr.drewN nq = wr at *
                  have HW := HW1
                  have Hwr := Hwr1
                  clear HW1 Hwr1
                  obtain ⟨ga3, oa3, e5, _, hci⟩ := (HI1.out.below Hwr.out).at_ (i := i) (by rw [Hl.out]; exact hlt)
                  injection e5 with e5
                  injection e5 with e6 e7 _
                  subst e6 e7
                  rw [Hx.out] at hci
                  obtain ⟨g4, o4, e8, _, hcz⟩ := (HS1.out.below Hwr.out).at_ (i := j) (by rw [Hlen3.out]; exact hjl)
                  injection e8 with e8
                  injection e8 with e9 e10 _
                  subst e9 e10
                  rw [Hz.out] at hcz
                  go_wp2_with fail
                  go_quiet (fail)
                  go_wp2_with fail
                  go_roundw
                  case rel => exact ⟨hh, tt, j + 1, _, by go_num, by go_num, by go_num, hjl, by omega, by omega, HH', HT', Lib.hid (by rw [HW.out, World.drewN_drewN])⟩
                  case measure => go_light; simp [intOf]; omega
            · have hjn : j = len := by omega
              have hcnt : hh = tt := by
                rw [HH.out, HT.out, List.take_of_length_le (by rw [Hlen3.out]; omega), List.take_of_length_le (by rw [Hl.out]; omega)]
                exact Hp3.out.count_eq x
              subst hcnt
              have q1 : ((hh : Int) != (hh : Int)) = false := by simp
              clear HH HT hci
              by_cases hip : 0 < i
              · obtain ⟨p, Hp⟩ : ∃ p, Hid (i - 1 = p) := ⟨_, rfl⟩
                have hpi : p < i := by have := Hp.out; omega
                have e5 : (i : Int) - 1 = (p : Int) := by have := Hp.out; omega
                obtain ⟨g4, o4, e8, _, hcp⟩ := (HS1.out.below Hwr.out).at_ (i := p) (by rw [Hlen3.out]; omega)
                injection e8 with e8
                injection e8 with e9 e10 _
                subst e9 e10
                obtain ⟨g4, o4, e8, _, hcq⟩ := (HS1.out.below Hwr.out).at_ (i := i) (by rw [Hlen3.out]; omega)
                injection e8 with e8
                injection e8 with e9 e10 _
                subst e9 e10
                have hu3 : ∀ x ∈ l3, x < 18446744073709551616 := fun x hx => Hu.out x (Hp3.out.mem_iff.1 hx)
                have hyb := getD_u64 hu3 p
                have hzb := getD_u64 hu3 i
                have hord := Ha3.out p i (by omega) hpi hlt
                clear hu3
                obtain ⟨y, Hy⟩ : ∃ y, Hid (l3.getD p 0 = y) := ⟨_, rfl⟩
                obtain ⟨z, Hz⟩ : ∃ z, Hid (l3.getD i 0 = z) := ⟨_, rfl⟩
                rw [Hy.out] at hcp hyb hord
                rw [Hz.out] at hcq hzb hord
                have hdy := Rm.dist_lt frm y
                have hdz := Rm.dist_lt frm z
                have q2 : decide (Rm.dist frm z < Rm.dist frm y) = false := decide_eq_false (by omega)
                have q3 : decide ((Rm.dist frm z : Int) < (Rm.dist frm y : Int)) = false := decide_eq_false (by omega)
                have q4 : (0 : Int) < (i : Int) := by omega
                have q5 : (p : Int) < (len : Int) := by omega
                have q6 : (0 : Int) ≤ (p : Int) := by omega
                go_wp2_with fail
                go_quiet (first | with_reducible exact Calls.quiet_of_same (dist_same frm y _ hf hyb) | with_reducible exact Calls.quiet_of_same (dist_same frm z _ hf hzb))
                go_wp2_with fail
                go_roundw
                case rel => exact ⟨i + 1, _, by go_num, hlt, Lib.hid (by rw [HW.out, World.drewN_drewN])⟩
                case measure => go_light; simp [intOf]; omega
              · have q2 : decide ((0 : Int) < (i : Int)) = false := decide_eq_false (by omega)
                have q3 : decide (0 < i) = false := decide_eq_false (by omega)
                go_wp2_with fail
                go_quiet (fail)
                go_wp2_with fail
                go_roundw
                case rel => exact ⟨i + 1, _, by go_num, hlt, Lib.hid (by rw [HW.out, World.drewN_drewN])⟩
                case measure => go_light; simp [intOf]; omega
        · have Hbr : Hid (Below w.heap.size w wr) := Lib.hid (by rw [HW.out]; exact below_drewN Hb1.out k)
          clear HW
          go_wp2_with fail
          refine (awake3_any _).mono ?_
          rintro e w2 ⟨rfl, hb⟩
          have HB := Lib.hid (Hbr.out.trans (hb.mono Hbr.out.size))
          clear hb
          go_wp2_with fail
          go_ret
          exact ⟨rfl, HB.out⟩
end Go.Proofs.Ytjkpkailcemjhaa
