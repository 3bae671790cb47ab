/- Contracts of the closures over pairs, of slices.IndexFunc, ContainsFunc with them, of msg.anyPair, isLong. -/
import Derived.Test.YtpfeccbnkgnioaaDoorKey8
import Derived.Test.YtpfeccbnkgnioaaDoorEq8
namespace Go.Proofs.YtpfeccbnkgnioaaDoor
open Go.RowKit
set_option linter.unusedVariables false
set_option maxRecDepth 100000
open Gm

/-- a key that is none; a value that is too long -/
def bad1 (p : ByteArray × ByteArray) : Bool := !isKey p.1
def long1 (p : ByteArray × ByteArray) : Bool := decide (512 < p.2.size)

set_option maxRecDepth 100000 in
theorem clo_bad (k v : ByteArray) (hk : k.size ≤ maxLen) (hv : v.size ≤ maxLen) (w : World) :
    Calls Tryd.prog 37 #[.agg #[.string k, .string v]] w fun e w' => e = .returned (.bool (bad1 (k, v))) ∧ Below w.heap.size w w' := by
  have hb0 : ∀ o, Below w.heap.size w (w.alloc o) := fun o => (Below.refl _ _).alloc (Nat.le_refl _) o
  have HB := Lib.hid hb0
  clear hb0
  go_enter Tryd.func37, Tryd.ntmps37
  go_wp2_with fail
  refine (key_any k hk _).mono ?_
  rintro e w1 ⟨rfl, hb1⟩
  have HB1 := Lib.hid ((HB.out _).trans (hb1.mono (by simp)))
  clear hb1
  go_wp2_with fail
  go_ret
  exact ⟨rfl, HB1.out⟩

theorem clo_long (k v : ByteArray) (hk : k.size ≤ maxLen) (hv : v.size ≤ maxLen) (w : World) :
    Calls Tryd.prog 70 #[.agg #[.string k, .string v]] w fun e w' => e = .returned (.bool (long1 (k, v))) ∧ Below w.heap.size w w' := by
  have hb0 : ∀ o, Below w.heap.size w (w.alloc o) := fun o => (Below.refl _ _).alloc (Nat.le_refl _) o
  have HB := Lib.hid hb0
  unfold maxLen at hv
  clear hb0
  go_enter Tryd.func70, Tryd.ntmps70
  go_wp2_with fail
  go_ret
  refine ⟨ret_bool ?_, HB.out _⟩
  unfold long1
  rw [Bool.eq_iff_iff]
  simp
  try omega

set_option maxRecDepth 100000 in
theorem idx_bad {w : World} {B : Nat} {v : Value} {l : List (ByteArray × ByteArray)} (h : Sl fPair w B v l) (ok : ∀ p ∈ l, p.1.size ≤ maxLen ∧ p.2.size ≤ maxLen) :
    Calls Tryd.prog 79 #[v, .func (.func 37) #[] #[]] w fun e w' => ∃ k : Int, e = .returned (.int .i64 k) ∧ (-1 ≤ k ∧ k ≤ 9223372036854775807) ∧ decide (0 ≤ k) = l.any bad1 ∧ Below w.heap.size w w' := by
  obtain ⟨A, c, rfl, Ta, h1, h2, _⟩ := h.ex
  have TA := Lib.hid Ta.all
  have OK := Lib.hid ok
  unfold maxLen at h2
  obtain ⟨n, hn⟩ : ∃ n, Hid (l.length = n) := ⟨_, rfl⟩
  rw [hn.out] at h1 ⊢
  clear Ta h ok
  go_enter Tryd.func79, Tryd.ntmps79
  go_wp2_with fail
  go_loopw [8] (fun v wr => ∃ (i : Nat), i ≤ n ∧ v = .int .i64 i ∧ Hid (Below w.heap.size w wr) ∧ Hid (∀ j, j < i → ∀ (ha : j < l.length), bad1 l[j] = false)) (fun v _ => n - (intOf v).toNat)
  case atStart => exact ⟨0, by omega, rfl, Lib.hid (Below.refl _ _), Lib.hid (fun j hj => by omega)⟩
  case round =>
    obtain ⟨i, hi, rfl, HB, HI⟩ := hrel
    by_cases hlt : i < n
    · have hia : i < l.length := by rw [hn.out]; exact hlt
      obtain ⟨b1, o1, rfl, _, d0, d1⟩ := (TA.out.below HB.out).at_ hia
      have HN : Hid (bad1 l[i] = true → l.any bad1 = true) := Lib.hid (fun h => List.any_eq_true.2 ⟨_, List.getElem_mem hia, h⟩)
      have HS : Hid (bad1 l[i] = false → ∀ j, j < i + 1 → ∀ (ha : j < l.length), bad1 l[j] = false) := Lib.hid (fun h j hj ha => by
        by_cases e : j = i
        · subst e; exact h
        · exact HI.out j (by omega) ha)
      have OK1 := OK.out _ (List.getElem_mem hia)
      obtain ⟨p, hp⟩ : ∃ p : ByteArray × ByteArray, Hid (l[i] = p) := ⟨l[i], Lib.hid rfl⟩
      obtain ⟨p1, p2⟩ := p
      rw [hp.out] at d0 d1 HN HS OK1
      simp only [fPair] at d0 d1
      simp only at OK1
      have C := Lib.hid (clo_bad p1 p2 OK1.1 OK1.2)
      clear OK1 HI
      go_wp2_with fail
      refine (C.out _).mono ?_
      rintro e w1 ⟨rfl, hb1⟩
      have HB1 := Lib.hid (HB.out.trans (hb1.mono HB.out.size))
      clear hb1
      cases hd : bad1 (p1, p2)
      · have HS' := Lib.hid (HS.out hd)
        clear HS HN
        go_wp2_with fail
        go_roundw
        case rel => exact ⟨i + 1, by omega, by go_num, HB1, HS'⟩
        case measure => simp [intOf]; omega
      · have HN' := Lib.hid (HN.out hd)
        clear HS HN
        go_wp2_with fail
        go_ret
        exact ⟨_, rfl, by omega, by rw [HN'.out]; simp, HB1.out⟩
    · have HE : Hid (l.any bad1 = false) := Lib.hid (by
        rw [List.any_eq_false]
        intro x hx
        obtain ⟨j, hj, rfl⟩ := List.getElem_of_mem hx
        rw [HI.out j (by have := hn.out; omega) hj]
        simp)
      go_wp2_with fail
      go_ret
      exact ⟨_, rfl, by omega, by rw [HE.out]; rfl, HB.out⟩
theorem has_bad {w : World} {B : Nat} {v : Value} {l : List (ByteArray × ByteArray)} (h : Sl fPair w B v l) (ok : ∀ p ∈ l, p.1.size ≤ maxLen ∧ p.2.size ≤ maxLen) :
    Calls Tryd.prog 69 #[v, .func (.func 37) #[] #[]] w fun e w' => e = .returned (.bool (l.any bad1)) ∧ Below w.heap.size w w' := by
  have C1 := Lib.hid (idx_bad h ok)
  obtain ⟨r, hr⟩ : ∃ r, Hid (l.any bad1 = r) := ⟨_, rfl⟩
  rw [hr.out] at C1 ⊢
  clear ok h
  go_enter Tryd.func69, Tryd.ntmps69
  go_wp2_with fail
  refine C1.out.mono ?_
  rintro e w1 ⟨k, rfl, hk, hd, hb1⟩
  have HB1 := Lib.hid hb1
  have HD := Lib.hid hd
  clear hb1 hd
  go_wp2_with fail
  go_ret
  refine ⟨ret_bool ?_, HB1.out⟩
  rw [← HD.out]
theorem any_bad {w : World} {B : Nat} {m : Ms} {v : Value} (H : Mv w B m v) :
    Calls Tryd.prog 36 #[v, .func (.func 37) #[] #[]] w fun e w' => e = .returned (.bool (m.pairs.any bad1)) ∧ Below w.heap.size w w' := by
  obtain ⟨b, vp, vq, w0, rfl, hb, hal, hsz, hx, hb0⟩ := boxed H
  have c10 := hx.cells.2.2.2.2.2.2.2.2.2.2
  have C1 := Lib.hid (has_bad hx.pairs hx.ok.pairs)
  have HB := Lib.hid hb0
  clear hx hb0 H
  go_enter Tryd.func36, Tryd.ntmps36
  go_wp2_with fail
  refine C1.out.mono ?_
  rintro e w1 ⟨rfl, hb1⟩
  have HB1 := Lib.hid (HB.out.trans (hb1.mono (by omega)))
  clear hb1
  go_wp2_with fail
  go_ret
  exact ⟨rfl, by first | exact HB1.out | (rw [hb]; exact HB1.out)⟩

set_option maxRecDepth 100000 in
theorem idx_long {w : World} {B : Nat} {v : Value} {l : List (ByteArray × ByteArray)} (h : Sl fPair w B v l) (ok : ∀ p ∈ l, p.1.size ≤ maxLen ∧ p.2.size ≤ maxLen) :
    Calls Tryd.prog 79 #[v, .func (.func 70) #[] #[]] w fun e w' => ∃ k : Int, e = .returned (.int .i64 k) ∧ (-1 ≤ k ∧ k ≤ 9223372036854775807) ∧ decide (0 ≤ k) = l.any long1 ∧ Below w.heap.size w w' := by
  obtain ⟨A, c, rfl, Ta, h1, h2, _⟩ := h.ex
  have TA := Lib.hid Ta.all
  have OK := Lib.hid ok
  unfold maxLen at h2
  obtain ⟨n, hn⟩ : ∃ n, Hid (l.length = n) := ⟨_, rfl⟩
  rw [hn.out] at h1 ⊢
  clear Ta h ok
  go_enter Tryd.func79, Tryd.ntmps79
  go_wp2_with fail
  go_loopw [8] (fun v wr => ∃ (i : Nat), i ≤ n ∧ v = .int .i64 i ∧ Hid (Below w.heap.size w wr) ∧ Hid (∀ j, j < i → ∀ (ha : j < l.length), long1 l[j] = false)) (fun v _ => n - (intOf v).toNat)
  case atStart => exact ⟨0, by omega, rfl, Lib.hid (Below.refl _ _), Lib.hid (fun j hj => by omega)⟩
  case round =>
    obtain ⟨i, hi, rfl, HB, HI⟩ := hrel
    by_cases hlt : i < n
    · have hia : i < l.length := by rw [hn.out]; exact hlt
      obtain ⟨b1, o1, rfl, _, d0, d1⟩ := (TA.out.below HB.out).at_ hia
      have HN : Hid (long1 l[i] = true → l.any long1 = true) := Lib.hid (fun h => List.any_eq_true.2 ⟨_, List.getElem_mem hia, h⟩)
      have HS : Hid (long1 l[i] = false → ∀ j, j < i + 1 → ∀ (ha : j < l.length), long1 l[j] = false) := Lib.hid (fun h j hj ha => by
        by_cases e : j = i
        · subst e; exact h
        · exact HI.out j (by omega) ha)
      have OK1 := OK.out _ (List.getElem_mem hia)
      obtain ⟨p, hp⟩ : ∃ p : ByteArray × ByteArray, Hid (l[i] = p) := ⟨l[i], Lib.hid rfl⟩
      obtain ⟨p1, p2⟩ := p
      rw [hp.out] at d0 d1 HN HS OK1
      simp only [fPair] at d0 d1
      simp only at OK1
      have C := Lib.hid (clo_long p1 p2 OK1.1 OK1.2)
      clear OK1 HI
      go_wp2_with fail
      refine (C.out _).mono ?_
      rintro e w1 ⟨rfl, hb1⟩
      have HB1 := Lib.hid (HB.out.trans (hb1.mono HB.out.size))
      clear hb1
      cases hd : long1 (p1, p2)
      · have HS' := Lib.hid (HS.out hd)
        clear HS HN
        go_wp2_with fail
        go_roundw
        case rel => exact ⟨i + 1, by omega, by go_num, HB1, HS'⟩
        case measure => simp [intOf]; omega
      · have HN' := Lib.hid (HN.out hd)
        clear HS HN
        go_wp2_with fail
        go_ret
        exact ⟨_, rfl, by omega, by rw [HN'.out]; simp, HB1.out⟩
    · have HE : Hid (l.any long1 = false) := Lib.hid (by
        rw [List.any_eq_false]
        intro x hx
        obtain ⟨j, hj, rfl⟩ := List.getElem_of_mem hx
        rw [HI.out j (by have := hn.out; omega) hj]
        simp)
      go_wp2_with fail
      go_ret
      exact ⟨_, rfl, by omega, by rw [HE.out]; rfl, HB.out⟩
theorem has_long {w : World} {B : Nat} {v : Value} {l : List (ByteArray × ByteArray)} (h : Sl fPair w B v l) (ok : ∀ p ∈ l, p.1.size ≤ maxLen ∧ p.2.size ≤ maxLen) :
    Calls Tryd.prog 69 #[v, .func (.func 70) #[] #[]] w fun e w' => e = .returned (.bool (l.any long1)) ∧ Below w.heap.size w w' := by
  have C1 := Lib.hid (idx_long h ok)
  obtain ⟨r, hr⟩ : ∃ r, Hid (l.any long1 = r) := ⟨_, rfl⟩
  rw [hr.out] at C1 ⊢
  clear ok h
  go_enter Tryd.func69, Tryd.ntmps69
  go_wp2_with fail
  refine C1.out.mono ?_
  rintro e w1 ⟨k, rfl, hk, hd, hb1⟩
  have HB1 := Lib.hid hb1
  have HD := Lib.hid hd
  clear hb1 hd
  go_wp2_with fail
  go_ret
  refine ⟨ret_bool ?_, HB1.out⟩
  rw [← HD.out]
theorem any_long {w : World} {B : Nat} {m : Ms} {v : Value} (H : Mv w B m v) :
    Calls Tryd.prog 36 #[v, .func (.func 70) #[] #[]] w fun e w' => e = .returned (.bool (m.pairs.any long1)) ∧ Below w.heap.size w w' := by
  obtain ⟨b, vp, vq, w0, rfl, hb, hal, hsz, hx, hb0⟩ := boxed H
  have c10 := hx.cells.2.2.2.2.2.2.2.2.2.2
  have C1 := Lib.hid (has_long hx.pairs hx.ok.pairs)
  have HB := Lib.hid hb0
  clear hx hb0 H
  go_enter Tryd.func36, Tryd.ntmps36
  go_wp2_with fail
  refine C1.out.mono ?_
  rintro e w1 ⟨rfl, hb1⟩
  have HB1 := Lib.hid (HB.out.trans (hb1.mono (by omega)))
  clear hb1
  go_wp2_with fail
  go_ret
  exact ⟨rfl, by first | exact HB1.out | (rw [hb]; exact HB1.out)⟩

set_option maxRecDepth 100000 in
theorem islong_any {w : World} {B : Nat} {m : Ms} {v : Value} (H : Mv w B m v) :
    Calls Tryd.prog 38 #[v] w fun e w' => e = .returned (.bool (isLong m)) ∧ Below w.heap.size w w' := by
  obtain ⟨b, vp, vq, w0, rfl, hb, hal, hsz, hx, hb0⟩ := boxed H
  obtain ⟨Ap, cp, rfl, _, hp1, hp2, _⟩ := hx.peers.ex
  obtain ⟨Aq, cq, rfl, _, hq1, hq2, _⟩ := hx.pairs.ex
  obtain ⟨c0, c1, c2, c3, c4, c5, c6, c7, c8, c9, c10⟩ := hx.cells
  have hv := hx.ok.val
  unfold maxLen at hp2 hq2 hv
  have HX := Lib.hid hx
  have HB := Lib.hid hb0
  have HR : Hid (isLong m = (decide (512 < m.val.size) || decide (16 < m.peers.length) || decide (8 < m.pairs.length) || m.pairs.any long1)) := rfl
  obtain ⟨r, hr⟩ : ∃ r, Hid (isLong m = r) := ⟨_, rfl⟩
  rw [hr.out] at HR ⊢
  have C1 := Lib.hid (any_long hx.mv)
  clear hx hb0 H
  by_cases h1 : 512 < m.val.size
  · have e : r = true := by rw [HR.out]; simp [h1]
    subst e
    go_enter Tryd.func38, Tryd.ntmps38
    go_wp2_with fail
    go_ret
    exact ⟨rfl, by first | exact HB.out | (rw [hb]; exact HB.out)⟩
  by_cases h2 : 16 < m.peers.length
  · have e : r = true := by rw [HR.out]; simp [h2]
    subst e
    go_enter Tryd.func38, Tryd.ntmps38
    go_wp2_with fail
    go_ret
    exact ⟨rfl, by first | exact HB.out | (rw [hb]; exact HB.out)⟩
  by_cases h3 : 8 < m.pairs.length
  · have e : r = true := by rw [HR.out]; simp [h3]
    subst e
    go_enter Tryd.func38, Tryd.ntmps38
    go_wp2_with fail
    go_ret
    exact ⟨rfl, by first | exact HB.out | (rw [hb]; exact HB.out)⟩
  have e : Hid (r = m.pairs.any long1) := Lib.hid (by rw [HR.out]; simp [h1, h2, h3])
  go_enter Tryd.func38, Tryd.ntmps38
  go_wp2_with fail
  refine C1.out.mono ?_
  rintro en w1 ⟨rfl, hb1⟩
  have HB1 := Lib.hid (HB.out.trans (hb1.mono (by omega)))
  clear hb1
  go_wp2_with fail
  go_ret
  refine ⟨ret_bool ?_, by first | exact HB1.out | (rw [hb]; exact HB1.out)⟩
  rw [e.out, decide_eq_false (show ¬ (512 : Int) < (m.val.size : Int) by omega), decide_eq_false (show ¬ (16 : Int) < (m.peers.length : Int) by omega), decide_eq_false (show ¬ (8 : Int) < (m.pairs.length : Int) by omega)]
  rfl
end Go.Proofs.YtpfeccbnkgnioaaDoor
