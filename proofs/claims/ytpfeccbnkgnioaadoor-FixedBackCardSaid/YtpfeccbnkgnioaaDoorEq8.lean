/- Contracts of slices.Equal at peers and pairs, and of the reference's Peers, Pairs. -/
import Derived.Test.YtpfeccbnkgnioaaDoorSt
import Derived.BigQuiet
import Derived.Deep.QuietTactic
namespace Go.Proofs.YtpfeccbnkgnioaaDoor
open Go.RowKit
set_option linter.unusedVariables false
set_option maxRecDepth 100000
open Gm

theorem list_neq {α : Type} {a b : List α} {i : Nat} (ha : i < a.length) (hb : i < b.length) (h : ¬ a[i] = b[i]) : ¬ a = b := by
  intro e
  subst e
  exact h rfl
theorem list_eq {α : Type} {a b : List α} (hl : a.length = b.length) (h : ∀ j (ha : j < a.length) (hb : j < b.length), a[j] = b[j]) : a = b := List.ext_getElem hl fun i h1 h2 => h i h1 h2
theorem below_drewn {B : Nat} {a w : World} (h : Below B a w) (n : Nat) : Below B a (w.drewN n) := ⟨h.os, h.tape, h.output, h.size, h.block⟩

set_option maxRecDepth 100000 in
theorem rpeers_any {w : World} {B C : Nat} {va vb : Value} {la lb : List (Nat × Nat)} (Ha : Sl fPeer w B va la) (Hb : Sl fPeer w C vb lb) :
    Calls Tryd.prog 30 #[va, vb] w fun e w' => e = .returned (.bool (decide (la = lb))) ∧ Below w.heap.size w w' := by
  obtain ⟨Aa, ca, rfl, Ta, h1, h2, _⟩ := Ha.ex
  obtain ⟨Ab, cb, rfl, Tb, h3, h4, _⟩ := Hb.ex
  have TA := Lib.hid Ta.all
  have TB := Lib.hid Tb.all
  unfold maxLen at h2 h4
  obtain ⟨n, hn⟩ : ∃ n, Hid (la.length = n) := ⟨_, rfl⟩
  obtain ⟨k, hk⟩ : ∃ k, Hid (lb.length = k) := ⟨_, rfl⟩
  rw [hn.out] at h1 ⊢
  rw [hk.out] at h3 ⊢
  clear Ta Tb Ha Hb
  by_cases hnk : n = k
  · subst hnk
    go_enter Tryd.func30, Tryd.ntmps30
    go_wp2_with fail
    go_loopw [5] (fun v wr => ∃ (i : Nat), i ≤ n ∧ v = .int .i64 i ∧ Hid (Below w.heap.size w wr) ∧ Hid (∀ j, j < i → ∀ (ha : j < la.length) (hb : j < lb.length), la[j] = lb[j])) (fun v _ => n - (intOf v).toNat)
    case atStart => exact ⟨0, by omega, rfl, Lib.hid (Below.refl _ _), Lib.hid (fun j hj => by omega)⟩
    case round =>
      obtain ⟨i, hi, rfl, HB, HI⟩ := hrel
      by_cases hlt : i < n
      · have hia : i < la.length := by rw [hn.out]; exact hlt
        have hib : i < lb.length := by rw [hk.out]; exact hlt
        obtain ⟨b1, o1, rfl, _, d0, d1⟩ := (TA.out.below HB.out).at_ hia
        obtain ⟨b2, o2, rfl, _, d2, d3⟩ := (TB.out.below HB.out).at_ hib
        have HN := Lib.hid (fun (h : ¬ la[i] = lb[i]) => list_neq hia hib h)
        have HS : Hid (la[i] = lb[i] → ∀ j, j < i + 1 → ∀ (ha : j < la.length) (hb : j < lb.length), la[j] = lb[j]) := Lib.hid (fun h j hj ha hb => by
          by_cases e : j = i
          · subst e; exact h
          · exact HI.out j (by omega) ha hb)
        obtain ⟨p, hp⟩ : ∃ p : Nat × Nat, Hid (la[i] = p) := ⟨la[i], Lib.hid rfl⟩
        obtain ⟨p1, p2⟩ := p
        obtain ⟨q, hq⟩ : ∃ q : Nat × Nat, Hid (lb[i] = q) := ⟨lb[i], Lib.hid rfl⟩
        obtain ⟨q1, q2⟩ := q
        rw [hp.out] at d0 d1 HN HS
        rw [hq.out] at d2 d3 HN HS
        simp only [fPeer] at d0 d1 d2 d3
        have hg := guardPeer
        by_cases hpq : (p1, p2) = (q1, q2)
        · have hs : ∀ W, _ = _ := fun W => eqPeer W p1 p2 q1 q2
          rw [decide_eq_true hpq] at hs
          have HS' := Lib.hid (HS.out hpq)
          clear HS HN HI hpq
          go_wp2_with fail
          go_quiet (fail)
          go_wp2_with fail
          go_roundw
          case rel => exact ⟨i + 1, by omega, by go_num, Lib.hid (below_drewn HB.out _), HS'⟩
          case measure => simp [intOf]; omega
        · have hs : ∀ W, _ = _ := fun W => eqPeer W p1 p2 q1 q2
          rw [decide_eq_false hpq] at hs
          have HN' := Lib.hid (HN.out hpq)
          clear HS HN HI hpq
          go_wp2_with fail
          go_quiet (fail)
          go_wp2_with fail
          go_ret
          exact ⟨ret_bool (by rw [decide_eq_false HN'.out]), below_drewn HB.out _⟩
      · have HE : Hid (la = lb) := Lib.hid (list_eq (by rw [hn.out, hk.out]) fun j ha hb => HI.out j (by have := hn.out; omega) ha hb)
        go_wp2_with fail
        go_ret
        exact ⟨ret_bool (by rw [decide_eq_true HE.out]), HB.out⟩
  · have HE : Hid (¬ la = lb) := Lib.hid (fun e => hnk (by rw [← hn.out, ← hk.out, e]))
    go_enter Tryd.func30, Tryd.ntmps30
    go_wp2_with fail
    go_ret
    exact ⟨ret_bool (by rw [decide_eq_false HE.out]), Below.refl _ _⟩

set_option maxRecDepth 100000 in
theorem rpairs_any {w : World} {B C : Nat} {va vb : Value} {la lb : List (ByteArray × ByteArray)} (Ha : Sl fPair w B va la) (Hb : Sl fPair w C vb lb) :
    Calls Tryd.prog 31 #[va, vb] w fun e w' => e = .returned (.bool (decide (la = lb))) ∧ Below w.heap.size w w' := by
  obtain ⟨Aa, ca, rfl, Ta, h1, h2, _⟩ := Ha.ex
  obtain ⟨Ab, cb, rfl, Tb, h3, h4, _⟩ := Hb.ex
  have TA := Lib.hid Ta.all
  have TB := Lib.hid Tb.all
  unfold maxLen at h2 h4
  obtain ⟨n, hn⟩ : ∃ n, Hid (la.length = n) := ⟨_, rfl⟩
  obtain ⟨k, hk⟩ : ∃ k, Hid (lb.length = k) := ⟨_, rfl⟩
  rw [hn.out] at h1 ⊢
  rw [hk.out] at h3 ⊢
  clear Ta Tb Ha Hb
  by_cases hnk : n = k
  · subst hnk
    go_enter Tryd.func31, Tryd.ntmps31
    go_wp2_with fail
    go_loopw [5] (fun v wr => ∃ (i : Nat), i ≤ n ∧ v = .int .i64 i ∧ Hid (Below w.heap.size w wr) ∧ Hid (∀ j, j < i → ∀ (ha : j < la.length) (hb : j < lb.length), la[j] = lb[j])) (fun v _ => n - (intOf v).toNat)
    case atStart => exact ⟨0, by omega, rfl, Lib.hid (Below.refl _ _), Lib.hid (fun j hj => by omega)⟩
    case round =>
      obtain ⟨i, hi, rfl, HB, HI⟩ := hrel
      by_cases hlt : i < n
      · have hia : i < la.length := by rw [hn.out]; exact hlt
        have hib : i < lb.length := by rw [hk.out]; exact hlt
        obtain ⟨b1, o1, rfl, _, d0, d1⟩ := (TA.out.below HB.out).at_ hia
        obtain ⟨b2, o2, rfl, _, d2, d3⟩ := (TB.out.below HB.out).at_ hib
        have HN := Lib.hid (fun (h : ¬ la[i] = lb[i]) => list_neq hia hib h)
        have HS : Hid (la[i] = lb[i] → ∀ j, j < i + 1 → ∀ (ha : j < la.length) (hb : j < lb.length), la[j] = lb[j]) := Lib.hid (fun h j hj ha hb => by
          by_cases e : j = i
          · subst e; exact h
          · exact HI.out j (by omega) ha hb)
        obtain ⟨p, hp⟩ : ∃ p : ByteArray × ByteArray, Hid (la[i] = p) := ⟨la[i], Lib.hid rfl⟩
        obtain ⟨p1, p2⟩ := p
        obtain ⟨q, hq⟩ : ∃ q : ByteArray × ByteArray, Hid (lb[i] = q) := ⟨lb[i], Lib.hid rfl⟩
        obtain ⟨q1, q2⟩ := q
        rw [hp.out] at d0 d1 HN HS
        rw [hq.out] at d2 d3 HN HS
        simp only [fPair] at d0 d1 d2 d3
        have hg := guardPair
        by_cases hpq : (p1, p2) = (q1, q2)
        · have hs : ∀ W, _ = _ := fun W => eqPair W p1 p2 q1 q2
          rw [decide_eq_true hpq] at hs
          have HS' := Lib.hid (HS.out hpq)
          clear HS HN HI hpq
          go_wp2_with fail
          go_quiet (fail)
          go_wp2_with fail
          go_roundw
          case rel => exact ⟨i + 1, by omega, by go_num, Lib.hid (below_drewn HB.out _), HS'⟩
          case measure => simp [intOf]; omega
        · have hs : ∀ W, _ = _ := fun W => eqPair W p1 p2 q1 q2
          rw [decide_eq_false hpq] at hs
          have HN' := Lib.hid (HN.out hpq)
          clear HS HN HI hpq
          go_wp2_with fail
          go_quiet (fail)
          go_wp2_with fail
          go_ret
          exact ⟨ret_bool (by rw [decide_eq_false HN'.out]), below_drewn HB.out _⟩
      · have HE : Hid (la = lb) := Lib.hid (list_eq (by rw [hn.out, hk.out]) fun j ha hb => HI.out j (by have := hn.out; omega) ha hb)
        go_wp2_with fail
        go_ret
        exact ⟨ret_bool (by rw [decide_eq_true HE.out]), HB.out⟩
  · have HE : Hid (¬ la = lb) := Lib.hid (fun e => hnk (by rw [← hn.out, ← hk.out, e]))
    go_enter Tryd.func31, Tryd.ntmps31
    go_wp2_with fail
    go_ret
    exact ⟨ret_bool (by rw [decide_eq_false HE.out]), Below.refl _ _⟩
end Go.Proofs.YtpfeccbnkgnioaaDoor
