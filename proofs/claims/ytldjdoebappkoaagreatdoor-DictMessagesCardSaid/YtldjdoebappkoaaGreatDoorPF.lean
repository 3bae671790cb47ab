/- Texts Eq8, Same8, Large8, Copy8, Var8, Only8, Bare8, Pair8, Right8, in one. -/
import Derived.Test.YtldjdoebappkoaaGreatDoorPE
import Derived.BigQuiet
import Derived.Deep.QuietTactic
import Derived.Lib.SliceRun
import Derived.Test.YtldjdoebappkoaaGreatDoorPA
/- Contracts of slices.Equal at peers and pairs, and of the reference's Peers, Pairs. -/
namespace Go.Proofs.YtldjdoebappkoaaGreatDoor
open Go.RowKit
set_option linter.unusedVariables false
set_option maxRecDepth 100000
open Gm

theorem list_neq {α : Type} {a b : List α} {i : Nat} (ha : i < a.length) (hb : i < b.length) (h : ¬ a[i] = b[i]) : ¬ a = b := by
  intro e
  subst e
  exact h rfl
theorem list_eq {α : Type} {a b : List α} (hl : a.length = b.length) (h : ∀ j (ha : j < a.length) (hb : j < b.length), a[j] = b[j]) : a = b := List.ext_getElem hl fun i h1 h2 => h i h1 h2
theorem below_drewn {B : Nat} {a w : World} (h : Below B a w) (n : Nat) : Below B a (w.drewN n) := ⟨h.os, h.tape, h.output, h.size, h.block⟩

set_option maxRecDepth 100000 in
theorem rpeers_any {w : World} {B C : Nat} {va vb : Value} {la lb : List (Nat × Nat)} (Ha : Sl fPeer w B va la) (Hb : Sl fPeer w C vb lb) :
    Calls Tryz.prog 23 #[va, vb] w fun e w' => e = .returned (.bool (decide (la = lb))) ∧ Below w.heap.size w w' := by
  obtain ⟨Aa, ca, rfl, Ta, h1, h2, _⟩ := Ha.ex
  obtain ⟨Ab, cb, rfl, Tb, h3, h4, _⟩ := Hb.ex
  have TA := Lib.hid Ta.all
  have TB := Lib.hid Tb.all
  unfold maxLen at h2 h4
  obtain ⟨n, hn⟩ : ∃ n, Hid (la.length = n) := ⟨_, rfl⟩
  obtain ⟨k, hk⟩ : ∃ k, Hid (lb.length = k) := ⟨_, rfl⟩
  rw [hn.out] at h1 ⊢
  rw [hk.out] at h3 ⊢
  clear Ta Tb Ha Hb
  by_cases hnk : n = k
  · subst hnk
    go_enter Tryz.func23, Tryz.ntmps23
    go_wp2_with fail
    go_loopw [5] (fun v wr => ∃ (i : Nat), i ≤ n ∧ v = .int .i64 i ∧ Hid (Below w.heap.size w wr) ∧ Hid (∀ j, j < i → ∀ (ha : j < la.length) (hb : j < lb.length), la[j] = lb[j])) (fun v _ => n - (intOf v).toNat)
    case atStart => exact ⟨0, by omega, rfl, Lib.hid (Below.refl _ _), Lib.hid (fun j hj => by omega)⟩
    case round =>
      obtain ⟨i, hi, rfl, HB, HI⟩ := hrel
      by_cases hlt : i < n
      · have hia : i < la.length := by rw [hn.out]; exact hlt
        have hib : i < lb.length := by rw [hk.out]; exact hlt
        obtain ⟨b1, o1, rfl, _, d0, d1⟩ := (TA.out.below HB.out).at_ hia
        obtain ⟨b2, o2, rfl, _, d2, d3⟩ := (TB.out.below HB.out).at_ hib
        have HN := Lib.hid (fun (h : ¬ la[i] = lb[i]) => list_neq hia hib h)
        have HS : Hid (la[i] = lb[i] → ∀ j, j < i + 1 → ∀ (ha : j < la.length) (hb : j < lb.length), la[j] = lb[j]) := Lib.hid (fun h j hj ha hb => by
          by_cases e : j = i
          · subst e; exact h
          · exact HI.out j (by omega) ha hb)
        obtain ⟨p, hp⟩ : ∃ p : Nat × Nat, Hid (la[i] = p) := ⟨la[i], Lib.hid rfl⟩
        obtain ⟨p1, p2⟩ := p
        obtain ⟨q, hq⟩ : ∃ q : Nat × Nat, Hid (lb[i] = q) := ⟨lb[i], Lib.hid rfl⟩
        obtain ⟨q1, q2⟩ := q
        rw [hp.out] at d0 d1 HN HS
        rw [hq.out] at d2 d3 HN HS
        simp only [fPeer] at d0 d1 d2 d3
        have hg := guardPeer
        by_cases hpq : (p1, p2) = (q1, q2)
        · have hs : ∀ W, _ = _ := fun W => eqPeer W p1 p2 q1 q2
          rw [decide_eq_true hpq] at hs
          have HS' := Lib.hid (HS.out hpq)
          clear HS HN HI hpq
          go_wp2_with fail
          go_quiet (fail)
          go_wp2_with fail
          go_roundw
          case rel => exact ⟨i + 1, by omega, by go_num, Lib.hid (below_drewn HB.out _), HS'⟩
          case measure => simp [intOf]; omega
        · have hs : ∀ W, _ = _ := fun W => eqPeer W p1 p2 q1 q2
          rw [decide_eq_false hpq] at hs
          have HN' := Lib.hid (HN.out hpq)
          clear HS HN HI hpq
          go_wp2_with fail
          go_quiet (fail)
          go_wp2_with fail
          go_ret
          exact ⟨ret_bool (by rw [decide_eq_false HN'.out]), below_drewn HB.out _⟩
      · have HE : Hid (la = lb) := Lib.hid (list_eq (by rw [hn.out, hk.out]) fun j ha hb => HI.out j (by have := hn.out; omega) ha hb)
        go_wp2_with fail
        go_ret
        exact ⟨ret_bool (by rw [decide_eq_true HE.out]), HB.out⟩
  · have HE : Hid (¬ la = lb) := Lib.hid (fun e => hnk (by rw [← hn.out, ← hk.out, e]))
    go_enter Tryz.func23, Tryz.ntmps23
    go_wp2_with fail
    go_ret
    exact ⟨ret_bool (by rw [decide_eq_false HE.out]), Below.refl _ _⟩

set_option maxRecDepth 100000 in
theorem rpairs_any {w : World} {B C : Nat} {va vb : Value} {la lb : List (ByteArray × ByteArray)} (Ha : Sl fPair w B va la) (Hb : Sl fPair w C vb lb) :
    Calls Tryz.prog 24 #[va, vb] w fun e w' => e = .returned (.bool (decide (la = lb))) ∧ Below w.heap.size w w' := by
  obtain ⟨Aa, ca, rfl, Ta, h1, h2, _⟩ := Ha.ex
  obtain ⟨Ab, cb, rfl, Tb, h3, h4, _⟩ := Hb.ex
  have TA := Lib.hid Ta.all
  have TB := Lib.hid Tb.all
  unfold maxLen at h2 h4
  obtain ⟨n, hn⟩ : ∃ n, Hid (la.length = n) := ⟨_, rfl⟩
  obtain ⟨k, hk⟩ : ∃ k, Hid (lb.length = k) := ⟨_, rfl⟩
  rw [hn.out] at h1 ⊢
  rw [hk.out] at h3 ⊢
  clear Ta Tb Ha Hb
  by_cases hnk : n = k
  · subst hnk
    go_enter Tryz.func24, Tryz.ntmps24
    go_wp2_with fail
    go_loopw [5] (fun v wr => ∃ (i : Nat), i ≤ n ∧ v = .int .i64 i ∧ Hid (Below w.heap.size w wr) ∧ Hid (∀ j, j < i → ∀ (ha : j < la.length) (hb : j < lb.length), la[j] = lb[j])) (fun v _ => n - (intOf v).toNat)
    case atStart => exact ⟨0, by omega, rfl, Lib.hid (Below.refl _ _), Lib.hid (fun j hj => by omega)⟩
    case round =>
      obtain ⟨i, hi, rfl, HB, HI⟩ := hrel
      by_cases hlt : i < n
      · have hia : i < la.length := by rw [hn.out]; exact hlt
        have hib : i < lb.length := by rw [hk.out]; exact hlt
        obtain ⟨b1, o1, rfl, _, d0, d1⟩ := (TA.out.below HB.out).at_ hia
        obtain ⟨b2, o2, rfl, _, d2, d3⟩ := (TB.out.below HB.out).at_ hib
        have HN := Lib.hid (fun (h : ¬ la[i] = lb[i]) => list_neq hia hib h)
        have HS : Hid (la[i] = lb[i] → ∀ j, j < i + 1 → ∀ (ha : j < la.length) (hb : j < lb.length), la[j] = lb[j]) := Lib.hid (fun h j hj ha hb => by
          by_cases e : j = i
          · subst e; exact h
          · exact HI.out j (by omega) ha hb)
        obtain ⟨p, hp⟩ : ∃ p : ByteArray × ByteArray, Hid (la[i] = p) := ⟨la[i], Lib.hid rfl⟩
        obtain ⟨p1, p2⟩ := p
        obtain ⟨q, hq⟩ : ∃ q : ByteArray × ByteArray, Hid (lb[i] = q) := ⟨lb[i], Lib.hid rfl⟩
        obtain ⟨q1, q2⟩ := q
        rw [hp.out] at d0 d1 HN HS
        rw [hq.out] at d2 d3 HN HS
        simp only [fPair] at d0 d1 d2 d3
        have hg := guardPair
        by_cases hpq : (p1, p2) = (q1, q2)
        · have hs : ∀ W, _ = _ := fun W => eqPair W p1 p2 q1 q2
          rw [decide_eq_true hpq] at hs
          have HS' := Lib.hid (HS.out hpq)
          clear HS HN HI hpq
          go_wp2_with fail
          go_quiet (fail)
          go_wp2_with fail
          go_roundw
          case rel => exact ⟨i + 1, by omega, by go_num, Lib.hid (below_drewn HB.out _), HS'⟩
          case measure => simp [intOf]; omega
        · have hs : ∀ W, _ = _ := fun W => eqPair W p1 p2 q1 q2
          rw [decide_eq_false hpq] at hs
          have HN' := Lib.hid (HN.out hpq)
          clear HS HN HI hpq
          go_wp2_with fail
          go_quiet (fail)
          go_wp2_with fail
          go_ret
          exact ⟨ret_bool (by rw [decide_eq_false HN'.out]), below_drewn HB.out _⟩
      · have HE : Hid (la = lb) := Lib.hid (list_eq (by rw [hn.out, hk.out]) fun j ha hb => HI.out j (by have := hn.out; omega) ha hb)
        go_wp2_with fail
        go_ret
        exact ⟨ret_bool (by rw [decide_eq_true HE.out]), HB.out⟩
  · have HE : Hid (¬ la = lb) := Lib.hid (fun e => hnk (by rw [← hn.out, ← hk.out, e]))
    go_enter Tryz.func24, Tryz.ntmps24
    go_wp2_with fail
    go_ret
    exact ⟨ret_bool (by rw [decide_eq_false HE.out]), Below.refl _ _⟩
end Go.Proofs.YtldjdoebappkoaaGreatDoor
/- Contracts of msg.Same and of the reference's Same. -/
namespace Go.Proofs.YtldjdoebappkoaaGreatDoor
open Go.RowKit
set_option linter.unusedVariables false
set_option maxRecDepth 100000
open Gm

set_option maxRecDepth 100000 in
set_option maxHeartbeats 1000000 in
theorem rmsame_any {w : World} {B C : Nat} {x y : Ms} {va vb : Value} (H : Mv w B x va) (K : Mv w C y vb) :
    Calls Tryz.prog 8 #[va, vb] w fun e w' => e = .returned (.bool (same x y)) ∧ Below w.heap.size w w' := by
  obtain ⟨b, vp, vq, w0, rfl, hb, hal, hsz, hx, hb0⟩ := boxed H
  obtain ⟨b2, wp, wq, w1, rfl, hb2, hal2, hsz2, hy, hb1⟩ := boxed (K.kept (by rw [hb]; exact hb0))
  have hbb : Below b w w1 := hb0.trans (hb1.mono (by omega))
  have hx1 := hx.below hb1 (by omega)
  have HC := Lib.hid hx1.cells
  have HD := Lib.hid hy.cells
  have E1 := Lib.hid (fun W (h : Below w1.heap.size w1 W) => rpeers_any ((hx1.kept h).peers) ((hy.kept h).peers))
  have E2 := Lib.hid (fun W (h : Below w1.heap.size w1 W) => rpairs_any ((hx1.kept h).pairs) ((hy.kept h).pairs))
  have hgd := guardPeer
  have HB := Lib.hid hbb
  have hsz3 : w1.heap.size = b + 2 := by omega
  have e2 : b2 = b + 1 := by omega
  subst e2
  have HL := Lib.hid (hx1.kept (Below.refl _ _)).bx
  have HR := Lib.hid (hy.kept (Below.refl _ _)).bx
  clear hx hx1 hy hb0 hb1 hbb hsz2 hb2 H K
  obtain ⟨xk, xr, xc, xh, xi, xs, xv, xp, xa, xl, xm⟩ := x
  obtain ⟨yk, yr, yc, yh, yi, ys, yv, yp, ya, yl, ym⟩ := y
  simp only at hal hal2 HC HD E1 E2 HL HR
  obtain ⟨r, hr⟩ : ∃ r, Hid (same ⟨xk, xr, xc, xh, xi, xs, xv, xp, xa, xl, xm⟩ ⟨yk, yr, yc, yh, yi, ys, yv, yp, ya, yl, ym⟩ = r) := ⟨_, rfl⟩
  rw [hr.out]
  by_cases hxk : xk = yk
  case neg =>
    have hs : ((xk) == (yk)) = false := by rw [beq_eq_false_iff_ne]; omega
    have er : r = false := by rw [← hr.out]; simp [same, same1, hxk]
    subst er
    have hs2 : ((xk) != (yk)) = true := by rw [bne, hs]; rfl
    clear hxk
    obtain ⟨c0, c1, c2, c3, c4, c5, c6, c7, c8, c9, c10⟩ := HC.out
    obtain ⟨d0, d1, d2, d3, d4, d5, d6, d7, d8, d9, d10⟩ := HD.out
    go_enter Tryz.func8, Tryz.ntmps8
    go_wp2_with fail
    go_ret
    exact ⟨rfl, by rw [hb]; exact HB.out⟩
  subst hxk
  by_cases hxr : xr = yr
  case neg =>
    have hs : ((xr : Int) == (yr : Int)) = false := by rw [beq_eq_false_iff_ne]; omega
    have er : r = false := by rw [← hr.out]; simp [same, same1, hxr]
    subst er
    have hs2 : ((xr : Int) != (yr : Int)) = true := by rw [bne, hs]; rfl
    clear hxr
    obtain ⟨c0, c1, c2, c3, c4, c5, c6, c7, c8, c9, c10⟩ := HC.out
    obtain ⟨d0, d1, d2, d3, d4, d5, d6, d7, d8, d9, d10⟩ := HD.out
    go_enter Tryz.func8, Tryz.ntmps8
    go_wp2_with fail
    go_ret
    exact ⟨rfl, by rw [hb]; exact HB.out⟩
  subst hxr
  by_cases hxc : xc = yc
  case neg =>
    have hs : ((xc : Int) == (yc : Int)) = false := by rw [beq_eq_false_iff_ne]; omega
    have er : r = false := by rw [← hr.out]; simp [same, same1, hxc]
    subst er
    have hs2 : ((xc : Int) != (yc : Int)) = true := by rw [bne, hs]; rfl
    clear hxc
    obtain ⟨c0, c1, c2, c3, c4, c5, c6, c7, c8, c9, c10⟩ := HC.out
    obtain ⟨d0, d1, d2, d3, d4, d5, d6, d7, d8, d9, d10⟩ := HD.out
    go_enter Tryz.func8, Tryz.ntmps8
    go_wp2_with fail
    go_ret
    exact ⟨rfl, by rw [hb]; exact HB.out⟩
  subst hxc
  by_cases hxh : xh = yh
  case neg =>
    have hs : (xh == yh) = false := by simpa using hxh
    have er : r = false := by rw [← hr.out]; simp [same, same1, hxh]
    subst er
    have hs2 : ((xh) != (yh)) = true := by rw [bne, hs]; rfl
    clear hxh
    obtain ⟨c0, c1, c2, c3, c4, c5, c6, c7, c8, c9, c10⟩ := HC.out
    obtain ⟨d0, d1, d2, d3, d4, d5, d6, d7, d8, d9, d10⟩ := HD.out
    go_enter Tryz.func8, Tryz.ntmps8
    go_wp2_with fail
    go_ret
    exact ⟨rfl, by rw [hb]; exact HB.out⟩
  subst hxh
  by_cases hxi : xi = yi
  case neg =>
    have hs : ((xi : Int) == (yi : Int)) = false := by rw [beq_eq_false_iff_ne]; omega
    have er : r = false := by rw [← hr.out]; simp [same, same1, hxi]
    subst er
    have hs2 : ((xi : Int) != (yi : Int)) = true := by rw [bne, hs]; rfl
    clear hxi
    obtain ⟨c0, c1, c2, c3, c4, c5, c6, c7, c8, c9, c10⟩ := HC.out
    obtain ⟨d0, d1, d2, d3, d4, d5, d6, d7, d8, d9, d10⟩ := HD.out
    go_enter Tryz.func8, Tryz.ntmps8
    go_wp2_with fail
    go_ret
    exact ⟨rfl, by rw [hb]; exact HB.out⟩
  subst hxi
  by_cases hxs : xs = ys
  case neg =>
    have hs := str_eq xs ys
    rw [decide_eq_false hxs] at hs
    have er : r = false := by rw [← hr.out]; simp [same, same1, hxs]
    subst er
    clear hxs
    obtain ⟨c0, c1, c2, c3, c4, c5, c6, c7, c8, c9, c10⟩ := HC.out
    obtain ⟨d0, d1, d2, d3, d4, d5, d6, d7, d8, d9, d10⟩ := HD.out
    go_enter Tryz.func8, Tryz.ntmps8
    go_wp2_with fail
    go_ret
    exact ⟨rfl, by rw [hb]; exact HB.out⟩
  subst hxs
  by_cases hxv : xv = yv
  case neg =>
    have hs := str_eq xv yv
    rw [decide_eq_false hxv] at hs
    have er : r = false := by rw [← hr.out]; simp [same, same1, hxv]
    subst er
    clear hxv
    obtain ⟨c0, c1, c2, c3, c4, c5, c6, c7, c8, c9, c10⟩ := HC.out
    obtain ⟨d0, d1, d2, d3, d4, d5, d6, d7, d8, d9, d10⟩ := HD.out
    go_enter Tryz.func8, Tryz.ntmps8
    go_wp2_with fail
    go_ret
    exact ⟨rfl, by rw [hb]; exact HB.out⟩
  subst hxv
  have hst : ∀ W, _ = _ := fun W => eqPeer W xp xa yp ya
  by_cases hp : (xp, xa) = (yp, ya)
  case neg =>
    rw [decide_eq_false hp] at hst
    have er : r = false := by rw [← hr.out]; simp only [Prod.mk.injEq, not_and] at hp; simpa [same, same1] using fun h1 h2 _ _ => hp h1 h2
    subst er
    clear hp
    obtain ⟨c0, c1, c2, c3, c4, c5, c6, c7, c8, c9, c10⟩ := HC.out
    obtain ⟨d0, d1, d2, d3, d4, d5, d6, d7, d8, d9, d10⟩ := HD.out
    go_enter Tryz.func8, Tryz.ntmps8
    go_wp2_with fail
    go_ret
    exact ⟨rfl, by rw [hb]; exact HB.out⟩
  rw [decide_eq_true hp] at hst
  simp only [Prod.mk.injEq] at hp
  obtain ⟨rfl, rfl⟩ := hp
  have hr2 : Hid (r = (decide (xl = yl) && decide (xm = ym))) := Lib.hid (by rw [← hr.out]; simp [same, same1])
  obtain ⟨c0, c1, c2, c3, c4, c5, c6, c7, c8, c9, c10⟩ := HC.out
  obtain ⟨d0, d1, d2, d3, d4, d5, d6, d7, d8, d9, d10⟩ := HD.out
  go_enter Tryz.func8, Tryz.ntmps8
  go_wp2_with fail
  refine (E1.out _ (Below.refl _ _)).mono ?_
  rintro e w2 ⟨rfl, hb2⟩
  have HB2 := Lib.hid hb2
  clear hb2 c0 c1 c2 c3 c4 c5 c6 c7 c8 c9 c10 d0 d1 d2 d3 d4 d5 d6 d7 d8 d9 d10
  have HF2 : Hid (Below b w w2) := Lib.hid (HB.out.trans (HB2.out.mono (by omega)))
  have c10 := ((HL.out.below HB2.out (by omega)).at_ 10)
  have d10 := ((HR.out.below HB2.out (by omega)).at_ 10)
  simp at c10 d10
  by_cases hl : xl = yl
  · rw [decide_eq_true hl]
    go_wp2_with fail
    refine (E2.out _ HB2.out).mono ?_
    rintro e w3 ⟨rfl, hb3⟩
    have HF3 : Hid (Below b w w3) := Lib.hid (HF2.out.trans (hb3.mono (by have := HB2.out.size; omega)))
    clear hb3
    go_wp2_with fail
    go_ret
    exact ⟨ret_bool (by rw [hr2.out, decide_eq_true hl, Bool.true_and]), by rw [hb]; exact HF3.out⟩
  · rw [decide_eq_false hl]
    go_wp2_with fail
    go_ret
    exact ⟨ret_bool (by rw [hr2.out, decide_eq_false hl, Bool.false_and]), by rw [hb]; exact HF2.out⟩
end Go.Proofs.YtldjdoebappkoaaGreatDoor
/- Contract of the law's Large. -/
namespace Go.Proofs.YtldjdoebappkoaaGreatDoor
open Go.RowKit
set_option linter.unusedVariables false
set_option maxRecDepth 100000
open Gm

def big1 (p : ByteArray × ByteArray) : Bool := decide (300 < p.1.size) || decide (700 < p.2.size)
/-- the law's bound on a message -/
def large (m : Ms) : Bool := (decide (300 < m.key.size) || decide (700 < m.val.size) || decide (40 < m.peers.length) || decide (20 < m.pairs.length)) || m.pairs.any big1
theorem large_off {m : Ms} (h : large m = false) : m.key.size ≤ 300 ∧ m.val.size ≤ 700 ∧ m.peers.length ≤ 40 ∧ m.pairs.length ≤ 20 ∧ ∀ p ∈ m.pairs, p.1.size ≤ 300 ∧ p.2.size ≤ 700 := by
  unfold large big1 at h
  simp at h
  obtain ⟨⟨⟨⟨h1, h2⟩, h3⟩, h4⟩, h5⟩ := h
  exact ⟨by omega, by omega, by omega, by omega, fun p hp => h5 p.1 p.2 hp⟩

end Go.Proofs.YtldjdoebappkoaaGreatDoor
/- Contracts of slices.Clone at peers and pairs, and of msg.Copy. -/
namespace Go.Proofs.YtldjdoebappkoaaGreatDoor
open Go.RowKit
set_option linter.unusedVariables false
set_option maxRecDepth 100000
open Gm

theorem own2_from {w w' : World} {base n sz : Nat} {t : TypeId} {v : Value} {xs : List Value} (h : w.ownsRow base t sz v n xs) (hk : ∀ i, base ≤ i → i < w.heap.size → w'.heap[i]? = w.heap[i]?) : w'.ownsRow base t sz v n xs := by
  obtain ⟨h1, h2⟩ := h
  refine ⟨h1, ?_⟩
  rcases h2 with h2 | ⟨g, cap, cur, hv, hg, hh, r⟩
  · exact .inl h2
  · exact .inr ⟨g, cap, cur, hv, hg, by rw [hk g hg (Array.getElem?_eq_some_iff.1 hh).1]; exact hh, r⟩

/-- a message whose slices are the call's own, from base on -/
structure Mo (w : World) (base : Nat) (m : Ms) (v : Value) : Prop where
  ex : ∃ vp vq, v = .agg #[.int .i64 m.kind, .int .u32 (m.rid : Int), .int .u8 (m.code : Int), .bool m.has, .int .u64 (m.id : Int), .string m.key, .string m.val, .int .u64 (m.pid : Int), .int .u16 (m.pad : Int), vp, vq] ∧ w.ownsRow base 32 2 vp m.peers.length (two fPeer m.peers) ∧ w.ownsRow base 65 2 vq m.pairs.length (two fPair m.pairs)
  ok : Ok m
theorem Mo.mv {w : World} {base : Nat} {m : Ms} {v : Value} (h : Mo w base m v) : Mv w w.heap.size m v := by
  obtain ⟨⟨vp, vq, e, hp, hq⟩, ok⟩ := h
  exact ⟨⟨vp, vq, e, Sl.of_own hp, Sl.of_own hq⟩, ok⟩
/-- a new variable for a message -/
theorem msg_box (w : World) : ∃ b w0, w.heap.size = b ∧ w.alloc (.cells #[.int .i64 0, .int .u32 0, .int .u8 0, .bool false, .int .u64 0, .string ⟨#[]⟩, .string ⟨#[]⟩, .int .u64 0, .int .u16 0, .slice none 0 0, .slice none 0 0] 36) = w0 ∧ w0.heap.size = b + 1 ∧
    Whole w0 b 36 #[.int .i64 0, .int .u32 0, .int .u8 0, .bool false, .int .u64 0, .string ⟨#[]⟩, .string ⟨#[]⟩, .int .u64 0, .int .u16 0, .slice none 0 0, .slice none 0 0] ∧ Below b w w0 :=
  ⟨_, _, rfl, rfl, by simp, Whole.made _ _ _, (Below.refl _ _).alloc (Nat.le_refl _) _⟩

end Go.Proofs.YtldjdoebappkoaaGreatDoor
/- A message that is stored in a new variable. -/
namespace Go.Proofs.YtldjdoebappkoaaGreatDoor
open Go.RowKit
set_option linter.unusedVariables false
set_option maxRecDepth 100000
open Gm

/-- a message that is stored in a new variable -/
theorem var_msg {w : World} {B : Nat} {m : Ms} {v : Value} (H : Mv w B m v) : ∃ g vp vq w0 w1, v = .agg #[.int .i64 m.kind, .int .u32 (m.rid : Int), .int .u8 (m.code : Int), .bool m.has, .int .u64 (m.id : Int), .string m.key, .string m.val, .int .u64 (m.pid : Int), .int .u16 (m.pad : Int), vp, vq] ∧ w.heap.size = g ∧ w.alloc (.cells #[.int .i64 0, .int .u32 0, .int .u8 0, .bool false, .int .u64 0, .string ⟨#[]⟩, .string ⟨#[]⟩, .int .u64 0, .int .u16 0, .slice none 0 0, .slice none 0 0] 36) = w0 ∧ Whole w0 g 36 #[.int .i64 0, .int .u32 0, .int .u8 0, .bool false, .int .u64 0, .string ⟨#[]⟩, .string ⟨#[]⟩, .int .u64 0, .int .u16 0, .slice none 0 0, .slice none 0 0] ∧ w0.setRow g #[.int .i64 m.kind, .int .u32 (m.rid : Int), .int .u8 (m.code : Int), .bool m.has, .int .u64 (m.id : Int), .string m.key, .string m.val, .int .u64 (m.pid : Int), .int .u16 (m.pad : Int), vp, vq] = w1 ∧ Box w1 g m vp vq ∧ Below g w w1 ∧ w1.heap.size = g + 1 ∧ vp.oneCell' = true ∧ vq.oneCell' = true := by
  obtain ⟨vp, vq, rfl, hp, hq⟩ := H.ex
  have h0 := Whole.made w 36 #[.int .i64 0, .int .u32 0, .int .u8 0, .bool false, .int .u64 0, .string ⟨#[]⟩, .string ⟨#[]⟩, .int .u64 0, .int .u16 0, .slice none 0 0, .slice none 0 0]
  have hb : Below w.heap.size w ((w.alloc (.cells #[.int .i64 0, .int .u32 0, .int .u8 0, .bool false, .int .u64 0, .string ⟨#[]⟩, .string ⟨#[]⟩, .int .u64 0, .int .u16 0, .slice none 0 0, .slice none 0 0] 36)).setRow w.heap.size #[.int .i64 m.kind, .int .u32 (m.rid : Int), .int .u8 (m.code : Int), .bool m.has, .int .u64 (m.id : Int), .string m.key, .string m.val, .int .u64 (m.pid : Int), .int .u16 (m.pad : Int), vp, vq]) := below_row ((Below.refl _ _).alloc (Nat.le_refl _) _) (Nat.le_refl _) _
  obtain ⟨_, _, rfl, _⟩ := hp.ex
  obtain ⟨_, _, rfl, _⟩ := hq.ex
  exact ⟨_, _, _, _, _, rfl, rfl, rfl, h0, rfl, ⟨h0.row _, hp.all.below hb, hq.all.below hb, H.ok⟩, hb, by rw [size_setRow]; simp, rfl, rfl⟩
end Go.Proofs.YtldjdoebappkoaaGreatDoor
/- Contracts of msg.onlyIf at each type, of msg.usedFields. -/
namespace Go.Proofs.YtldjdoebappkoaaGreatDoor
open Go.RowKit
set_option linter.unusedVariables false
set_option maxRecDepth 100000
open Gm

theorem oi_fields (b : Bool) (x : Nat) (w : World) :
    Calls Tryz.prog 78 #[.bool b, .int .u16 (x : Int)] w fun e w' => e = .returned (.int .u16 ((oi b x 0 : Nat) : Int)) ∧ w' = w := by
  cases b
  · go_enter Tryz.func78, Tryz.ntmps78
    go_wp2_with fail
    go_ret
    exact ⟨rfl, rfl⟩
  · go_enter Tryz.func78, Tryz.ntmps78
    go_wp2_with fail
    go_ret
    exact ⟨rfl, rfl⟩

theorem mask_or (c h i p ps k v pr : Bool) : bits .or .u16 (bits .or .u16 (bits .or .u16 (bits .or .u16 (bits .or .u16 (bits .or .u16 (bits .or .u16 ((oi c 1 0 : Nat) : Int) ((oi h 2 0 : Nat) : Int)) ((oi i 4 0 : Nat) : Int)) ((oi p 8 0 : Nat) : Int)) ((oi ps 16 0 : Nat) : Int)) ((oi k 32 0 : Nat) : Int)) ((oi v 64 0 : Nat) : Int)) ((oi pr 128 0 : Nat) : Int) = ((mask c h i p ps k v pr : Nat) : Int) := by
  revert c h i p ps k v pr
  decide +kernel
set_option maxRecDepth 100000 in
theorem used_any {w : World} {B : Nat} {m : Ms} {v : Value} (H : Mv w B m v) :
    Calls Tryz.prog 46 #[v] w fun e w' => e = .returned (.int .u16 (used m : Int)) ∧ Below w.heap.size w w' := by
  obtain ⟨b, vp, vq, w0, rfl, hb, hal, hsz, hx, hb0⟩ := boxed H
  obtain ⟨Ap, cp, rfl, _, hp1, hp2, _⟩ := hx.peers.ex
  obtain ⟨Aq, cq, rfl, _, hq1, hq2, _⟩ := hx.pairs.ex
  obtain ⟨c0, c1, c2, c3, c4, c5, c6, c7, c8, c9, c10⟩ := hx.cells
  have hgd := guardPeer
  have hst : ∀ W, (Op.equalIn 10000 32 (.agg #[.int .u64 (m.pid : Int), .int .u16 (m.pad : Int)]) (.agg #[.int .u64 0, .int .u16 0])).run Tryz.prog W = .ok (decide (m.pid = 0) && decide (m.pad = 0)) W := fun W => by
    have h := eqPeer W m.pid m.pad 0 0
    rw [show decide ((m.pid, m.pad) = (0, 0)) = (decide (m.pid = 0) && decide (m.pad = 0)) by rw [Bool.eq_iff_iff]; simp] at h
    exact h
  have s5 := str_eq m.key ⟨#[]⟩
  have s6 := str_eq m.val ⟨#[]⟩
  rw [show (⟨#[]⟩ : ByteArray).toList = [] from ByteArray.toList_mk []] at s5 s6
  unfold maxLen at hp2 hq2
  have HB := Lib.hid hb0
  obtain ⟨r, hr⟩ : ∃ r, Hid (used m = r) := ⟨_, rfl⟩
  rw [hr.out]
  clear hx hb0 H
  go_enter Tryz.func46, Tryz.ntmps46
  go_wp2_with fail
  go_quiet (with_reducible exact Calls.quiet_of_same (oi_fields _ _ _))
  go_wp2_with fail
  go_ret
  refine ⟨ret_int ?_, by rw [hb]; exact below_drewn HB.out _⟩
  rw [← hr.out, mask_or, show ((m.code : Int) != 0) = uCode m by unfold uCode; rw [Bool.eq_iff_iff]; simp, show ((m.id : Int) != 0) = uId m by unfold uId; rw [Bool.eq_iff_iff]; simp,
    show (!decide (m.pid = 0) || !decide (m.pad = 0)) = uPeer m by unfold uPeer; rw [Bool.not_and]]
  rfl
end Go.Proofs.YtldjdoebappkoaaGreatDoor
/- Contracts of msg.onlyIf at a peer, and of msg.Bare. -/
namespace Go.Proofs.YtldjdoebappkoaaGreatDoor
open Go.RowKit
set_option linter.unusedVariables false
set_option maxRecDepth 100000
open Gm

/-- a struct is stored whole, in a region that draws its order -/
theorem step_store_whole {P : Program} {ty : TypeId} {cs cs' : Array Value} {ops : Array Oper} {o : Oper} {a : Act} {w : World} {K : Act → World → Prop} {Q : Exit → Act → World → Prop} {F : Prop} {x y : Operand} {g t : Nat} (hgd : o.guard = none) (hd : o.dst = none) (ho : o.op = .store ty x y) (hx : a.eval x = .pointer (some ⟨g, 0, none⟩)) (hy : a.eval y = .agg cs') (hg : Whole w g t cs)
    (hi : (P.info? ty).map (·.size) = some cs'.size) (hs : cs.size = cs'.size) (h1 : cs'.all (·.oneCell') = true) (h : K a (w.setRow g cs')) : if Region.wanted o (yielded ops a.tmps) = true then Oper.wp P o a w K Q else F := by
  have hw : Region.wanted o (yielded ops a.tmps) = true := by simp [Region.wanted, hgd]
  rw [if_pos hw]
  unfold Oper.wp execOp
  simp only [ho, hx, hy, Instr.storeAt, Instr.sureAddr, Sem.run_bind, Sem.run_pure, Result.andThen_ok, run_storeVar_row w g t ty cs cs' hg hi hs h1]
  unfold Oper.upon
  simp only
  try rw [hd]
  exact h
theorem peerI {cs : Array Value} (h : cs.size = 2) : (Tryz.prog.info? 32).map (·.size) = some cs.size := by rw [h]; kernel_rfl
theorem made2 (w : World) (o : Obj) (t : Nat) (cs : Array Value) : Whole ((w.alloc o).alloc (.cells cs t)) (w.heap.size + 1) t cs := by
  have := Whole.made (w.alloc o) t cs
  rw [show (w.alloc o).heap.size = w.heap.size + 1 by simp] at this
  exact this
theorem Sl.oi {α : Type} {f : α → Value × Value} {w : World} {B n c : Nat} {A : Option Addr} {l : List α} (h : Sl f w B (.slice A n c) l) (b : Bool) : Sl f w B (.slice (oi b A none) (oi b n 0) (oi b c 0)) (oi b l []) := by
  cases b
  · exact Sl.empty _ _
  · exact h
theorem own_bits (m : Ms) : (bits .and .u16 ((own m : Nat) : Int) 1 != 0) = oCode m ∧ (bits .and .u16 ((own m : Nat) : Int) 2 != 0) = oHas m ∧ (bits .and .u16 ((own m : Nat) : Int) 4 != 0) = oId m ∧ (bits .and .u16 ((own m : Nat) : Int) 8 != 0) = oPeer m ∧
    (bits .and .u16 ((own m : Nat) : Int) 16 != 0) = oPeers m ∧ (bits .and .u16 ((own m : Nat) : Int) 32 != 0) = oKey m ∧ (bits .and .u16 ((own m : Nat) : Int) 64 != 0) = oVal m ∧ (bits .and .u16 ((own m : Nat) : Int) 128 != 0) = oPairs m := by
  obtain ⟨h1, h2, h3, h4, h5, h6, h7, h8⟩ := mask_bits (oCode m) (oHas m) (oId m) (oPeer m) (oPeers m) (oKey m) (oVal m) (oPairs m)
  unfold own
  rw [h1, h2, h3, h4, h5, h6, h7, h8]
  refine ⟨?_, ?_, ?_, ?_, ?_, ?_, ?_, ?_⟩
  · cases oCode m <;> rfl
  · cases oHas m <;> rfl
  · cases oId m <;> rfl
  · cases oPeer m <;> rfl
  · cases oPeers m <;> rfl
  · cases oKey m <;> rfl
  · cases oVal m <;> rfl
  · cases oPairs m <;> rfl

end Go.Proofs.YtldjdoebappkoaaGreatDoor
/- Contracts of the closures over pairs, of slices.IndexFunc, ContainsFunc with them, of msg.anyPair, isLong. -/
namespace Go.Proofs.YtldjdoebappkoaaGreatDoor
open Go.RowKit
set_option linter.unusedVariables false
set_option maxRecDepth 100000
open Gm

/-- a key that is none; a value that is too long -/
def bad1 (p : ByteArray × ByteArray) : Bool := !isKey p.1
def long1 (p : ByteArray × ByteArray) : Bool := decide (512 < p.2.size)

set_option maxRecDepth 100000 in
theorem clo_bad (k v : ByteArray) (hk : k.size ≤ maxLen) (hv : v.size ≤ maxLen) (w : World) :
    Calls Tryz.prog 51 #[.agg #[.string k, .string v]] w fun e w' => e = .returned (.bool (bad1 (k, v))) ∧ Below w.heap.size w w' := by
  have hb0 : ∀ o, Below w.heap.size w (w.alloc o) := fun o => (Below.refl _ _).alloc (Nat.le_refl _) o
  have HB := Lib.hid hb0
  clear hb0
  go_enter Tryz.func51, Tryz.ntmps51
  go_wp2_with fail
  refine (key_any k hk _).mono ?_
  rintro e w1 ⟨rfl, hb1⟩
  have HB1 := Lib.hid ((HB.out _).trans (hb1.mono (by simp)))
  clear hb1
  go_wp2_with fail
  go_ret
  exact ⟨rfl, HB1.out⟩

theorem clo_long (k v : ByteArray) (hk : k.size ≤ maxLen) (hv : v.size ≤ maxLen) (w : World) :
    Calls Tryz.prog 82 #[.agg #[.string k, .string v]] w fun e w' => e = .returned (.bool (long1 (k, v))) ∧ Below w.heap.size w w' := by
  have hb0 : ∀ o, Below w.heap.size w (w.alloc o) := fun o => (Below.refl _ _).alloc (Nat.le_refl _) o
  have HB := Lib.hid hb0
  unfold maxLen at hv
  clear hb0
  go_enter Tryz.func82, Tryz.ntmps82
  go_wp2_with fail
  go_ret
  refine ⟨ret_bool ?_, HB.out _⟩
  unfold long1
  rw [Bool.eq_iff_iff]
  simp
  try omega

set_option maxRecDepth 100000 in
theorem idx_bad {w : World} {B : Nat} {v : Value} {l : List (ByteArray × ByteArray)} (h : Sl fPair w B v l) (ok : ∀ p ∈ l, p.1.size ≤ maxLen ∧ p.2.size ≤ maxLen) :
    Calls Tryz.prog 98 #[v, .func (.func 51) #[] #[]] w fun e w' => ∃ k : Int, e = .returned (.int .i64 k) ∧ (-1 ≤ k ∧ k ≤ 9223372036854775807) ∧ decide (0 ≤ k) = l.any bad1 ∧ Below w.heap.size w w' := by
  obtain ⟨A, c, rfl, Ta, h1, h2, _⟩ := h.ex
  have TA := Lib.hid Ta.all
  have OK := Lib.hid ok
  unfold maxLen at h2
  obtain ⟨n, hn⟩ : ∃ n, Hid (l.length = n) := ⟨_, rfl⟩
  rw [hn.out] at h1 ⊢
  clear Ta h ok
  go_enter Tryz.func98, Tryz.ntmps98
  go_wp2_with fail
  go_loopw [8] (fun v wr => ∃ (i : Nat), i ≤ n ∧ v = .int .i64 i ∧ Hid (Below w.heap.size w wr) ∧ Hid (∀ j, j < i → ∀ (ha : j < l.length), bad1 l[j] = false)) (fun v _ => n - (intOf v).toNat)
  case atStart => exact ⟨0, by omega, rfl, Lib.hid (Below.refl _ _), Lib.hid (fun j hj => by omega)⟩
  case round =>
    obtain ⟨i, hi, rfl, HB, HI⟩ := hrel
    by_cases hlt : i < n
    · have hia : i < l.length := by rw [hn.out]; exact hlt
      obtain ⟨b1, o1, rfl, _, d0, d1⟩ := (TA.out.below HB.out).at_ hia
      have HN : Hid (bad1 l[i] = true → l.any bad1 = true) := Lib.hid (fun h => List.any_eq_true.2 ⟨_, List.getElem_mem hia, h⟩)
      have HS : Hid (bad1 l[i] = false → ∀ j, j < i + 1 → ∀ (ha : j < l.length), bad1 l[j] = false) := Lib.hid (fun h j hj ha => by
        by_cases e : j = i
        · subst e; exact h
        · exact HI.out j (by omega) ha)
      have OK1 := OK.out _ (List.getElem_mem hia)
      obtain ⟨p, hp⟩ : ∃ p : ByteArray × ByteArray, Hid (l[i] = p) := ⟨l[i], Lib.hid rfl⟩
      obtain ⟨p1, p2⟩ := p
      rw [hp.out] at d0 d1 HN HS OK1
      simp only [fPair] at d0 d1
      simp only at OK1
      have C := Lib.hid (clo_bad p1 p2 OK1.1 OK1.2)
      clear OK1 HI
      go_wp2_with fail
      refine (C.out _).mono ?_
      rintro e w1 ⟨rfl, hb1⟩
      have HB1 := Lib.hid (HB.out.trans (hb1.mono HB.out.size))
      clear hb1
      cases hd : bad1 (p1, p2)
      · have HS' := Lib.hid (HS.out hd)
        clear HS HN
        go_wp2_with fail
        go_roundw
        case rel => exact ⟨i + 1, by omega, by go_num, HB1, HS'⟩
        case measure => simp [intOf]; omega
      · have HN' := Lib.hid (HN.out hd)
        clear HS HN
        go_wp2_with fail
        go_ret
        exact ⟨_, rfl, by omega, by rw [HN'.out]; simp, HB1.out⟩
    · have HE : Hid (l.any bad1 = false) := Lib.hid (by
        rw [List.any_eq_false]
        intro x hx
        obtain ⟨j, hj, rfl⟩ := List.getElem_of_mem hx
        rw [HI.out j (by have := hn.out; omega) hj]
        simp)
      go_wp2_with fail
      go_ret
      exact ⟨_, rfl, by omega, by rw [HE.out]; rfl, HB.out⟩
theorem has_bad {w : World} {B : Nat} {v : Value} {l : List (ByteArray × ByteArray)} (h : Sl fPair w B v l) (ok : ∀ p ∈ l, p.1.size ≤ maxLen ∧ p.2.size ≤ maxLen) :
    Calls Tryz.prog 81 #[v, .func (.func 51) #[] #[]] w fun e w' => e = .returned (.bool (l.any bad1)) ∧ Below w.heap.size w w' := by
  have C1 := Lib.hid (idx_bad h ok)
  obtain ⟨r, hr⟩ : ∃ r, Hid (l.any bad1 = r) := ⟨_, rfl⟩
  rw [hr.out] at C1 ⊢
  clear ok h
  go_enter Tryz.func81, Tryz.ntmps81
  go_wp2_with fail
  refine C1.out.mono ?_
  rintro e w1 ⟨k, rfl, hk, hd, hb1⟩
  have HB1 := Lib.hid hb1
  have HD := Lib.hid hd
  clear hb1 hd
  go_wp2_with fail
  go_ret
  refine ⟨ret_bool ?_, HB1.out⟩
  rw [← HD.out]
theorem any_bad {w : World} {B : Nat} {m : Ms} {v : Value} (H : Mv w B m v) :
    Calls Tryz.prog 50 #[v, .func (.func 51) #[] #[]] w fun e w' => e = .returned (.bool (m.pairs.any bad1)) ∧ Below w.heap.size w w' := by
  obtain ⟨b, vp, vq, w0, rfl, hb, hal, hsz, hx, hb0⟩ := boxed H
  have c10 := hx.cells.2.2.2.2.2.2.2.2.2.2
  have C1 := Lib.hid (has_bad hx.pairs hx.ok.pairs)
  have HB := Lib.hid hb0
  clear hx hb0 H
  go_enter Tryz.func50, Tryz.ntmps50
  go_wp2_with fail
  refine C1.out.mono ?_
  rintro e w1 ⟨rfl, hb1⟩
  have HB1 := Lib.hid (HB.out.trans (hb1.mono (by omega)))
  clear hb1
  go_wp2_with fail
  go_ret
  exact ⟨rfl, by first | exact HB1.out | (rw [hb]; exact HB1.out)⟩

set_option maxRecDepth 100000 in
theorem idx_long {w : World} {B : Nat} {v : Value} {l : List (ByteArray × ByteArray)} (h : Sl fPair w B v l) (ok : ∀ p ∈ l, p.1.size ≤ maxLen ∧ p.2.size ≤ maxLen) :
    Calls Tryz.prog 98 #[v, .func (.func 82) #[] #[]] w fun e w' => ∃ k : Int, e = .returned (.int .i64 k) ∧ (-1 ≤ k ∧ k ≤ 9223372036854775807) ∧ decide (0 ≤ k) = l.any long1 ∧ Below w.heap.size w w' := by
  obtain ⟨A, c, rfl, Ta, h1, h2, _⟩ := h.ex
  have TA := Lib.hid Ta.all
  have OK := Lib.hid ok
  unfold maxLen at h2
  obtain ⟨n, hn⟩ : ∃ n, Hid (l.length = n) := ⟨_, rfl⟩
  rw [hn.out] at h1 ⊢
  clear Ta h ok
  go_enter Tryz.func98, Tryz.ntmps98
  go_wp2_with fail
  go_loopw [8] (fun v wr => ∃ (i : Nat), i ≤ n ∧ v = .int .i64 i ∧ Hid (Below w.heap.size w wr) ∧ Hid (∀ j, j < i → ∀ (ha : j < l.length), long1 l[j] = false)) (fun v _ => n - (intOf v).toNat)
  case atStart => exact ⟨0, by omega, rfl, Lib.hid (Below.refl _ _), Lib.hid (fun j hj => by omega)⟩
  case round =>
    obtain ⟨i, hi, rfl, HB, HI⟩ := hrel
    by_cases hlt : i < n
    · have hia : i < l.length := by rw [hn.out]; exact hlt
      obtain ⟨b1, o1, rfl, _, d0, d1⟩ := (TA.out.below HB.out).at_ hia
      have HN : Hid (long1 l[i] = true → l.any long1 = true) := Lib.hid (fun h => List.any_eq_true.2 ⟨_, List.getElem_mem hia, h⟩)
      have HS : Hid (long1 l[i] = false → ∀ j, j < i + 1 → ∀ (ha : j < l.length), long1 l[j] = false) := Lib.hid (fun h j hj ha => by
        by_cases e : j = i
        · subst e; exact h
        · exact HI.out j (by omega) ha)
      have OK1 := OK.out _ (List.getElem_mem hia)
      obtain ⟨p, hp⟩ : ∃ p : ByteArray × ByteArray, Hid (l[i] = p) := ⟨l[i], Lib.hid rfl⟩
      obtain ⟨p1, p2⟩ := p
      rw [hp.out] at d0 d1 HN HS OK1
      simp only [fPair] at d0 d1
      simp only at OK1
      have C := Lib.hid (clo_long p1 p2 OK1.1 OK1.2)
      clear OK1 HI
      go_wp2_with fail
      refine (C.out _).mono ?_
      rintro e w1 ⟨rfl, hb1⟩
      have HB1 := Lib.hid (HB.out.trans (hb1.mono HB.out.size))
      clear hb1
      cases hd : long1 (p1, p2)
      · have HS' := Lib.hid (HS.out hd)
        clear HS HN
        go_wp2_with fail
        go_roundw
        case rel => exact ⟨i + 1, by omega, by go_num, HB1, HS'⟩
        case measure => simp [intOf]; omega
      · have HN' := Lib.hid (HN.out hd)
        clear HS HN
        go_wp2_with fail
        go_ret
        exact ⟨_, rfl, by omega, by rw [HN'.out]; simp, HB1.out⟩
    · have HE : Hid (l.any long1 = false) := Lib.hid (by
        rw [List.any_eq_false]
        intro x hx
        obtain ⟨j, hj, rfl⟩ := List.getElem_of_mem hx
        rw [HI.out j (by have := hn.out; omega) hj]
        simp)
      go_wp2_with fail
      go_ret
      exact ⟨_, rfl, by omega, by rw [HE.out]; rfl, HB.out⟩
theorem has_long {w : World} {B : Nat} {v : Value} {l : List (ByteArray × ByteArray)} (h : Sl fPair w B v l) (ok : ∀ p ∈ l, p.1.size ≤ maxLen ∧ p.2.size ≤ maxLen) :
    Calls Tryz.prog 81 #[v, .func (.func 82) #[] #[]] w fun e w' => e = .returned (.bool (l.any long1)) ∧ Below w.heap.size w w' := by
  have C1 := Lib.hid (idx_long h ok)
  obtain ⟨r, hr⟩ : ∃ r, Hid (l.any long1 = r) := ⟨_, rfl⟩
  rw [hr.out] at C1 ⊢
  clear ok h
  go_enter Tryz.func81, Tryz.ntmps81
  go_wp2_with fail
  refine C1.out.mono ?_
  rintro e w1 ⟨k, rfl, hk, hd, hb1⟩
  have HB1 := Lib.hid hb1
  have HD := Lib.hid hd
  clear hb1 hd
  go_wp2_with fail
  go_ret
  refine ⟨ret_bool ?_, HB1.out⟩
  rw [← HD.out]
theorem any_long {w : World} {B : Nat} {m : Ms} {v : Value} (H : Mv w B m v) :
    Calls Tryz.prog 50 #[v, .func (.func 82) #[] #[]] w fun e w' => e = .returned (.bool (m.pairs.any long1)) ∧ Below w.heap.size w w' := by
  obtain ⟨b, vp, vq, w0, rfl, hb, hal, hsz, hx, hb0⟩ := boxed H
  have c10 := hx.cells.2.2.2.2.2.2.2.2.2.2
  have C1 := Lib.hid (has_long hx.pairs hx.ok.pairs)
  have HB := Lib.hid hb0
  clear hx hb0 H
  go_enter Tryz.func50, Tryz.ntmps50
  go_wp2_with fail
  refine C1.out.mono ?_
  rintro e w1 ⟨rfl, hb1⟩
  have HB1 := Lib.hid (HB.out.trans (hb1.mono (by omega)))
  clear hb1
  go_wp2_with fail
  go_ret
  exact ⟨rfl, by first | exact HB1.out | (rw [hb]; exact HB1.out)⟩

set_option maxRecDepth 100000 in
theorem islong_any {w : World} {B : Nat} {m : Ms} {v : Value} (H : Mv w B m v) :
    Calls Tryz.prog 52 #[v] w fun e w' => e = .returned (.bool (isLong m)) ∧ Below w.heap.size w w' := by
  obtain ⟨b, vp, vq, w0, rfl, hb, hal, hsz, hx, hb0⟩ := boxed H
  obtain ⟨Ap, cp, rfl, _, hp1, hp2, _⟩ := hx.peers.ex
  obtain ⟨Aq, cq, rfl, _, hq1, hq2, _⟩ := hx.pairs.ex
  obtain ⟨c0, c1, c2, c3, c4, c5, c6, c7, c8, c9, c10⟩ := hx.cells
  have hv := hx.ok.val
  unfold maxLen at hp2 hq2 hv
  have HX := Lib.hid hx
  have HB := Lib.hid hb0
  have HR : Hid (isLong m = (decide (512 < m.val.size) || decide (16 < m.peers.length) || decide (8 < m.pairs.length) || m.pairs.any long1)) := rfl
  obtain ⟨r, hr⟩ : ∃ r, Hid (isLong m = r) := ⟨_, rfl⟩
  rw [hr.out] at HR ⊢
  have C1 := Lib.hid (any_long hx.mv)
  clear hx hb0 H
  by_cases h1 : 512 < m.val.size
  · have e : r = true := by rw [HR.out]; simp [h1]
    subst e
    go_enter Tryz.func52, Tryz.ntmps52
    go_wp2_with fail
    go_ret
    exact ⟨rfl, by first | exact HB.out | (rw [hb]; exact HB.out)⟩
  by_cases h2 : 16 < m.peers.length
  · have e : r = true := by rw [HR.out]; simp [h2]
    subst e
    go_enter Tryz.func52, Tryz.ntmps52
    go_wp2_with fail
    go_ret
    exact ⟨rfl, by first | exact HB.out | (rw [hb]; exact HB.out)⟩
  by_cases h3 : 8 < m.pairs.length
  · have e : r = true := by rw [HR.out]; simp [h3]
    subst e
    go_enter Tryz.func52, Tryz.ntmps52
    go_wp2_with fail
    go_ret
    exact ⟨rfl, by first | exact HB.out | (rw [hb]; exact HB.out)⟩
  have e : Hid (r = m.pairs.any long1) := Lib.hid (by rw [HR.out]; simp [h1, h2, h3])
  go_enter Tryz.func52, Tryz.ntmps52
  go_wp2_with fail
  refine C1.out.mono ?_
  rintro en w1 ⟨rfl, hb1⟩
  have HB1 := Lib.hid (HB.out.trans (hb1.mono (by omega)))
  clear hb1
  go_wp2_with fail
  go_ret
  refine ⟨ret_bool ?_, by first | exact HB1.out | (rw [hb]; exact HB1.out)⟩
  rw [e.out, decide_eq_false (show ¬ (512 : Int) < (m.val.size : Int) by omega), decide_eq_false (show ¬ (16 : Int) < (m.peers.length : Int) by omega), decide_eq_false (show ¬ (8 : Int) < (m.pairs.length : Int) by omega)]
  rfl
end Go.Proofs.YtldjdoebappkoaaGreatDoor
/- Contract of msg.Right. -/
namespace Go.Proofs.YtldjdoebappkoaaGreatDoor
open Go.RowKit
set_option linter.unusedVariables false
set_option maxRecDepth 100000
open Gm

theorem right_kind {m : Ms} (h : known m.kind = false) : right m = 9 := by unfold right; rw [h]; rfl
theorem right_arg {m : Ms} (h : known m.kind = true) (h2 : extra m ≠ 0) : right m = 1 := by
  have hs : same m (bare m) = false := by
    rw [Bool.eq_false_iff]
    exact fun e => h2 (extra_zero.2 e)
  unfold right
  rw [h, hs]; rfl
theorem right_rest {m : Ms} (h : known m.kind = true) (h2 : extra m = 0) : right m = bif badKey m then 7 else bif isLong m then 5 else bif isShort m then 2 else 0 := by
  have hs := extra_zero.1 h2
  unfold right
  rw [h, hs]; rfl

set_option maxRecDepth 100000 in
set_option maxHeartbeats 1000000 in
theorem right_any {w : World} {B : Nat} {m : Ms} {v : Value} (H : Mv w B m v) (T : Tab w) :
    Calls Tryz.prog 16 #[v] w fun e w' => e = .returned (.int .i64 (right m : Int)) ∧ Below w.heap.size w w' := by
  obtain ⟨b, vp, vq, w0, rfl, hb, hal, hsz, hx, hb0⟩ := boxed H
  have hT0 := T.below hb0 (by rw [← hb]; exact T.lt)
  have HX := Lib.hid hx
  have HT := Lib.hid hT0
  have HB := Lib.hid hb0
  obtain ⟨Ap, cp, rfl, hpp⟩ := hx.peers.ex
  obtain ⟨Aq, cq, rfl, hqq⟩ := hx.pairs.ex
  have hk := hx.ok.kind
  have HKey := Lib.hid hx.ok.key
  have HE := Lib.hid (extra_bits m)
  have HQ := Lib.hid (own_bits m).2.2.2.2.2.1
  have HS := Lib.hid (fun h => short_at (m := m) h)
  have R1 := Lib.hid (fun h => right_kind (m := m) h)
  have R2 := Lib.hid (fun h h2 => right_arg (m := m) h h2)
  have R3 := Lib.hid (fun h h2 => right_rest (m := m) h h2)
  have HU := Lib.hid (fun W (h : Below w0.heap.size w0 W) => used_any (HX.out.kept h).mv)
  have HO := Lib.hid (fun W (h : Below w0.heap.size w0 W) => own_any (HX.out.kept h).mv (HT.out.kept h))
  obtain ⟨U, hU⟩ : ∃ U, Hid (used m = U) := ⟨_, rfl⟩
  obtain ⟨O, hO⟩ : ∃ O, Hid (own m = O) := ⟨_, rfl⟩
  obtain ⟨X, hX⟩ : ∃ X, Hid (extra m = X) := ⟨_, rfl⟩
  obtain ⟨r, hr⟩ : ∃ r, Hid (right m = r) := ⟨_, rfl⟩
  rw [hU.out] at HU HE HS
  rw [hO.out] at HO HE HQ
  rw [hX.out] at HE R2 R3
  rw [hr.out] at R1 R2 R3 ⊢
  clear hx hb0 H T hT0 hpp hqq
  go_enter Tryz.func16, Tryz.ntmps16
  go_wp2_with fail
  refine wp_region_plan (S := fun W => Box W b m (.slice Ap m.peers.length cp) (.slice Aq m.pairs.length cq)) [(0, true), (2, true), (1, false), (3, false), (4, true), (5, true)] (by kernel_rfl) (by kernel_rfl) rfl (by kernel_rfl) (fun _ _ _ _ _ h => h) HX.out.drew ?_
  iterate 2
    refine along_take (v := ?_) rfl (by rfl) ?_ ?_
    rotate_left
    · intro W hW; have hW' : Box W b m (.slice Ap m.peers.length cp) (.slice Aq m.pairs.length cq) := hW; obtain ⟨c0, c1, c2, c3, c4, c5, c6, c7, c8, c9, c10⟩ := hW'.cells; clear hW hW'; go_simp; try with_reducible rfl
    simp only [Act.put, List.setIfInBounds_toArray, List.set_cons_zero, List.set_cons_succ]
  refine along_step rfl (fun K hK => ?_)
  go_simp
  refine (HU.out _ (Below.refl _ _).drew).mono ?_
  rintro e w1 ⟨rfl, hb1⟩
  have HB1 : Hid (Below w0.heap.size w0 w1) := Lib.hid ((Below.refl _ _).drew.trans hb1)
  clear hb1
  refine hK.out _ _ (HX.out.kept HB1.out) ?_
  clear hK K
  try simp only [Act.put, List.setIfInBounds_toArray, List.set_cons_zero, List.set_cons_succ]
  refine along_step rfl (fun K hK => ?_)
  go_simp
  refine (HO.out _ HB1.out).mono ?_
  rintro e w2 ⟨rfl, hb2⟩
  have HB2 : Hid (Below w0.heap.size w0 w2) := Lib.hid (HB1.out.trans (hb2.mono HB1.out.size))
  clear hb2 HB1
  refine hK.out _ _ (HX.out.kept HB2.out) ?_
  clear hK K
  try simp only [Act.put, List.setIfInBounds_toArray, List.set_cons_zero, List.set_cons_succ]
  iterate 2
    refine along_take (v := ?_) rfl (by rfl) ?_ ?_
    rotate_left
    · intro W hW; clear hW; go_simp; try with_reducible rfl
    simp only [Act.put, List.setIfInBounds_toArray, List.set_cons_zero, List.set_cons_succ]
  refine along_done ?_
  have hx2 := HX.out.kept HB2.out
  obtain ⟨c0, c1, c2, c3, c4, c5, c6, c7, c8, c9, c10⟩ := hx2.cells
  have HX2 := Lib.hid hx2
  clear hx2 HU HO
  have he := HE.out
  go_wp2_with fail
  refine (iskind_any m.kind hk _).mono ?_
  rintro e w3 ⟨rfl, hw3⟩
  subst hw3
  have HB3 : Hid (Below b w w3) := Lib.hid (HB.out.trans (HB2.out.mono (by omega)))
  cases hkn : known m.kind
  · have e := R1.out hkn
    subst e
    go_wp2_with fail
    go_ret
    exact ⟨rfl, by first | exact HB3.out | (rw [hb]; exact HB3.out)⟩
  by_cases hX0 : X = 0
  case neg =>
    have e := R2.out hkn hX0
    subst e
    go_wp2_with fail
    go_ret
    exact ⟨rfl, by first | exact HB3.out | (rw [hb]; exact HB3.out)⟩
  subst hX0
  have HR := Lib.hid (R3.out hkn rfl)
  have HSH := Lib.hid (HS.out hkn)
  clear R1 R2 R3 HS
  have HX3 := HX2
  have HT3 : Hid (Tab w3) := Lib.hid (HT.out.kept HB2.out)
  cases hok : oKey m
  case false =>
    have hq := HQ.out
    rw [hok] at hq
    have hbk : Hid (badKey m = (false || m.pairs.any bad1)) := Lib.hid (by unfold badKey; rw [hok]; rfl)
    go_wp2_with fail
    refine (any_bad HX3.out.mv).mono ?_
    rintro e w5 ⟨rfl, hb5⟩
    have HB5 : Hid (Below b w w5) := Lib.hid (HB3.out.trans (hb5.mono (by have := HX3.out.lt; omega)))
    have hx5 := HX3.out.kept hb5
    have HT5 := Lib.hid (HT3.out.kept hb5)
    have HX5 := Lib.hid hx5
    clear hb5 c0 c1 c2 c3 c4 c5 c6 c7 c8 c9 c10
    obtain ⟨c0, c1, c2, c3, c4, c5, c6, c7, c8, c9, c10⟩ := hx5.cells
    clear hx5
    cases hany : m.pairs.any bad1
    case true =>
      have er : r = 7 := by rw [HR.out, hbk.out, hany, Bool.or_true]; rfl
      subst er
      go_wp2_with fail
      go_ret
      exact ⟨rfl, by first | exact HB5.out | (rw [hb]; exact HB5.out)⟩
    have HR2 : Hid (r = bif isLong m then 5 else bif isShort m then 2 else 0) := Lib.hid (by rw [HR.out, hbk.out, hany]; rfl)
    go_wp2_with fail
    refine (islong_any HX5.out.mv).mono ?_
    rintro e w6 ⟨rfl, hb6⟩
    have HB6 : Hid (Below b w w6) := Lib.hid (HB5.out.trans (hb6.mono (by have := HX5.out.lt; omega)))
    have hx6 := HX5.out.kept hb6
    have HT6 := Lib.hid (HT5.out.kept hb6)
    clear c0 c1 c2 c3 c4 c5 c6 c7 c8 c9 c10
    have c0 := hx6.cells.1
    have HX6 := Lib.hid hx6
    clear hb6 hx6
    cases hlg : isLong m
    case true =>
      have er : r = 5 := by rw [HR2.out, hlg]; rfl
      subst er
      go_wp2_with fail
      go_ret
      exact ⟨rfl, by first | exact HB6.out | (rw [hb]; exact HB6.out)⟩
    have HR3 : Hid (r = bif isShort m then 2 else 0) := Lib.hid (by rw [HR2.out, hlg]; rfl)
    go_wp2_with fail
    refine (entry_any m.kind hk _ HT6.out).mono ?_
    rintro e w7 ⟨rfl, hb7⟩
    have HB7 : Hid (Below b w w7) := Lib.hid (HB6.out.trans (hb7.mono (by have := HX6.out.lt; omega)))
    clear hb7
    obtain ⟨f0, f3, f4⟩ := ent_field (at_ m.kind) w7
    cases hsh : isShort m
    case true =>
      have er : r = 2 := by rw [HR3.out, hsh]; rfl
      subst er
      have hz : ¬ bits .andNot .u16 (((at_ m.kind).full : Nat) : Int) ((U : Nat) : Int) = 0 := fun h => by have := HSH.out.1 h; rw [hsh] at this; cases this
      go_wp2_with fail
      go_ret
      exact ⟨rfl, by first | exact HB7.out | (rw [hb]; exact HB7.out)⟩
    have er : r = 0 := by rw [HR3.out, hsh]; rfl
    subst er
    have hz : bits .andNot .u16 (((at_ m.kind).full : Nat) : Int) ((U : Nat) : Int) = 0 := HSH.out.2 hsh
    go_wp2_with fail
    go_ret
    exact ⟨rfl, by first | exact HB7.out | (rw [hb]; exact HB7.out)⟩
  have hq := HQ.out
  rw [hok] at hq
  go_wp2_with fail
  refine (key_any m.key HKey.out _).mono ?_
  rintro e w4 ⟨rfl, hb4⟩
  have HB4 : Hid (Below b w w4) := Lib.hid (HB3.out.trans (hb4.mono (by have := HX3.out.lt; omega)))
  have hx4 := HX3.out.kept hb4
  have HT4 := Lib.hid (HT3.out.kept hb4)
  have HX4 := Lib.hid hx4
  clear hb4 c0 c1 c2 c3 c4 c5 c6 c7 c8 c9 c10
  obtain ⟨c0, c1, c2, c3, c4, c5, c6, c7, c8, c9, c10⟩ := hx4.cells
  clear hx4
  cases hik : isKey m.key
  case false =>
    have er : r = 7 := by rw [HR.out]; unfold badKey; rw [hok, hik]; rfl
    subst er
    go_wp2_with fail
    go_ret
    exact ⟨rfl, by first | exact HB4.out | (rw [hb]; exact HB4.out)⟩
  have hbk : Hid (badKey m = (false || m.pairs.any bad1)) := Lib.hid (by unfold badKey; rw [hok, hik]; rfl)
  go_wp2_with fail
  refine (any_bad HX4.out.mv).mono ?_
  rintro e w5 ⟨rfl, hb5⟩
  have HB5 : Hid (Below b w w5) := Lib.hid (HB4.out.trans (hb5.mono (by have := HX4.out.lt; omega)))
  have hx5 := HX4.out.kept hb5
  have HT5 := Lib.hid (HT4.out.kept hb5)
  have HX5 := Lib.hid hx5
  clear hb5 c0 c1 c2 c3 c4 c5 c6 c7 c8 c9 c10
  obtain ⟨c0, c1, c2, c3, c4, c5, c6, c7, c8, c9, c10⟩ := hx5.cells
  clear hx5
  cases hany : m.pairs.any bad1
  case true =>
    have er : r = 7 := by rw [HR.out, hbk.out, hany, Bool.or_true]; rfl
    subst er
    go_wp2_with fail
    go_ret
    exact ⟨rfl, by first | exact HB5.out | (rw [hb]; exact HB5.out)⟩
  have HR2 : Hid (r = bif isLong m then 5 else bif isShort m then 2 else 0) := Lib.hid (by rw [HR.out, hbk.out, hany]; rfl)
  go_wp2_with fail
  refine (islong_any HX5.out.mv).mono ?_
  rintro e w6 ⟨rfl, hb6⟩
  have HB6 : Hid (Below b w w6) := Lib.hid (HB5.out.trans (hb6.mono (by have := HX5.out.lt; omega)))
  have hx6 := HX5.out.kept hb6
  have HT6 := Lib.hid (HT5.out.kept hb6)
  clear c0 c1 c2 c3 c4 c5 c6 c7 c8 c9 c10
  have c0 := hx6.cells.1
  have HX6 := Lib.hid hx6
  clear hb6 hx6
  cases hlg : isLong m
  case true =>
    have er : r = 5 := by rw [HR2.out, hlg]; rfl
    subst er
    go_wp2_with fail
    go_ret
    exact ⟨rfl, by first | exact HB6.out | (rw [hb]; exact HB6.out)⟩
  have HR3 : Hid (r = bif isShort m then 2 else 0) := Lib.hid (by rw [HR2.out, hlg]; rfl)
  go_wp2_with fail
  refine (entry_any m.kind hk _ HT6.out).mono ?_
  rintro e w7 ⟨rfl, hb7⟩
  have HB7 : Hid (Below b w w7) := Lib.hid (HB6.out.trans (hb7.mono (by have := HX6.out.lt; omega)))
  clear hb7
  obtain ⟨f0, f3, f4⟩ := ent_field (at_ m.kind) w7
  cases hsh : isShort m
  case true =>
    have er : r = 2 := by rw [HR3.out, hsh]; rfl
    subst er
    have hz : ¬ bits .andNot .u16 (((at_ m.kind).full : Nat) : Int) ((U : Nat) : Int) = 0 := fun h => by have := HSH.out.1 h; rw [hsh] at this; cases this
    go_wp2_with fail
    go_ret
    exact ⟨rfl, by first | exact HB7.out | (rw [hb]; exact HB7.out)⟩
  have er : r = 0 := by rw [HR3.out, hsh]; rfl
  subst er
  have hz : bits .andNot .u16 (((at_ m.kind).full : Nat) : Int) ((U : Nat) : Int) = 0 := HSH.out.2 hsh
  go_wp2_with fail
  go_ret
  exact ⟨rfl, by first | exact HB7.out | (rw [hb]; exact HB7.out)⟩
end Go.Proofs.YtldjdoebappkoaaGreatDoor
