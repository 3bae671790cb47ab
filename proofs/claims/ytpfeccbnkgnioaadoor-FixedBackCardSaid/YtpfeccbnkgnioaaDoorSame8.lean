/- Contracts of msg.Same and of the reference's Same. -/
import Derived.Test.YtpfeccbnkgnioaaDoorEq8
namespace Go.Proofs.YtpfeccbnkgnioaaDoor
open Go.RowKit
set_option linter.unusedVariables false
set_option maxRecDepth 100000
open Gm

set_option maxRecDepth 100000 in
set_option maxHeartbeats 1000000 in
theorem rmsame_any {w : World} {B C : Nat} {x y : Ms} {va vb : Value} (H : Mv w B x va) (K : Mv w C y vb) :
    Calls Tryd.prog 12 #[va, vb] w fun e w' => e = .returned (.bool (same x y)) ∧ Below w.heap.size w w' := by
  obtain ⟨b, vp, vq, w0, rfl, hb, hal, hsz, hx, hb0⟩ := boxed H
  obtain ⟨b2, wp, wq, w1, rfl, hb2, hal2, hsz2, hy, hb1⟩ := boxed (K.kept (by rw [hb]; exact hb0))
  have hbb : Below b w w1 := hb0.trans (hb1.mono (by omega))
  have hx1 := hx.below hb1 (by omega)
  have HC := Lib.hid hx1.cells
  have HD := Lib.hid hy.cells
  have E1 := Lib.hid (fun W (h : Below w1.heap.size w1 W) => rpeers_any ((hx1.kept h).peers) ((hy.kept h).peers))
  have E2 := Lib.hid (fun W (h : Below w1.heap.size w1 W) => rpairs_any ((hx1.kept h).pairs) ((hy.kept h).pairs))
  have hgd := guardPeer
  have HB := Lib.hid hbb
  have hsz3 : w1.heap.size = b + 2 := by omega
  have e2 : b2 = b + 1 := by omega
  subst e2
  have HL := Lib.hid (hx1.kept (Below.refl _ _)).bx
  have HR := Lib.hid (hy.kept (Below.refl _ _)).bx
  clear hx hx1 hy hb0 hb1 hbb hsz2 hb2 H K
  obtain ⟨xk, xr, xc, xh, xi, xs, xv, xp, xa, xl, xm⟩ := x
  obtain ⟨yk, yr, yc, yh, yi, ys, yv, yp, ya, yl, ym⟩ := y
  simp only at hal hal2 HC HD E1 E2 HL HR
  obtain ⟨r, hr⟩ : ∃ r, Hid (same ⟨xk, xr, xc, xh, xi, xs, xv, xp, xa, xl, xm⟩ ⟨yk, yr, yc, yh, yi, ys, yv, yp, ya, yl, ym⟩ = r) := ⟨_, rfl⟩
  rw [hr.out]
  by_cases hxk : xk = yk
  case neg =>
    have hs : ((xk) == (yk)) = false := by rw [beq_eq_false_iff_ne]; omega
    have er : r = false := by rw [← hr.out]; simp [same, same1, hxk]
    subst er
    have hs2 : ((xk) != (yk)) = true := by rw [bne, hs]; rfl
    clear hxk
    obtain ⟨c0, c1, c2, c3, c4, c5, c6, c7, c8, c9, c10⟩ := HC.out
    obtain ⟨d0, d1, d2, d3, d4, d5, d6, d7, d8, d9, d10⟩ := HD.out
    go_enter Tryd.func12, Tryd.ntmps12
    go_wp2_with fail
    go_ret
    exact ⟨rfl, by rw [hb]; exact HB.out⟩
  subst hxk
  by_cases hxr : xr = yr
  case neg =>
    have hs : ((xr : Int) == (yr : Int)) = false := by rw [beq_eq_false_iff_ne]; omega
    have er : r = false := by rw [← hr.out]; simp [same, same1, hxr]
    subst er
    have hs2 : ((xr : Int) != (yr : Int)) = true := by rw [bne, hs]; rfl
    clear hxr
    obtain ⟨c0, c1, c2, c3, c4, c5, c6, c7, c8, c9, c10⟩ := HC.out
    obtain ⟨d0, d1, d2, d3, d4, d5, d6, d7, d8, d9, d10⟩ := HD.out
    go_enter Tryd.func12, Tryd.ntmps12
    go_wp2_with fail
    go_ret
    exact ⟨rfl, by rw [hb]; exact HB.out⟩
  subst hxr
  by_cases hxc : xc = yc
  case neg =>
    have hs : ((xc : Int) == (yc : Int)) = false := by rw [beq_eq_false_iff_ne]; omega
    have er : r = false := by rw [← hr.out]; simp [same, same1, hxc]
    subst er
    have hs2 : ((xc : Int) != (yc : Int)) = true := by rw [bne, hs]; rfl
    clear hxc
    obtain ⟨c0, c1, c2, c3, c4, c5, c6, c7, c8, c9, c10⟩ := HC.out
    obtain ⟨d0, d1, d2, d3, d4, d5, d6, d7, d8, d9, d10⟩ := HD.out
    go_enter Tryd.func12, Tryd.ntmps12
    go_wp2_with fail
    go_ret
    exact ⟨rfl, by rw [hb]; exact HB.out⟩
  subst hxc
  by_cases hxh : xh = yh
  case neg =>
    have hs : (xh == yh) = false := by simpa using hxh
    have er : r = false := by rw [← hr.out]; simp [same, same1, hxh]
    subst er
    have hs2 : ((xh) != (yh)) = true := by rw [bne, hs]; rfl
    clear hxh
    obtain ⟨c0, c1, c2, c3, c4, c5, c6, c7, c8, c9, c10⟩ := HC.out
    obtain ⟨d0, d1, d2, d3, d4, d5, d6, d7, d8, d9, d10⟩ := HD.out
    go_enter Tryd.func12, Tryd.ntmps12
    go_wp2_with fail
    go_ret
    exact ⟨rfl, by rw [hb]; exact HB.out⟩
  subst hxh
  by_cases hxi : xi = yi
  case neg =>
    have hs : ((xi : Int) == (yi : Int)) = false := by rw [beq_eq_false_iff_ne]; omega
    have er : r = false := by rw [← hr.out]; simp [same, same1, hxi]
    subst er
    have hs2 : ((xi : Int) != (yi : Int)) = true := by rw [bne, hs]; rfl
    clear hxi
    obtain ⟨c0, c1, c2, c3, c4, c5, c6, c7, c8, c9, c10⟩ := HC.out
    obtain ⟨d0, d1, d2, d3, d4, d5, d6, d7, d8, d9, d10⟩ := HD.out
    go_enter Tryd.func12, Tryd.ntmps12
    go_wp2_with fail
    go_ret
    exact ⟨rfl, by rw [hb]; exact HB.out⟩
  subst hxi
  by_cases hxs : xs = ys
  case neg =>
    have hs := str_eq xs ys
    rw [decide_eq_false hxs] at hs
    have er : r = false := by rw [← hr.out]; simp [same, same1, hxs]
    subst er
    clear hxs
    obtain ⟨c0, c1, c2, c3, c4, c5, c6, c7, c8, c9, c10⟩ := HC.out
    obtain ⟨d0, d1, d2, d3, d4, d5, d6, d7, d8, d9, d10⟩ := HD.out
    go_enter Tryd.func12, Tryd.ntmps12
    go_wp2_with fail
    go_ret
    exact ⟨rfl, by rw [hb]; exact HB.out⟩
  subst hxs
  by_cases hxv : xv = yv
  case neg =>
    have hs := str_eq xv yv
    rw [decide_eq_false hxv] at hs
    have er : r = false := by rw [← hr.out]; simp [same, same1, hxv]
    subst er
    clear hxv
    obtain ⟨c0, c1, c2, c3, c4, c5, c6, c7, c8, c9, c10⟩ := HC.out
    obtain ⟨d0, d1, d2, d3, d4, d5, d6, d7, d8, d9, d10⟩ := HD.out
    go_enter Tryd.func12, Tryd.ntmps12
    go_wp2_with fail
    go_ret
    exact ⟨rfl, by rw [hb]; exact HB.out⟩
  subst hxv
  have hst : ∀ W, _ = _ := fun W => eqPeer W xp xa yp ya
  by_cases hp : (xp, xa) = (yp, ya)
  case neg =>
    rw [decide_eq_false hp] at hst
    have er : r = false := by rw [← hr.out]; simp only [Prod.mk.injEq, not_and] at hp; simpa [same, same1] using fun h1 h2 _ _ => hp h1 h2
    subst er
    clear hp
    obtain ⟨c0, c1, c2, c3, c4, c5, c6, c7, c8, c9, c10⟩ := HC.out
    obtain ⟨d0, d1, d2, d3, d4, d5, d6, d7, d8, d9, d10⟩ := HD.out
    go_enter Tryd.func12, Tryd.ntmps12
    go_wp2_with fail
    go_ret
    exact ⟨rfl, by rw [hb]; exact HB.out⟩
  rw [decide_eq_true hp] at hst
  simp only [Prod.mk.injEq] at hp
  obtain ⟨rfl, rfl⟩ := hp
  have hr2 : Hid (r = (decide (xl = yl) && decide (xm = ym))) := Lib.hid (by rw [← hr.out]; simp [same, same1])
  obtain ⟨c0, c1, c2, c3, c4, c5, c6, c7, c8, c9, c10⟩ := HC.out
  obtain ⟨d0, d1, d2, d3, d4, d5, d6, d7, d8, d9, d10⟩ := HD.out
  go_enter Tryd.func12, Tryd.ntmps12
  go_wp2_with fail
  refine (E1.out _ (Below.refl _ _)).mono ?_
  rintro e w2 ⟨rfl, hb2⟩
  have HB2 := Lib.hid hb2
  clear hb2 c0 c1 c2 c3 c4 c5 c6 c7 c8 c9 c10 d0 d1 d2 d3 d4 d5 d6 d7 d8 d9 d10
  have HF2 : Hid (Below b w w2) := Lib.hid (HB.out.trans (HB2.out.mono (by omega)))
  have c10 := ((HL.out.below HB2.out (by omega)).at_ 10)
  have d10 := ((HR.out.below HB2.out (by omega)).at_ 10)
  simp at c10 d10
  by_cases hl : xl = yl
  · rw [decide_eq_true hl]
    go_wp2_with fail
    refine (E2.out _ HB2.out).mono ?_
    rintro e w3 ⟨rfl, hb3⟩
    have HF3 : Hid (Below b w w3) := Lib.hid (HF2.out.trans (hb3.mono (by have := HB2.out.size; omega)))
    clear hb3
    go_wp2_with fail
    go_ret
    exact ⟨ret_bool (by rw [hr2.out, decide_eq_true hl, Bool.true_and]), by rw [hb]; exact HF3.out⟩
  · rw [decide_eq_false hl]
    go_wp2_with fail
    go_ret
    exact ⟨ret_bool (by rw [hr2.out, decide_eq_false hl, Bool.false_and]), by rw [hb]; exact HF2.out⟩
end Go.Proofs.YtpfeccbnkgnioaaDoor
