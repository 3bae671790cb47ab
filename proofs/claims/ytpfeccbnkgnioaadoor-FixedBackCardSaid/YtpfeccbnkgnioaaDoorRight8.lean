/- Contract of msg.Right. -/
import Derived.Test.YtpfeccbnkgnioaaDoorBare8
import Derived.Test.YtpfeccbnkgnioaaDoorPair8
namespace Go.Proofs.YtpfeccbnkgnioaaDoor
open Go.RowKit
set_option linter.unusedVariables false
set_option maxRecDepth 100000
open Gm

theorem right_kind {m : Ms} (h : known m.kind = false) : right m = 9 := by unfold right; rw [h]; rfl
theorem right_arg {m : Ms} (h : known m.kind = true) (h2 : extra m ≠ 0) : right m = 1 := by
  have hs : same m (bare m) = false := by
    rw [Bool.eq_false_iff]
    exact fun e => h2 (extra_zero.2 e)
  unfold right
  rw [h, hs]; rfl
theorem right_rest {m : Ms} (h : known m.kind = true) (h2 : extra m = 0) : right m = bif badKey m then 7 else bif isLong m then 5 else bif isShort m then 2 else 0 := by
  have hs := extra_zero.1 h2
  unfold right
  rw [h, hs]; rfl

set_option maxRecDepth 100000 in
set_option maxHeartbeats 1000000 in
theorem right_any {w : World} {B : Nat} {m : Ms} {v : Value} (H : Mv w B m v) (T : Tab w) :
    Calls Tryd.prog 13 #[v] w fun e w' => e = .returned (.int .i64 (right m : Int)) ∧ Below w.heap.size w w' := by
  obtain ⟨b, vp, vq, w0, rfl, hb, hal, hsz, hx, hb0⟩ := boxed H
  have hT0 := T.below hb0 (by rw [← hb]; exact T.lt)
  have HX := Lib.hid hx
  have HT := Lib.hid hT0
  have HB := Lib.hid hb0
  obtain ⟨Ap, cp, rfl, hpp⟩ := hx.peers.ex
  obtain ⟨Aq, cq, rfl, hqq⟩ := hx.pairs.ex
  have hk := hx.ok.kind
  have HKey := Lib.hid hx.ok.key
  have HE := Lib.hid (extra_bits m)
  have HQ := Lib.hid (own_bits m).2.2.2.2.2.1
  have HS := Lib.hid (fun h => short_at (m := m) h)
  have R1 := Lib.hid (fun h => right_kind (m := m) h)
  have R2 := Lib.hid (fun h h2 => right_arg (m := m) h h2)
  have R3 := Lib.hid (fun h h2 => right_rest (m := m) h h2)
  have HU := Lib.hid (fun W (h : Below w0.heap.size w0 W) => used_any (HX.out.kept h).mv)
  have HO := Lib.hid (fun W (h : Below w0.heap.size w0 W) => own_any (HX.out.kept h).mv (HT.out.kept h))
  obtain ⟨U, hU⟩ : ∃ U, Hid (used m = U) := ⟨_, rfl⟩
  obtain ⟨O, hO⟩ : ∃ O, Hid (own m = O) := ⟨_, rfl⟩
  obtain ⟨X, hX⟩ : ∃ X, Hid (extra m = X) := ⟨_, rfl⟩
  obtain ⟨r, hr⟩ : ∃ r, Hid (right m = r) := ⟨_, rfl⟩
  rw [hU.out] at HU HE HS
  rw [hO.out] at HO HE HQ
  rw [hX.out] at HE R2 R3
  rw [hr.out] at R1 R2 R3 ⊢
  clear hx hb0 H T hT0 hpp hqq
  go_enter Tryd.func13, Tryd.ntmps13
  go_wp2_with fail
  refine wp_region_plan (S := fun W => Box W b m (.slice Ap m.peers.length cp) (.slice Aq m.pairs.length cq)) [(0, true), (2, true), (1, false), (3, false), (4, true), (5, true)] (by kernel_rfl) (by kernel_rfl) rfl (by kernel_rfl) (fun _ _ _ _ _ h => h) HX.out.drew ?_
  iterate 2
    refine along_take (v := ?_) rfl (by rfl) ?_ ?_
    rotate_left
    · intro W hW; have hW' : Box W b m (.slice Ap m.peers.length cp) (.slice Aq m.pairs.length cq) := hW; obtain ⟨c0, c1, c2, c3, c4, c5, c6, c7, c8, c9, c10⟩ := hW'.cells; clear hW hW'; go_simp; try with_reducible rfl
    simp only [Act.put, List.setIfInBounds_toArray, List.set_cons_zero, List.set_cons_succ]
  refine along_step rfl (fun K hK => ?_)
  go_simp
  refine (HU.out _ (Below.refl _ _).drew).mono ?_
  rintro e w1 ⟨rfl, hb1⟩
  have HB1 : Hid (Below w0.heap.size w0 w1) := Lib.hid ((Below.refl _ _).drew.trans hb1)
  clear hb1
  refine hK.out _ _ (HX.out.kept HB1.out) ?_
  clear hK K
  try simp only [Act.put, List.setIfInBounds_toArray, List.set_cons_zero, List.set_cons_succ]
  refine along_step rfl (fun K hK => ?_)
  go_simp
  refine (HO.out _ HB1.out).mono ?_
  rintro e w2 ⟨rfl, hb2⟩
  have HB2 : Hid (Below w0.heap.size w0 w2) := Lib.hid (HB1.out.trans (hb2.mono HB1.out.size))
  clear hb2 HB1
  refine hK.out _ _ (HX.out.kept HB2.out) ?_
  clear hK K
  try simp only [Act.put, List.setIfInBounds_toArray, List.set_cons_zero, List.set_cons_succ]
  iterate 2
    refine along_take (v := ?_) rfl (by rfl) ?_ ?_
    rotate_left
    · intro W hW; clear hW; go_simp; try with_reducible rfl
    simp only [Act.put, List.setIfInBounds_toArray, List.set_cons_zero, List.set_cons_succ]
  refine along_done ?_
  have hx2 := HX.out.kept HB2.out
  obtain ⟨c0, c1, c2, c3, c4, c5, c6, c7, c8, c9, c10⟩ := hx2.cells
  have HX2 := Lib.hid hx2
  clear hx2 HU HO
  have he := HE.out
  go_wp2_with fail
  refine (iskind_any m.kind hk _).mono ?_
  rintro e w3 ⟨rfl, hw3⟩
  subst hw3
  have HB3 : Hid (Below b w w3) := Lib.hid (HB.out.trans (HB2.out.mono (by omega)))
  cases hkn : known m.kind
  · have e := R1.out hkn
    subst e
    go_wp2_with fail
    go_ret
    exact ⟨rfl, by first | exact HB3.out | (rw [hb]; exact HB3.out)⟩
  by_cases hX0 : X = 0
  case neg =>
    have e := R2.out hkn hX0
    subst e
    go_wp2_with fail
    go_ret
    exact ⟨rfl, by first | exact HB3.out | (rw [hb]; exact HB3.out)⟩
  subst hX0
  have HR := Lib.hid (R3.out hkn rfl)
  have HSH := Lib.hid (HS.out hkn)
  clear R1 R2 R3 HS
  have HX3 := HX2
  have HT3 : Hid (Tab w3) := Lib.hid (HT.out.kept HB2.out)
  cases hok : oKey m
  case false =>
    have hq := HQ.out
    rw [hok] at hq
    have hbk : Hid (badKey m = (false || m.pairs.any bad1)) := Lib.hid (by unfold badKey; rw [hok]; rfl)
    go_wp2_with fail
    refine (any_bad HX3.out.mv).mono ?_
    rintro e w5 ⟨rfl, hb5⟩
    have HB5 : Hid (Below b w w5) := Lib.hid (HB3.out.trans (hb5.mono (by have := HX3.out.lt; omega)))
    have hx5 := HX3.out.kept hb5
    have HT5 := Lib.hid (HT3.out.kept hb5)
    have HX5 := Lib.hid hx5
    clear hb5 c0 c1 c2 c3 c4 c5 c6 c7 c8 c9 c10
    obtain ⟨c0, c1, c2, c3, c4, c5, c6, c7, c8, c9, c10⟩ := hx5.cells
    clear hx5
    cases hany : m.pairs.any bad1
    case true =>
      have er : r = 7 := by rw [HR.out, hbk.out, hany, Bool.or_true]; rfl
      subst er
      go_wp2_with fail
      go_ret
      exact ⟨rfl, by first | exact HB5.out | (rw [hb]; exact HB5.out)⟩
    have HR2 : Hid (r = bif isLong m then 5 else bif isShort m then 2 else 0) := Lib.hid (by rw [HR.out, hbk.out, hany]; rfl)
    go_wp2_with fail
    refine (islong_any HX5.out.mv).mono ?_
    rintro e w6 ⟨rfl, hb6⟩
    have HB6 : Hid (Below b w w6) := Lib.hid (HB5.out.trans (hb6.mono (by have := HX5.out.lt; omega)))
    have hx6 := HX5.out.kept hb6
    have HT6 := Lib.hid (HT5.out.kept hb6)
    clear c0 c1 c2 c3 c4 c5 c6 c7 c8 c9 c10
    have c0 := hx6.cells.1
    have HX6 := Lib.hid hx6
    clear hb6 hx6
    cases hlg : isLong m
    case true =>
      have er : r = 5 := by rw [HR2.out, hlg]; rfl
      subst er
      go_wp2_with fail
      go_ret
      exact ⟨rfl, by first | exact HB6.out | (rw [hb]; exact HB6.out)⟩
    have HR3 : Hid (r = bif isShort m then 2 else 0) := Lib.hid (by rw [HR2.out, hlg]; rfl)
    go_wp2_with fail
    refine (entry_any m.kind hk _ HT6.out).mono ?_
    rintro e w7 ⟨rfl, hb7⟩
    have HB7 : Hid (Below b w w7) := Lib.hid (HB6.out.trans (hb7.mono (by have := HX6.out.lt; omega)))
    clear hb7
    obtain ⟨f0, f3, f4⟩ := ent_field (at_ m.kind) w7
    cases hsh : isShort m
    case true =>
      have er : r = 2 := by rw [HR3.out, hsh]; rfl
      subst er
      have hz : ¬ bits .andNot .u16 (((at_ m.kind).full : Nat) : Int) ((U : Nat) : Int) = 0 := fun h => by have := HSH.out.1 h; rw [hsh] at this; cases this
      go_wp2_with fail
      go_ret
      exact ⟨rfl, by first | exact HB7.out | (rw [hb]; exact HB7.out)⟩
    have er : r = 0 := by rw [HR3.out, hsh]; rfl
    subst er
    have hz : bits .andNot .u16 (((at_ m.kind).full : Nat) : Int) ((U : Nat) : Int) = 0 := HSH.out.2 hsh
    go_wp2_with fail
    go_ret
    exact ⟨rfl, by first | exact HB7.out | (rw [hb]; exact HB7.out)⟩
  have hq := HQ.out
  rw [hok] at hq
  go_wp2_with fail
  refine (key_any m.key HKey.out _).mono ?_
  rintro e w4 ⟨rfl, hb4⟩
  have HB4 : Hid (Below b w w4) := Lib.hid (HB3.out.trans (hb4.mono (by have := HX3.out.lt; omega)))
  have hx4 := HX3.out.kept hb4
  have HT4 := Lib.hid (HT3.out.kept hb4)
  have HX4 := Lib.hid hx4
  clear hb4 c0 c1 c2 c3 c4 c5 c6 c7 c8 c9 c10
  obtain ⟨c0, c1, c2, c3, c4, c5, c6, c7, c8, c9, c10⟩ := hx4.cells
  clear hx4
  cases hik : isKey m.key
  case false =>
    have er : r = 7 := by rw [HR.out]; unfold badKey; rw [hok, hik]; rfl
    subst er
    go_wp2_with fail
    go_ret
    exact ⟨rfl, by first | exact HB4.out | (rw [hb]; exact HB4.out)⟩
  have hbk : Hid (badKey m = (false || m.pairs.any bad1)) := Lib.hid (by unfold badKey; rw [hok, hik]; rfl)
  go_wp2_with fail
  refine (any_bad HX4.out.mv).mono ?_
  rintro e w5 ⟨rfl, hb5⟩
  have HB5 : Hid (Below b w w5) := Lib.hid (HB4.out.trans (hb5.mono (by have := HX4.out.lt; omega)))
  have hx5 := HX4.out.kept hb5
  have HT5 := Lib.hid (HT4.out.kept hb5)
  have HX5 := Lib.hid hx5
  clear hb5 c0 c1 c2 c3 c4 c5 c6 c7 c8 c9 c10
  obtain ⟨c0, c1, c2, c3, c4, c5, c6, c7, c8, c9, c10⟩ := hx5.cells
  clear hx5
  cases hany : m.pairs.any bad1
  case true =>
    have er : r = 7 := by rw [HR.out, hbk.out, hany, Bool.or_true]; rfl
    subst er
    go_wp2_with fail
    go_ret
    exact ⟨rfl, by first | exact HB5.out | (rw [hb]; exact HB5.out)⟩
  have HR2 : Hid (r = bif isLong m then 5 else bif isShort m then 2 else 0) := Lib.hid (by rw [HR.out, hbk.out, hany]; rfl)
  go_wp2_with fail
  refine (islong_any HX5.out.mv).mono ?_
  rintro e w6 ⟨rfl, hb6⟩
  have HB6 : Hid (Below b w w6) := Lib.hid (HB5.out.trans (hb6.mono (by have := HX5.out.lt; omega)))
  have hx6 := HX5.out.kept hb6
  have HT6 := Lib.hid (HT5.out.kept hb6)
  clear c0 c1 c2 c3 c4 c5 c6 c7 c8 c9 c10
  have c0 := hx6.cells.1
  have HX6 := Lib.hid hx6
  clear hb6 hx6
  cases hlg : isLong m
  case true =>
    have er : r = 5 := by rw [HR2.out, hlg]; rfl
    subst er
    go_wp2_with fail
    go_ret
    exact ⟨rfl, by first | exact HB6.out | (rw [hb]; exact HB6.out)⟩
  have HR3 : Hid (r = bif isShort m then 2 else 0) := Lib.hid (by rw [HR2.out, hlg]; rfl)
  go_wp2_with fail
  refine (entry_any m.kind hk _ HT6.out).mono ?_
  rintro e w7 ⟨rfl, hb7⟩
  have HB7 : Hid (Below b w w7) := Lib.hid (HB6.out.trans (hb7.mono (by have := HX6.out.lt; omega)))
  clear hb7
  obtain ⟨f0, f3, f4⟩ := ent_field (at_ m.kind) w7
  cases hsh : isShort m
  case true =>
    have er : r = 2 := by rw [HR3.out, hsh]; rfl
    subst er
    have hz : ¬ bits .andNot .u16 (((at_ m.kind).full : Nat) : Int) ((U : Nat) : Int) = 0 := fun h => by have := HSH.out.1 h; rw [hsh] at this; cases this
    go_wp2_with fail
    go_ret
    exact ⟨rfl, by first | exact HB7.out | (rw [hb]; exact HB7.out)⟩
  have er : r = 0 := by rw [HR3.out, hsh]; rfl
  subst er
  have hz : bits .andNot .u16 (((at_ m.kind).full : Nat) : Int) ((U : Nat) : Int) = 0 := HSH.out.2 hsh
  go_wp2_with fail
  go_ret
  exact ⟨rfl, by first | exact HB7.out | (rw [hb]; exact HB7.out)⟩
end Go.Proofs.YtpfeccbnkgnioaaDoor
