/- Contracts of the sort's swapRange and rotate. -/
import Derived.Test.YtjkpkailcemjhaaCmp
import Derived.BigRegion
namespace Go.Proofs.Ytjkpkailcemjhaa
open Go.RowKit
set_option linter.unusedVariables false

/-- behind a call that only turns the row: what is known of the new row -/
def Turned (g : Nat) (rest : List Value) (w : World) (R : List Nat → Prop) (e : Ending) (w' : World) : Prop :=
  ∃ v l', e = .returned v ∧ R l' ∧ But g w w' ∧ Data w' g rest l'

set_option maxRecDepth 100000 in
set_option maxHeartbeats 400000 in
theorem swapRange_any (g c n a b s : Nat) (fv : Value) (rest : List Value) (l : List Nat) (w : World) (hn : l.length = n) (hn1 : n ≤ 1000000000000) (hnc : n ≤ c) (hd : a + s ≤ b) (hb : b + s ≤ n) (hD : Data w g rest l) :
    Calls Try.prog 30 #[.slice (some ⟨g, 0, none⟩) n c, .int .i64 (a : Int), .int .i64 (b : Int), .int .i64 (s : Int), fv] w
      (Turned g rest w fun l' => Sm.Swapped a b s l l' ∧ Sm.Shuf a (b + s) l l') := by
  have Hn := Lib.hid hn
  clear hn
  have HD := Lib.hid hD
  clear hD
  go_enter Try.func30, Try.ntmps30
  go_wp2_with fail
  go_loopw [10] (fun i wr => ∃ (j : Nat) (l' : List Nat), i = .int .i64 j ∧ j ≤ s ∧ Hid (Sm.Swapped a b j l l') ∧ Hid (Sm.Shuf a (b + s) l l') ∧ Hid (But g w wr) ∧ Hid (Data wr g rest l')) (fun i _ => s - (intOf i).toNat)
  case atStart => exact ⟨0, l, rfl, by omega, Lib.hid (Sm.Swapped.start a b l), Lib.hid (Sm.Shuf.refl _ _ _), Lib.hid (But.refl _ _), HD⟩
  case round =>
    obtain ⟨j, l', rfl, hj, HS, HH, HB, HR⟩ := hrel
    by_cases hlt : j < s
    · have hl' : l'.length = n := by rw [HS.out.len, Hn.out]
      have HS' := Lib.hid (HS.out.next (by omega) (by rw [Hn.out]; omega))
      have HH' := Lib.hid (HH.out.trans (Sm.Shuf.swap l' (a := a) (b := b + s) (i := a + j) (j := b + j) (by omega) (by omega) (by omega) (by omega) (by rw [hl']; exact hb)))
      have hc1 := HR.out.at_ (i := a + j) (by omega)
      have hc2 := HR.out.at_ (i := b + j) (by omega)
      have hf1 := HR.out.free (a + j)
      obtain ⟨x, Hx⟩ : ∃ x, Hid (l'.getD (b + j) 0 = x) := ⟨_, rfl⟩
      obtain ⟨y, Hy⟩ : ∃ y, Hid (l'.getD (a + j) 0 = y) := ⟨_, rfl⟩
      have HR' := Lib.hid (HR.out.swap (i := a + j) (j := b + j) (by omega) (by omega) Hx.out Hy.out)
      have hput := HR.out.put (i := a + j) (by omega) x
      have hc3 := hput.at_ (i := b + j) (by rw [List.length_set]; omega)
      have hf3 := hput.free (b + j)
      have HB' := Lib.hid ((HB.out.setCell (a + j) (.int .u64 (x : Int))).setCell (b + j) (.int .u64 (y : Int)))
      rw [Hx.out] at hc2
      rw [Hy.out] at hc1
      clear hput HH HS HB HR hl'
      have e1 : (a : Int) + (j : Int) = ((a + j : Nat) : Int) := by omega
      have e2 : (b : Int) + (j : Int) = ((b + j : Nat) : Int) := by omega
      have b1 : a + j < n := by omega
      have b2 : b + j < n := by omega
      obtain ⟨p, Hp⟩ : ∃ p, Hid (a + j = p) := ⟨_, rfl⟩
      obtain ⟨q, Hq⟩ : ∃ q, Hid (b + j = q) := ⟨_, rfl⟩
      rw [Hp.out] at hc1 hf1 hc3 hf3 HR' HB' HS' HH' e1 b1
      rw [Hq.out] at hc2 hc3 hf3 HR' HB' HS' HH' e2 b2
      obtain ⟨z, Hz⟩ : ∃ z, Hid ((l'.set p x).getD q 0 = z) := ⟨_, rfl⟩
      rw [Hz.out] at hc3
      go_wp2_with fail
      go_region
      go_wp2_with fail
      go_roundw
      case rel => exact ⟨j + 1, _, by go_num, hlt, HS', HH', Lib.hid HB'.out.drew, Lib.hid HR'.out.drew⟩
      case measure => go_light; simp [intOf]; omega
    · obtain rfl : j = s := by omega
      go_wp2_with fail
      go_end0
      exact ⟨_, l', rfl, ⟨HS.out, HH.out⟩, HB.out, HR.out⟩

/-- what is left to rotate behind some rounds -/
structure Rots (a m b : Nat) (l : List Nat) (i j : Nat) (cur : List Nat) : Prop where
  i0 : 0 < i
  j0 : 0 < j
  ia : a + i ≤ m
  jb : m + j ≤ b
  left : ∀ lf, Sm.Rot (m - i) m (m + j) cur lf → Sm.Rot a m b l lf
  shuf : Sm.Shuf a b l cur
section
variable {a m b i j : Nat} {l cur l1 : List Nat}
theorem Rots.start (l : List Nat) (h1 : a < m) (h2 : m < b) : Rots a m b l (m - a) (b - m) l :=
  ⟨by omega, by omega, by omega, by omega, fun lf h => by rwa [show m - (m - a) = a by omega, show m + (b - m) = b by omega] at h, Sm.Shuf.refl _ _ _⟩
theorem Rots.more (h : Rots a m b l i j cur) (hj : j < i) (hs : Sm.Swapped (m - i) m j cur l1) (hh : Sm.Shuf (m - i) (m + j) cur l1) : Rots a m b l (i - j) j l1 := by
  obtain ⟨h1, h2, h3, h4, h5, h6⟩ := h
  exact ⟨by omega, h2, by omega, h4, fun lf hf => h5 lf (Sm.Rot.more hs hj (by omega) hf), h6.trans (hh.mono (by omega) (by omega))⟩
theorem Rots.less (h : Rots a m b l i j cur) (hj : i < j) (hs : Sm.Swapped (m - i) (m + j - i) i cur l1) (hh : Sm.Shuf (m - i) (m + j - i + i) cur l1) : Rots a m b l i (j - i) l1 := by
  obtain ⟨h1, h2, h3, h4, h5, h6⟩ := h
  exact ⟨h1, by omega, h3, by omega, fun lf hf => h5 lf (Sm.Rot.less hs hj (by omega) hf), h6.trans (hh.mono (by omega) (by omega))⟩
theorem Rots.last (h : Rots a m b l i i cur) (hs : Sm.Swapped (m - i) m i cur l1) (hh : Sm.Shuf (m - i) (m + i) cur l1) : Sm.Rot a m b l l1 ∧ Sm.Shuf a b l l1 := by
  obtain ⟨h1, h2, h3, h4, h5, h6⟩ := h
  exact ⟨h5 l1 (Sm.Rot.last hs (by omega)), h6.trans (hh.mono (by omega) h4)⟩
end

set_option maxRecDepth 100000 in
set_option maxHeartbeats 400000 in
theorem rotate_any (g c n a m b : Nat) (fv : Value) (rest : List Value) (l : List Nat) (w : World) (hn : l.length = n) (hn1 : n ≤ 1000000000000) (hnc : n ≤ c) (ham : a < m) (hmb : m < b) (hb : b ≤ n) (hD : Data w g rest l) :
    Calls Try.prog 29 #[.slice (some ⟨g, 0, none⟩) n c, .int .i64 (a : Int), .int .i64 (m : Int), .int .i64 (b : Int), fv] w
      (Turned g rest w fun l' => Sm.Rot a m b l l' ∧ Sm.Shuf a b l l') := by
  have Hn := Lib.hid hn
  clear hn
  have HD := Lib.hid hD
  clear hD
  have HS := Lib.hid (Rots.start l ham hmb)
  go_enter Try.func29, Try.ntmps29
  go_wp2_with fail
  go_loopw [10, 11] (fun vi vj wr => ∃ (i j : Nat) (cur : List Nat), vi = .int .i64 i ∧ vj = .int .i64 j ∧ Hid (Rots a m b l i j cur) ∧ Hid (But g w wr) ∧ Hid (Data wr g rest cur)) (fun vi vj _ => (intOf vi).toNat + (intOf vj).toNat)
  case atStart => exact ⟨m - a, b - m, l, by go_num, by go_num, HS, Lib.hid (But.refl _ _), HD⟩
  case round =>
    obtain ⟨i, j, cur, rfl, rfl, HS, HB, HR⟩ := hrel
    have hi0 := HS.out.i0
    have hj0 := HS.out.j0
    have hia := HS.out.ia
    have hjb := HS.out.jb
    have Hcur : Hid (cur.length = n) := Lib.hid (by rw [HS.out.shuf.len, Hn.out])
    by_cases h1 : j < i
    · have e1 : (m : Int) - (i : Int) = ((m - i : Nat) : Int) := by omega
      have hne : ((i : Int) != (j : Int)) = true := by simp; omega
      go_wp2_with fail
      refine (swapRange_any g c n (m - i) m j fv rest cur wr Hcur.out hn1 hnc (by omega) (by omega) HR.out).mono ?_
      rintro e w1 ⟨v, l1, rfl, ⟨hs1, hs2⟩, hb1, hd1⟩
      have HS' := Lib.hid (HS.out.more h1 hs1 hs2)
      have HB' := Lib.hid (HB.out.trans hb1)
      have HR' := Lib.hid hd1
      clear hs1 hs2 hb1 hd1 HS HB HR
      go_wp2_with fail
      go_roundw
      case rel => exact ⟨i - j, j, l1, by go_num, by go_num, HS', HB', HR'⟩
      case measure => go_light; simp [intOf]; omega
    · by_cases h2 : i < j
      · have e1 : (m : Int) - (i : Int) = ((m - i : Nat) : Int) := by omega
        have e2 : (m : Int) + (j : Int) - (i : Int) = ((m + j - i : Nat) : Int) := by omega
        have hne : ((i : Int) != (j : Int)) = true := by simp; omega
        go_wp2_with fail
        refine (swapRange_any g c n (m - i) (m + j - i) i fv rest cur wr Hcur.out hn1 hnc (by omega) (by omega) HR.out).mono ?_
        rintro e w1 ⟨v, l1, rfl, ⟨hs1, hs2⟩, hb1, hd1⟩
        have HS' := Lib.hid (HS.out.less h2 hs1 hs2)
        have HB' := Lib.hid (HB.out.trans hb1)
        have HR' := Lib.hid hd1
        clear hs1 hs2 hb1 hd1 HS HB HR
        go_wp2_with fail
        go_roundw
        case rel => exact ⟨i, j - i, l1, by go_num, by go_num, HS', HB', HR'⟩
        case measure => go_light; simp [intOf]; omega
      · obtain rfl : i = j := by omega
        have e1 : (m : Int) - (i : Int) = ((m - i : Nat) : Int) := by omega
        have hne : ((i : Int) != (i : Int)) = false := by simp
        go_wp2_with fail
        refine (swapRange_any g c n (m - i) m i fv rest cur wr Hcur.out hn1 hnc (by omega) (by omega) HR.out).mono ?_
        rintro e w1 ⟨v, l1, rfl, ⟨hs1, hs2⟩, hb1, hd1⟩
        have HS' := Lib.hid (HS.out.last hs1 hs2)
        have HB' := Lib.hid (HB.out.trans hb1)
        have HR' := Lib.hid hd1
        clear hs1 hs2 hb1 hd1 HS HB HR
        go_wp2_with fail
        go_end0
        exact ⟨_, l1, rfl, HS'.out, HB'.out, HR'.out⟩
end Go.Proofs.Ytjkpkailcemjhaa
