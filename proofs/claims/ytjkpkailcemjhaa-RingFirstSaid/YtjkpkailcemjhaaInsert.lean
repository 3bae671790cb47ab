/- Contract of the sort's insertion sort. -/
import Derived.Test.YtjkpkailcemjhaaRotate
namespace Go.Proofs.Ytjkpkailcemjhaa
open Go.RowKit
set_option linter.unusedVariables false

/-- the comparison that ring.Sort hands on: 'from' lies in block h -/
def lessFn (h : Nat) : Value := .func (.func 23) #[] #[.pointer (some ⟨h, 0, none⟩)]

/-- what the sort's parts are told -/
structure Told (g n c frm h : Nat) (rest : List Value) (l : List Nat) (w : World) : Prop where
  len : l.length = n
  few : n ≤ 1000000000000
  cap : n ≤ c
  apart : h ≠ g
  frmLt : frm < 18446744073709551616
  cell : w.cell? ⟨h, 0, none⟩ = some (.int .u64 (frm : Int))
  small : ∀ x ∈ l, x < 18446744073709551616
  data : Data w g rest l
section
variable {g n c frm h a b : Nat} {rest : List Value} {l l' : List Nat} {w w' : World}
theorem Told.next (t : Told g n c frm h rest l w) (hs : Sm.Shuf a b l l') (hb : But g w w') (hd : Data w' g rest l') : Told g n c frm h rest l' w' :=
  ⟨hs.len.trans t.len, t.few, t.cap, t.apart, t.frmLt, (hb.cell t.apart).trans t.cell, hs.small t.small, hd⟩
theorem Told.at_ (t : Told g n c frm h rest l w) {i : Nat} (hi : i < n) : w.cell? ⟨g, i, none⟩ = some (.int .u64 ((l.getD i 0 : Nat) : Int)) ∧ l.getD i 0 < 18446744073709551616 :=
  ⟨t.data.at_ (by rw [t.len]; exact hi), getD_u64 t.small i⟩
end

set_option maxRecDepth 100000 in
set_option maxHeartbeats 800000 in
theorem insertion_any (g c n a b frm h : Nat) (rest : List Value) (l : List Nat) (w : World) (ht : Told g n c frm h rest l w) (hn1 : n ≤ 1000000000000) (hnc : n ≤ c) (hab : a ≤ b) (hb : b ≤ n) :
    Calls Try.prog 27 #[.slice (some ⟨g, 0, none⟩) n c, .int .i64 (a : Int), .int .i64 (b : Int), lessFn h] w
      (Turned g rest w fun l' => Sm.Shuf a b l l' ∧ Sm.Asc (Rm.dist frm) a b l') := by
  have HT := Lib.hid ht
  clear ht
  unfold lessFn
  go_enter Try.func27, Try.ntmps27
  go_wp2_with fail
  go_loopw [8] (fun vi wr => ∃ (i : Nat) (l1 : List Nat), vi = .int .i64 i ∧ a + 1 ≤ i ∧ i ≤ b + 1 ∧ Hid (Sm.Shuf a b l l1) ∧ Hid (Sm.Asc (Rm.dist frm) a i l1) ∧ Hid (But g w wr) ∧ Hid (Told g n c frm h rest l1 wr)) (fun vi _ => b + 1 - (intOf vi).toNat)
  case atStart => exact ⟨a + 1, l, by go_num, by omega, by omega, Lib.hid (Sm.Shuf.refl _ _ _), Lib.hid (Sm.Asc.tiny (by omega)), Lib.hid (But.refl _ _), HT⟩
  case round =>
    obtain ⟨i, l1, rfl, hi1, hi2, HS, HA, HB, HR⟩ := hrel
    by_cases hlt : i < b
    · have HI := Lib.hid (Sm.Ins.start HA.out (by omega))
      clear HA
      go_wp2_with fail
      go_loopw [9] (fun vj wr => ∃ (j : Nat) (l2 : List Nat), vj = .int .i64 j ∧ a ≤ j ∧ j ≤ i ∧ Hid (Sm.Shuf a b l l2) ∧ Hid (Sm.Ins (Rm.dist frm) a i j l2) ∧ Hid (But g w wr) ∧ Hid (Told g n c frm h rest l2 wr)) (fun vj _ => (intOf vj).toNat)
      case atStart => exact ⟨i, l1, rfl, by omega, by omega, HS, HI, HB, HR⟩
      case round =>
        clear HS HI HB HR
        obtain ⟨j, l2, rfl, hj1, hj2, HS, HI, HB, HR⟩ := hrel
        by_cases hja : a < j
        · obtain ⟨hc1, hx⟩ := HR.out.at_ (i := j) (by omega)
          obtain ⟨hc2, hy⟩ := HR.out.at_ (i := j - 1) (by omega)
          have hfr := HR.out.frmLt
          have hcf := HR.out.cell
          have e1 : (j : Int) - 1 = ((j - 1 : Nat) : Int) := by omega
          have b0 : j < n := by omega
          have b1 : j - 1 < n := by omega
          have hlen := HR.out.len
          have HI' := Lib.hid (fun hd => HI.out.step hja (by omega) hd)
          have HD := Lib.hid (fun hd => HI.out.done (.inr hd))
          have HS' := Lib.hid (HS.out.trans (Sm.Shuf.swap l2 (a := a) (b := b) (i := j) (j := j - 1) (by omega) (by omega) (by omega) (by omega) (by omega)))
          have HW := Lib.hid (Sm.Shuf.swap l2 (a := a) (b := b) (i := j) (j := j - 1) (by omega) (by omega) (by omega) (by omega) (by omega))
          obtain ⟨x, Hx⟩ : ∃ x, Hid (l2.getD j 0 = x) := ⟨_, rfl⟩
          obtain ⟨y, Hy⟩ : ∃ y, Hid (l2.getD (j - 1) 0 = y) := ⟨_, rfl⟩
          rw [Hx.out] at hc1 hx HI' HD
          rw [Hy.out] at hc2 hy HI' HD
          obtain ⟨q, Hq⟩ : ∃ q, Hid (j - 1 = q) := ⟨_, rfl⟩
          rw [Hq.out] at e1 b1 hc2 HI' HS' HW Hy
          have Hqj : Hid (q + 1 = j) := by have := Hq.out; exact Lib.hid (by omega)
          have Hlen := Lib.hid hlen
          clear hlen
          by_cases hd : Rm.dist frm x < Rm.dist frm y
          · have hcmp : cmpI (Rm.dist frm x) (Rm.dist frm y) = -1 := cmpI_lt hd
            go_wp2_with fail
            go_quiet (exact Calls.quiet_of (less_any frm x y h _ hfr hx hy hcf))
            have HB2 := Lib.hid (HB.out.drewN nq)
            have HR2 : Hid (Told g n c frm h rest l2 (wr.drewN nq)) := Lib.hid (HR.out.next (Sm.Shuf.refl a b _) ((But.refl g wr).drewN nq) (HR.out.data.drewN nq))
            clear HB HR hc1 hc2 hcf hcmp
            generalize wr.drewN nq = w2 at *
            obtain ⟨hc1, _⟩ := HR2.out.at_ (i := j) (by omega)
            obtain ⟨hc2, _⟩ := HR2.out.at_ (i := q) b1
            rw [Hx.out] at hc1
            rw [Hy.out] at hc2
            have hf1 := HR2.out.data.free j
            have hput := HR2.out.data.put (i := j) (by rw [Hlen.out]; omega) y
            have hc3 := hput.at_ (i := q) (by rw [List.length_set, Hlen.out]; omega)
            have hf3 := hput.free q
            obtain ⟨z, Hz⟩ : ∃ z, Hid ((l2.set j y).getD q 0 = z) := ⟨_, rfl⟩
            rw [Hz.out] at hc3
            have HR3 := Lib.hid (HR2.out.data.swap (i := j) (j := q) (by rw [Hlen.out]; omega) (by rw [Hlen.out]; omega) Hy.out Hx.out)
            have HB3 := Lib.hid (((But.refl g w2).setCell j (.int .u64 (y : Int))).setCell q (.int .u64 (x : Int)))
            have HT3 := Lib.hid (HR2.out.next HW.out HB3.out.drew HR3.out.drew)
            have HB4 := Lib.hid (HB2.out.trans HB3.out.drew)
            have HI3 := Lib.hid (HI'.out hd)
            clear hput HR3 HB3 HR2 HB2 HI' HD HI
            go_wp2_with fail
            go_region
            go_wp2_with fail
            go_roundw
            case rel => exact ⟨q, _, by go_num, by have := Hqj.out; omega, by have := Hqj.out; omega, HS', HI3, HB4, HT3⟩
            case measure => go_light; simp [intOf]; have := Hqj.out; omega
          · have hcmp := cmpI_ge hd
            obtain ⟨cv, Hcv⟩ : ∃ cv, Hid (cmpI (Rm.dist frm x) (Rm.dist frm y) = cv) := ⟨_, rfl⟩
            have HL := Lib.hid (fun k => less_any frm x y h (wr.drewN k) hfr hx hy hcf)
            rw [Hcv.out] at hcmp HL
            have hcmp2 : decide (cv < 0) = false := decide_eq_false hcmp
            have HD' := Lib.hid (HD.out (by omega))
            clear HD HI' HI
            go_wp2_with fail
            go_quiet (exact Calls.quiet_of (HL.out _))
            go_wp2_with fail
            go_roundw
            case rel => exact ⟨i + 1, l2, by go_num, by omega, by omega, HS, HD', Lib.hid (HB.out.drewN _), Lib.hid (HR.out.next (Sm.Shuf.refl a b _) ((But.refl g wr).drewN _) (HR.out.data.drewN _))⟩
            case measure => go_light; simp [intOf]; omega
        · have HD' := Lib.hid (HI.out.done (.inl (by omega)))
          have hg : decide ((a : Int) < (j : Int)) = false := decide_eq_false (by omega)
          go_wp2_with fail
          go_quiet (fail)
          go_wp2_with fail
          go_roundw
          case rel => exact ⟨i + 1, l2, by go_num, by omega, by omega, HS, HD', Lib.hid (HB.out.drewN _), Lib.hid (HR.out.next (Sm.Shuf.refl a b _) ((But.refl g wr).drewN _) (HR.out.data.drewN _))⟩
          case measure => go_light; simp [intOf]; omega
    · go_wp2_with fail
      go_end0
      exact ⟨_, l1, rfl, ⟨HS.out, HA.out.part (Nat.le_refl _) (by omega)⟩, HB.out, HR.out.data⟩
end Go.Proofs.Ytjkpkailcemjhaa
