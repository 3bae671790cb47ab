/- Contract of the sort's symMerge where the second part is a single number. -/
import Derived.Test.YtjkpkailcemjhaaMerge
namespace Go.Proofs.Ytjkpkailcemjhaa
open Go.RowKit
set_option linter.unusedVariables false

set_option maxRecDepth 100000 in
set_option maxHeartbeats 1600000 in
theorem merge_snd (g c n a m b frm h : Nat) (rest : List Value) (l : List Nat) (w : World) (ht : Told g n c frm h rest l w) (hn1 : n ≤ 1000000000000) (hnc : n ≤ c) (ham : a < m) (hne : m ≠ a + 1) (hmb : b = m + 1) (hb : b ≤ n) (h1 : Sm.Asc (Rm.dist frm) a m l) :
    Calls Try.prog 28 #[.slice (some ⟨g, 0, none⟩) n c, .int .i64 (a : Int), .int .i64 (m : Int), .int .i64 (b : Int), lessFn h] w
      (Turned g rest w fun l' => Sm.Shuf a b l l' ∧ Sm.Asc (Rm.dist frm) a b l') := by
  have HT := Lib.hid ht
  clear ht
  have H1 := Lib.hid h1
  clear h1
  unfold lessFn
  have hone : ((m : Int) - (a : Int) == 1) = false := by simp; omega
  have hone2 : ((b : Int) - (m : Int) == 1) = true := by simp; omega
  have Hmb := Lib.hid hmb
  have hlt : m < b := by omega
  clear hmb hne
  go_enter Try.func28, Try.ntmps28
  go_wp2_with fail
  go_loopw [14, 15] (fun vi vj wr => ∃ (i j k : Nat), vi = .int .i64 i ∧ vj = .int .i64 j ∧ a ≤ i ∧ i ≤ j ∧ j ≤ m ∧ Hid (Sm.Cut (fun p => ¬ Rm.dist frm (l.getD m 0) < Rm.dist frm (l.getD p 0)) a m i j) ∧ Hid (wr = w.drewN k)) (fun vi vj _ => (intOf vj).toNat - (intOf vi).toNat)
  case atStart => exact ⟨a, m, 0, rfl, rfl, by omega, by omega, by omega, Lib.hid (Sm.Cut.start _ (by omega)), Lib.hid rfl⟩
  case round =>
    obtain ⟨i, j, k, rfl, rfl, hi, hij, hj, HC, HW⟩ := hrel
    have HR : Hid (Told g n c frm h rest l wr) := Lib.hid (by rw [HW.out]; exact HT.out.drewN k)
    have HB : Hid (But g w wr) := Lib.hid (by rw [HW.out]; exact (But.refl g w).drewN k)
    by_cases hlt2 : i < j
    · obtain ⟨q, Hq⟩ : ∃ q, Hid ((i + j) / 2 = q) := ⟨_, rfl⟩
      have hq1 : i ≤ q := by have := Hq.out; omega
      have hq2 : q < j := by have := Hq.out; omega
      have hqi : ((i : Int) + (j : Int)) / 2 = (q : Int) := by have := Hq.out; omega
      obtain ⟨hc1, hx⟩ := HR.out.at_ (i := m) (by omega)
      obtain ⟨hc2, hy⟩ := HR.out.at_ (i := q) (by omega)
      have hfr := HR.out.frmLt
      have hcf := HR.out.cell
      have HY := Lib.hid (HC.out.right (Sm.falls2 H1.out) hq1 hq2)
      have HN := Lib.hid (HC.out.left (Sm.falls2 H1.out) hq1 hq2)
      obtain ⟨x, Hx⟩ : ∃ x, Hid (l.getD m 0 = x) := ⟨_, rfl⟩
      obtain ⟨y, Hy⟩ : ∃ y, Hid (l.getD q 0 = y) := ⟨_, rfl⟩
      rw [Hx.out] at hc1 hx HY HN HC
      rw [Hy.out] at hc2 hy HY HN
      have b0 : q < n := by omega
      have b1 : m < n := by omega
      by_cases hd : Rm.dist frm x < Rm.dist frm y
      · have hcmp : cmpI (Rm.dist frm x) (Rm.dist frm y) = -1 := cmpI_lt hd
        have HC' := Lib.hid (HN.out (fun h => h hd))
        clear HY HN HC
        go_wp2_with fail
        go_quiet (exact Calls.quiet_of (less_any frm x y h _ hfr hx hy hcf))
        go_wp2_with fail
        go_roundw
        case rel => exact ⟨i, q, k + nq, rfl, rfl, hi, hq1, by omega, by rw [Hx.out]; exact HC', Lib.hid (by rw [HW.out, World.drewN_drewN])⟩
        case measure => go_light; simp [intOf]; omega
      · have hcmp := cmpI_ge hd
        obtain ⟨cv, Hcv⟩ : ∃ cv, Hid (cmpI (Rm.dist frm x) (Rm.dist frm y) = cv) := ⟨_, rfl⟩
        have HL := Lib.hid (fun k => less_any frm x y h (wr.drewN k) hfr hx hy hcf)
        rw [Hcv.out] at hcmp HL
        have hcmp2 : decide (cv < 0) = false := decide_eq_false hcmp
        have HC' := Lib.hid (HY.out hd)
        clear HY HN HC
        go_wp2_with fail
        go_quiet (exact Calls.quiet_of (HL.out _))
        go_wp2_with fail
        go_roundw
        case rel => exact ⟨q + 1, j, k + nq, by go_num, rfl, by omega, by omega, hj, by rw [Hx.out]; exact HC', Lib.hid (by rw [HW.out, World.drewN_drewN])⟩
        case measure => go_light; simp [intOf]; omega
    · obtain rfl : i = j := by omega
      have HM := Lib.hid (fun l' (hv : Sm.MovL m i l l') => Sm.merge2 Hmb.out H1.out HC.out hv)
      clear HC HW
      go_wp2_with fail
      go_loopw [17] (fun vq wr => ∃ (q : Nat) (l1 : List Nat), vq = .int .i64 q ∧ i ≤ q ∧ q ≤ m ∧ Hid (Sm.MovL m q l l1) ∧ Hid (Sm.Shuf a b l l1) ∧ Hid (But g w wr) ∧ Hid (Told g n c frm h rest l1 wr)) (fun vq _ => (intOf vq).toNat)
      case atStart => exact ⟨m, l, rfl, by omega, by omega, Lib.hid (Sm.MovL.start m l), Lib.hid (Sm.Shuf.refl _ _ _), HB, HR⟩
      case round =>
        clear HB HR
        obtain ⟨q, l1, rfl, hq1, hq2, HV, HS, HB, HR⟩ := hrel
        by_cases hlt3 : i < q
        · have hlen := HR.out.len
          have hsw := Sm.Shuf.swap l1 (a := a) (b := b) (i := q) (j := q - 1) (by omega) (by omega) (by omega) (by omega) (by omega)
          have HS' := Lib.hid (HS.out.trans hsw)
          have HV' := Lib.hid (HV.out.next (by omega) hq2 (by omega))
          have hc1 := HR.out.data.at_ (i := q) (by omega)
          have hc2 := HR.out.data.at_ (i := q - 1) (by omega)
          have hf1 := HR.out.data.free q
          obtain ⟨x, Hx⟩ : ∃ x, Hid (l1.getD (q - 1) 0 = x) := ⟨_, rfl⟩
          obtain ⟨y, Hy⟩ : ∃ y, Hid (l1.getD q 0 = y) := ⟨_, rfl⟩
          have hR3 := HR.out.data.swap (i := q) (j := q - 1) (by omega) (by omega) Hx.out Hy.out
          have hput := HR.out.data.put (i := q) (by omega) x
          have hc3 := hput.at_ (i := q - 1) (by rw [List.length_set]; omega)
          have hf3 := hput.free (q - 1)
          have hB3 := ((But.refl g wr).setCell q (.int .u64 (x : Int))).setCell (q - 1) (.int .u64 (y : Int))
          have HT3 := Lib.hid (HR.out.next hsw hB3.drew hR3.drew)
          have HB3 := Lib.hid (HB.out.trans hB3.drew)
          rw [Hx.out] at hc2
          rw [Hy.out] at hc1
          clear hput hR3 hB3 hsw HR HB HV HS hlen
          have e1 : (q : Int) - 1 = ((q - 1 : Nat) : Int) := by omega
          have b0 : q < n := by omega
          have b1 : q - 1 < n := by omega
          obtain ⟨p, Hp⟩ : ∃ p, Hid (q - 1 = p) := ⟨_, rfl⟩
          rw [Hp.out] at hc2 hc3 hf3 HT3 HB3 HS' HV' e1 b1
          obtain ⟨z, Hz⟩ : ∃ z, Hid ((l1.set q x).getD p 0 = z) := ⟨_, rfl⟩
          rw [Hz.out] at hc3
          have Hip : Hid (i ≤ p) := by have := Hp.out; exact Lib.hid (by omega)
          have Hpm : Hid (p ≤ m) := by have := Hp.out; exact Lib.hid (by omega)
          have Hqp : Hid (p < q) := by have := Hp.out; exact Lib.hid (by omega)
          go_wp2_with fail
          go_region
          go_wp2_with fail
          go_roundw
          case rel => exact ⟨p, _, by go_num, Hip.out, Hpm.out, HV', HS', HB3, HT3⟩
          case measure => have := Hqp.out; go_light; simp [intOf]; omega
        · have HF := Lib.hid (HM.out l1 (by rw [show i = q by omega]; exact HV.out))
          go_wp2_with fail
          go_end0
          exact ⟨_, l1, rfl, ⟨HS.out, HF.out⟩, HB.out, HR.out.data⟩
end Go.Proofs.Ytjkpkailcemjhaa
