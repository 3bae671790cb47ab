/- Contracts of the library's stable sort, at numbers and with the comparison of ring.Sort. -/
import Derived.Test.YtjkpkailcemjhaaMerge3
namespace Go.Proofs.Ytjkpkailcemjhaa
open Go.RowKit
set_option linter.unusedVariables false

set_option maxRecDepth 100000 in
set_option maxHeartbeats 4000000 in
theorem stable_any (g c n frm h : Nat) (rest : List Value) (l : List Nat) (w : World) (ht : Told g n c frm h rest l w) (hn1 : n ≤ 1000000000000) (hnc : n ≤ c) :
    Calls Try.prog 25 #[.slice (some ⟨g, 0, none⟩) n c, .int .i64 (n : Int), lessFn h] w
      (Turned g rest w fun l' => Sm.Shuf 0 n l l' ∧ Sm.Asc (Rm.dist frm) 0 n l') := by
  have HT := Lib.hid ht
  clear ht
  have HInsert := Lib.hid (fun a b l1 w1 t1 h1 h2 => insertion_any g c n a b frm h rest l1 w1 t1 hn1 hnc h1 h2)
  have HMerge := Lib.hid (fun a m b l1 w1 t1 h1 h2 h3 h4 h5 => merge_any g c n frm h rest hn1 hnc (b - a) a m b l1 w1 (Nat.le_refl _) t1 h1 h2 h3 h4 h5)
  unfold lessFn at HInsert HMerge ⊢
  go_enter Try.func25, Try.ntmps25
  go_wp2_with fail
  go_loopw [7, 8] (fun va vb wr => ∃ (a b : Nat) (l1 : List Nat), va = .int .i64 a ∧ vb = .int .i64 b ∧ b = a + 20 ∧ a ≤ n ∧ Hid (Sm.Runs (Rm.dist frm) 20 a l1) ∧ Hid (Sm.Shuf 0 n l l1) ∧ Hid (But g w wr) ∧ Hid (Told g n c frm h rest l1 wr)) (fun va _ _ => n + 1 - (intOf va).toNat)
  case atStart => exact ⟨0, 20, l, rfl, rfl, rfl, by omega, Lib.hid (Sm.Runs.start _ _ _ (by omega)), Lib.hid (Sm.Shuf.refl _ _ _), Lib.hid (But.refl _ _), HT⟩
  case round =>
    obtain ⟨a, b, l1, rfl, rfl, hab, han, HU, HS, HB, HR⟩ := hrel
    have Hab := Lib.hid hab
    have hab2 : a ≤ b := by omega
    clear hab
    by_cases hlt : b ≤ n
    · go_wp2_with fail
      refine (HInsert.out a b l1 wr HR.out hab2 hlt).mono ?_
      rintro e w1 ⟨v, l2, rfl, ⟨hs2, ha2⟩, hb2, hd2⟩
      have HU2 : Hid (Sm.Runs (Rm.dist frm) 20 b l2) := by
        have e := Hab.out
        subst e
        exact Lib.hid (HU.out.next hs2 ha2)
      have HS2 := Lib.hid (HS.out.trans (hs2.mono (Nat.zero_le _) hlt))
      have HR2 := Lib.hid (HR.out.next hs2 hb2 hd2)
      have HB2 := Lib.hid (HB.out.trans hb2)
      clear hs2 ha2 hb2 hd2 HU HS HB HR
      go_wp2_with fail
      go_roundw
      case rel => exact ⟨b, b + 20, l2, rfl, by go_num, rfl, hlt, HU2, HS2, HB2, HR2⟩
      case measure => have := Hab.out; go_light; simp [intOf]; omega
    · go_wp2_with fail
      refine (HInsert.out a n l1 wr HR.out han (Nat.le_refl _)).mono ?_
      rintro e w1 ⟨v, l2, rfl, ⟨hs2, ha2⟩, hb2, hd2⟩
      have HU2 : Hid (Sm.Tail (Rm.dist frm) 20 0 n l2) := by
        have e := Hab.out
        exact Lib.hid ((HU.out.keep hs2 (Nat.le_refl _)).tail (by omega) ha2)
      have HS2 := Lib.hid (HS.out.trans (hs2.mono (Nat.zero_le _) (Nat.le_refl _)))
      have HR2 := Lib.hid (HR.out.next hs2 hb2 hd2)
      have HB2 := Lib.hid (HB.out.trans hb2)
      clear hs2 ha2 hb2 hd2 HU HS HB HR hlt hab2
      go_wp2_with fail
      go_loopw [6] (fun vs wr => ∃ (s : Nat) (l1 : List Nat), vs = .int .i64 s ∧ 1 ≤ s ∧ s ≤ 2000000000000 ∧ Hid (Sm.Tail (Rm.dist frm) s 0 n l1) ∧ Hid (Sm.Shuf 0 n l l1) ∧ Hid (But g w wr) ∧ Hid (Told g n c frm h rest l1 wr)) (fun vs _ => n - (intOf vs).toNat)
      case atStart => exact ⟨20, l2, rfl, by omega, by omega, HU2, HS2, HB2, HR2⟩
      case round =>
        clear HU2 HS2 HB2 HR2
        obtain ⟨s, l1, rfl, hs1, hs2, HU, HS, HB, HR⟩ := hrel
        by_cases hsn : s < n
        · obtain ⟨s2, Hs2⟩ : ∃ s2, Hid (2 * s = s2) := ⟨_, rfl⟩
          have e1 : 2 * (s : Int) = (s2 : Int) := by have := Hs2.out; omega
          have e2 : (s : Int) * 2 = (s2 : Int) := by have := Hs2.out; omega
          have hs3 : s2 ≤ 2000000000000 := by have := Hs2.out; omega
          have hs4 : s < s2 := by have := Hs2.out; omega
          go_wp2_with fail
          go_loopw [7, 8] (fun va vb wr => ∃ (a b : Nat) (l1 : List Nat), va = .int .i64 a ∧ vb = .int .i64 b ∧ Hid (b = a + 2 * s) ∧ a ≤ n ∧ b ≤ 5000000000000 ∧ Hid (Sm.Runs (Rm.dist frm) (2 * s) a l1) ∧ Hid (Sm.Tail (Rm.dist frm) s a n l1) ∧ Hid (Sm.Shuf 0 n l l1) ∧ Hid (But g w wr) ∧ Hid (Told g n c frm h rest l1 wr)) (fun va _ _ => n + 1 - (intOf va).toNat)
          case atStart => exact ⟨0, s2, l1, rfl, rfl, Lib.hid (by rw [Hs2.out]; omega), by omega, by omega, Lib.hid (Sm.Runs.start _ _ _ (by omega)), HU, HS, HB, HR⟩
          case round =>
            clear HU HS HB HR
            obtain ⟨a, b, l1, rfl, rfl, Hab, han, hb5, HU, HL, HS, HB, HR⟩ := hrel
            have hab := Hab.out
            obtain ⟨m, Hm⟩ : ∃ m, Hid (a + s = m) := ⟨_, rfl⟩
            have e3 : (a : Int) + (s : Int) = (m : Int) := by have := Hm.out; omega
            have hm1 : a < m := by have := Hm.out; omega
            have hm2 : m < b := by have := Hm.out; omega
            have hba : b ≤ a + 4000000000000 := by omega
            clear hab
            by_cases hlt : b ≤ n
            · have h2 := HL.out.two (Sm.dvd_half HU.out.dvd) (by rw [Hm.out]; omega)
              rw [show min (a + 2 * s) n = b by have := Hab.out; omega, Hm.out] at h2
              obtain ⟨p1, p2⟩ := h2
              have P1 := Lib.hid p1
              have P2 := Lib.hid p2
              clear p1 p2
              go_wp2_with fail
              refine (HMerge.out a m b l1 wr HR.out hm1 hm2 hlt P1.out P2.out).mono ?_
              rintro e w1 ⟨v, l2, rfl, ⟨hs2, ha2⟩, hb2, hd2⟩
              have HU2 : Hid (Sm.Runs (Rm.dist frm) (2 * s) b l2) := by
                have e := Hab.out
                rw [e] at hs2 ha2 ⊢
                exact Lib.hid (HU.out.next hs2 ha2)
              have HL2 := Lib.hid (HL.out.keep hs2 (show a ≤ b by omega) (Nat.le_refl _))
              have HS2 := Lib.hid (HS.out.trans (hs2.mono (Nat.zero_le _) hlt))
              have HR2 := Lib.hid (HR.out.next hs2 hb2 hd2)
              have HB2 := Lib.hid (HB.out.trans hb2)
              clear hs2 ha2 hb2 hd2 HU HL HS HB HR P1 P2
              have Hnext : Hid (b + s2 = b + 2 * s) := Lib.hid (by rw [Hs2.out])
              go_wp2_with fail
              go_roundw
              case rel => exact ⟨b, b + s2, l2, rfl, by go_num, Hnext, hlt, by omega, HU2, HL2, HS2, HB2, HR2⟩
              case measure => go_light; simp [intOf]; omega
            · by_cases hmn : m < n
              · have h2 := HL.out.two (Sm.dvd_half HU.out.dvd) (by rw [Hm.out]; omega)
                rw [show min (a + 2 * s) n = n by have := Hab.out; omega, Hm.out] at h2
                obtain ⟨p1, p2⟩ := h2
                have P1 := Lib.hid p1
                have P2 := Lib.hid p2
                clear p1 p2
                go_wp2_with fail
                refine (HMerge.out a m n l1 wr HR.out hm1 hmn (Nat.le_refl _) P1.out P2.out).mono ?_
                rintro e w1 ⟨v, l2, rfl, ⟨hs2, ha2⟩, hb2, hd2⟩
                have HU2 : Hid (Sm.Tail (Rm.dist frm) s2 0 n l2) := by
                  have e := Hab.out
                  rw [← Hs2.out]
                  exact Lib.hid ((HU.out.keep hs2 (Nat.le_refl _)).tail (by omega) ha2)
                have HS2 := Lib.hid (HS.out.trans (hs2.mono (Nat.zero_le _) (Nat.le_refl _)))
                have HR2 := Lib.hid (HR.out.next hs2 hb2 hd2)
                have HB2 := Lib.hid (HB.out.trans hb2)
                clear hs2 ha2 hb2 hd2 HU HL HS HB HR P1 P2
                go_wp2_with fail
                go_roundw
                case rel => exact ⟨s2, l2, by go_num, by omega, hs3, HU2, HS2, HB2, HR2⟩
                case measure => go_light; simp [intOf]; omega
              · have HU2 : Hid (Sm.Tail (Rm.dist frm) s2 0 n l1) := by
                  have e := Hab.out
                  have ha := HL.out a (Nat.le_refl _) (Sm.dvd_half HU.out.dvd)
                  rw [show min (a + s) n = n by have := Hm.out; omega] at ha
                  rw [← Hs2.out]
                  exact Lib.hid (HU.out.tail (by omega) ha)
                go_wp2_with fail
                go_roundw
                case rel => exact ⟨s2, l1, by go_num, by omega, hs3, HU2, HS, HB, HR⟩
                case measure => go_light; simp [intOf]; omega
        · have HF := Lib.hid (HU.out.all (by omega))
          go_wp2_with fail
          go_end0
          exact ⟨_, l1, rfl, ⟨HS.out, HF.out⟩, HB.out, HR.out.data⟩

set_option maxRecDepth 100000 in
theorem sortStable_any (g c n frm h : Nat) (rest : List Value) (l : List Nat) (w : World) (ht : Told g n c frm h rest l w) (hn1 : n ≤ 1000000000000) (hnc : n ≤ c) :
    Calls Try.prog 22 #[.slice (some ⟨g, 0, none⟩) n c, lessFn h] w
      (Turned g rest w fun l' => Sm.Shuf 0 n l l' ∧ Sm.Asc (Rm.dist frm) 0 n l') := by
  have HT := Lib.hid (stable_any g c n frm h rest l w ht hn1 hnc)
  clear ht
  unfold lessFn at HT ⊢
  go_enter Try.func22, Try.ntmps22
  go_wp2_with fail
  refine HT.out.mono ?_
  rintro e w1 ⟨v, l2, rfl, ⟨hs2, ha2⟩, hb2, hd2⟩
  have HE := Lib.hid (And.intro hs2 ha2)
  have HB2 := Lib.hid hb2
  have HD2 := Lib.hid hd2
  clear hs2 ha2 hb2 hd2
  go_wp2_with fail
  go_end0
  exact ⟨_, l2, rfl, HE.out, HB2.out, HD2.out⟩
end Go.Proofs.Ytjkpkailcemjhaa
