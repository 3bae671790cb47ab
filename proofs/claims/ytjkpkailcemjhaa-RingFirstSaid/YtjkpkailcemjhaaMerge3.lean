/- Contract of the sort's symMerge. -/
import Derived.Test.YtjkpkailcemjhaaMerge2
namespace Go.Proofs.Ytjkpkailcemjhaa
open Go.RowKit
set_option linter.unusedVariables false

/-- what is known behind the rotation -/
structure Halves (k : Nat → Nat) (a mid s e b : Nat) (l l1 : List Nat) : Prop where
  h1 : a ≤ s
  h2 : s ≤ mid
  h3 : mid ≤ e
  h4 : e ≤ b
  shuf : Sm.Shuf a b l l1
  cross : Sm.Cross k a mid b l1
  a1 : Sm.Asc k a s l1
  a2 : Sm.Asc k s mid l1
  a3 : Sm.Asc k mid e l1
  a4 : Sm.Asc k e b l1
/-- and behind the first half's merging -/
structure Half2 (k : Nat → Nat) (a mid e b : Nat) (l l2 : List Nat) : Prop where
  h2 : a ≤ mid
  h3 : mid ≤ e
  h4 : e ≤ b
  shuf : Sm.Shuf a b l l2
  cross : Sm.Cross k a mid b l2
  full : Sm.Asc k a mid l2
  a3 : Sm.Asc k mid e l2
  a4 : Sm.Asc k e b l2
section
variable {k : Nat → Nat} {a m mid s e b s0 r0 : Nat} {l l1 l2 l3 : List Nat}
theorem Halves.make (hm : Sm.Mid a m b s0 r0) (h1 : Sm.Asc k a m l) (h2 : Sm.Asc k m b l) (hc : Sm.Cut (fun c => ¬ k (l.getD ((a + b) / 2 + m - 1 - c) 0) < k (l.getD c 0)) s0 r0 s s) (hmid : (a + b) / 2 = mid) (he : mid + m - s = e) (hr : Sm.Rot s m e l l1) (hs : Sm.Shuf s e l l1) : Halves k a mid s e b l l1 := by
  obtain ⟨q1, q2, q3, q4, q5⟩ := hm.le
  have c1 := hc.h1
  have c3 := hc.h3
  have am := hm.am
  have mb := hm.mb
  obtain ⟨m1, m2, m3, m4, m5⟩ := Sm.merge3 hm h1 h2 hc (by rw [hmid]; exact he.symm) hr
  rw [hmid] at m1 m3 m4
  exact ⟨by omega, by omega, by omega, by omega, hs.mono (by omega) (by omega), m1, m2, m3, m4, m5⟩
theorem Halves.left (h : Halves k a mid s e b l l1) (hs : Sm.Shuf a mid l1 l2) (ha : Sm.Asc k a mid l2) : Half2 k a mid e b l l2 := by
  obtain ⟨h1, h2, h3, h4, h5, h6, h7, h8, h9, h10⟩ := h
  exact ⟨by omega, h3, h4, h5.trans (hs.mono (by omega) (by omega)), h6.left hs, ha, h9.apart hs (.inr (by omega)), h10.apart hs (.inr (by omega))⟩
theorem Halves.skip (h : Halves k a mid s e b l l1) (hno : ¬ (a < s ∧ s < mid)) : Half2 k a mid e b l l1 := by
  obtain ⟨h1, h2, h3, h4, h5, h6, h7, h8, h9, h10⟩ := h
  refine ⟨by omega, h3, h4, h5, h6, ?_, h9, h10⟩
  by_cases c : a < s
  · rw [show s = mid by omega] at h7; exact h7
  · rw [show s = a by omega] at h8; exact h8
theorem Half2.right (h : Half2 k a mid e b l l2) (hs : Sm.Shuf mid b l2 l3) (ha : Sm.Asc k mid b l3) : Sm.Shuf a b l l3 ∧ Sm.Asc k a b l3 := by
  obtain ⟨h2, h3, h4, h5, h6, h7, h9, h10⟩ := h
  exact ⟨h5.trans (hs.mono h2 (by omega)), Sm.Asc.join (h7.apart hs (.inl (by omega))) ha (h6.right hs)⟩
theorem Half2.skip (h : Half2 k a mid e b l l2) (hno : ¬ (mid < e ∧ e < b)) : Sm.Shuf a b l l2 ∧ Sm.Asc k a b l2 := by
  obtain ⟨h2, h3, h4, h5, h6, h7, h9, h10⟩ := h
  refine ⟨h5, Sm.Asc.join h7 ?_ h6⟩
  by_cases c : mid < e
  · rw [show e = b by omega] at h9; exact h9
  · rw [show e = mid by omega] at h10; exact h10
end

set_option maxRecDepth 100000 in
set_option maxHeartbeats 4000000 in
theorem merge_any (g c n frm h : Nat) (rest : List Value) (hn1 : n ≤ 1000000000000) (hnc : n ≤ c) : ∀ (K a m b : Nat) (l : List Nat) (w : World), b - a ≤ K → Told g n c frm h rest l w → a < m → m < b → b ≤ n → Sm.Asc (Rm.dist frm) a m l → Sm.Asc (Rm.dist frm) m b l →
    Calls Try.prog 28 #[.slice (some ⟨g, 0, none⟩) n c, .int .i64 (a : Int), .int .i64 (m : Int), .int .i64 (b : Int), lessFn h] w
      (Turned g rest w fun l' => Sm.Shuf a b l l' ∧ Sm.Asc (Rm.dist frm) a b l') := by
  intro K
  induction K with
  | zero => intro a m b l w hK; omega
  | succ K ih =>
    intro a m b l w hK ht ham hmb hb h1 h2
    by_cases c1 : m = a + 1
    · exact merge_fst g c n a m b frm h rest l w ht hn1 hnc c1 hmb hb h2
    by_cases c2 : b = m + 1
    · exact merge_snd g c n a m b frm h rest l w ht hn1 hnc ham c1 c2 hb h1
    have IH := Lib.hid ih
    clear ih
    have HT := Lib.hid ht
    clear ht
    have H1 := Lib.hid h1
    have H2 := Lib.hid h2
    clear h1 h2
    unfold lessFn at IH ⊢
    have hone : ((m : Int) - (a : Int) == 1) = false := by simp; omega
    have hone2 : ((b : Int) - (m : Int) == 1) = false := by simp; omega
    obtain ⟨mid, Hmid⟩ : ∃ mid, Hid ((a + b) / 2 = mid) := ⟨_, rfl⟩
    obtain ⟨nn, Hnn⟩ : ∃ nn, Hid (mid + m = nn) := ⟨_, rfl⟩
    obtain ⟨pp, Hpp⟩ : ∃ pp, Hid (nn - 1 = pp) := ⟨_, rfl⟩
    have hm1 : a < mid := by have := Hmid.out; omega
    have hm2 : mid < b := by have := Hmid.out; omega
    have e1 : ((a : Int) + (b : Int)) / 2 = (mid : Int) := by have := Hmid.out; omega
    have e2 : (mid : Int) + (m : Int) = (nn : Int) := by have := Hnn.out; omega
    have e3 : (nn : Int) - 1 = (pp : Int) := by have := Hnn.out; have := Hpp.out; omega
    have hnn1 : nn ≤ 2000000000000 := by have := Hnn.out; omega
    have hnn2 : pp ≤ 2000000000000 := by have := Hpp.out; omega
    obtain ⟨s0, r0, HMid, hcase⟩ : ∃ s0 r0, Hid (Sm.Mid a m b s0 r0) ∧ ((mid < m ∧ (nn : Int) - (b : Int) = (s0 : Int) ∧ Hid (s0 = s0) ∧ Hid (r0 = mid)) ∨ (¬ mid < m ∧ True ∧ Hid (s0 = a) ∧ Hid (r0 = m))) := by
      have h5 := Hmid.out
      have h6 := Hnn.out
      by_cases hc : mid < m
      · exact ⟨nn - b, mid, ⟨ham, hmb, .inl ⟨by omega, by omega, by omega⟩⟩, .inl ⟨hc, by omega, rfl, rfl⟩⟩
      · exact ⟨a, m, ⟨ham, hmb, .inr ⟨by omega, rfl, rfl⟩⟩, .inr ⟨hc, trivial, rfl, rfl⟩⟩
    have Hb1 := Lib.hid HMid.out.le
    have HF := Lib.hid (Sm.falls3 HMid.out H1.out H2.out)
    rw [Hmid.out] at Hb1 HF
    clear c1 c2
    rcases hcase with ⟨c1, e0, Hs0, Hr0⟩ | ⟨c1, e0, Hs0, Hr0⟩
    all_goals
      go_enter Try.func28, Try.ntmps28
      go_wp2_with fail
      go_loopw [20, 21] (fun vi vj wr => ∃ (i j k : Nat), vi = .int .i64 i ∧ vj = .int .i64 j ∧ s0 ≤ i ∧ i ≤ j ∧ j ≤ r0 ∧ Hid (Sm.Cut (fun c => ¬ Rm.dist frm (l.getD (mid + m - 1 - c) 0) < Rm.dist frm (l.getD c 0)) s0 r0 i j) ∧ Hid (wr = w.drewN k)) (fun vi vj _ => (intOf vj).toNat - (intOf vi).toNat)
      case atStart => exact ⟨s0, r0, 0, by first | rfl | rw [Hs0.out], by rw [Hr0.out], by omega, Hb1.out.2.1, by omega, Lib.hid (Sm.Cut.start _ Hb1.out.2.1), Lib.hid rfl⟩
      case round =>
        obtain ⟨i, j, k, rfl, rfl, hi, hij, hj, HC, HW⟩ := hrel
        have HR : Hid (Told g n c frm h rest l wr) := Lib.hid (by rw [HW.out]; exact HT.out.drewN k)
        have HB : Hid (But g w wr) := Lib.hid (by rw [HW.out]; exact (But.refl g w).drewN k)
        by_cases hlt2 : i < j
        · obtain ⟨q, Hq⟩ : ∃ q, Hid ((i + j) / 2 = q) := ⟨_, rfl⟩
          have hq1 : i ≤ q := by have := Hq.out; omega
          have hq2 : q < j := by have := Hq.out; omega
          have hqi : ((i : Int) + (j : Int)) / 2 = (q : Int) := by have := Hq.out; omega
          have hat := HMid.out.at_ (c := q) (by omega) (by omega)
          rw [Hmid.out] at hat
          obtain ⟨u1, u2, u3, u4⟩ := hat
          obtain ⟨t, Ht⟩ : ∃ t, Hid (mid + m - 1 - q = t) := ⟨_, rfl⟩
          rw [Ht.out] at u3 u4
          have e4 : (pp : Int) - (q : Int) = (t : Int) := by have := Ht.out; have := Hpp.out; have := Hnn.out; omega
          obtain ⟨hc1, hx⟩ := HR.out.at_ (i := t) (by omega)
          obtain ⟨hc2, hy⟩ := HR.out.at_ (i := q) (by omega)
          have hfr := HR.out.frmLt
          have hcf := HR.out.cell
          have HY := Lib.hid (HC.out.right HF.out hq1 hq2)
          have HN := Lib.hid (HC.out.left HF.out hq1 hq2)
          rw [Ht.out] at HY HN
          obtain ⟨x, Hx⟩ : ∃ x, Hid (l.getD t 0 = x) := ⟨_, rfl⟩
          obtain ⟨y, Hy⟩ : ∃ y, Hid (l.getD q 0 = y) := ⟨_, rfl⟩
          rw [Hx.out] at hc1 hx HY HN
          rw [Hy.out] at hc2 hy HY HN
          have b0 : q < n := by omega
          have b1 : t < n := by omega
          by_cases hd : Rm.dist frm x < Rm.dist frm y
          · have hcmp : cmpI (Rm.dist frm x) (Rm.dist frm y) = -1 := cmpI_lt hd
            have HC' := Lib.hid (HN.out (fun h => h hd))
            clear HY HN HC
            go_wp2_with fail
            go_quiet (exact Calls.quiet_of (less_any frm x y h _ hfr hx hy hcf))
            go_wp2_with fail
            go_roundw
            case rel => exact ⟨i, q, k + nq, rfl, rfl, hi, hq1, by omega, HC', Lib.hid (by rw [HW.out, World.drewN_drewN])⟩
            case measure => go_light; simp [intOf]; omega
          · have hcmp := cmpI_ge hd
            obtain ⟨cv, Hcv⟩ : ∃ cv, Hid (cmpI (Rm.dist frm x) (Rm.dist frm y) = cv) := ⟨_, rfl⟩
            have HL := Lib.hid (fun k => less_any frm x y h (wr.drewN k) hfr hx hy hcf)
            rw [Hcv.out] at hcmp HL
            have hcmp2 : decide (cv < 0) = false := decide_eq_false hcmp
            have HC' := Lib.hid (HY.out hd)
            clear HY HN HC
            go_wp2_with fail
            go_quiet (exact Calls.quiet_of (HL.out _))
            go_wp2_with fail
            go_roundw
            case rel => exact ⟨q + 1, j, k + nq, by go_num, rfl, by omega, by omega, hj, HC', Lib.hid (by rw [HW.out, World.drewN_drewN])⟩
            case measure => go_light; simp [intOf]; omega
        · obtain rfl : i = j := by omega
          have hsr := Hb1.out
          obtain ⟨e, He⟩ : ∃ e, Hid (mid + m - i = e) := ⟨_, rfl⟩
          have e5 : (nn : Int) - (i : Int) = (e : Int) := by have := He.out; have := Hnn.out; omega
          have HH := Lib.hid (fun l1 (hr : Sm.Rot i m e l l1) (hs : Sm.Shuf i e l l1) => Halves.make HMid.out H1.out H2.out (by rw [Hmid.out]; exact HC.out) Hmid.out He.out hr hs)
          have i1 : a ≤ i := by omega
          have i2 : i ≤ m := by omega
          have i3 : i ≤ mid := by omega
          have i4 : e ≤ b := by have := He.out; omega
          have i5 : mid ≤ e := by have := He.out; omega
          have HIM : Hid (mid + m = e + i) := by have := He.out; exact Lib.hid (by omega)
          clear HC HW hsr HF e0 c1 e1 e2 e3 hone hone2
          by_cases d1 : i < m ∧ m < e
          · obtain ⟨d9, d0⟩ := d1
            go_wp2_with fail
            refine (rotate_any g c n i m e _ rest l wr HR.out.len hn1 hnc d9 d0 (by omega) HR.out.data).mono ?_
            rintro e' w2 ⟨v2, l2, rfl, ⟨hr2, hs2⟩, hb2, hd2⟩
            have HP := Lib.hid (HH.out l2 hr2 hs2)
            have HR2 := Lib.hid (HR.out.next hs2 hb2 hd2)
            have HB2 := Lib.hid (HB.out.trans hb2)
            clear hr2 hs2 hb2 hd2 HB HR HH
            have HB := HB2
            have HR := HR2
            clear HB2 HR2
            by_cases d2 : a < i ∧ i < mid
            · obtain ⟨d7, d8⟩ := d2
              go_wp2_with fail
              refine (IH.out a i mid l2 _ (by omega) HR.out d7 d8 (by omega) HP.out.a1 HP.out.a2).mono ?_
              rintro e' w3 ⟨v3, l3, rfl, ⟨hs3, ha3⟩, hb3, hd3⟩
              have HQ := Lib.hid (HP.out.left hs3 ha3)
              have HR3 := Lib.hid (HR.out.next hs3 hb3 hd3)
              have HB3 := Lib.hid (HB.out.trans hb3)
              clear hs3 ha3 hb3 hd3 HP HB HR
              have HB := HB3
              have HR := HR3
              clear HB3 HR3
              by_cases d3 : mid < e ∧ e < b
              · obtain ⟨d5, d6⟩ := d3
                go_wp2_with fail
                refine (IH.out mid e b l3 _ (by omega) HR.out d5 d6 hb HQ.out.a3 HQ.out.a4).mono ?_
                rintro e' w4 ⟨v4, l4, rfl, ⟨hs4, ha4⟩, hb4, hd4⟩
                have HE := Lib.hid (HQ.out.right hs4 ha4)
                have HB4 := Lib.hid (HB.out.trans hb4)
                have HD4 := Lib.hid hd4
                clear hs4 ha4 hb4 hd4
                go_wp2_with fail
                go_end0
                exact ⟨_, l4, rfl, HE.out, HB4.out, HD4.out⟩
              · have HE := Lib.hid (HQ.out.skip d3)
                by_cases d5 : mid < e
                · have d6 : ¬ e < b := fun h => d3 ⟨d5, h⟩
                  clear d3
                  go_wp2_with fail
                  go_end0
                  exact ⟨_, l3, rfl, HE.out, HB.out, HR.out.data⟩
                · clear d3
                  go_wp2_with fail
                  go_end0
                  exact ⟨_, l3, rfl, HE.out, HB.out, HR.out.data⟩
            · have HQ := Lib.hid (HP.out.skip d2)
              clear HP
              by_cases d7 : a < i
              · have d8 : ¬ i < mid := fun h => d2 ⟨d7, h⟩
                clear d2
                by_cases d3 : mid < e ∧ e < b
                · obtain ⟨d5, d6⟩ := d3
                  go_wp2_with fail
                  refine (IH.out mid e b l2 _ (by omega) HR.out d5 d6 hb HQ.out.a3 HQ.out.a4).mono ?_
                  rintro e' w4 ⟨v4, l4, rfl, ⟨hs4, ha4⟩, hb4, hd4⟩
                  have HE := Lib.hid (HQ.out.right hs4 ha4)
                  have HB4 := Lib.hid (HB.out.trans hb4)
                  have HD4 := Lib.hid hd4
                  clear hs4 ha4 hb4 hd4
                  go_wp2_with fail
                  go_end0
                  exact ⟨_, l4, rfl, HE.out, HB4.out, HD4.out⟩
                · have HE := Lib.hid (HQ.out.skip d3)
                  by_cases d5 : mid < e
                  · have d6 : ¬ e < b := fun h => d3 ⟨d5, h⟩
                    clear d3
                    go_wp2_with fail
                    go_end0
                    exact ⟨_, l2, rfl, HE.out, HB.out, HR.out.data⟩
                  · clear d3
                    go_wp2_with fail
                    go_end0
                    exact ⟨_, l2, rfl, HE.out, HB.out, HR.out.data⟩
              · clear d2
                by_cases d3 : mid < e ∧ e < b
                · obtain ⟨d5, d6⟩ := d3
                  go_wp2_with fail
                  refine (IH.out mid e b l2 _ (by omega) HR.out d5 d6 hb HQ.out.a3 HQ.out.a4).mono ?_
                  rintro e' w4 ⟨v4, l4, rfl, ⟨hs4, ha4⟩, hb4, hd4⟩
                  have HE := Lib.hid (HQ.out.right hs4 ha4)
                  have HB4 := Lib.hid (HB.out.trans hb4)
                  have HD4 := Lib.hid hd4
                  clear hs4 ha4 hb4 hd4
                  go_wp2_with fail
                  go_end0
                  exact ⟨_, l4, rfl, HE.out, HB4.out, HD4.out⟩
                · have HE := Lib.hid (HQ.out.skip d3)
                  by_cases d5 : mid < e
                  · have d6 : ¬ e < b := fun h => d3 ⟨d5, h⟩
                    clear d3
                    go_wp2_with fail
                    go_end0
                    exact ⟨_, l2, rfl, HE.out, HB.out, HR.out.data⟩
                  · clear d3
                    go_wp2_with fail
                    go_end0
                    exact ⟨_, l2, rfl, HE.out, HB.out, HR.out.data⟩
          · have him : i = m ∨ m = e := by
              have h7 := HIM.out
              rcases Nat.lt_or_ge i m with h | h
              · right
                rcases Nat.lt_or_ge m e with h' | h'
                · exact absurd ⟨h, h'⟩ d1
                · omega
              · left; omega
            have HP := Lib.hid (HH.out l (Sm.Rot.none l him) (Sm.Shuf.refl _ _ _))
            clear HH him
            by_cases d9 : i < m
            · have d0 : ¬ m < e := fun h => d1 ⟨d9, h⟩
              clear d1
              by_cases d2 : a < i ∧ i < mid
              · obtain ⟨d7, d8⟩ := d2
                go_wp2_with fail
                refine (IH.out a i mid l _ (by omega) HR.out d7 d8 (by omega) HP.out.a1 HP.out.a2).mono ?_
                rintro e' w3 ⟨v3, l3, rfl, ⟨hs3, ha3⟩, hb3, hd3⟩
                have HQ := Lib.hid (HP.out.left hs3 ha3)
                have HR3 := Lib.hid (HR.out.next hs3 hb3 hd3)
                have HB3 := Lib.hid (HB.out.trans hb3)
                clear hs3 ha3 hb3 hd3 HP HB HR
                have HB := HB3
                have HR := HR3
                clear HB3 HR3
                by_cases d3 : mid < e ∧ e < b
                · obtain ⟨d5, d6⟩ := d3
                  go_wp2_with fail
                  refine (IH.out mid e b l3 _ (by omega) HR.out d5 d6 hb HQ.out.a3 HQ.out.a4).mono ?_
                  rintro e' w4 ⟨v4, l4, rfl, ⟨hs4, ha4⟩, hb4, hd4⟩
                  have HE := Lib.hid (HQ.out.right hs4 ha4)
                  have HB4 := Lib.hid (HB.out.trans hb4)
                  have HD4 := Lib.hid hd4
                  clear hs4 ha4 hb4 hd4
                  go_wp2_with fail
                  go_end0
                  exact ⟨_, l4, rfl, HE.out, HB4.out, HD4.out⟩
                · have HE := Lib.hid (HQ.out.skip d3)
                  by_cases d5 : mid < e
                  · have d6 : ¬ e < b := fun h => d3 ⟨d5, h⟩
                    clear d3
                    go_wp2_with fail
                    go_end0
                    exact ⟨_, l3, rfl, HE.out, HB.out, HR.out.data⟩
                  · clear d3
                    go_wp2_with fail
                    go_end0
                    exact ⟨_, l3, rfl, HE.out, HB.out, HR.out.data⟩
              · have HQ := Lib.hid (HP.out.skip d2)
                clear HP
                by_cases d7 : a < i
                · have d8 : ¬ i < mid := fun h => d2 ⟨d7, h⟩
                  clear d2
                  by_cases d3 : mid < e ∧ e < b
                  · obtain ⟨d5, d6⟩ := d3
                    go_wp2_with fail
                    refine (IH.out mid e b l _ (by omega) HR.out d5 d6 hb HQ.out.a3 HQ.out.a4).mono ?_
                    rintro e' w4 ⟨v4, l4, rfl, ⟨hs4, ha4⟩, hb4, hd4⟩
                    have HE := Lib.hid (HQ.out.right hs4 ha4)
                    have HB4 := Lib.hid (HB.out.trans hb4)
                    have HD4 := Lib.hid hd4
                    clear hs4 ha4 hb4 hd4
                    go_wp2_with fail
                    go_end0
                    exact ⟨_, l4, rfl, HE.out, HB4.out, HD4.out⟩
                  · have HE := Lib.hid (HQ.out.skip d3)
                    by_cases d5 : mid < e
                    · have d6 : ¬ e < b := fun h => d3 ⟨d5, h⟩
                      clear d3
                      go_wp2_with fail
                      go_end0
                      exact ⟨_, l, rfl, HE.out, HB.out, HR.out.data⟩
                    · clear d3
                      go_wp2_with fail
                      go_end0
                      exact ⟨_, l, rfl, HE.out, HB.out, HR.out.data⟩
                · clear d2
                  by_cases d3 : mid < e ∧ e < b
                  · obtain ⟨d5, d6⟩ := d3
                    go_wp2_with fail
                    refine (IH.out mid e b l _ (by omega) HR.out d5 d6 hb HQ.out.a3 HQ.out.a4).mono ?_
                    rintro e' w4 ⟨v4, l4, rfl, ⟨hs4, ha4⟩, hb4, hd4⟩
                    have HE := Lib.hid (HQ.out.right hs4 ha4)
                    have HB4 := Lib.hid (HB.out.trans hb4)
                    have HD4 := Lib.hid hd4
                    clear hs4 ha4 hb4 hd4
                    go_wp2_with fail
                    go_end0
                    exact ⟨_, l4, rfl, HE.out, HB4.out, HD4.out⟩
                  · have HE := Lib.hid (HQ.out.skip d3)
                    by_cases d5 : mid < e
                    · have d6 : ¬ e < b := fun h => d3 ⟨d5, h⟩
                      clear d3
                      go_wp2_with fail
                      go_end0
                      exact ⟨_, l, rfl, HE.out, HB.out, HR.out.data⟩
                    · clear d3
                      go_wp2_with fail
                      go_end0
                      exact ⟨_, l, rfl, HE.out, HB.out, HR.out.data⟩
            · clear d1
              by_cases d2 : a < i ∧ i < mid
              · obtain ⟨d7, d8⟩ := d2
                go_wp2_with fail
                refine (IH.out a i mid l _ (by omega) HR.out d7 d8 (by omega) HP.out.a1 HP.out.a2).mono ?_
                rintro e' w3 ⟨v3, l3, rfl, ⟨hs3, ha3⟩, hb3, hd3⟩
                have HQ := Lib.hid (HP.out.left hs3 ha3)
                have HR3 := Lib.hid (HR.out.next hs3 hb3 hd3)
                have HB3 := Lib.hid (HB.out.trans hb3)
                clear hs3 ha3 hb3 hd3 HP HB HR
                have HB := HB3
                have HR := HR3
                clear HB3 HR3
                by_cases d3 : mid < e ∧ e < b
                · obtain ⟨d5, d6⟩ := d3
                  go_wp2_with fail
                  refine (IH.out mid e b l3 _ (by omega) HR.out d5 d6 hb HQ.out.a3 HQ.out.a4).mono ?_
                  rintro e' w4 ⟨v4, l4, rfl, ⟨hs4, ha4⟩, hb4, hd4⟩
                  have HE := Lib.hid (HQ.out.right hs4 ha4)
                  have HB4 := Lib.hid (HB.out.trans hb4)
                  have HD4 := Lib.hid hd4
                  clear hs4 ha4 hb4 hd4
                  go_wp2_with fail
                  go_end0
                  exact ⟨_, l4, rfl, HE.out, HB4.out, HD4.out⟩
                · have HE := Lib.hid (HQ.out.skip d3)
                  by_cases d5 : mid < e
                  · have d6 : ¬ e < b := fun h => d3 ⟨d5, h⟩
                    clear d3
                    go_wp2_with fail
                    go_end0
                    exact ⟨_, l3, rfl, HE.out, HB.out, HR.out.data⟩
                  · clear d3
                    go_wp2_with fail
                    go_end0
                    exact ⟨_, l3, rfl, HE.out, HB.out, HR.out.data⟩
              · have HQ := Lib.hid (HP.out.skip d2)
                clear HP
                by_cases d7 : a < i
                · have d8 : ¬ i < mid := fun h => d2 ⟨d7, h⟩
                  clear d2
                  by_cases d3 : mid < e ∧ e < b
                  · obtain ⟨d5, d6⟩ := d3
                    go_wp2_with fail
                    refine (IH.out mid e b l _ (by omega) HR.out d5 d6 hb HQ.out.a3 HQ.out.a4).mono ?_
                    rintro e' w4 ⟨v4, l4, rfl, ⟨hs4, ha4⟩, hb4, hd4⟩
                    have HE := Lib.hid (HQ.out.right hs4 ha4)
                    have HB4 := Lib.hid (HB.out.trans hb4)
                    have HD4 := Lib.hid hd4
                    clear hs4 ha4 hb4 hd4
                    go_wp2_with fail
                    go_end0
                    exact ⟨_, l4, rfl, HE.out, HB4.out, HD4.out⟩
                  · have HE := Lib.hid (HQ.out.skip d3)
                    by_cases d5 : mid < e
                    · have d6 : ¬ e < b := fun h => d3 ⟨d5, h⟩
                      clear d3
                      go_wp2_with fail
                      go_end0
                      exact ⟨_, l, rfl, HE.out, HB.out, HR.out.data⟩
                    · clear d3
                      go_wp2_with fail
                      go_end0
                      exact ⟨_, l, rfl, HE.out, HB.out, HR.out.data⟩
                · clear d2
                  by_cases d3 : mid < e ∧ e < b
                  · obtain ⟨d5, d6⟩ := d3
                    go_wp2_with fail
                    refine (IH.out mid e b l _ (by omega) HR.out d5 d6 hb HQ.out.a3 HQ.out.a4).mono ?_
                    rintro e' w4 ⟨v4, l4, rfl, ⟨hs4, ha4⟩, hb4, hd4⟩
                    have HE := Lib.hid (HQ.out.right hs4 ha4)
                    have HB4 := Lib.hid (HB.out.trans hb4)
                    have HD4 := Lib.hid hd4
                    clear hs4 ha4 hb4 hd4
                    go_wp2_with fail
                    go_end0
                    exact ⟨_, l4, rfl, HE.out, HB4.out, HD4.out⟩
                  · have HE := Lib.hid (HQ.out.skip d3)
                    by_cases d5 : mid < e
                    · have d6 : ¬ e < b := fun h => d3 ⟨d5, h⟩
                      clear d3
                      go_wp2_with fail
                      go_end0
                      exact ⟨_, l, rfl, HE.out, HB.out, HR.out.data⟩
                    · clear d3
                      go_wp2_with fail
                      go_end0
                      exact ⟨_, l, rfl, HE.out, HB.out, HR.out.data⟩
end Go.Proofs.Ytjkpkailcemjhaa
