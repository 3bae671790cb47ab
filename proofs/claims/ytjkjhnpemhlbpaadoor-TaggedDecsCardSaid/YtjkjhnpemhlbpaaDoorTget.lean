/- Contracts of the functions of layer 10 that read: peers, lists, the kind, a tag. -/
import Derived.Test.YtjkjhnpemhlbpaaDoorPI
import Derived.Test.YtjkjhnpemhlbpaaDoorPH
namespace Go.Proofs.YtjkjhnpemhlbpaaDoor
open Go.RowKit
set_option linter.unusedVariables false
set_option maxRecDepth 100000
open Gm

theorem Bm.uvar_le (l : List Nat) (e : Int) (m : Nat) : (Bm.uvar l e m).1 ≤ m := by
  unfold Bm.uvar
  repeat' split
  all_goals simp only
  all_goals omega
theorem ruvarA {w : World} {g : Nat} {l : List Nat} {e : Int} (h : Rd w g l e) :
    Calls Tryd.prog 50 #[.pointer (some ⟨g, 0, none⟩), .int .u64 18446744073709551615] w fun en w' => en = .returned (.int .u64 ((Bm.uvar l e Tg.u64).1 : Int)) ∧ Rd w' g (Bm.uvar l e Tg.u64).2.1 (Bm.uvar l e Tg.u64).2.2 ∧ Only g w w' :=
  ruvar_any 18446744073709551615 (by omega) h

set_option maxHeartbeats 1000000 in
theorem tgetpeer_any {w : World} {g : Nat} {l : List Nat} {e : Int} (h : Rd w g l e) :
    Calls Tryd.prog 52 #[.pointer (some ⟨g, 0, none⟩)] w fun en w' => en = .returned (.agg #[.int .u64 ((Tg.peer l e).1.1 : Int), .int .u16 ((Tg.peer l e).1.2 : Int)]) ∧ Rd w' g (Tg.peer l e).2.1 (Tg.peer l e).2.2 ∧ Only g w w' := by
  obtain ⟨b, w0, hs, hal, hs0, hw0, hb0⟩ := boxed2 w 26 (.int .u64 0) (.int .u16 0)
  have hgb : g < b := by rw [← hs]; exact h.lt
  have h0 : Rd w0 g l e := h.below (by rw [← hs] at hb0; exact hb0) h.lt
  have HO0 : Hid (Only g w w0) := Lib.hid (by rw [← hal]; exact Only.alloc0 _ _ _)
  have HW := Lib.hid hw0
  have C := Lib.hid (ruvarA h0)
  have hp1 : (Bm.uvar l e Tg.u64).1 < 18446744073709551616 := by have := Bm.uvar_le l e Tg.u64; unfold Tg.u64 at *; omega
  have HP : Hid (Tg.peer l e = (((Bm.uvar l e Tg.u64).1, (Bm.uvar (Bm.uvar l e Tg.u64).2.1 (Bm.uvar l e Tg.u64).2.2 65535).1), (Bm.uvar (Bm.uvar l e Tg.u64).2.1 (Bm.uvar l e Tg.u64).2.2 65535).2)) := rfl
  obtain ⟨p, hp⟩ : ∃ p, Hid (Bm.uvar l e Tg.u64 = p) := ⟨_, rfl⟩
  obtain ⟨p1, l1, e1⟩ := p
  rw [hp.out] at C hp1 HP
  simp only at C hp1 HP
  rw [HP.out]
  clear h h0 hw0 hb0
  go_enter Tryd.func52, Tryd.ntmps52
  go_wp2_with fail
  refine (C.out).mono ?_
  rintro e w1 ⟨rfl, hr1, ho1⟩
  have hw1 := HW.out.only ho1 (by omega : b ≠ g)
  have HO1 := Lib.hid (HO0.out.trans ho1)
  have C2 := Lib.hid (ruvar_any 65535 (by omega) hr1)
  have hq1 : (Bm.uvar l1 e1 65535).1 < 65536 := by have := Bm.uvar_le l1 e1 65535; omega
  have HW1 := Lib.hid hw1
  clear ho1 hr1 hw1
  obtain ⟨q, hq⟩ : ∃ q, Hid (Bm.uvar l1 e1 65535 = q) := ⟨_, rfl⟩
  obtain ⟨q1, l2, e2⟩ := q
  rw [hq.out] at C2 hq1
  simp only at C2 hq1
  go_wp2_with fail
  refine (C2.out).mono ?_
  rintro e w2 ⟨rfl, hr2, ho2⟩
  have hw2 := HW1.out.only ho2 (by omega : b ≠ g)
  have HO2 := Lib.hid (HO1.out.trans ho2)
  have HR2 := Lib.hid hr2
  have HW2 := Lib.hid hw2
  clear ho2 hr2
  have z0 : w2.cell? ⟨b, 0, none⟩ = some (.int .u64 0) := hw2.at_ 0
  have f0 : w2.frozen? ⟨b, 0, none⟩ = false := hw2.free 0
  have z1 : (w2.setCell ⟨b, 0, none⟩ (.int .u64 (p1 : Int))).cell? ⟨b, 1, none⟩ = some (.int .u16 0) := (hw2.put 0 _).at_ 1
  have f1 : (w2.setCell ⟨b, 0, none⟩ (.int .u64 (p1 : Int))).frozen? ⟨b, 1, none⟩ = false := (hw2.put 0 _).free 1
  clear hw2
  go_wp2_with fail
  have HF := Lib.hid ((HW2.out.put 0 (.int .u64 (p1 : Int))).put 1 (.int .u16 (q1 : Int)))
  refine bodyPost_ret (v := .agg #[.int .u64 (p1 : Int), .int .u16 (q1 : Int)]) ?_ rfl ⟨?_, ?_, ?_⟩
  · exact results_cell_row rfl _ _ _ _ _ (0, 0) _ rfl HF.out Tryd.underlying26 rfl (fpeerI rfl)
  · rw [hq.out]
  · rw [hq.out]
    exact (HR2.out.newCell hgb 0 _).newCell hgb 1 _
  · exact (HO2.out.newCell (by omega) 0 _).newCell (by omega) 1 _

set_option maxHeartbeats 1000000 in
theorem tgetpeers_any {w : World} {g : Nat} {l : List Nat} {e : Int} (h : Rd w g l e) :
    Calls Tryd.prog 53 #[.pointer (some ⟨g, 0, none⟩)] w fun en w' => ∃ v, en = .returned v ∧ Got fPeer 26 g w (Tg.list Tg.peer 16 l e) v w' := by
  have C := Lib.hid (ruvar_any 16 (by omega) h)
  have hc := Bm.uvar_le l e 16
  have hgl := h.lt
  obtain ⟨p, hp⟩ : ∃ p, Hid (Bm.uvar l e 16 = p) := ⟨_, rfl⟩
  obtain ⟨n, l1, e1⟩ := p
  rw [hp.out] at C hc
  simp only at C hc
  have HS : Hid (Tg.list Tg.peer 16 l e = Fm.many Tg.peer n l1 e1) := Lib.hid (by unfold Tg.list; rw [hp.out])
  rw [HS.out]
  clear h
  go_enter Tryd.func53, Tryd.ntmps53
  go_wp2_with fail
  refine (C.out).mono ?_
  rintro e w1 ⟨rfl, hr1, ho1⟩
  have HG : Hid (Got fPeer 26 g w (Fm.many Tg.peer 0 l1 e1) (.slice none 0 0) w1) := Lib.hid ⟨World.ownsRow_nil _ _ _ _, hr1, ho1, hgl⟩
  clear hr1 ho1
  go_wp2_with fail
  go_loopw [3, 6] (fun vb vi wr => ∃ (j : Nat), j ≤ n ∧ vi = .int .u64 j ∧ Hid (Got fPeer 26 g w (Fm.many Tg.peer j l1 e1) vb wr)) (fun _ vi _ => n - (intOf vi).toNat)
  case atStart => exact ⟨0, by omega, rfl, HG⟩
  case round =>
    obtain ⟨j, hj, rfl, HR⟩ := hrel
    by_cases hlt : j < n
    · have P := Lib.hid (tgetpeer_any HR.out.rd)
      have HL := Fm.many_length Tg.peer j l1 e1
      have hown := HR.out.own
      rw [HL] at hown
      have HO := Lib.hid hown
      have hsz := HR.out.only.size
      clear hown
      go_wp2_with fail
      refine (P.out).mono ?_
      rintro e w2 ⟨rfl, hr2, ho2⟩
      have HR2 := Lib.hid hr2
      have HK2 := Lib.hid (HR.out.only.trans ho2)
      have HO2 := Lib.hid (own2_only HO.out ho2 hgl)
      have hz2 := HK2.out.size
      clear hr2 ho2
      obtain ⟨q, hq⟩ : ∃ q : Nat × Nat, Hid ((Tg.peer (Fm.many Tg.peer j l1 e1).2.1 (Fm.many Tg.peer j l1 e1).2.2).1 = q) := ⟨_, rfl⟩
      rw [hq.out]
      go_wp2_with (at_builtin; refine wpList_append_elem2 peerT2 fPeer_one _ _ rfl rfl w.heap.size _ j _ q rfl rfl rfl HO2.out (by omega) hz2 ?_; intro v3 w3 ho3 hg3)
      have HN : Hid (Got fPeer 26 g w (Fm.many Tg.peer (j + 1) l1 e1) v3 w3) := Lib.hid (HR.out.next HR2.out HK2.out (by rw [HL, hq.out]; exact ho3) hg3)
      clear ho3 hg3
      go_roundw
      case rel => exact ⟨j + 1, by omega, by go_num, HN⟩
      case measure => simp [intOf]; omega
    · have hjn : j = n := by omega
      subst hjn
      go_wp2_with fail
      go_ret
      exact ⟨_, rfl, HR.out⟩

set_option maxHeartbeats 1000000 in
theorem tgetpairs_any {w : World} {g : Nat} {l : List Nat} {e : Int} (h : Rd w g l e) :
    Calls Tryd.prog 54 #[.pointer (some ⟨g, 0, none⟩)] w fun en w' => ∃ v, en = .returned v ∧ Got fPair 43 g w (Tg.list Tg.pair 8 l e) v w' := by
  have C := Lib.hid (ruvar_any 8 (by omega) h)
  have hc := Bm.uvar_le l e 8
  have hgl := h.lt
  obtain ⟨p, hp⟩ : ∃ p, Hid (Bm.uvar l e 8 = p) := ⟨_, rfl⟩
  obtain ⟨n, l1, e1⟩ := p
  rw [hp.out] at C hc
  simp only at C hc
  have HS : Hid (Tg.list Tg.pair 8 l e = Fm.many Tg.pair n l1 e1) := Lib.hid (by unfold Tg.list; rw [hp.out])
  rw [HS.out]
  clear h
  go_enter Tryd.func54, Tryd.ntmps54
  go_wp2_with fail
  refine (C.out).mono ?_
  rintro e w1 ⟨rfl, hr1, ho1⟩
  have HG : Hid (Got fPair 43 g w (Fm.many Tg.pair 0 l1 e1) (.slice none 0 0) w1) := Lib.hid ⟨World.ownsRow_nil _ _ _ _, hr1, ho1, hgl⟩
  clear hr1 ho1
  go_wp2_with fail
  go_loopw [3, 7] (fun vb vi wr => ∃ (j : Nat), j ≤ n ∧ vi = .int .u64 j ∧ Hid (Got fPair 43 g w (Fm.many Tg.pair j l1 e1) vb wr)) (fun _ vi _ => n - (intOf vi).toNat)
  case atStart => exact ⟨0, by omega, rfl, HG⟩
  case round =>
    obtain ⟨j, hj, rfl, HR⟩ := hrel
    by_cases hlt : j < n
    · have P := Lib.hid (rtext_any 96 (by omega) (by omega) HR.out.rd)
      have HL := Fm.many_length Tg.pair j l1 e1
      have hown := HR.out.own
      rw [HL] at hown
      have HO := Lib.hid hown
      have hsz := HR.out.only.size
      clear hown
      obtain ⟨q, hq⟩ : ∃ q : ByteArray × ByteArray, Hid ((Tg.pair (Fm.many Tg.pair j l1 e1).2.1 (Fm.many Tg.pair j l1 e1).2.2).1 = q) := ⟨_, rfl⟩
      have hq1 : strOf (Bm.text (Fm.many Tg.pair j l1 e1).2.1 (Fm.many Tg.pair j l1 e1).2.2 96).1 = q.1 := by rw [← hq.out]; rfl
      have hq2 : strOf (Bm.text (Bm.text (Fm.many Tg.pair j l1 e1).2.1 (Fm.many Tg.pair j l1 e1).2.2 96).2.1 (Bm.text (Fm.many Tg.pair j l1 e1).2.1 (Fm.many Tg.pair j l1 e1).2.2 96).2.2 512).1 = q.2 := by rw [← hq.out]; rfl
      rw [hq1] at P
      have HQ2 := Lib.hid hq2
      clear hq1 hq2
      go_wp2_with fail
      refine (P.out).mono ?_
      rintro e w2 ⟨rfl, hr2, ho2⟩
      have P2 := Lib.hid (rtext_any 512 (by omega) (by omega) hr2)
      rw [HQ2.out] at P2
      have HK2 := Lib.hid (HR.out.only.trans ho2)
      have HO2 := Lib.hid (own2_only HO.out ho2 hgl)
      clear hr2 ho2
      go_wp2_with fail
      refine (P2.out).mono ?_
      rintro e w3 ⟨rfl, hr3, ho3⟩
      have HR3 := Lib.hid hr3
      have HK3 := Lib.hid (HK2.out.trans ho3)
      have HO3 := Lib.hid (own2_only HO2.out ho3 hgl)
      have hz3 := HK3.out.size
      clear hr3 ho3
      go_wp2_with (at_builtin; refine wpList_append_elem2 pairT2 fPair_one _ _ rfl rfl w.heap.size _ j _ q rfl rfl rfl HO3.out (by omega) hz3 ?_; intro v4 w4 ho4 hg4)
      have HN : Hid (Got fPair 43 g w (Fm.many Tg.pair (j + 1) l1 e1) v4 w4) := Lib.hid (HR.out.next HR3.out HK3.out (by rw [HL, hq.out]; exact ho4) hg4)
      clear ho4 hg4
      go_roundw
      case rel => exact ⟨j + 1, by omega, by go_num, HN⟩
      case measure => simp [intOf]; omega
    · have hjn : j = n := by omega
      subst hjn
      go_wp2_with fail
      go_ret
      exact ⟨_, rfl, HR.out⟩

/-- what getTag answers -/
def Tg.tagOf (last : Nat) (l : List Nat) (e : Int) : Nat := if (Bm.uvar l e Tg.u64).1 ≤ last ∨ 9 < (Bm.uvar l e Tg.u64).1 then 0 else (Bm.uvar l e Tg.u64).1
theorem gettag_any {w : World} {g : Nat} {l : List Nat} {e : Int} (last : Nat) (hl : last ≤ 9) (h : Rd w g l e) :
    Calls Tryd.prog 22 #[.pointer (some ⟨g, 0, none⟩), .int .i64 (last : Int)] w fun en w' => en = .returned (.int .i64 ((Tg.tagOf last l e : Nat) : Int)) ∧ Rd w' g (Bm.uvar l e Tg.u64).2.1 (Tg.tagE last l e) ∧ Only g w w' := by
  have C := Lib.hid (ruvarA h)
  have HE : Hid (Tg.tagE last l e = if (Bm.uvar l e Tg.u64).1 ≤ last ∨ 9 < (Bm.uvar l e Tg.u64).1 then Bm.fail (Bm.uvar l e Tg.u64).2.2 3 else (Bm.uvar l e Tg.u64).2.2) := rfl
  have HT : Hid (Tg.tagOf last l e = if (Bm.uvar l e Tg.u64).1 ≤ last ∨ 9 < (Bm.uvar l e Tg.u64).1 then 0 else (Bm.uvar l e Tg.u64).1) := rfl
  have hn := Bm.uvar_le l e Tg.u64
  unfold Tg.u64 at hn
  change (Bm.uvar l e Tg.u64).1 ≤ 18446744073709551615 at hn
  obtain ⟨q, hq⟩ : ∃ q, Hid (Bm.uvar l e Tg.u64 = q) := ⟨_, rfl⟩
  obtain ⟨n, l1, e1⟩ := q
  rw [hq.out] at C HE HT hn ⊢
  simp only at C HE HT hn ⊢
  by_cases hbad : n ≤ last ∨ 9 < n
  · rw [if_pos hbad] at HE HT
    rw [HE.out, HT.out]
    clear h
    by_cases h1 : n ≤ last
    case' pos =>
      clear hbad
      go_enter Tryd.func22, Tryd.ntmps22
      go_wp2_with fail
    case' neg =>
      have h2 : last < n := by omega
      have h3 : 9 < n := by omega
      clear hbad
      go_enter Tryd.func22, Tryd.ntmps22
      go_wp2_with fail
    all_goals
      refine (C.out).mono ?_
      rintro e w1 ⟨rfl, hr1, ho1⟩
      have HO1 := Lib.hid ho1
      have F := Lib.hid (rfail_any 3 hr1)
      clear ho1 hr1
      go_wp2_with fail
      refine (F.out).mono ?_
      rintro e w2 ⟨rfl, hr2, ho2⟩
      have HR2 := Lib.hid hr2
      have HO2 := Lib.hid (HO1.out.trans ho2)
      clear hr2 ho2
      go_wp2_with fail
      go_ret
      exact ⟨rfl, HR2.out, HO2.out⟩
  · rw [if_neg hbad] at HE HT
    rw [HE.out, HT.out]
    have h1 : last < n := by omega
    have h2 : n ≤ 9 := by omega
    clear h hbad
    go_enter Tryd.func22, Tryd.ntmps22
    go_wp2_with fail
    refine (C.out).mono ?_
    rintro e w1 ⟨rfl, hr1, ho1⟩
    have HO1 := Lib.hid ho1
    have HR1 := Lib.hid hr1
    clear ho1 hr1
    go_wp2_with fail
    go_ret
    exact ⟨rfl, HR1.out, HO1.out⟩

theorem tmv_bald (w : World) (B k : Nat) (hk : k ≤ 2147483647) : Mv w B (Fm.bald k 0) (.agg #[.int .i64 (k : Int), .int .u32 0, .int .u8 0, .bool false, .int .u64 0, .string ⟨#[]⟩, .string ⟨#[]⟩, .int .u64 0, .int .u16 0, .slice none 0 0, .slice none 0 0]) :=
  ⟨⟨_, _, rfl, Sl.empty _ _, Sl.empty _ _⟩, ⟨by simp [Fm.bald]; omega, by simp [Fm.bald], by simp [Fm.bald], by simp [Fm.bald], by simp [Fm.bald, ByteArray.size], by simp [Fm.bald, ByteArray.size], by simp [Fm.bald], by simp [Fm.bald], fun p hp => (by cases hp), fun p hp => (by cases hp)⟩⟩
theorem known_nat (n : Nat) : known (n : Int) = decide (1 ≤ n ∧ n ≤ 12) := by
  unfold known
  rw [Bool.eq_iff_iff]
  simp
  omega
set_option maxHeartbeats 1000000 in
theorem tgetkind_any {w : World} {g : Nat} {l : List Nat} (h : Rd w g l 0) (T : Tab w) (hg : 0 < g) :
    Calls Tryd.prog 20 #[.pointer (some ⟨g, 0, none⟩)] w fun en w' => en = .returned (.int .i64 ((min (Bm.uvar l 0 Tg.u64).1 2147483647 : Nat) : Int)) ∧ Rd w' g (Bm.uvar l 0 Tg.u64).2.1 (Tg.kindE l) ∧ Only g w w' := by
  have C := Lib.hid (ruvarA h)
  have HE : Hid (Tg.kindE l = if (Bm.uvar l 0 Tg.u64).1 < 1 ∨ 12 < (Bm.uvar l 0 Tg.u64).1 then Bm.fail (Bm.uvar l 0 Tg.u64).2.2 9 else (Bm.uvar l 0 Tg.u64).2.2) := rfl
  have hn := Bm.uvar_le l 0 Tg.u64
  unfold Tg.u64 at hn
  change (Bm.uvar l 0 Tg.u64).1 ≤ 18446744073709551615 at hn
  obtain ⟨p, hp⟩ : ∃ p, Hid (Bm.uvar l 0 Tg.u64 = p) := ⟨_, rfl⟩
  obtain ⟨n, l1, e1⟩ := p
  rw [hp.out] at C hn HE ⊢
  simp only at C hn HE ⊢
  obtain ⟨K, hK⟩ : ∃ K, Hid (min n 2147483647 = K) := ⟨_, rfl⟩
  have hKn : K ≤ 2147483647 := by rw [← hK.out]; omega
  have HK : Hid ((n ≤ 2147483647 ∧ K = n) ∨ (2147483647 < n ∧ K = 2147483647)) := Lib.hid (by have := hK.out; omega)
  rw [hK.out]
  have HT := Lib.hid T
  have H9 : Hid (right (Fm.bald K 0) = 9 ↔ known (K : Int) = false) := Lib.hid (right_nine (m := Fm.bald K 0))
  rw [known_nat] at H9
  obtain ⟨rr, hrr⟩ : ∃ rr, Hid (right (Fm.bald K 0) = rr) := ⟨_, rfl⟩
  rw [hrr.out] at H9
  clear h T
  by_cases hbad : n < 1 ∨ 12 < n
  · rw [if_pos hbad] at HE
    rw [HE.out]
    have R : rr = 9 := H9.out.2 (by have := HK.out; simp; omega)
    rcases HK.out with ⟨hk1, hk2⟩ | ⟨hk1, hk2⟩
    all_goals
      subst R hk2
      clear HE H9 hbad
      go_enter Tryd.func20, Tryd.ntmps20
      go_wp2_with fail
      refine (C.out).mono ?_
      rintro e w1 ⟨rfl, hr1, ho1⟩
      have HR := Lib.hid (right_any (tmv_bald w1 w1.heap.size _ hKn) (HT.out.only ho1 hg))
      rw [hrr.out] at HR
      have HR1 := Lib.hid hr1
      have HO1 := Lib.hid ho1
      clear hr1 ho1
      go_wp2_with fail
      refine (HR.out).mono ?_
      rintro e w2 ⟨rfl, hb2⟩
      have HO2 := Lib.hid (HO1.out.trans (Only.of_below hb2))
      have F := Lib.hid (rfail_any 9 (HR1.out.below hb2 HR1.out.lt))
      clear hb2
      go_wp2_with fail
      refine (F.out).mono ?_
      rintro e w3 ⟨rfl, hr3, ho3⟩
      have HR3 := Lib.hid hr3
      have HO3 := Lib.hid (HO2.out.trans ho3)
      clear hr3 ho3
      go_wp2_with fail
      go_ret
      exact ⟨rfl, HR3.out, HO3.out⟩
  · rw [if_neg hbad] at HE
    rw [HE.out]
    have hk2 : K = n := by have := HK.out; omega
    have hn12 : n ≤ 12 := by omega
    have R : ¬ (rr : Int) = 9 := fun h => by have := H9.out.1 (by omega); simp at this; omega
    subst hk2
    clear HE H9 hbad HK
    go_enter Tryd.func20, Tryd.ntmps20
    go_wp2_with fail
    refine (C.out).mono ?_
    rintro e w1 ⟨rfl, hr1, ho1⟩
    have HR := Lib.hid (right_any (tmv_bald w1 w1.heap.size _ hKn) (HT.out.only ho1 hg))
    rw [hrr.out] at HR
    have HR1 := Lib.hid hr1
    have HO1 := Lib.hid ho1
    clear hr1 ho1
    go_wp2_with fail
    refine (HR.out).mono ?_
    rintro e w2 ⟨rfl, hb2⟩
    have HO2 := Lib.hid (HO1.out.trans (Only.of_below hb2))
    have HR2 := Lib.hid (HR1.out.below hb2 HR1.out.lt)
    clear hb2
    go_wp2_with fail
    go_ret
    exact ⟨rfl, HR2.out, HO2.out⟩
end Go.Proofs.YtjkjhnpemhlbpaaDoor
