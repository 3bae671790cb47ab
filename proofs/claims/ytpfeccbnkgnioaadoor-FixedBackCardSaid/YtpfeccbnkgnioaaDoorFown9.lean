/- Contracts of fixed.getKind, fixed.getOwn, fixed.Dec. -/
import Derived.Test.YtpfeccbnkgnioaaDoorMb9
import Derived.Test.YtpfeccbnkgnioaaDoorFm2
import Derived.Test.YtpfeccbnkgnioaaDoorRight8
namespace Go.Proofs.YtpfeccbnkgnioaaDoor
open Go.RowKit
set_option linter.unusedVariables false
set_option maxRecDepth 100000
open Gm

theorem mv_bald (w : World) (B k : Nat) (hk : k < 256) : Mv w B (Fm.bald k 0) (.agg #[.int .i64 (k : Int), .int .u32 0, .int .u8 0, .bool false, .int .u64 0, .string ⟨#[]⟩, .string ⟨#[]⟩, .int .u64 0, .int .u16 0, .slice none 0 0, .slice none 0 0]) :=
  ⟨⟨_, _, rfl, Sl.empty _ _, Sl.empty _ _⟩, ⟨by simp [Fm.bald]; omega, by simp [Fm.bald], by simp [Fm.bald], by simp [Fm.bald], by simp [Fm.bald, ByteArray.size], by simp [Fm.bald, ByteArray.size], by simp [Fm.bald], by simp [Fm.bald], fun p hp => (by cases hp), fun p hp => (by cases hp)⟩⟩

set_option maxHeartbeats 1000000 in
theorem getkind_any {w : World} {g : Nat} {l : List Nat} (h : Rd w g l 0) (T : Tab w) (hg : 0 < g) :
    Calls Tryd.prog 19 #[.pointer (some ⟨g, 0, none⟩)] w fun en w' => en = .returned (.int .i64 ((Bm.rfix l 0 1).1 : Int)) ∧ Rd w' g (Bm.rfix l 0 1).2.1 (Fm.kindE l) ∧ Only g w w' := by
  have C := Lib.hid (rfix_any 1 (by omega) (by omega) h)
  have hn : (Bm.rfix l 0 1).1 < 256 := Fm.rfix_nat (show Fm.Bytes l from h.byte) 0 1 1 rfl
  have HE : Hid (Fm.kindE l = if known ((Bm.rfix l 0 1).1 : Int) = true then (Bm.rfix l 0 1).2.2 else Bm.fail (Bm.rfix l 0 1).2.2 9) := rfl
  obtain ⟨p, hp⟩ : ∃ p, Hid (Bm.rfix l 0 1 = p) := ⟨_, rfl⟩
  obtain ⟨n, l1, e1⟩ := p
  rw [hp.out] at C hn HE ⊢
  simp only at C hn HE ⊢
  obtain ⟨ke, hke⟩ : ∃ ke, Hid (Fm.kindE l = ke) := ⟨_, rfl⟩
  rw [hke.out] at HE ⊢
  have HT := Lib.hid T
  have H9 : Hid (right (Fm.bald n 0) = 9 ↔ known (n : Int) = false) := Lib.hid (right_nine (m := Fm.bald n 0))
  obtain ⟨rr, hrr⟩ : ∃ rr, Hid (right (Fm.bald n 0) = rr) := ⟨_, rfl⟩
  rw [hrr.out] at H9
  clear h T
  cases hkn : known (n : Int)
  case false =>
    have E : ke = Bm.fail e1 9 := by rw [HE.out, if_neg (by rw [hkn]; simp)]
    have R : rr = 9 := H9.out.2 hkn
    subst E R
    clear HE H9 hkn
    go_enter Tryd.func19, Tryd.ntmps19
    go_wp2_with fail
    refine (C.out).mono ?_
    rintro e w1 ⟨rfl, hr1, ho1⟩
    have HR := Lib.hid (right_any (mv_bald w1 w1.heap.size n hn) (HT.out.only ho1 hg))
    rw [hrr.out] at HR
    have HR1 := Lib.hid hr1
    have HO1 := Lib.hid ho1
    clear hr1 ho1
    go_wp2_with fail
    refine (HR.out).mono ?_
    rintro e w2 ⟨rfl, hb2⟩
    have HO2 := Lib.hid (HO1.out.trans (Only.of_below hb2))
    have F := Lib.hid (rfail_any 9 (HR1.out.below hb2 HR1.out.lt))
    clear hb2
    go_wp2_with fail
    refine (F.out).mono ?_
    rintro e w3 ⟨rfl, hr3, ho3⟩
    have HR3 := Lib.hid hr3
    have HO3 := Lib.hid (HO2.out.trans ho3)
    clear hr3 ho3
    go_wp2_with fail
    go_ret
    exact ⟨rfl, HR3.out, HO3.out⟩
  case true =>
    have E : ke = e1 := by rw [HE.out, if_pos hkn]
    have R : ¬ (rr : Int) = 9 := fun h => by have := H9.out.1 (by omega); rw [hkn] at this; cases this
    subst E
    clear HE H9 hkn
    go_enter Tryd.func19, Tryd.ntmps19
    go_wp2_with fail
    refine (C.out).mono ?_
    rintro e w1 ⟨rfl, hr1, ho1⟩
    have HR := Lib.hid (right_any (mv_bald w1 w1.heap.size n hn) (HT.out.only ho1 hg))
    rw [hrr.out] at HR
    have HR1 := Lib.hid hr1
    have HO1 := Lib.hid ho1
    clear hr1 ho1
    go_wp2_with fail
    refine (HR.out).mono ?_
    rintro e w2 ⟨rfl, hb2⟩
    have HO2 := Lib.hid (HO1.out.trans (Only.of_below hb2))
    have HR2 := Lib.hid (HR1.out.below hb2 HR1.out.lt)
    clear hb2
    go_wp2_with fail
    go_ret
    exact ⟨rfl, HR2.out, HO2.out⟩

/-- what getOwn leaves -/
def OwnPost (R : World → List Nat → Int → Prop) (w0 : World) (r g k rid : Nat) (l : List Nat) (e : Int) (en : Ending) (w' : World) : Prop :=
  en = .returned (.tuple #[]) ∧ Sg R w0 r g (Fm.own k rid l e).1 (Fm.own k rid l e).2.1 (Fm.own k rid l e).2.2 w'

set_option maxHeartbeats 1000000 in
theorem getown_1 {w w0 : World} {r g rid : Nat} {l : List Nat} {e : Int} (hl : l.length ≤ 1000000000000) (H : Sg (fun w l e => Rd w r l e) w0 r g (Fm.bald 1 rid) l e w) :
    Calls Tryd.prog 21 #[.pointer (some ⟨r, 0, none⟩), .pointer (some ⟨g, 0, none⟩)] w (OwnPost (fun w l e => Rd w r l e) w0 r g 1 rid l e) := by
  have HS := Lib.hid H
  have c0 : w.cell? ⟨g, 0, none⟩ = some (.int .i64 1) := H.mb.cells.1
  have HOWN : Hid (Fm.own 1 rid l e = ({ Fm.bald 1 rid with id := (Bm.rfix l e 8).1 }, (Bm.rfix l e 8).2)) := Lib.hid (by unfold Fm.own; rw [if_pos rfl])
  unfold OwnPost
  have hlk := ((Fm.good_str 1 1 96 rfl (by omega) (by omega) (by omega)).suf l e).length_le
  have hlf := (Fm.flag_suf l e).length_le
  simp only at hlk
  clear H
  go_enter Tryd.func21, Tryd.ntmps21
  have C1 := Lib.hid (rfix_any 8 (by omega) (by omega) HS.out.rd)
  have B1 : (Bm.rfix l e 8).1 < 18446744073709551616 := Fm.rfix_nat (show Fm.Bytes l from HS.out.rd.byte) e 8 8 rfl
  go_wp2_with fail
  refine (C1.out).mono ?_
  rintro en w1a ⟨rfl, hr1, ho1⟩
  have S1 := HS.out.read hr1 ho1
  obtain ⟨x1, hx1⟩ : ∃ x, Hid ((Bm.rfix l e 8).1 = x) := ⟨_, rfl⟩
  rw [hx1.out] at B1 ⊢
  have z1_0 := S1.mb.cells.2.2.2.2.1
  have f1_0 := S1.mb.free 4
  have T1_0 := S1.put (S1.mb.setId x1)
  obtain ⟨w1b, hw1_0⟩ : ∃ W, w1a.setCell ⟨g, 4, none⟩ (.int .u64 (x1 : Int)) = W := ⟨_, rfl⟩
  rw [hw1_0] at T1_0
  have HT1 := Lib.hid T1_0
  clear hr1 ho1 S1 T1_0
  go_wp2_with fail
  go_end0
  refine ⟨rfl, ?_⟩
  have hh := HT1.out
  rw [HOWN.out]
  rw [← hx1.out] at hh
  exact hh

set_option maxHeartbeats 1000000 in
theorem getown_2 {w w0 : World} {r g rid : Nat} {l : List Nat} {e : Int} (hl : l.length ≤ 1000000000000) (H : Sg (fun w l e => Rd w r l e) w0 r g (Fm.bald 2 rid) l e w) :
    Calls Tryd.prog 21 #[.pointer (some ⟨r, 0, none⟩), .pointer (some ⟨g, 0, none⟩)] w (OwnPost (fun w l e => Rd w r l e) w0 r g 2 rid l e) := by
  have HS := Lib.hid H
  have c0 : w.cell? ⟨g, 0, none⟩ = some (.int .i64 2) := H.mb.cells.1
  have HOWN : Hid (Fm.own 2 rid l e = ({ Fm.bald 2 rid with has := (Bm.flag l e).1, peers := (Fm.peers (Bm.flag l e).2.1 (Bm.flag l e).2.2).1 }, (Fm.peers (Bm.flag l e).2.1 (Bm.flag l e).2.2).2)) := Lib.hid (by unfold Fm.own; rw [if_neg (by omega), if_pos rfl])
  unfold OwnPost
  have hlk := ((Fm.good_str 1 1 96 rfl (by omega) (by omega) (by omega)).suf l e).length_le
  have hlf := (Fm.flag_suf l e).length_le
  simp only at hlk
  clear H
  go_enter Tryd.func21, Tryd.ntmps21
  have C1 := Lib.hid (rflag_any HS.out.rd)
  go_wp2_with fail
  refine (C1.out).mono ?_
  rintro en w1a ⟨rfl, hr1, ho1⟩
  have S1 := HS.out.read hr1 ho1
  obtain ⟨x1, hx1⟩ : ∃ x, Hid ((Bm.flag l e).1 = x) := ⟨_, rfl⟩
  rw [hx1.out]
  have z1_0 := S1.mb.cells.2.2.2.1
  have f1_0 := S1.mb.free 3
  have T1_0 := S1.put (S1.mb.setHas x1)
  obtain ⟨w1b, hw1_0⟩ : ∃ W, w1a.setCell ⟨g, 3, none⟩ (.bool x1) = W := ⟨_, rfl⟩
  rw [hw1_0] at T1_0
  have HT1 := Lib.hid T1_0
  clear hr1 ho1 S1 T1_0
  have C2 := Lib.hid (getpeers_any HT1.out.rd)
  go_wp2_with fail
  refine (C2.out).mono ?_
  rintro en w2a ⟨v2, rfl, hg2⟩
  obtain ⟨A2, c2, rfl⟩ := own_shape hg2.own
  have hm2 := own2_lower hg2.own (show g + 1 ≤ w1b.heap.size from HT1.out.mb.lt)
  have S2 := HT1.out.read hg2.rd hg2.only
  have z2 := S2.mb.peersC
  obtain ⟨_, _, z2, _⟩ := z2
  have f2 := S2.mb.free 9
  obtain ⟨q2, hq2⟩ : ∃ q, Hid ((Fm.peers (Bm.flag l e).2.1 (Bm.flag l e).2.2).1 = q) := ⟨_, rfl⟩
  rw [hq2.out] at hm2
  have hl2 : (Fm.peers (Bm.flag l e).2.1 (Bm.flag l e).2.2).1.length = q2.length := by rw [hq2.out]
  rw [hl2]
  have T2 := S2.put (S2.mb.setPeers (n := q2.length) q2 hm2)
  obtain ⟨w2b, hw2⟩ : ∃ W, w2a.setCell ⟨g, 9, none⟩ (.slice A2 q2.length c2) = W := ⟨_, rfl⟩
  rw [hw2] at T2
  have HT2 := Lib.hid T2
  clear hg2 hm2 S2 T2 hl2
  go_wp2_with fail
  go_end0
  refine ⟨rfl, ?_⟩
  have hh := HT2.out
  rw [HOWN.out]
  rw [← hx1.out] at hh
  rw [← hq2.out] at hh
  exact hh

set_option maxHeartbeats 1000000 in
theorem getown_4 {w w0 : World} {r g rid : Nat} {l : List Nat} {e : Int} (hl : l.length ≤ 1000000000000) (H : Sg (fun w l e => Rd w r l e) w0 r g (Fm.bald 4 rid) l e w) :
    Calls Tryd.prog 21 #[.pointer (some ⟨r, 0, none⟩), .pointer (some ⟨g, 0, none⟩)] w (OwnPost (fun w l e => Rd w r l e) w0 r g 4 rid l e) := by
  have HS := Lib.hid H
  have c0 : w.cell? ⟨g, 0, none⟩ = some (.int .i64 4) := H.mb.cells.1
  unfold OwnPost
  have hlf := (Fm.flag_suf l e).length_le
  have HF : Hid ((Bm.flag l e).1 = true → Fm.own 4 rid l e = ({ Fm.bald 4 rid with has := true, pid := (Fm.peer (Bm.flag l e).2.1 (Bm.flag l e).2.2).1.1, pad := (Fm.peer (Bm.flag l e).2.1 (Bm.flag l e).2.2).1.2, peers := (Fm.peers (Fm.peer (Bm.flag l e).2.1 (Bm.flag l e).2.2).2.1 (Fm.peer (Bm.flag l e).2.1 (Bm.flag l e).2.2).2.2).1 }, (Fm.peers (Fm.peer (Bm.flag l e).2.1 (Bm.flag l e).2.2).2.1 (Fm.peer (Bm.flag l e).2.1 (Bm.flag l e).2.2).2.2).2)) := Lib.hid (fun h => by unfold Fm.own; rw [if_neg (by omega), if_neg (by omega), if_pos rfl]; rw [if_pos h])
  have HG : Hid ((Bm.flag l e).1 = false → Fm.own 4 rid l e = ({ Fm.bald 4 rid with peers := (Fm.peers (Bm.flag l e).2.1 (Bm.flag l e).2.2).1 }, (Fm.peers (Bm.flag l e).2.1 (Bm.flag l e).2.2).2)) := Lib.hid (fun h => by unfold Fm.own; rw [if_neg (by omega), if_neg (by omega), if_pos rfl]; rw [if_neg (by rw [h]; simp)])
  clear H
  go_enter Tryd.func21, Tryd.ntmps21
  have C1 := Lib.hid (rflag_any HS.out.rd)
  go_wp2_with fail
  refine (C1.out).mono ?_
  rintro en w1a ⟨rfl, hr1, ho1⟩
  have S1 := HS.out.read hr1 ho1
  obtain ⟨x1, hx1⟩ : ∃ x, Hid ((Bm.flag l e).1 = x) := ⟨_, rfl⟩
  rw [hx1.out]
  have z1_0 := S1.mb.cells.2.2.2.1
  have f1_0 := S1.mb.free 3
  have T1_0 := S1.put (S1.mb.setHas x1)
  obtain ⟨w1b, hw1_0⟩ : ∃ W, w1a.setCell ⟨g, 3, none⟩ (.bool x1) = W := ⟨_, rfl⟩
  rw [hw1_0] at T1_0
  have HT1 := Lib.hid T1_0
  clear hr1 ho1 S1 T1_0


  cases x1
  · have HOWN := Lib.hid (HG.out hx1.out)
    have c3 : w1b.cell? ⟨g, 3, none⟩ = some (.bool false) := HT1.out.mb.cells.2.2.2.1
    have C2 := Lib.hid (getpeers_any HT1.out.rd)
    go_wp2_with fail
    refine (C2.out).mono ?_
    rintro en w2a ⟨v2, rfl, hg2⟩
    obtain ⟨A2, c2, rfl⟩ := own_shape hg2.own
    have hm2 := own2_lower hg2.own (show g + 1 ≤ w1b.heap.size from HT1.out.mb.lt)
    have S2 := HT1.out.read hg2.rd hg2.only
    have z2 := S2.mb.peersC
    obtain ⟨_, _, z2, _⟩ := z2
    have f2 := S2.mb.free 9
    obtain ⟨q2, hq2⟩ : ∃ q, Hid ((Fm.peers (Bm.flag l e).2.1 (Bm.flag l e).2.2).1 = q) := ⟨_, rfl⟩
    rw [hq2.out] at hm2
    have hl2 : (Fm.peers (Bm.flag l e).2.1 (Bm.flag l e).2.2).1.length = q2.length := by rw [hq2.out]
    rw [hl2]
    have T2 := S2.put (S2.mb.setPeers (n := q2.length) q2 hm2)
    obtain ⟨w2b, hw2⟩ : ∃ W, w2a.setCell ⟨g, 9, none⟩ (.slice A2 q2.length c2) = W := ⟨_, rfl⟩
    rw [hw2] at T2
    have HT2 := Lib.hid T2
    clear hg2 hm2 S2 T2 hl2
    go_wp2_with fail
    go_end0
    refine ⟨rfl, ?_⟩
    have hh := HT2.out
    rw [HOWN.out]
    rw [← hq2.out] at hh
    exact hh
  · have HOWN := Lib.hid (HF.out hx1.out)
    have c3 : w1b.cell? ⟨g, 3, none⟩ = some (.bool true) := HT1.out.mb.cells.2.2.2.1
    have C2 := Lib.hid (getpeer_any HT1.out.rd)
    go_wp2_with fail
    refine (C2.out).mono ?_
    rintro en w2a ⟨rfl, hr2, ho2⟩
    have S2 := HT1.out.read hr2 ho2
    obtain ⟨x2, hx2⟩ : ∃ x, Hid ((Fm.peer (Bm.flag l e).2.1 (Bm.flag l e).2.2).1.1 = x) := ⟨_, rfl⟩
    obtain ⟨y2, hy2⟩ : ∃ x, Hid ((Fm.peer (Bm.flag l e).2.1 (Bm.flag l e).2.2).1.2 = x) := ⟨_, rfl⟩
    rw [hx2.out, hy2.out]
    have z2_0 := S2.mb.cells.2.2.2.2.2.2.2.1
    have f2_0 := S2.mb.free 7
    have T2_0 := S2.put (S2.mb.setPid x2)
    obtain ⟨w2m, hw2_0⟩ : ∃ W, w2a.setCell ⟨g, 7, none⟩ (.int .u64 (x2 : Int)) = W := ⟨_, rfl⟩
    rw [hw2_0] at T2_0
    have z2_1 := T2_0.mb.cells.2.2.2.2.2.2.2.2
    have f2_1 := T2_0.mb.free 8
    have T2_1 := T2_0.put (T2_0.mb.setPad y2)
    obtain ⟨w2b, hw2_1⟩ : ∃ W, w2m.setCell ⟨g, 8, none⟩ (.int .u16 (y2 : Int)) = W := ⟨_, rfl⟩
    rw [hw2_1] at T2_1
    have HT2 := Lib.hid T2_1
    clear hr2 ho2 S2 T2_0 T2_1
    have C3 := Lib.hid (getpeers_any HT2.out.rd)
    go_wp2_with fail
    refine (C3.out).mono ?_
    rintro en w3a ⟨v3, rfl, hg3⟩
    obtain ⟨A3, c3, rfl⟩ := own_shape hg3.own
    have hm3 := own2_lower hg3.own (show g + 1 ≤ w2b.heap.size from HT2.out.mb.lt)
    have S3 := HT2.out.read hg3.rd hg3.only
    have z3 := S3.mb.peersC
    obtain ⟨_, _, z3, _⟩ := z3
    have f3 := S3.mb.free 9
    obtain ⟨q3, hq3⟩ : ∃ q, Hid ((Fm.peers (Fm.peer (Bm.flag l e).2.1 (Bm.flag l e).2.2).2.1 (Fm.peer (Bm.flag l e).2.1 (Bm.flag l e).2.2).2.2).1 = q) := ⟨_, rfl⟩
    rw [hq3.out] at hm3
    have hl3 : (Fm.peers (Fm.peer (Bm.flag l e).2.1 (Bm.flag l e).2.2).2.1 (Fm.peer (Bm.flag l e).2.1 (Bm.flag l e).2.2).2.2).1.length = q3.length := by rw [hq3.out]
    rw [hl3]
    have T3 := S3.put (S3.mb.setPeers (n := q3.length) q3 hm3)
    obtain ⟨w3b, hw3⟩ : ∃ W, w3a.setCell ⟨g, 9, none⟩ (.slice A3 q3.length c3) = W := ⟨_, rfl⟩
    rw [hw3] at T3
    have HT3 := Lib.hid T3
    clear hg3 hm3 S3 T3 hl3
    go_wp2_with fail
    go_end0
    refine ⟨rfl, ?_⟩
    have hh := HT3.out
    rw [HOWN.out]
    rw [← hx2.out, ← hy2.out] at hh
    rw [← hq3.out] at hh
    exact hh

set_option maxHeartbeats 1000000 in
theorem getown_5 {w w0 : World} {r g rid : Nat} {l : List Nat} {e : Int} (hl : l.length ≤ 1000000000000) (H : Sg (fun w l e => Rd w r l e) w0 r g (Fm.bald 5 rid) l e w) :
    Calls Tryd.prog 21 #[.pointer (some ⟨r, 0, none⟩), .pointer (some ⟨g, 0, none⟩)] w (OwnPost (fun w l e => Rd w r l e) w0 r g 5 rid l e) := by
  have HS := Lib.hid H
  have c0 : w.cell? ⟨g, 0, none⟩ = some (.int .i64 5) := H.mb.cells.1
  have HOWN : Hid (Fm.own 5 rid l e = ({ Fm.bald 5 rid with pid := (Fm.peer l e).1.1, pad := (Fm.peer l e).1.2 }, (Fm.peer l e).2)) := Lib.hid (by unfold Fm.own; rw [if_neg (by omega), if_neg (by omega), if_neg (by omega), if_pos rfl])
  unfold OwnPost
  have hlk := ((Fm.good_str 1 1 96 rfl (by omega) (by omega) (by omega)).suf l e).length_le
  have hlf := (Fm.flag_suf l e).length_le
  simp only at hlk
  clear H
  go_enter Tryd.func21, Tryd.ntmps21
  have C1 := Lib.hid (getpeer_any HS.out.rd)
  go_wp2_with fail
  refine (C1.out).mono ?_
  rintro en w1a ⟨rfl, hr1, ho1⟩
  have S1 := HS.out.read hr1 ho1
  obtain ⟨x1, hx1⟩ : ∃ x, Hid ((Fm.peer l e).1.1 = x) := ⟨_, rfl⟩
  obtain ⟨y1, hy1⟩ : ∃ x, Hid ((Fm.peer l e).1.2 = x) := ⟨_, rfl⟩
  rw [hx1.out, hy1.out]
  have z1_0 := S1.mb.cells.2.2.2.2.2.2.2.1
  have f1_0 := S1.mb.free 7
  have T1_0 := S1.put (S1.mb.setPid x1)
  obtain ⟨w1m, hw1_0⟩ : ∃ W, w1a.setCell ⟨g, 7, none⟩ (.int .u64 (x1 : Int)) = W := ⟨_, rfl⟩
  rw [hw1_0] at T1_0
  have z1_1 := T1_0.mb.cells.2.2.2.2.2.2.2.2
  have f1_1 := T1_0.mb.free 8
  have T1_1 := T1_0.put (T1_0.mb.setPad y1)
  obtain ⟨w1b, hw1_1⟩ : ∃ W, w1m.setCell ⟨g, 8, none⟩ (.int .u16 (y1 : Int)) = W := ⟨_, rfl⟩
  rw [hw1_1] at T1_1
  have HT1 := Lib.hid T1_1
  clear hr1 ho1 S1 T1_0 T1_1
  go_wp2_with fail
  go_end0
  refine ⟨rfl, ?_⟩
  have hh := HT1.out
  rw [HOWN.out]
  rw [← hx1.out, ← hy1.out] at hh
  exact hh

set_option maxHeartbeats 1000000 in
theorem getown_7 {w w0 : World} {r g rid : Nat} {l : List Nat} {e : Int} (hl : l.length ≤ 1000000000000) (H : Sg (fun w l e => Rd w r l e) w0 r g (Fm.bald 7 rid) l e w) :
    Calls Tryd.prog 21 #[.pointer (some ⟨r, 0, none⟩), .pointer (some ⟨g, 0, none⟩)] w (OwnPost (fun w l e => Rd w r l e) w0 r g 7 rid l e) := by
  have HS := Lib.hid H
  have c0 : w.cell? ⟨g, 0, none⟩ = some (.int .i64 7) := H.mb.cells.1
  have HOWN : Hid (Fm.own 7 rid l e = ({ Fm.bald 7 rid with key := strOf (Fm.str 1 96 l e).1, val := strOf (Fm.str 2 512 (Fm.str 1 96 l e).2.1 (Fm.str 1 96 l e).2.2).1 }, (Fm.str 2 512 (Fm.str 1 96 l e).2.1 (Fm.str 1 96 l e).2.2).2)) := Lib.hid (by unfold Fm.own; rw [if_neg (by omega), if_neg (by omega), if_neg (by omega), if_neg (by omega), if_pos rfl])
  unfold OwnPost
  have hlk := ((Fm.good_str 1 1 96 rfl (by omega) (by omega) (by omega)).suf l e).length_le
  have hlf := (Fm.flag_suf l e).length_le
  simp only at hlk
  clear H
  go_enter Tryd.func21, Tryd.ntmps21
  have C1 := Lib.hid (getkey_any (by omega) HS.out.rd)
  go_wp2_with fail
  refine (C1.out).mono ?_
  rintro en w1a ⟨rfl, hr1, ho1⟩
  have S1 := HS.out.read hr1 ho1
  obtain ⟨x1, hx1⟩ : ∃ x, Hid ((strOf (Fm.str 1 96 l e).1) = x) := ⟨_, rfl⟩
  rw [hx1.out]
  have z1_0 := S1.mb.cells.2.2.2.2.2.1
  have f1_0 := S1.mb.free 5
  have T1_0 := S1.put (S1.mb.setKey x1)
  obtain ⟨w1b, hw1_0⟩ : ∃ W, w1a.setCell ⟨g, 5, none⟩ (.string x1) = W := ⟨_, rfl⟩
  rw [hw1_0] at T1_0
  have HT1 := Lib.hid T1_0
  clear hr1 ho1 S1 T1_0
  have C2 := Lib.hid (getval_any (by omega) HT1.out.rd)
  go_wp2_with fail
  refine (C2.out).mono ?_
  rintro en w2a ⟨rfl, hr2, ho2⟩
  have S2 := HT1.out.read hr2 ho2
  obtain ⟨x2, hx2⟩ : ∃ x, Hid ((strOf (Fm.str 2 512 (Fm.str 1 96 l e).2.1 (Fm.str 1 96 l e).2.2).1) = x) := ⟨_, rfl⟩
  rw [hx2.out]
  have z2_0 := S2.mb.cells.2.2.2.2.2.2.1
  have f2_0 := S2.mb.free 6
  have T2_0 := S2.put (S2.mb.setVal x2)
  obtain ⟨w2b, hw2_0⟩ : ∃ W, w2a.setCell ⟨g, 6, none⟩ (.string x2) = W := ⟨_, rfl⟩
  rw [hw2_0] at T2_0
  have HT2 := Lib.hid T2_0
  clear hr2 ho2 S2 T2_0
  go_wp2_with fail
  go_end0
  refine ⟨rfl, ?_⟩
  have hh := HT2.out
  rw [HOWN.out]
  rw [← hx1.out] at hh
  rw [← hx2.out] at hh
  exact hh

set_option maxHeartbeats 1000000 in
theorem getown_8 {w w0 : World} {r g rid : Nat} {l : List Nat} {e : Int} (hl : l.length ≤ 1000000000000) (H : Sg (fun w l e => Rd w r l e) w0 r g (Fm.bald 8 rid) l e w) :
    Calls Tryd.prog 21 #[.pointer (some ⟨r, 0, none⟩), .pointer (some ⟨g, 0, none⟩)] w (OwnPost (fun w l e => Rd w r l e) w0 r g 8 rid l e) := by
  have HS := Lib.hid H
  have c0 : w.cell? ⟨g, 0, none⟩ = some (.int .i64 8) := H.mb.cells.1
  have HOWN : Hid (Fm.own 8 rid l e = ({ Fm.bald 8 rid with key := strOf (Fm.str 1 96 l e).1 }, (Fm.str 1 96 l e).2)) := Lib.hid (by unfold Fm.own; rw [if_neg (by omega), if_neg (by omega), if_neg (by omega), if_neg (by omega), if_neg (by omega), if_pos rfl])
  unfold OwnPost
  have hlk := ((Fm.good_str 1 1 96 rfl (by omega) (by omega) (by omega)).suf l e).length_le
  have hlf := (Fm.flag_suf l e).length_le
  simp only at hlk
  clear H
  go_enter Tryd.func21, Tryd.ntmps21
  have C1 := Lib.hid (getkey_any (by omega) HS.out.rd)
  go_wp2_with fail
  refine (C1.out).mono ?_
  rintro en w1a ⟨rfl, hr1, ho1⟩
  have S1 := HS.out.read hr1 ho1
  obtain ⟨x1, hx1⟩ : ∃ x, Hid ((strOf (Fm.str 1 96 l e).1) = x) := ⟨_, rfl⟩
  rw [hx1.out]
  have z1_0 := S1.mb.cells.2.2.2.2.2.1
  have f1_0 := S1.mb.free 5
  have T1_0 := S1.put (S1.mb.setKey x1)
  obtain ⟨w1b, hw1_0⟩ : ∃ W, w1a.setCell ⟨g, 5, none⟩ (.string x1) = W := ⟨_, rfl⟩
  rw [hw1_0] at T1_0
  have HT1 := Lib.hid T1_0
  clear hr1 ho1 S1 T1_0
  go_wp2_with fail
  go_end0
  refine ⟨rfl, ?_⟩
  have hh := HT1.out
  rw [HOWN.out]
  rw [← hx1.out] at hh
  exact hh

set_option maxHeartbeats 1000000 in
theorem getown_9 {w w0 : World} {r g rid : Nat} {l : List Nat} {e : Int} (hl : l.length ≤ 1000000000000) (H : Sg (fun w l e => Rd w r l e) w0 r g (Fm.bald 9 rid) l e w) :
    Calls Tryd.prog 21 #[.pointer (some ⟨r, 0, none⟩), .pointer (some ⟨g, 0, none⟩)] w (OwnPost (fun w l e => Rd w r l e) w0 r g 9 rid l e) := by
  have HS := Lib.hid H
  have c0 : w.cell? ⟨g, 0, none⟩ = some (.int .i64 9) := H.mb.cells.1
  unfold OwnPost
  have hlf := (Fm.flag_suf l e).length_le
  have HF : Hid ((Bm.flag l e).1 = true → Fm.own 9 rid l e = ({ Fm.bald 9 rid with has := true, val := strOf (Fm.str 2 512 (Bm.flag l e).2.1 (Bm.flag l e).2.2).1 }, (Fm.str 2 512 (Bm.flag l e).2.1 (Bm.flag l e).2.2).2)) := Lib.hid (fun h => by unfold Fm.own; rw [if_neg (by omega), if_neg (by omega), if_neg (by omega), if_neg (by omega), if_neg (by omega), if_neg (by omega), if_pos rfl]; rw [if_pos h])
  have HG : Hid ((Bm.flag l e).1 = false → Fm.own 9 rid l e = (Fm.bald 9 rid, (Bm.flag l e).2)) := Lib.hid (fun h => by unfold Fm.own; rw [if_neg (by omega), if_neg (by omega), if_neg (by omega), if_neg (by omega), if_neg (by omega), if_neg (by omega), if_pos rfl]; rw [if_neg (by rw [h]; simp)])
  clear H
  go_enter Tryd.func21, Tryd.ntmps21
  have C1 := Lib.hid (rflag_any HS.out.rd)
  go_wp2_with fail
  refine (C1.out).mono ?_
  rintro en w1a ⟨rfl, hr1, ho1⟩
  have S1 := HS.out.read hr1 ho1
  obtain ⟨x1, hx1⟩ : ∃ x, Hid ((Bm.flag l e).1 = x) := ⟨_, rfl⟩
  rw [hx1.out]
  have z1_0 := S1.mb.cells.2.2.2.1
  have f1_0 := S1.mb.free 3
  have T1_0 := S1.put (S1.mb.setHas x1)
  obtain ⟨w1b, hw1_0⟩ : ∃ W, w1a.setCell ⟨g, 3, none⟩ (.bool x1) = W := ⟨_, rfl⟩
  rw [hw1_0] at T1_0
  have HT1 := Lib.hid T1_0
  clear hr1 ho1 S1 T1_0


  cases x1
  · have HOWN := Lib.hid (HG.out hx1.out)
    have c3 : w1b.cell? ⟨g, 3, none⟩ = some (.bool false) := HT1.out.mb.cells.2.2.2.1
    go_wp2_with fail
    go_end0
    refine ⟨rfl, ?_⟩
    have hh := HT1.out
    rw [HOWN.out]
    exact hh
  · have HOWN := Lib.hid (HF.out hx1.out)
    have c3 : w1b.cell? ⟨g, 3, none⟩ = some (.bool true) := HT1.out.mb.cells.2.2.2.1
    have C2 := Lib.hid (getval_any (by omega) HT1.out.rd)
    go_wp2_with fail
    refine (C2.out).mono ?_
    rintro en w2a ⟨rfl, hr2, ho2⟩
    have S2 := HT1.out.read hr2 ho2
    obtain ⟨x2, hx2⟩ : ∃ x, Hid ((strOf (Fm.str 2 512 (Bm.flag l e).2.1 (Bm.flag l e).2.2).1) = x) := ⟨_, rfl⟩
    rw [hx2.out]
    have z2_0 := S2.mb.cells.2.2.2.2.2.2.1
    have f2_0 := S2.mb.free 6
    have T2_0 := S2.put (S2.mb.setVal x2)
    obtain ⟨w2b, hw2_0⟩ : ∃ W, w2a.setCell ⟨g, 6, none⟩ (.string x2) = W := ⟨_, rfl⟩
    rw [hw2_0] at T2_0
    have HT2 := Lib.hid T2_0
    clear hr2 ho2 S2 T2_0
    go_wp2_with fail
    go_end0
    refine ⟨rfl, ?_⟩
    have hh := HT2.out
    rw [HOWN.out]
    rw [← hx2.out] at hh
    exact hh

set_option maxHeartbeats 1000000 in
theorem getown_10 {w w0 : World} {r g rid : Nat} {l : List Nat} {e : Int} (hl : l.length ≤ 1000000000000) (H : Sg (fun w l e => Rd w r l e) w0 r g (Fm.bald 10 rid) l e w) :
    Calls Tryd.prog 21 #[.pointer (some ⟨r, 0, none⟩), .pointer (some ⟨g, 0, none⟩)] w (OwnPost (fun w l e => Rd w r l e) w0 r g 10 rid l e) := by
  have HS := Lib.hid H
  have c0 : w.cell? ⟨g, 0, none⟩ = some (.int .i64 10) := H.mb.cells.1
  have HOWN : Hid (Fm.own 10 rid l e = ({ Fm.bald 10 rid with has := (Bm.flag l e).1, pairs := (Fm.pairs (Bm.flag l e).2.1 (Bm.flag l e).2.2).1 }, (Fm.pairs (Bm.flag l e).2.1 (Bm.flag l e).2.2).2)) := Lib.hid (by unfold Fm.own; rw [if_neg (by omega), if_neg (by omega), if_neg (by omega), if_neg (by omega), if_neg (by omega), if_neg (by omega), if_neg (by omega), if_pos rfl])
  unfold OwnPost
  have hlk := ((Fm.good_str 1 1 96 rfl (by omega) (by omega) (by omega)).suf l e).length_le
  have hlf := (Fm.flag_suf l e).length_le
  simp only at hlk
  clear H
  go_enter Tryd.func21, Tryd.ntmps21
  have C1 := Lib.hid (rflag_any HS.out.rd)
  go_wp2_with fail
  refine (C1.out).mono ?_
  rintro en w1a ⟨rfl, hr1, ho1⟩
  have S1 := HS.out.read hr1 ho1
  obtain ⟨x1, hx1⟩ : ∃ x, Hid ((Bm.flag l e).1 = x) := ⟨_, rfl⟩
  rw [hx1.out]
  have z1_0 := S1.mb.cells.2.2.2.1
  have f1_0 := S1.mb.free 3
  have T1_0 := S1.put (S1.mb.setHas x1)
  obtain ⟨w1b, hw1_0⟩ : ∃ W, w1a.setCell ⟨g, 3, none⟩ (.bool x1) = W := ⟨_, rfl⟩
  rw [hw1_0] at T1_0
  have HT1 := Lib.hid T1_0
  clear hr1 ho1 S1 T1_0
  have C2 := Lib.hid (getpairs_any (by omega) HT1.out.rd)
  go_wp2_with fail
  refine (C2.out).mono ?_
  rintro en w2a ⟨v2, rfl, hg2⟩
  obtain ⟨A2, c2, rfl⟩ := own_shape hg2.own
  have hm2 := own2_lower hg2.own (show g + 1 ≤ w1b.heap.size from HT1.out.mb.lt)
  have S2 := HT1.out.read hg2.rd hg2.only
  have z2 := S2.mb.pairsC
  obtain ⟨_, _, z2, _⟩ := z2
  have f2 := S2.mb.free 10
  obtain ⟨q2, hq2⟩ : ∃ q, Hid ((Fm.pairs (Bm.flag l e).2.1 (Bm.flag l e).2.2).1 = q) := ⟨_, rfl⟩
  rw [hq2.out] at hm2
  have hl2 : (Fm.pairs (Bm.flag l e).2.1 (Bm.flag l e).2.2).1.length = q2.length := by rw [hq2.out]
  rw [hl2]
  have T2 := S2.put (S2.mb.setPairs (n := q2.length) q2 hm2)
  obtain ⟨w2b, hw2⟩ : ∃ W, w2a.setCell ⟨g, 10, none⟩ (.slice A2 q2.length c2) = W := ⟨_, rfl⟩
  rw [hw2] at T2
  have HT2 := Lib.hid T2
  clear hg2 hm2 S2 T2 hl2
  go_wp2_with fail
  go_end0
  refine ⟨rfl, ?_⟩
  have hh := HT2.out
  rw [HOWN.out]
  rw [← hx1.out] at hh
  rw [← hq2.out] at hh
  exact hh

set_option maxHeartbeats 1000000 in
theorem getown_12 {w w0 : World} {r g rid : Nat} {l : List Nat} {e : Int} (hl : l.length ≤ 1000000000000) (H : Sg (fun w l e => Rd w r l e) w0 r g (Fm.bald 12 rid) l e w) :
    Calls Tryd.prog 21 #[.pointer (some ⟨r, 0, none⟩), .pointer (some ⟨g, 0, none⟩)] w (OwnPost (fun w l e => Rd w r l e) w0 r g 12 rid l e) := by
  have HS := Lib.hid H
  have c0 : w.cell? ⟨g, 0, none⟩ = some (.int .i64 12) := H.mb.cells.1
  have HOWN : Hid (Fm.own 12 rid l e = ({ Fm.bald 12 rid with code := (Bm.rfix l e 1).1 % 256 }, (Bm.rfix l e 1).2)) := Lib.hid (by unfold Fm.own; rw [if_neg (by omega), if_neg (by omega), if_neg (by omega), if_neg (by omega), if_neg (by omega), if_neg (by omega), if_neg (by omega), if_neg (by omega), if_pos rfl])
  unfold OwnPost
  have hmod : (Bm.rfix l e 1).1 % 256 = (Bm.rfix l e 1).1 := Nat.mod_eq_of_lt (Fm.rfix_nat (show Fm.Bytes l from H.rd.byte) e 1 1 rfl)
  rw [hmod] at HOWN
  clear hmod
  have hlk := ((Fm.good_str 1 1 96 rfl (by omega) (by omega) (by omega)).suf l e).length_le
  have hlf := (Fm.flag_suf l e).length_le
  simp only at hlk
  clear H
  go_enter Tryd.func21, Tryd.ntmps21
  have C1 := Lib.hid (rfix_any 1 (by omega) (by omega) HS.out.rd)
  have B1 : (Bm.rfix l e 1).1 < 256 := Fm.rfix_nat (show Fm.Bytes l from HS.out.rd.byte) e 1 1 rfl
  go_wp2_with fail
  refine (C1.out).mono ?_
  rintro en w1a ⟨rfl, hr1, ho1⟩
  have S1 := HS.out.read hr1 ho1
  obtain ⟨x1, hx1⟩ : ∃ x, Hid ((Bm.rfix l e 1).1 = x) := ⟨_, rfl⟩
  rw [hx1.out] at B1 ⊢
  have z1_0 := S1.mb.cells.2.2.1
  have f1_0 := S1.mb.free 2
  have T1_0 := S1.put (S1.mb.setCode x1)
  obtain ⟨w1b, hw1_0⟩ : ∃ W, w1a.setCell ⟨g, 2, none⟩ (.int .u8 (x1 : Int)) = W := ⟨_, rfl⟩
  rw [hw1_0] at T1_0
  have HT1 := Lib.hid T1_0
  clear hr1 ho1 S1 T1_0
  go_wp2_with fail
  go_end0
  refine ⟨rfl, ?_⟩
  have hh := HT1.out
  rw [HOWN.out]
  rw [← hx1.out] at hh
  exact hh

set_option maxHeartbeats 1000000 in
theorem getown_0 {w w0 : World} {r g k rid : Nat} {l : List Nat} {e : Int} (n1 : k ≠ 1) (n2 : k ≠ 2) (n4 : k ≠ 4) (n5 : k ≠ 5) (n7 : k ≠ 7) (n8 : k ≠ 8) (n9 : k ≠ 9) (n10 : k ≠ 10) (n12 : k ≠ 12) (H : Sg (fun w l e => Rd w r l e) w0 r g (Fm.bald k rid) l e w) :
    Calls Tryd.prog 21 #[.pointer (some ⟨r, 0, none⟩), .pointer (some ⟨g, 0, none⟩)] w (OwnPost (fun w l e => Rd w r l e) w0 r g k rid l e) := by
  have HS := Lib.hid H
  have c0 : w.cell? ⟨g, 0, none⟩ = some (.int .i64 (k : Int)) := H.mb.cells.1
  have HOWN : Hid (Fm.own k rid l e = (Fm.bald k rid, l, e)) := Lib.hid (by unfold Fm.own; rw [if_neg n1, if_neg n2, if_neg n4, if_neg n5, if_neg n7, if_neg n8, if_neg n9, if_neg n10, if_neg n12])
  unfold OwnPost
  have b1 : ((k : Int) == 1) = false := by rw [beq_eq_false_iff_ne]; omega
  have b2 : ((k : Int) == 2) = false := by rw [beq_eq_false_iff_ne]; omega
  have b4 : ((k : Int) == 4) = false := by rw [beq_eq_false_iff_ne]; omega
  have b5 : ((k : Int) == 5) = false := by rw [beq_eq_false_iff_ne]; omega
  have b7 : ((k : Int) == 7) = false := by rw [beq_eq_false_iff_ne]; omega
  have b8 : ((k : Int) == 8) = false := by rw [beq_eq_false_iff_ne]; omega
  have b9 : ((k : Int) == 9) = false := by rw [beq_eq_false_iff_ne]; omega
  have b10 : ((k : Int) == 10) = false := by rw [beq_eq_false_iff_ne]; omega
  have b12 : ((k : Int) == 12) = false := by rw [beq_eq_false_iff_ne]; omega
  clear H n1 n2 n4 n5 n7 n8 n9 n10 n12
  go_enter Tryd.func21, Tryd.ntmps21
  go_wp2_with fail
  go_end0
  refine ⟨rfl, ?_⟩
  rw [HOWN.out]
  exact HS.out
theorem getown_any {w w0 : World} {r g rid : Nat} (k : Nat) {l : List Nat} {e : Int} (hl : l.length ≤ 1000000000000) (H : Sg (fun w l e => Rd w r l e) w0 r g (Fm.bald k rid) l e w) :
    Calls Tryd.prog 21 #[.pointer (some ⟨r, 0, none⟩), .pointer (some ⟨g, 0, none⟩)] w (OwnPost (fun w l e => Rd w r l e) w0 r g k rid l e) := by
  rcases Fm.read_kinds k with rfl | rfl | rfl | rfl | rfl | rfl | rfl | rfl | rfl | ⟨n1, n2, n4, n5, n7, n8, n9, n10, n12⟩
  · exact getown_1 hl H
  · exact getown_2 hl H
  · exact getown_4 hl H
  · exact getown_5 hl H
  · exact getown_7 hl H
  · exact getown_8 hl H
  · exact getown_9 hl H
  · exact getown_10 hl H
  · exact getown_12 hl H
  · exact getown_0 n1 n2 n4 n5 n7 n8 n9 n10 n12 H
end Go.Proofs.YtpfeccbnkgnioaaDoor
