/- Contract of tagged.getField, tag by tag. -/
import Derived.Test.YtjkjhnpemhlbpaaDoorTget
import Derived.Test.YtjkjhnpemhlbpaaDoorTenc
namespace Go.Proofs.YtjkjhnpemhlbpaaDoor
open Go.RowKit
set_option linter.unusedVariables false
set_option maxRecDepth 100000
open Gm

theorem beq_zero (x : Nat) : ((x : Int) == 0) = !(!decide (x = 0)) := by rw [Bool.eq_iff_iff]; simp
/-- what getField leaves -/
def FieldPost (w0 : World) (r g t : Nat) (m : Ms) (l : List Nat) (e : Int) (en : Ending) (w' : World) : Prop :=
  en = .returned (.bool (!Tg.has (Tg.read t m l e).1 t)) ∧ Sg (fun w l e => Rd w r l e) w0 r g (Tg.read t m l e).1 (Tg.read t m l e).2.1 (Tg.read t m l e).2.2 w'

set_option maxHeartbeats 1000000 in
theorem tfield_1 {w w0 : World} {r g : Nat} {m : Ms} {l : List Nat} {e : Int} (H : Sg (fun w l e => Rd w r l e) w0 r g m l e w) :
    Calls Tryd.prog 23 #[.pointer (some ⟨r, 0, none⟩), .int .i64 1, .pointer (some ⟨g, 0, none⟩)] w (FieldPost w0 r g 1 m l e) := by
  have HS := Lib.hid H
  unfold FieldPost
  clear H
  have E : Tg.read 1 m l e = ({ m with rid := (Bm.uvar l e 4294967295).1 }, (Bm.uvar l e 4294967295).2) := rfl
  have HE := Lib.hid E
  clear E
  have C1 := Lib.hid (ruvar_any 4294967295 (by omega) HS.out.rd)
  have B1 := Bm.uvar_le l e 4294967295
  skip
  obtain ⟨q, hq⟩ : ∃ q, Hid (Bm.uvar l e 4294967295 = q) := ⟨_, rfl⟩
  obtain ⟨x, l1, e1⟩ := q
  rw [hq.out] at C1 B1 HE
  simp only at C1 B1 HE
  rw [HE.out]
  go_enter Tryd.func23, Tryd.ntmps23
  go_wp2_with fail
  refine (C1.out).mono ?_
  rintro en w1 ⟨rfl, hr1, ho1⟩
  have S1 := HS.out.read hr1 ho1
  have z1 := S1.mb.cells.2.1
  have f1 := S1.mb.free 1
  have T1 := S1.put (S1.mb.setRid x)
  obtain ⟨w2, hw2⟩ : ∃ W, w1.setCell ⟨g, 1, none⟩ (.int .u32 (x : Int)) = W := ⟨_, rfl⟩
  rw [hw2] at T1
  have HT1 := Lib.hid T1
  have y1 : w2.cell? ⟨g, 1, none⟩ = some (.int .u32 (x : Int)) := T1.mb.cells.2.1
  clear hr1 ho1 S1 T1
  go_wp2_with fail
  go_ret
  exact ⟨ret_bool (beq_zero x), HT1.out⟩

set_option maxHeartbeats 1000000 in
theorem tfield_2 {w w0 : World} {r g : Nat} {m : Ms} {l : List Nat} {e : Int} (H : Sg (fun w l e => Rd w r l e) w0 r g m l e w) :
    Calls Tryd.prog 23 #[.pointer (some ⟨r, 0, none⟩), .int .i64 2, .pointer (some ⟨g, 0, none⟩)] w (FieldPost w0 r g 2 m l e) := by
  have HS := Lib.hid H
  unfold FieldPost
  clear H
  have E : Tg.read 2 m l e = ({ m with code := (Bm.uvar l e 255).1 }, (Bm.uvar l e 255).2) := rfl
  have HE := Lib.hid E
  clear E
  have C1 := Lib.hid (ruvar_any 255 (by omega) HS.out.rd)
  have B1 := Bm.uvar_le l e 255
  skip
  obtain ⟨q, hq⟩ : ∃ q, Hid (Bm.uvar l e 255 = q) := ⟨_, rfl⟩
  obtain ⟨x, l1, e1⟩ := q
  rw [hq.out] at C1 B1 HE
  simp only at C1 B1 HE
  rw [HE.out]
  go_enter Tryd.func23, Tryd.ntmps23
  go_wp2_with fail
  refine (C1.out).mono ?_
  rintro en w1 ⟨rfl, hr1, ho1⟩
  have S1 := HS.out.read hr1 ho1
  have z1 := S1.mb.cells.2.2.1
  have f1 := S1.mb.free 2
  have T1 := S1.put (S1.mb.setCode x)
  obtain ⟨w2, hw2⟩ : ∃ W, w1.setCell ⟨g, 2, none⟩ (.int .u8 (x : Int)) = W := ⟨_, rfl⟩
  rw [hw2] at T1
  have HT1 := Lib.hid T1
  have y1 : w2.cell? ⟨g, 2, none⟩ = some (.int .u8 (x : Int)) := T1.mb.cells.2.2.1
  clear hr1 ho1 S1 T1
  go_wp2_with fail
  go_ret
  exact ⟨ret_bool (beq_zero x), HT1.out⟩

set_option maxHeartbeats 1000000 in
theorem tfield_4 {w w0 : World} {r g : Nat} {m : Ms} {l : List Nat} {e : Int} (H : Sg (fun w l e => Rd w r l e) w0 r g m l e w) :
    Calls Tryd.prog 23 #[.pointer (some ⟨r, 0, none⟩), .int .i64 4, .pointer (some ⟨g, 0, none⟩)] w (FieldPost w0 r g 4 m l e) := by
  have HS := Lib.hid H
  unfold FieldPost
  clear H
  have E : Tg.read 4 m l e = ({ m with id := (Bm.uvar l e Tg.u64).1 }, (Bm.uvar l e Tg.u64).2) := rfl
  have HE := Lib.hid E
  clear E
  have C1 := Lib.hid (ruvarA HS.out.rd)
  have B1 := Bm.uvar_le l e Tg.u64
  unfold Tg.u64 at B1; change (Bm.uvar l e Tg.u64).1 ≤ 18446744073709551615 at B1
  obtain ⟨q, hq⟩ : ∃ q, Hid (Bm.uvar l e Tg.u64 = q) := ⟨_, rfl⟩
  obtain ⟨x, l1, e1⟩ := q
  rw [hq.out] at C1 B1 HE
  simp only at C1 B1 HE
  rw [HE.out]
  go_enter Tryd.func23, Tryd.ntmps23
  go_wp2_with fail
  refine (C1.out).mono ?_
  rintro en w1 ⟨rfl, hr1, ho1⟩
  have S1 := HS.out.read hr1 ho1
  have z1 := S1.mb.cells.2.2.2.2.1
  have f1 := S1.mb.free 4
  have T1 := S1.put (S1.mb.setId x)
  obtain ⟨w2, hw2⟩ : ∃ W, w1.setCell ⟨g, 4, none⟩ (.int .u64 (x : Int)) = W := ⟨_, rfl⟩
  rw [hw2] at T1
  have HT1 := Lib.hid T1
  have y1 : w2.cell? ⟨g, 4, none⟩ = some (.int .u64 (x : Int)) := T1.mb.cells.2.2.2.2.1
  clear hr1 ho1 S1 T1
  go_wp2_with fail
  go_ret
  exact ⟨ret_bool (beq_zero x), HT1.out⟩

set_option maxHeartbeats 1000000 in
theorem tfield_3 {w w0 : World} {r g : Nat} {m : Ms} {l : List Nat} {e : Int} (H : Sg (fun w l e => Rd w r l e) w0 r g m l e w) :
    Calls Tryd.prog 23 #[.pointer (some ⟨r, 0, none⟩), .int .i64 3, .pointer (some ⟨g, 0, none⟩)] w (FieldPost w0 r g 3 m l e) := by
  have HS := Lib.hid H
  unfold FieldPost
  clear H
  have z1 := HS.out.mb.cells.2.2.2.1
  have f1 := HS.out.mb.free 3
  have T1 := HS.out.put (HS.out.mb.setHas true)
  obtain ⟨w2, hw2⟩ : ∃ W, w.setCell ⟨g, 3, none⟩ (.bool true) = W := ⟨_, rfl⟩
  rw [hw2] at T1
  have HT1 := Lib.hid T1
  clear T1
  go_enter Tryd.func23, Tryd.ntmps23
  go_wp2_with fail
  go_ret
  exact ⟨rfl, HT1.out⟩

set_option maxHeartbeats 1000000 in
theorem tfield_5 {w w0 : World} {r g : Nat} {m : Ms} {l : List Nat} {e : Int} (H : Sg (fun w l e => Rd w r l e) w0 r g m l e w) :
    Calls Tryd.prog 23 #[.pointer (some ⟨r, 0, none⟩), .int .i64 5, .pointer (some ⟨g, 0, none⟩)] w (FieldPost w0 r g 5 m l e) := by
  have HS := Lib.hid H
  unfold FieldPost
  clear H
  have E : Tg.read 5 m l e = ({ m with key := strOf (Bm.text l e 96).1 }, (Bm.text l e 96).2) := rfl
  have HE := Lib.hid E
  clear E
  have C1 := Lib.hid (rtext_any 96 (by omega) (by omega) HS.out.rd)
  obtain ⟨q, hq⟩ : ∃ q, Hid (Bm.text l e 96 = q) := ⟨_, rfl⟩
  obtain ⟨x0, l1, e1⟩ := q
  rw [hq.out] at C1 HE
  simp only at C1 HE
  obtain ⟨x, hx⟩ : ∃ x, Hid (strOf x0 = x) := ⟨_, rfl⟩
  rw [hx.out] at C1 HE
  rw [HE.out]
  go_enter Tryd.func23, Tryd.ntmps23
  go_wp2_with fail
  refine (C1.out).mono ?_
  rintro en w1 ⟨rfl, hr1, ho1⟩
  have S1 := HS.out.read hr1 ho1
  have z1 := S1.mb.cells.2.2.2.2.2.1
  have f1 := S1.mb.free 5
  have T1 := S1.put (S1.mb.setKey x)
  obtain ⟨w2, hw2⟩ : ∃ W, w1.setCell ⟨g, 5, none⟩ (.string x) = W := ⟨_, rfl⟩
  rw [hw2] at T1
  have HT1 := Lib.hid T1
  have y1 : w2.cell? ⟨g, 5, none⟩ = some (.string x) := T1.mb.cells.2.2.2.2.2.1
  clear hr1 ho1 S1 T1
  go_wp2_with fail
  go_ret
  exact ⟨ret_bool ((str_emp x).trans (Bool.not_not _).symm), HT1.out⟩

set_option maxHeartbeats 1000000 in
theorem tfield_6 {w w0 : World} {r g : Nat} {m : Ms} {l : List Nat} {e : Int} (H : Sg (fun w l e => Rd w r l e) w0 r g m l e w) :
    Calls Tryd.prog 23 #[.pointer (some ⟨r, 0, none⟩), .int .i64 6, .pointer (some ⟨g, 0, none⟩)] w (FieldPost w0 r g 6 m l e) := by
  have HS := Lib.hid H
  unfold FieldPost
  clear H
  have E : Tg.read 6 m l e = ({ m with val := strOf (Bm.text l e 512).1 }, (Bm.text l e 512).2) := rfl
  have HE := Lib.hid E
  clear E
  have C1 := Lib.hid (rtext_any 512 (by omega) (by omega) HS.out.rd)
  obtain ⟨q, hq⟩ : ∃ q, Hid (Bm.text l e 512 = q) := ⟨_, rfl⟩
  obtain ⟨x0, l1, e1⟩ := q
  rw [hq.out] at C1 HE
  simp only at C1 HE
  obtain ⟨x, hx⟩ : ∃ x, Hid (strOf x0 = x) := ⟨_, rfl⟩
  rw [hx.out] at C1 HE
  rw [HE.out]
  go_enter Tryd.func23, Tryd.ntmps23
  go_wp2_with fail
  refine (C1.out).mono ?_
  rintro en w1 ⟨rfl, hr1, ho1⟩
  have S1 := HS.out.read hr1 ho1
  have z1 := S1.mb.cells.2.2.2.2.2.2.1
  have f1 := S1.mb.free 6
  have T1 := S1.put (S1.mb.setVal x)
  obtain ⟨w2, hw2⟩ : ∃ W, w1.setCell ⟨g, 6, none⟩ (.string x) = W := ⟨_, rfl⟩
  rw [hw2] at T1
  have HT1 := Lib.hid T1
  have y1 : w2.cell? ⟨g, 6, none⟩ = some (.string x) := T1.mb.cells.2.2.2.2.2.2.1
  clear hr1 ho1 S1 T1
  go_wp2_with fail
  go_ret
  exact ⟨ret_bool ((str_emp x).trans (Bool.not_not _).symm), HT1.out⟩

set_option maxHeartbeats 1000000 in
theorem tfield_7 {w w0 : World} {r g : Nat} {m : Ms} {l : List Nat} {e : Int} (H : Sg (fun w l e => Rd w r l e) w0 r g m l e w) :
    Calls Tryd.prog 23 #[.pointer (some ⟨r, 0, none⟩), .int .i64 7, .pointer (some ⟨g, 0, none⟩)] w (FieldPost w0 r g 7 m l e) := by
  have HS := Lib.hid H
  unfold FieldPost
  clear H
  have E : Tg.read 7 m l e = ({ m with pid := (Tg.peer l e).1.1, pad := (Tg.peer l e).1.2 }, (Tg.peer l e).2) := rfl
  have HE := Lib.hid E
  clear E
  have hgd := guardPeer
  have C1 := Lib.hid (tgetpeer_any HS.out.rd)
  obtain ⟨q, hq⟩ : ∃ q, Hid (Tg.peer l e = q) := ⟨_, rfl⟩
  obtain ⟨⟨x, y⟩, l1, e1⟩ := q
  rw [hq.out] at C1 HE
  simp only at C1 HE
  rw [HE.out]
  have hst : ∀ W, (Op.equalIn 10000 26 (.agg #[.int .u64 (x : Int), .int .u16 (y : Int)]) (.agg #[.int .u64 0, .int .u16 0])).run Tryd.prog W = .ok (decide (x = 0) && decide (y = 0)) W := fun W => by
    have h := eqPeer W x y 0 0
    rw [show decide ((x, y) = (0, 0)) = (decide (x = 0) && decide (y = 0)) by rw [Bool.eq_iff_iff]; simp] at h
    exact h
  obtain ⟨hp, HP⟩ : ∃ hp, Hid ((decide (x = 0) && decide (y = 0)) = hp) := ⟨_, rfl⟩
  rw [HP.out] at hst
  go_enter Tryd.func23, Tryd.ntmps23
  go_wp2_with fail
  refine (C1.out).mono ?_
  rintro en w1 ⟨rfl, hr1, ho1⟩
  have S1 := HS.out.read hr1 ho1
  have z1 := S1.mb.cells.2.2.2.2.2.2.2.1
  have f1 := S1.mb.free 7
  have T1 := S1.put (S1.mb.setPid x)
  obtain ⟨w1m, hw1⟩ : ∃ W, w1.setCell ⟨g, 7, none⟩ (.int .u64 (x : Int)) = W := ⟨_, rfl⟩
  rw [hw1] at T1
  have z2 := T1.mb.cells.2.2.2.2.2.2.2.2
  have f2 := T1.mb.free 8
  have T2 := T1.put (T1.mb.setPad y)
  obtain ⟨w2, hw2⟩ : ∃ W, w1m.setCell ⟨g, 8, none⟩ (.int .u16 (y : Int)) = W := ⟨_, rfl⟩
  rw [hw2] at T2
  have HT2 := Lib.hid T2
  have y1 : w2.cell? ⟨g, 7, none⟩ = some (.int .u64 (x : Int)) := T2.mb.cells.2.2.2.2.2.2.2.1
  have y2 : w2.cell? ⟨g, 8, none⟩ = some (.int .u16 (y : Int)) := T2.mb.cells.2.2.2.2.2.2.2.2
  clear hr1 ho1 S1 T1 T2
  go_wp2_with fail
  go_ret
  refine ⟨ret_bool ?_, HT2.out⟩
  rw [← HP.out]
  exact (Bool.not_not _).symm

set_option maxHeartbeats 1000000 in
theorem tfield_8 {w w0 : World} {r g : Nat} {m : Ms} {l : List Nat} {e : Int} (hm : m.peers = []) (H : Sg (fun w l e => Rd w r l e) w0 r g m l e w) :
    Calls Tryd.prog 23 #[.pointer (some ⟨r, 0, none⟩), .int .i64 8, .pointer (some ⟨g, 0, none⟩)] w (FieldPost w0 r g 8 m l e) := by
  have HS := Lib.hid H
  unfold FieldPost
  clear H
  have E : Tg.read 8 m l e = ({ m with peers := (Tg.list Tg.peer 16 l e).1 }, (Tg.list Tg.peer 16 l e).2) := by
    show ({ m with peers := m.peers ++ (Tg.list Tg.peer 16 l e).1 }, (Tg.list Tg.peer 16 l e).2) = _
    rw [hm, List.nil_append]
  have HE := Lib.hid E
  clear E hm
  have C1 := Lib.hid (tgetpeers_any HS.out.rd)
  obtain ⟨q, hq⟩ : ∃ q, Hid (Tg.list Tg.peer 16 l e = q) := ⟨_, rfl⟩
  obtain ⟨x, l1, e1⟩ := q
  rw [hq.out] at C1 HE
  simp only at C1 HE
  rw [HE.out]
  obtain ⟨n, hn⟩ : ∃ n, Hid (x.length = n) := ⟨_, rfl⟩
  go_enter Tryd.func23, Tryd.ntmps23
  go_wp2_with fail
  refine (C1.out).mono ?_
  rintro en w1 ⟨v1, rfl, hg1⟩
  have hgo := hg1.own
  simp only at hgo
  rw [hn.out] at hgo
  obtain ⟨A2, c2, rfl⟩ := own_shape hgo
  have hm2 := own2_lower hgo (show g + 1 ≤ w.heap.size from HS.out.mb.lt)
  have S2 := HS.out.read hg1.rd hg1.only
  obtain ⟨_, _, z2, _⟩ := S2.mb.peersC
  have f2 := S2.mb.free 9
  have T2 := S2.put (S2.mb.setPeers (n := n) x (by rw [hn.out]; exact hm2))
  obtain ⟨w2, hw2⟩ : ∃ W, w1.setCell ⟨g, 9, none⟩ (.slice A2 n c2) = W := ⟨_, rfl⟩
  have y2 : w2.cell? ⟨g, 9, none⟩ = some (.slice A2 n c2) := by
    obtain ⟨Ap, cp, Aq, cq, hb, _⟩ := S2.mb.ex
    rw [← hw2]
    exact (Whole.put hb 9 _).at_ 9
  rw [hw2] at T2
  have HT2 := Lib.hid T2
  clear hg1 hgo hm2 S2 T2
  go_wp2_with fail
  go_ret
  refine ⟨ret_bool ?_, HT2.out⟩
  rw [beq_zero, ← hn.out]
  show (!(!decide (x.length = 0))) = !(!decide (x = []))
  cases x <;> rfl

set_option maxHeartbeats 1000000 in
theorem tfield_9 {w w0 : World} {r g : Nat} {m : Ms} {l : List Nat} {e : Int} (hm : m.pairs = []) (H : Sg (fun w l e => Rd w r l e) w0 r g m l e w) :
    Calls Tryd.prog 23 #[.pointer (some ⟨r, 0, none⟩), .int .i64 9, .pointer (some ⟨g, 0, none⟩)] w (FieldPost w0 r g 9 m l e) := by
  have HS := Lib.hid H
  unfold FieldPost
  clear H
  have E : Tg.read 9 m l e = ({ m with pairs := (Tg.list Tg.pair 8 l e).1 }, (Tg.list Tg.pair 8 l e).2) := by
    show ({ m with pairs := m.pairs ++ (Tg.list Tg.pair 8 l e).1 }, (Tg.list Tg.pair 8 l e).2) = _
    rw [hm, List.nil_append]
  have HE := Lib.hid E
  clear E hm
  have C1 := Lib.hid (tgetpairs_any HS.out.rd)
  obtain ⟨q, hq⟩ : ∃ q, Hid (Tg.list Tg.pair 8 l e = q) := ⟨_, rfl⟩
  obtain ⟨x, l1, e1⟩ := q
  rw [hq.out] at C1 HE
  simp only at C1 HE
  rw [HE.out]
  obtain ⟨n, hn⟩ : ∃ n, Hid (x.length = n) := ⟨_, rfl⟩
  go_enter Tryd.func23, Tryd.ntmps23
  go_wp2_with fail
  refine (C1.out).mono ?_
  rintro en w1 ⟨v1, rfl, hg1⟩
  have hgo := hg1.own
  simp only at hgo
  rw [hn.out] at hgo
  obtain ⟨A2, c2, rfl⟩ := own_shape hgo
  have hm2 := own2_lower hgo (show g + 1 ≤ w.heap.size from HS.out.mb.lt)
  have S2 := HS.out.read hg1.rd hg1.only
  obtain ⟨_, _, z2, _⟩ := S2.mb.pairsC
  have f2 := S2.mb.free 10
  have T2 := S2.put (S2.mb.setPairs (n := n) x (by rw [hn.out]; exact hm2))
  obtain ⟨w2, hw2⟩ : ∃ W, w1.setCell ⟨g, 10, none⟩ (.slice A2 n c2) = W := ⟨_, rfl⟩
  have y2 : w2.cell? ⟨g, 10, none⟩ = some (.slice A2 n c2) := by
    obtain ⟨Ap, cp, Aq, cq, hb, _⟩ := S2.mb.ex
    rw [← hw2]
    exact (Whole.put hb 10 _).at_ 10
  rw [hw2] at T2
  have HT2 := Lib.hid T2
  clear hg1 hgo hm2 S2 T2
  go_wp2_with fail
  go_ret
  refine ⟨ret_bool ?_, HT2.out⟩
  rw [beq_zero, ← hn.out]
  show (!(!decide (x.length = 0))) = !(!decide (x = []))
  cases x <;> rfl

theorem tfield_0 {w w0 : World} {r g : Nat} {m : Ms} {l : List Nat} {e : Int} (H : Sg (fun w l e => Rd w r l e) w0 r g m l e w) :
    Calls Tryd.prog 23 #[.pointer (some ⟨r, 0, none⟩), .int .i64 0, .pointer (some ⟨g, 0, none⟩)] w fun en w' => en = .returned (.bool false) ∧ w = w' := by
  go_enter Tryd.func23, Tryd.ntmps23
  go_wp2_with fail
  go_ret
  exact ⟨rfl, rfl⟩
theorem tfield_any {w w0 : World} {r g : Nat} {m : Ms} {l : List Nat} {e : Int} (t : Nat) (h1 : 1 ≤ t) (h9 : t ≤ 9) (hno : Tg.has m t = false) (H : Sg (fun w l e => Rd w r l e) w0 r g m l e w) :
    Calls Tryd.prog 23 #[.pointer (some ⟨r, 0, none⟩), .int .i64 (t : Int), .pointer (some ⟨g, 0, none⟩)] w (FieldPost w0 r g t m l e) := by
  rcases Tg.tags h1 h9 with rfl | rfl | rfl | rfl | rfl | rfl | rfl | rfl | rfl
  · exact tfield_1 H
  · exact tfield_2 H
  · exact tfield_3 H
  · exact tfield_4 H
  · exact tfield_5 H
  · exact tfield_6 H
  · exact tfield_7 H
  · exact tfield_8 (by simpa [Tg.has] using hno) H
  · exact tfield_9 (by simpa [Tg.has] using hno) H
end Go.Proofs.YtjkjhnpemhlbpaaDoor
