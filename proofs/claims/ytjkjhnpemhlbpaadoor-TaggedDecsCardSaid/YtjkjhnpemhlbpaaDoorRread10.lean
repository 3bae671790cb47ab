/- Contract of the reference's read of layer 10, tag by tag. -/
import Derived.Test.YtjkjhnpemhlbpaaDoorRone10
import Derived.Test.YtjkjhnpemhlbpaaDoorPA
namespace Go.Proofs.YtjkjhnpemhlbpaaDoor
open Go.RowKit
set_option linter.unusedVariables false
set_option maxRecDepth 100000
open Gm

section
variable {w0 w w2 : World} {r g j c : Nat} {M : Ms} {A : Option Addr} {vp vq v' : Value} {l : List Nat} {e : Int} {o : Obj}
/-- behind an append to the list, ahead of its store -/
theorem Sw.growPeers (h : Sw w0 r g M (.slice A j c) vq l e w) {ps : List (Nat × Nat)} {q : Nat × Nat} (hg : (w.alloc o).grownBy w2 (Value.slice A j c).ownBlock) (hold : w.ownsRow w0.heap.size 26 2 (.slice A j c) j (two fPeer ps)) (hl : ps.length = j) (ho : w2.ownsRow w0.heap.size 26 2 v' (j + 1) (two fPeer ps ++ two fPeer [q])) :
    ∃ A' c', v' = .slice A' (j + 1) c' ∧ (w2.cell? ⟨g, 9, none⟩ = some (.slice A j c) ∧ w2.frozen? ⟨g, 9, none⟩ = false) ∧ Sw w0 r g { M with peers := ps ++ [q] } (.slice A' (j + 1) c') vq l e (w2.setCell ⟨g, 9, none⟩ (.slice A' (j + 1) c')) ∧
      (w2.setCell ⟨g, 9, none⟩ (.slice A' (j + 1) c')).ownsRow w0.heap.size 26 2 (.slice A' (j + 1) c') (j + 1) (two fPeer (ps ++ [q])) := by
  have hG := h.grow hg (own_lt hold)
  obtain ⟨A', c', rfl⟩ := own_shape ho
  exact ⟨A', c', rfl, ⟨Whole.at_ hG.bx 9, Whole.free hG.bx 9⟩, hG.put (Whole.put hG.bx 9 _), by rw [two_append]; exact own_far ho h.top _⟩
theorem Sw.growPairs (h : Sw w0 r g M vp (.slice A j c) l e w) {ps : List (ByteArray × ByteArray)} {q : ByteArray × ByteArray} (hg : (w.alloc o).grownBy w2 (Value.slice A j c).ownBlock) (hold : w.ownsRow w0.heap.size 43 2 (.slice A j c) j (two fPair ps)) (hl : ps.length = j) (ho : w2.ownsRow w0.heap.size 43 2 v' (j + 1) (two fPair ps ++ two fPair [q])) :
    ∃ A' c', v' = .slice A' (j + 1) c' ∧ (w2.cell? ⟨g, 10, none⟩ = some (.slice A j c) ∧ w2.frozen? ⟨g, 10, none⟩ = false) ∧ Sw w0 r g { M with pairs := ps ++ [q] } vp (.slice A' (j + 1) c') l e (w2.setCell ⟨g, 10, none⟩ (.slice A' (j + 1) c')) ∧
      (w2.setCell ⟨g, 10, none⟩ (.slice A' (j + 1) c')).ownsRow w0.heap.size 43 2 (.slice A' (j + 1) c') (j + 1) (two fPair (ps ++ [q])) := by
  have hG := h.grow hg (own_lt hold)
  obtain ⟨A', c', rfl⟩ := own_shape ho
  exact ⟨A', c', rfl, ⟨Whole.at_ hG.bx 10, Whole.free hG.bx 10⟩, hG.put (Whole.put hG.bx 10 _), by rw [two_append]; exact own_far ho h.top _⟩
end

set_option maxHeartbeats 1000000 in
theorem rread_1 {w : World} {r np cp nq cq : Nat} {m : Ms} {Ap Aq : Option Addr} {l : List Nat} {e : Int} (H : Cu w r r l e) :
    Calls Tryd.prog 29 #[.pointer (some ⟨r, 0, none⟩), .int .u64 1, .agg #[.int .i64 m.kind, .int .u32 (m.rid : Int), .int .u8 (m.code : Int), .bool m.has, .int .u64 (m.id : Int), .string m.key, .string m.val, .int .u64 (m.pid : Int), .int .u16 (m.pad : Int), .slice Ap np cp, .slice Aq nq cq]] w (RReadPost r 1 m (.slice Ap np cp) (.slice Aq nq cq) l e w) := by
  obtain ⟨g, y, w1, w0, hsb, hal1, hsy, hal2, hbx, hY, hb0, hgy, hs0⟩ := box_read w m (.slice Ap np cp) (.slice Aq nq cq)
  have hrg : r < g := by rw [← hsb]; exact H.lt
  have HS0 : Hid (Sw w0 r g m (.slice Ap np cp) (.slice Aq nq cq) l e w0) := Lib.hid ⟨H.below hb0 hrg, hbx, But2.refl _ _ _, hrg, by omega⟩
  have HB0 := Lib.hid hb0
  have HY0 := Lib.hid hY
  have HSB := Lib.hid hsb
  have HZ0 := Lib.hid hs0
  unfold RReadPost
  have HE : Hid (Tg.read 1 m l e = ({ m with rid := (Bm.uvar l e 4294967295).1 }, (Bm.uvar l e 4294967295).2)) := rfl
  have C1 := Lib.hid (curuvar_any 4294967295 (by omega) HS0.out.rd)
  have B1 := Bm.uvar_le l e 4294967295
  skip
  obtain ⟨q, hq⟩ : ∃ q, Hid (Bm.uvar l e 4294967295 = q) := ⟨_, rfl⟩
  obtain ⟨x, l1, e1⟩ := q
  rw [hq.out] at C1 B1 HE
  simp only at C1 B1 HE
  obtain ⟨M, hM⟩ : ∃ M : Ms, Hid (({ m with rid := x } : Ms) = M) := ⟨_, rfl⟩
  have hMp : M.peers = m.peers := by rw [← hM.out]
  have hMq : M.pairs = m.pairs := by rw [← hM.out]
  have HMP := Lib.hid hMp
  have HMQ := Lib.hid hMq
  rw [hM.out] at HE
  clear hMp hMq
  clear H hbx hY hb0 hs0
  go_enter Tryd.func29, Tryd.ntmps29
  go_wp2_with fail
  refine (C1.out).mono ?_
  rintro en w2 ⟨rfl, hr1, ho1⟩
  have S1 := HS0.out.read hr1 ho1
  have z1 := (Bx.cells S1.bx).2.1
  have f1 : w2.frozen? ⟨g, 1, none⟩ = false := Whole.free S1.bx 1
  have T1 : Sw w0 r g { m with rid := x } (.slice Ap np cp) (.slice Aq nq cq) l1 e1 (w2.setCell ⟨g, 1, none⟩ (.int .u32 (x : Int))) := S1.put (Whole.put S1.bx 1 _)
  rw [hM.out] at T1
  obtain ⟨w3, hw3⟩ : ∃ W, w2.setCell ⟨g, 1, none⟩ (.int .u32 (x : Int)) = W := ⟨_, rfl⟩
  rw [hw3] at T1
  have HT1 := Lib.hid T1
  clear hr1 ho1 S1 T1
  have HYF := Lib.hid (HY0.out.but2 HT1.out.but (by omega) (by omega))
  go_wp2_with (first | (refine wpList_load_struct Tryd.underlying30 (msgI rfl) rfl rfl rfl HT1.out.bx.load ?_) | (refine wpList_store_whole rfl rfl rfl rfl rfl HYF.out (msgI rfl) rfl (by simp [Value.oneCell']) ?_))
  have HFin := Lib.hid (HT1.out.fin HB0.out HSB.out hgy #[.int .i64 M.kind, .int .u32 (M.rid : Int), .int .u8 (M.code : Int), .bool M.has, .int .u64 (M.id : Int), .string M.key, .string M.val, .int .u64 (M.pid : Int), .int .u16 (M.pad : Int), .slice Ap np cp, .slice Aq nq cq])
  refine bodyPost_ret (v := .agg #[.int .i64 M.kind, .int .u32 (M.rid : Int), .int .u8 (M.code : Int), .bool M.has, .int .u64 (M.id : Int), .string M.key, .string M.val, .int .u64 (M.pid : Int), .int .u16 (M.pad : Int), .slice Ap np cp, .slice Aq nq cq]) ?_ rfl ⟨_, _, _, _, _, HE.out, rfl, HFin.out.1, HFin.out.2, .inl ⟨rfl, HMP.out⟩, .inl ⟨rfl, HMQ.out⟩, fun _ => rfl, fun _ => rfl⟩
  exact results_cell_row rfl _ _ _ _ _ (0, 0) _ rfl (HYF.out.row _) Tryd.underlying30 rfl (msgI rfl)

set_option maxHeartbeats 1000000 in
theorem rread_2 {w : World} {r np cp nq cq : Nat} {m : Ms} {Ap Aq : Option Addr} {l : List Nat} {e : Int} (H : Cu w r r l e) :
    Calls Tryd.prog 29 #[.pointer (some ⟨r, 0, none⟩), .int .u64 2, .agg #[.int .i64 m.kind, .int .u32 (m.rid : Int), .int .u8 (m.code : Int), .bool m.has, .int .u64 (m.id : Int), .string m.key, .string m.val, .int .u64 (m.pid : Int), .int .u16 (m.pad : Int), .slice Ap np cp, .slice Aq nq cq]] w (RReadPost r 2 m (.slice Ap np cp) (.slice Aq nq cq) l e w) := by
  obtain ⟨g, y, w1, w0, hsb, hal1, hsy, hal2, hbx, hY, hb0, hgy, hs0⟩ := box_read w m (.slice Ap np cp) (.slice Aq nq cq)
  have hrg : r < g := by rw [← hsb]; exact H.lt
  have HS0 : Hid (Sw w0 r g m (.slice Ap np cp) (.slice Aq nq cq) l e w0) := Lib.hid ⟨H.below hb0 hrg, hbx, But2.refl _ _ _, hrg, by omega⟩
  have HB0 := Lib.hid hb0
  have HY0 := Lib.hid hY
  have HSB := Lib.hid hsb
  have HZ0 := Lib.hid hs0
  unfold RReadPost
  have HE : Hid (Tg.read 2 m l e = ({ m with code := (Bm.uvar l e 255).1 }, (Bm.uvar l e 255).2)) := rfl
  have C1 := Lib.hid (curuvar_any 255 (by omega) HS0.out.rd)
  have B1 := Bm.uvar_le l e 255
  skip
  obtain ⟨q, hq⟩ : ∃ q, Hid (Bm.uvar l e 255 = q) := ⟨_, rfl⟩
  obtain ⟨x, l1, e1⟩ := q
  rw [hq.out] at C1 B1 HE
  simp only at C1 B1 HE
  obtain ⟨M, hM⟩ : ∃ M : Ms, Hid (({ m with code := x } : Ms) = M) := ⟨_, rfl⟩
  have hMp : M.peers = m.peers := by rw [← hM.out]
  have hMq : M.pairs = m.pairs := by rw [← hM.out]
  have HMP := Lib.hid hMp
  have HMQ := Lib.hid hMq
  rw [hM.out] at HE
  clear hMp hMq
  clear H hbx hY hb0 hs0
  go_enter Tryd.func29, Tryd.ntmps29
  go_wp2_with fail
  refine (C1.out).mono ?_
  rintro en w2 ⟨rfl, hr1, ho1⟩
  have S1 := HS0.out.read hr1 ho1
  have z1 := (Bx.cells S1.bx).2.2.1
  have f1 : w2.frozen? ⟨g, 2, none⟩ = false := Whole.free S1.bx 2
  have T1 : Sw w0 r g { m with code := x } (.slice Ap np cp) (.slice Aq nq cq) l1 e1 (w2.setCell ⟨g, 2, none⟩ (.int .u8 (x : Int))) := S1.put (Whole.put S1.bx 2 _)
  rw [hM.out] at T1
  obtain ⟨w3, hw3⟩ : ∃ W, w2.setCell ⟨g, 2, none⟩ (.int .u8 (x : Int)) = W := ⟨_, rfl⟩
  rw [hw3] at T1
  have HT1 := Lib.hid T1
  clear hr1 ho1 S1 T1
  have HYF := Lib.hid (HY0.out.but2 HT1.out.but (by omega) (by omega))
  go_wp2_with (first | (refine wpList_load_struct Tryd.underlying30 (msgI rfl) rfl rfl rfl HT1.out.bx.load ?_) | (refine wpList_store_whole rfl rfl rfl rfl rfl HYF.out (msgI rfl) rfl (by simp [Value.oneCell']) ?_))
  have HFin := Lib.hid (HT1.out.fin HB0.out HSB.out hgy #[.int .i64 M.kind, .int .u32 (M.rid : Int), .int .u8 (M.code : Int), .bool M.has, .int .u64 (M.id : Int), .string M.key, .string M.val, .int .u64 (M.pid : Int), .int .u16 (M.pad : Int), .slice Ap np cp, .slice Aq nq cq])
  refine bodyPost_ret (v := .agg #[.int .i64 M.kind, .int .u32 (M.rid : Int), .int .u8 (M.code : Int), .bool M.has, .int .u64 (M.id : Int), .string M.key, .string M.val, .int .u64 (M.pid : Int), .int .u16 (M.pad : Int), .slice Ap np cp, .slice Aq nq cq]) ?_ rfl ⟨_, _, _, _, _, HE.out, rfl, HFin.out.1, HFin.out.2, .inl ⟨rfl, HMP.out⟩, .inl ⟨rfl, HMQ.out⟩, fun _ => rfl, fun _ => rfl⟩
  exact results_cell_row rfl _ _ _ _ _ (0, 0) _ rfl (HYF.out.row _) Tryd.underlying30 rfl (msgI rfl)

set_option maxHeartbeats 1000000 in
theorem rread_4 {w : World} {r np cp nq cq : Nat} {m : Ms} {Ap Aq : Option Addr} {l : List Nat} {e : Int} (H : Cu w r r l e) :
    Calls Tryd.prog 29 #[.pointer (some ⟨r, 0, none⟩), .int .u64 4, .agg #[.int .i64 m.kind, .int .u32 (m.rid : Int), .int .u8 (m.code : Int), .bool m.has, .int .u64 (m.id : Int), .string m.key, .string m.val, .int .u64 (m.pid : Int), .int .u16 (m.pad : Int), .slice Ap np cp, .slice Aq nq cq]] w (RReadPost r 4 m (.slice Ap np cp) (.slice Aq nq cq) l e w) := by
  obtain ⟨g, y, w1, w0, hsb, hal1, hsy, hal2, hbx, hY, hb0, hgy, hs0⟩ := box_read w m (.slice Ap np cp) (.slice Aq nq cq)
  have hrg : r < g := by rw [← hsb]; exact H.lt
  have HS0 : Hid (Sw w0 r g m (.slice Ap np cp) (.slice Aq nq cq) l e w0) := Lib.hid ⟨H.below hb0 hrg, hbx, But2.refl _ _ _, hrg, by omega⟩
  have HB0 := Lib.hid hb0
  have HY0 := Lib.hid hY
  have HSB := Lib.hid hsb
  have HZ0 := Lib.hid hs0
  unfold RReadPost
  have HE : Hid (Tg.read 4 m l e = ({ m with id := (Bm.uvar l e Tg.u64).1 }, (Bm.uvar l e Tg.u64).2)) := rfl
  have C1 := Lib.hid (curuvarA HS0.out.rd)
  have B1 := Bm.uvar_le l e Tg.u64
  unfold Tg.u64 at B1; change (Bm.uvar l e Tg.u64).1 ≤ 18446744073709551615 at B1
  obtain ⟨q, hq⟩ : ∃ q, Hid (Bm.uvar l e Tg.u64 = q) := ⟨_, rfl⟩
  obtain ⟨x, l1, e1⟩ := q
  rw [hq.out] at C1 B1 HE
  simp only at C1 B1 HE
  obtain ⟨M, hM⟩ : ∃ M : Ms, Hid (({ m with id := x } : Ms) = M) := ⟨_, rfl⟩
  have hMp : M.peers = m.peers := by rw [← hM.out]
  have hMq : M.pairs = m.pairs := by rw [← hM.out]
  have HMP := Lib.hid hMp
  have HMQ := Lib.hid hMq
  rw [hM.out] at HE
  clear hMp hMq
  clear H hbx hY hb0 hs0
  go_enter Tryd.func29, Tryd.ntmps29
  go_wp2_with fail
  refine (C1.out).mono ?_
  rintro en w2 ⟨rfl, hr1, ho1⟩
  have S1 := HS0.out.read hr1 ho1
  have z1 := (Bx.cells S1.bx).2.2.2.2.1
  have f1 : w2.frozen? ⟨g, 4, none⟩ = false := Whole.free S1.bx 4
  have T1 : Sw w0 r g { m with id := x } (.slice Ap np cp) (.slice Aq nq cq) l1 e1 (w2.setCell ⟨g, 4, none⟩ (.int .u64 (x : Int))) := S1.put (Whole.put S1.bx 4 _)
  rw [hM.out] at T1
  obtain ⟨w3, hw3⟩ : ∃ W, w2.setCell ⟨g, 4, none⟩ (.int .u64 (x : Int)) = W := ⟨_, rfl⟩
  rw [hw3] at T1
  have HT1 := Lib.hid T1
  clear hr1 ho1 S1 T1
  have HYF := Lib.hid (HY0.out.but2 HT1.out.but (by omega) (by omega))
  go_wp2_with (first | (refine wpList_load_struct Tryd.underlying30 (msgI rfl) rfl rfl rfl HT1.out.bx.load ?_) | (refine wpList_store_whole rfl rfl rfl rfl rfl HYF.out (msgI rfl) rfl (by simp [Value.oneCell']) ?_))
  have HFin := Lib.hid (HT1.out.fin HB0.out HSB.out hgy #[.int .i64 M.kind, .int .u32 (M.rid : Int), .int .u8 (M.code : Int), .bool M.has, .int .u64 (M.id : Int), .string M.key, .string M.val, .int .u64 (M.pid : Int), .int .u16 (M.pad : Int), .slice Ap np cp, .slice Aq nq cq])
  refine bodyPost_ret (v := .agg #[.int .i64 M.kind, .int .u32 (M.rid : Int), .int .u8 (M.code : Int), .bool M.has, .int .u64 (M.id : Int), .string M.key, .string M.val, .int .u64 (M.pid : Int), .int .u16 (M.pad : Int), .slice Ap np cp, .slice Aq nq cq]) ?_ rfl ⟨_, _, _, _, _, HE.out, rfl, HFin.out.1, HFin.out.2, .inl ⟨rfl, HMP.out⟩, .inl ⟨rfl, HMQ.out⟩, fun _ => rfl, fun _ => rfl⟩
  exact results_cell_row rfl _ _ _ _ _ (0, 0) _ rfl (HYF.out.row _) Tryd.underlying30 rfl (msgI rfl)

set_option maxHeartbeats 1000000 in
theorem rread_3 {w : World} {r np cp nq cq : Nat} {m : Ms} {Ap Aq : Option Addr} {l : List Nat} {e : Int} (H : Cu w r r l e) :
    Calls Tryd.prog 29 #[.pointer (some ⟨r, 0, none⟩), .int .u64 3, .agg #[.int .i64 m.kind, .int .u32 (m.rid : Int), .int .u8 (m.code : Int), .bool m.has, .int .u64 (m.id : Int), .string m.key, .string m.val, .int .u64 (m.pid : Int), .int .u16 (m.pad : Int), .slice Ap np cp, .slice Aq nq cq]] w (RReadPost r 3 m (.slice Ap np cp) (.slice Aq nq cq) l e w) := by
  obtain ⟨g, y, w1, w0, hsb, hal1, hsy, hal2, hbx, hY, hb0, hgy, hs0⟩ := box_read w m (.slice Ap np cp) (.slice Aq nq cq)
  have hrg : r < g := by rw [← hsb]; exact H.lt
  have HS0 : Hid (Sw w0 r g m (.slice Ap np cp) (.slice Aq nq cq) l e w0) := Lib.hid ⟨H.below hb0 hrg, hbx, But2.refl _ _ _, hrg, by omega⟩
  have HB0 := Lib.hid hb0
  have HY0 := Lib.hid hY
  have HSB := Lib.hid hsb
  have HZ0 := Lib.hid hs0
  unfold RReadPost
  have HE : Hid (Tg.read 3 m l e = ({ m with has := true }, l, e)) := rfl
  have z1 := (Bx.cells HS0.out.bx).2.2.2.1
  have f1 : w0.frozen? ⟨g, 3, none⟩ = false := Whole.free HS0.out.bx 3
  obtain ⟨M, hM⟩ : ∃ M : Ms, Hid (({ m with has := true } : Ms) = M) := ⟨_, rfl⟩
  have HMP : Hid (M.peers = m.peers) := Lib.hid (by rw [← hM.out])
  have HMQ : Hid (M.pairs = m.pairs) := Lib.hid (by rw [← hM.out])
  rw [hM.out] at HE
  have T1 : Sw w0 r g { m with has := true } (.slice Ap np cp) (.slice Aq nq cq) l e (w0.setCell ⟨g, 3, none⟩ (.bool true)) := HS0.out.put (Whole.put HS0.out.bx 3 _)
  rw [hM.out] at T1
  obtain ⟨w3, hw3⟩ : ∃ W, w0.setCell ⟨g, 3, none⟩ (.bool true) = W := ⟨_, rfl⟩
  rw [hw3] at T1
  have HT1 := Lib.hid T1
  clear T1
  clear H hbx hY hb0 hs0
  go_enter Tryd.func29, Tryd.ntmps29
  have HYF := Lib.hid (HY0.out.but2 HT1.out.but (by omega) (by omega))
  go_wp2_with (first | (refine wpList_load_struct Tryd.underlying30 (msgI rfl) rfl rfl rfl HT1.out.bx.load ?_) | (refine wpList_store_whole rfl rfl rfl rfl rfl HYF.out (msgI rfl) rfl (by simp [Value.oneCell']) ?_))
  have HFin := Lib.hid (HT1.out.fin HB0.out HSB.out hgy #[.int .i64 M.kind, .int .u32 (M.rid : Int), .int .u8 (M.code : Int), .bool M.has, .int .u64 (M.id : Int), .string M.key, .string M.val, .int .u64 (M.pid : Int), .int .u16 (M.pad : Int), .slice Ap np cp, .slice Aq nq cq])
  refine bodyPost_ret (v := .agg #[.int .i64 M.kind, .int .u32 (M.rid : Int), .int .u8 (M.code : Int), .bool M.has, .int .u64 (M.id : Int), .string M.key, .string M.val, .int .u64 (M.pid : Int), .int .u16 (M.pad : Int), .slice Ap np cp, .slice Aq nq cq]) ?_ rfl ⟨_, _, _, _, _, HE.out, rfl, HFin.out.1, HFin.out.2, .inl ⟨rfl, HMP.out⟩, .inl ⟨rfl, HMQ.out⟩, fun _ => rfl, fun _ => rfl⟩
  exact results_cell_row rfl _ _ _ _ _ (0, 0) _ rfl (HYF.out.row _) Tryd.underlying30 rfl (msgI rfl)

set_option maxHeartbeats 1000000 in
theorem rread_5 {w : World} {r np cp nq cq : Nat} {m : Ms} {Ap Aq : Option Addr} {l : List Nat} {e : Int} (H : Cu w r r l e) :
    Calls Tryd.prog 29 #[.pointer (some ⟨r, 0, none⟩), .int .u64 5, .agg #[.int .i64 m.kind, .int .u32 (m.rid : Int), .int .u8 (m.code : Int), .bool m.has, .int .u64 (m.id : Int), .string m.key, .string m.val, .int .u64 (m.pid : Int), .int .u16 (m.pad : Int), .slice Ap np cp, .slice Aq nq cq]] w (RReadPost r 5 m (.slice Ap np cp) (.slice Aq nq cq) l e w) := by
  obtain ⟨g, y, w1, w0, hsb, hal1, hsy, hal2, hbx, hY, hb0, hgy, hs0⟩ := box_read w m (.slice Ap np cp) (.slice Aq nq cq)
  have hrg : r < g := by rw [← hsb]; exact H.lt
  have HS0 : Hid (Sw w0 r g m (.slice Ap np cp) (.slice Aq nq cq) l e w0) := Lib.hid ⟨H.below hb0 hrg, hbx, But2.refl _ _ _, hrg, by omega⟩
  have HB0 := Lib.hid hb0
  have HY0 := Lib.hid hY
  have HSB := Lib.hid hsb
  have HZ0 := Lib.hid hs0
  unfold RReadPost
  have HE : Hid (Tg.read 5 m l e = ({ m with key := strOf (Bm.text l e 96).1 }, (Bm.text l e 96).2)) := rfl
  have C1 := Lib.hid (curtext_any 96 (by omega) (by omega) HS0.out.rd)
  obtain ⟨q, hq⟩ : ∃ q, Hid (Bm.text l e 96 = q) := ⟨_, rfl⟩
  obtain ⟨x0, l1, e1⟩ := q
  rw [hq.out] at C1 HE
  simp only at C1 HE
  obtain ⟨x, hx⟩ : ∃ x, Hid (strOf x0 = x) := ⟨_, rfl⟩
  rw [hx.out] at C1 HE
  obtain ⟨M, hM⟩ : ∃ M : Ms, Hid (({ m with key := x } : Ms) = M) := ⟨_, rfl⟩
  have HMP : Hid (M.peers = m.peers) := Lib.hid (by rw [← hM.out])
  have HMQ : Hid (M.pairs = m.pairs) := Lib.hid (by rw [← hM.out])
  rw [hM.out] at HE
  clear H hbx hY hb0 hs0
  go_enter Tryd.func29, Tryd.ntmps29
  go_wp2_with fail
  refine (C1.out).mono ?_
  rintro en w2 ⟨rfl, hr1, ho1⟩
  have S1 := HS0.out.read hr1 ho1
  have z1 := (Bx.cells S1.bx).2.2.2.2.2.1
  have f1 : w2.frozen? ⟨g, 5, none⟩ = false := Whole.free S1.bx 5
  have T1 : Sw w0 r g { m with key := x } (.slice Ap np cp) (.slice Aq nq cq) l1 e1 (w2.setCell ⟨g, 5, none⟩ (.string x)) := S1.put (Whole.put S1.bx 5 _)
  rw [hM.out] at T1
  obtain ⟨w3, hw3⟩ : ∃ W, w2.setCell ⟨g, 5, none⟩ (.string x) = W := ⟨_, rfl⟩
  rw [hw3] at T1
  have HT1 := Lib.hid T1
  clear hr1 ho1 S1 T1
  have HYF := Lib.hid (HY0.out.but2 HT1.out.but (by omega) (by omega))
  go_wp2_with (first | (refine wpList_load_struct Tryd.underlying30 (msgI rfl) rfl rfl rfl HT1.out.bx.load ?_) | (refine wpList_store_whole rfl rfl rfl rfl rfl HYF.out (msgI rfl) rfl (by simp [Value.oneCell']) ?_))
  have HFin := Lib.hid (HT1.out.fin HB0.out HSB.out hgy #[.int .i64 M.kind, .int .u32 (M.rid : Int), .int .u8 (M.code : Int), .bool M.has, .int .u64 (M.id : Int), .string M.key, .string M.val, .int .u64 (M.pid : Int), .int .u16 (M.pad : Int), .slice Ap np cp, .slice Aq nq cq])
  refine bodyPost_ret (v := .agg #[.int .i64 M.kind, .int .u32 (M.rid : Int), .int .u8 (M.code : Int), .bool M.has, .int .u64 (M.id : Int), .string M.key, .string M.val, .int .u64 (M.pid : Int), .int .u16 (M.pad : Int), .slice Ap np cp, .slice Aq nq cq]) ?_ rfl ⟨_, _, _, _, _, HE.out, rfl, HFin.out.1, HFin.out.2, .inl ⟨rfl, HMP.out⟩, .inl ⟨rfl, HMQ.out⟩, fun _ => rfl, fun _ => rfl⟩
  exact results_cell_row rfl _ _ _ _ _ (0, 0) _ rfl (HYF.out.row _) Tryd.underlying30 rfl (msgI rfl)

set_option maxHeartbeats 1000000 in
theorem rread_6 {w : World} {r np cp nq cq : Nat} {m : Ms} {Ap Aq : Option Addr} {l : List Nat} {e : Int} (H : Cu w r r l e) :
    Calls Tryd.prog 29 #[.pointer (some ⟨r, 0, none⟩), .int .u64 6, .agg #[.int .i64 m.kind, .int .u32 (m.rid : Int), .int .u8 (m.code : Int), .bool m.has, .int .u64 (m.id : Int), .string m.key, .string m.val, .int .u64 (m.pid : Int), .int .u16 (m.pad : Int), .slice Ap np cp, .slice Aq nq cq]] w (RReadPost r 6 m (.slice Ap np cp) (.slice Aq nq cq) l e w) := by
  obtain ⟨g, y, w1, w0, hsb, hal1, hsy, hal2, hbx, hY, hb0, hgy, hs0⟩ := box_read w m (.slice Ap np cp) (.slice Aq nq cq)
  have hrg : r < g := by rw [← hsb]; exact H.lt
  have HS0 : Hid (Sw w0 r g m (.slice Ap np cp) (.slice Aq nq cq) l e w0) := Lib.hid ⟨H.below hb0 hrg, hbx, But2.refl _ _ _, hrg, by omega⟩
  have HB0 := Lib.hid hb0
  have HY0 := Lib.hid hY
  have HSB := Lib.hid hsb
  have HZ0 := Lib.hid hs0
  unfold RReadPost
  have HE : Hid (Tg.read 6 m l e = ({ m with val := strOf (Bm.text l e 512).1 }, (Bm.text l e 512).2)) := rfl
  have C1 := Lib.hid (curtext_any 512 (by omega) (by omega) HS0.out.rd)
  obtain ⟨q, hq⟩ : ∃ q, Hid (Bm.text l e 512 = q) := ⟨_, rfl⟩
  obtain ⟨x0, l1, e1⟩ := q
  rw [hq.out] at C1 HE
  simp only at C1 HE
  obtain ⟨x, hx⟩ : ∃ x, Hid (strOf x0 = x) := ⟨_, rfl⟩
  rw [hx.out] at C1 HE
  obtain ⟨M, hM⟩ : ∃ M : Ms, Hid (({ m with val := x } : Ms) = M) := ⟨_, rfl⟩
  have HMP : Hid (M.peers = m.peers) := Lib.hid (by rw [← hM.out])
  have HMQ : Hid (M.pairs = m.pairs) := Lib.hid (by rw [← hM.out])
  rw [hM.out] at HE
  clear H hbx hY hb0 hs0
  go_enter Tryd.func29, Tryd.ntmps29
  go_wp2_with fail
  refine (C1.out).mono ?_
  rintro en w2 ⟨rfl, hr1, ho1⟩
  have S1 := HS0.out.read hr1 ho1
  have z1 := (Bx.cells S1.bx).2.2.2.2.2.2.1
  have f1 : w2.frozen? ⟨g, 6, none⟩ = false := Whole.free S1.bx 6
  have T1 : Sw w0 r g { m with val := x } (.slice Ap np cp) (.slice Aq nq cq) l1 e1 (w2.setCell ⟨g, 6, none⟩ (.string x)) := S1.put (Whole.put S1.bx 6 _)
  rw [hM.out] at T1
  obtain ⟨w3, hw3⟩ : ∃ W, w2.setCell ⟨g, 6, none⟩ (.string x) = W := ⟨_, rfl⟩
  rw [hw3] at T1
  have HT1 := Lib.hid T1
  clear hr1 ho1 S1 T1
  have HYF := Lib.hid (HY0.out.but2 HT1.out.but (by omega) (by omega))
  go_wp2_with (first | (refine wpList_load_struct Tryd.underlying30 (msgI rfl) rfl rfl rfl HT1.out.bx.load ?_) | (refine wpList_store_whole rfl rfl rfl rfl rfl HYF.out (msgI rfl) rfl (by simp [Value.oneCell']) ?_))
  have HFin := Lib.hid (HT1.out.fin HB0.out HSB.out hgy #[.int .i64 M.kind, .int .u32 (M.rid : Int), .int .u8 (M.code : Int), .bool M.has, .int .u64 (M.id : Int), .string M.key, .string M.val, .int .u64 (M.pid : Int), .int .u16 (M.pad : Int), .slice Ap np cp, .slice Aq nq cq])
  refine bodyPost_ret (v := .agg #[.int .i64 M.kind, .int .u32 (M.rid : Int), .int .u8 (M.code : Int), .bool M.has, .int .u64 (M.id : Int), .string M.key, .string M.val, .int .u64 (M.pid : Int), .int .u16 (M.pad : Int), .slice Ap np cp, .slice Aq nq cq]) ?_ rfl ⟨_, _, _, _, _, HE.out, rfl, HFin.out.1, HFin.out.2, .inl ⟨rfl, HMP.out⟩, .inl ⟨rfl, HMQ.out⟩, fun _ => rfl, fun _ => rfl⟩
  exact results_cell_row rfl _ _ _ _ _ (0, 0) _ rfl (HYF.out.row _) Tryd.underlying30 rfl (msgI rfl)

set_option maxHeartbeats 1000000 in
theorem rread_7 {w : World} {r np cp nq cq : Nat} {m : Ms} {Ap Aq : Option Addr} {l : List Nat} {e : Int} (H : Cu w r r l e) :
    Calls Tryd.prog 29 #[.pointer (some ⟨r, 0, none⟩), .int .u64 7, .agg #[.int .i64 m.kind, .int .u32 (m.rid : Int), .int .u8 (m.code : Int), .bool m.has, .int .u64 (m.id : Int), .string m.key, .string m.val, .int .u64 (m.pid : Int), .int .u16 (m.pad : Int), .slice Ap np cp, .slice Aq nq cq]] w (RReadPost r 7 m (.slice Ap np cp) (.slice Aq nq cq) l e w) := by
  obtain ⟨g, y, w1, w0, hsb, hal1, hsy, hal2, hbx, hY, hb0, hgy, hs0⟩ := box_read w m (.slice Ap np cp) (.slice Aq nq cq)
  have hrg : r < g := by rw [← hsb]; exact H.lt
  have HS0 : Hid (Sw w0 r g m (.slice Ap np cp) (.slice Aq nq cq) l e w0) := Lib.hid ⟨H.below hb0 hrg, hbx, But2.refl _ _ _, hrg, by omega⟩
  have HB0 := Lib.hid hb0
  have HY0 := Lib.hid hY
  have HSB := Lib.hid hsb
  have HZ0 := Lib.hid hs0
  unfold RReadPost
  have HE : Hid (Tg.read 7 m l e = ({ m with pid := (Tg.peer l e).1.1, pad := (Tg.peer l e).1.2 }, (Tg.peer l e).2)) := rfl
  have C1 := Lib.hid (rone10_any HS0.out.rd)
  obtain ⟨q, hq⟩ : ∃ q, Hid (Tg.peer l e = q) := ⟨_, rfl⟩
  obtain ⟨⟨x, x2⟩, l1, e1⟩ := q
  rw [hq.out] at C1 HE
  simp only at C1 HE
  obtain ⟨M, hM⟩ : ∃ M : Ms, Hid (({ m with pid := x, pad := x2 } : Ms) = M) := ⟨_, rfl⟩
  have HMP : Hid (M.peers = m.peers) := Lib.hid (by rw [← hM.out])
  have HMQ : Hid (M.pairs = m.pairs) := Lib.hid (by rw [← hM.out])
  rw [hM.out] at HE
  clear H hbx hY hb0 hs0
  go_enter Tryd.func29, Tryd.ntmps29
  go_wp2_with fail
  refine (C1.out).mono ?_
  rintro en w2 ⟨rfl, hr1, ho1⟩
  have S1 := HS0.out.read hr1 ho1
  have z1 := (Bx.cells S1.bx).2.2.2.2.2.2.2.1
  have f1 : w2.frozen? ⟨g, 7, none⟩ = false := Whole.free S1.bx 7
  have T1 : Sw w0 r g { m with pid := x } (.slice Ap np cp) (.slice Aq nq cq) l1 e1 (w2.setCell ⟨g, 7, none⟩ (.int .u64 (x : Int))) := S1.put (Whole.put S1.bx 7 _)
  obtain ⟨w3, hw3⟩ : ∃ W, w2.setCell ⟨g, 7, none⟩ (.int .u64 (x : Int)) = W := ⟨_, rfl⟩
  rw [hw3] at T1
  have z2 : w3.cell? ⟨g, 8, none⟩ = some (.int .u16 (m.pad : Int)) := (Bx.cells T1.bx).2.2.2.2.2.2.2.2.1
  have f2 : w3.frozen? ⟨g, 8, none⟩ = false := Whole.free T1.bx 8
  have T2 : Sw w0 r g { m with pid := x, pad := x2 } (.slice Ap np cp) (.slice Aq nq cq) l1 e1 (w3.setCell ⟨g, 8, none⟩ (.int .u16 (x2 : Int))) := T1.put (Whole.put T1.bx 8 _)
  rw [hM.out] at T2
  obtain ⟨w4, hw4⟩ : ∃ W, w3.setCell ⟨g, 8, none⟩ (.int .u16 (x2 : Int)) = W := ⟨_, rfl⟩
  rw [hw4] at T2
  have HT1 := Lib.hid T2
  clear hr1 ho1 S1 T1 T2
  have HYF := Lib.hid (HY0.out.but2 HT1.out.but (by omega) (by omega))
  go_wp2_with (first | (refine wpList_load_struct Tryd.underlying30 (msgI rfl) rfl rfl rfl HT1.out.bx.load ?_) | (refine wpList_store_whole rfl rfl rfl rfl rfl HYF.out (msgI rfl) rfl (by simp [Value.oneCell']) ?_))
  have HFin := Lib.hid (HT1.out.fin HB0.out HSB.out hgy #[.int .i64 M.kind, .int .u32 (M.rid : Int), .int .u8 (M.code : Int), .bool M.has, .int .u64 (M.id : Int), .string M.key, .string M.val, .int .u64 (M.pid : Int), .int .u16 (M.pad : Int), .slice Ap np cp, .slice Aq nq cq])
  refine bodyPost_ret (v := .agg #[.int .i64 M.kind, .int .u32 (M.rid : Int), .int .u8 (M.code : Int), .bool M.has, .int .u64 (M.id : Int), .string M.key, .string M.val, .int .u64 (M.pid : Int), .int .u16 (M.pad : Int), .slice Ap np cp, .slice Aq nq cq]) ?_ rfl ⟨_, _, _, _, _, HE.out, rfl, HFin.out.1, HFin.out.2, .inl ⟨rfl, HMP.out⟩, .inl ⟨rfl, HMQ.out⟩, fun _ => rfl, fun _ => rfl⟩
  exact results_cell_row rfl _ _ _ _ _ (0, 0) _ rfl (HYF.out.row _) Tryd.underlying30 rfl (msgI rfl)

set_option maxHeartbeats 1000000 in
theorem rread_0 {w : World} {r np cp nq cq : Nat} {m : Ms} {Ap Aq : Option Addr} {l : List Nat} {e : Int} (t : Nat) (ht : t = 0 ∨ 9 < t) (H : Cu w r r l e) :
    Calls Tryd.prog 29 #[.pointer (some ⟨r, 0, none⟩), .int .u64 (t : Int), .agg #[.int .i64 m.kind, .int .u32 (m.rid : Int), .int .u8 (m.code : Int), .bool m.has, .int .u64 (m.id : Int), .string m.key, .string m.val, .int .u64 (m.pid : Int), .int .u16 (m.pad : Int), .slice Ap np cp, .slice Aq nq cq]] w (RReadPost r t m (.slice Ap np cp) (.slice Aq nq cq) l e w) := by
  obtain ⟨g, y, w1, w0, hsb, hal1, hsy, hal2, hbx, hY, hb0, hgy, hs0⟩ := box_read w m (.slice Ap np cp) (.slice Aq nq cq)
  have hrg : r < g := by rw [← hsb]; exact H.lt
  have HS0 : Hid (Sw w0 r g m (.slice Ap np cp) (.slice Aq nq cq) l e w0) := Lib.hid ⟨H.below hb0 hrg, hbx, But2.refl _ _ _, hrg, by omega⟩
  have HB0 := Lib.hid hb0
  have HY0 := Lib.hid hY
  have HSB := Lib.hid hsb
  have HZ0 := Lib.hid hs0
  unfold RReadPost
  have HE : Hid (Tg.read t m l e = (m, l, e)) := Lib.hid (by
    unfold Tg.read
    rw [if_neg (by omega), if_neg (by omega), if_neg (by omega), if_neg (by omega), if_neg (by omega), if_neg (by omega), if_neg (by omega), if_neg (by omega), if_neg (by omega)])
  have t1 : ((t : Int) == 1) = false := by simp; omega
  have t2 : ((t : Int) == 2) = false := by simp; omega
  have t3 : ((t : Int) == 3) = false := by simp; omega
  have t4 : ((t : Int) == 4) = false := by simp; omega
  have t5 : ((t : Int) == 5) = false := by simp; omega
  have t6 : ((t : Int) == 6) = false := by simp; omega
  have t7 : ((t : Int) == 7) = false := by simp; omega
  have t8 : ((t : Int) == 8) = false := by simp; omega
  have t9 : ((t : Int) == 9) = false := by simp; omega
  clear ht
  clear H hbx hY hb0 hs0
  go_enter Tryd.func29, Tryd.ntmps29
  have HYF := Lib.hid (HY0.out.but2 HS0.out.but (by omega) (by omega))
  go_wp2_with (first | (refine wpList_load_struct Tryd.underlying30 (msgI rfl) rfl rfl rfl HS0.out.bx.load ?_) | (refine wpList_store_whole rfl rfl rfl rfl rfl HYF.out (msgI rfl) rfl (by simp [Value.oneCell']) ?_))
  have HFin := Lib.hid (HS0.out.fin HB0.out HSB.out hgy #[.int .i64 m.kind, .int .u32 (m.rid : Int), .int .u8 (m.code : Int), .bool m.has, .int .u64 (m.id : Int), .string m.key, .string m.val, .int .u64 (m.pid : Int), .int .u16 (m.pad : Int), .slice Ap np cp, .slice Aq nq cq])
  refine bodyPost_ret (v := .agg #[.int .i64 m.kind, .int .u32 (m.rid : Int), .int .u8 (m.code : Int), .bool m.has, .int .u64 (m.id : Int), .string m.key, .string m.val, .int .u64 (m.pid : Int), .int .u16 (m.pad : Int), .slice Ap np cp, .slice Aq nq cq]) ?_ rfl ⟨_, _, _, _, _, HE.out, rfl, HFin.out.1, HFin.out.2, .inl ⟨rfl, rfl⟩, .inl ⟨rfl, rfl⟩, fun _ => rfl, fun _ => rfl⟩
  exact results_cell_row rfl _ _ _ _ _ (0, 0) _ rfl (HYF.out.row _) Tryd.underlying30 rfl (msgI rfl)

set_option maxHeartbeats 1000000 in
theorem rread_8e {w : World} {r np cp nq cq : Nat} {m : Ms} {Ap Aq : Option Addr} {l : List Nat} {e : Int} (he : e ≠ 0) (H : Cu w r r l e) :
    Calls Tryd.prog 29 #[.pointer (some ⟨r, 0, none⟩), .int .u64 8, .agg #[.int .i64 m.kind, .int .u32 (m.rid : Int), .int .u8 (m.code : Int), .bool m.has, .int .u64 (m.id : Int), .string m.key, .string m.val, .int .u64 (m.pid : Int), .int .u16 (m.pad : Int), .slice Ap np cp, .slice Aq nq cq]] w (RReadPost r 8 m (.slice Ap np cp) (.slice Aq nq cq) l e w) := by
  obtain ⟨g, y, w1, w0, hsb, hal1, hsy, hal2, hbx, hY, hb0, hgy, hs0⟩ := box_read w m (.slice Ap np cp) (.slice Aq nq cq)
  have hrg : r < g := by rw [← hsb]; exact H.lt
  have HS0 : Hid (Sw w0 r g m (.slice Ap np cp) (.slice Aq nq cq) l e w0) := Lib.hid ⟨H.below hb0 hrg, hbx, But2.refl _ _ _, hrg, by omega⟩
  have HB0 := Lib.hid hb0
  have HY0 := Lib.hid hY
  have HSB := Lib.hid hsb
  have HZ0 := Lib.hid hs0
  unfold RReadPost
  have HE : Hid (Tg.read 8 m l e = (m, l, e)) := Lib.hid (by
    show ({ m with peers := m.peers ++ (Tg.list Tg.peer 16 l e).1 }, (Tg.list Tg.peer 16 l e).2) = _
    unfold Tg.list
    rw [Bm.uvar_err he]
    show ({ m with peers := m.peers ++ [] }, l, e) = _
    rw [List.append_nil])
  have C1 := Lib.hid (curuvar_any 16 (by omega) HS0.out.rd)
  rw [Bm.uvar_err he] at C1
  clear he
  clear H hbx hY hb0 hs0
  go_enter Tryd.func29, Tryd.ntmps29
  go_wp2_with fail
  refine (C1.out).mono ?_
  rintro en w2 ⟨rfl, hr1, ho1⟩
  have HS1 := Lib.hid (HS0.out.read hr1 ho1)
  clear hr1 ho1
  go_wp2_with fail
  go_loopw [8] (fun vi wr => vi = .int .u64 0 ∧ wr = w2) (fun _ _ => 0)
  case atStart => exact ⟨rfl, rfl⟩
  case round =>
    obtain ⟨rfl, rfl⟩ := hrel
    have HYF := Lib.hid (HY0.out.but2 HS1.out.but (by omega) (by omega))
    go_wp2_with (first | (refine wpList_load_struct Tryd.underlying30 (msgI rfl) rfl rfl rfl HS1.out.bx.load ?_) | (refine wpList_store_whole rfl rfl rfl rfl rfl HYF.out (msgI rfl) rfl (by simp [Value.oneCell']) ?_))
    have HFin := Lib.hid (HS1.out.fin HB0.out HSB.out hgy #[.int .i64 m.kind, .int .u32 (m.rid : Int), .int .u8 (m.code : Int), .bool m.has, .int .u64 (m.id : Int), .string m.key, .string m.val, .int .u64 (m.pid : Int), .int .u16 (m.pad : Int), .slice Ap np cp, .slice Aq nq cq])
    refine bodyPost_ret (v := .agg #[.int .i64 m.kind, .int .u32 (m.rid : Int), .int .u8 (m.code : Int), .bool m.has, .int .u64 (m.id : Int), .string m.key, .string m.val, .int .u64 (m.pid : Int), .int .u16 (m.pad : Int), .slice Ap np cp, .slice Aq nq cq]) ?_ rfl ⟨_, _, _, _, _, HE.out, rfl, HFin.out.1, HFin.out.2, .inl ⟨rfl, rfl⟩, .inl ⟨rfl, rfl⟩, fun _ => rfl, fun _ => rfl⟩
    exact results_cell_row rfl _ _ _ _ _ (0, 0) _ rfl (HYF.out.row _) Tryd.underlying30 rfl (msgI rfl)

set_option maxHeartbeats 1000000 in
theorem rread_9e {w : World} {r np cp nq cq : Nat} {m : Ms} {Ap Aq : Option Addr} {l : List Nat} {e : Int} (he : e ≠ 0) (H : Cu w r r l e) :
    Calls Tryd.prog 29 #[.pointer (some ⟨r, 0, none⟩), .int .u64 9, .agg #[.int .i64 m.kind, .int .u32 (m.rid : Int), .int .u8 (m.code : Int), .bool m.has, .int .u64 (m.id : Int), .string m.key, .string m.val, .int .u64 (m.pid : Int), .int .u16 (m.pad : Int), .slice Ap np cp, .slice Aq nq cq]] w (RReadPost r 9 m (.slice Ap np cp) (.slice Aq nq cq) l e w) := by
  obtain ⟨g, y, w1, w0, hsb, hal1, hsy, hal2, hbx, hY, hb0, hgy, hs0⟩ := box_read w m (.slice Ap np cp) (.slice Aq nq cq)
  have hrg : r < g := by rw [← hsb]; exact H.lt
  have HS0 : Hid (Sw w0 r g m (.slice Ap np cp) (.slice Aq nq cq) l e w0) := Lib.hid ⟨H.below hb0 hrg, hbx, But2.refl _ _ _, hrg, by omega⟩
  have HB0 := Lib.hid hb0
  have HY0 := Lib.hid hY
  have HSB := Lib.hid hsb
  have HZ0 := Lib.hid hs0
  unfold RReadPost
  have HE : Hid (Tg.read 9 m l e = (m, l, e)) := Lib.hid (by
    show ({ m with pairs := m.pairs ++ (Tg.list Tg.pair 8 l e).1 }, (Tg.list Tg.pair 8 l e).2) = _
    unfold Tg.list
    rw [Bm.uvar_err he]
    show ({ m with pairs := m.pairs ++ [] }, l, e) = _
    rw [List.append_nil])
  have C1 := Lib.hid (curuvar_any 8 (by omega) HS0.out.rd)
  rw [Bm.uvar_err he] at C1
  clear he
  clear H hbx hY hb0 hs0
  go_enter Tryd.func29, Tryd.ntmps29
  go_wp2_with fail
  refine (C1.out).mono ?_
  rintro en w2 ⟨rfl, hr1, ho1⟩
  have HS1 := Lib.hid (HS0.out.read hr1 ho1)
  clear hr1 ho1
  go_wp2_with fail
  go_loopw [10] (fun vi wr => vi = .int .u64 0 ∧ wr = w2) (fun _ _ => 0)
  case atStart => exact ⟨rfl, rfl⟩
  case round =>
    obtain ⟨rfl, rfl⟩ := hrel
    have HYF := Lib.hid (HY0.out.but2 HS1.out.but (by omega) (by omega))
    go_wp2_with (first | (refine wpList_load_struct Tryd.underlying30 (msgI rfl) rfl rfl rfl HS1.out.bx.load ?_) | (refine wpList_store_whole rfl rfl rfl rfl rfl HYF.out (msgI rfl) rfl (by simp [Value.oneCell']) ?_))
    have HFin := Lib.hid (HS1.out.fin HB0.out HSB.out hgy #[.int .i64 m.kind, .int .u32 (m.rid : Int), .int .u8 (m.code : Int), .bool m.has, .int .u64 (m.id : Int), .string m.key, .string m.val, .int .u64 (m.pid : Int), .int .u16 (m.pad : Int), .slice Ap np cp, .slice Aq nq cq])
    refine bodyPost_ret (v := .agg #[.int .i64 m.kind, .int .u32 (m.rid : Int), .int .u8 (m.code : Int), .bool m.has, .int .u64 (m.id : Int), .string m.key, .string m.val, .int .u64 (m.pid : Int), .int .u16 (m.pad : Int), .slice Ap np cp, .slice Aq nq cq]) ?_ rfl ⟨_, _, _, _, _, HE.out, rfl, HFin.out.1, HFin.out.2, .inl ⟨rfl, rfl⟩, .inl ⟨rfl, rfl⟩, fun _ => rfl, fun _ => rfl⟩
    exact results_cell_row rfl _ _ _ _ _ (0, 0) _ rfl (HYF.out.row _) Tryd.underlying30 rfl (msgI rfl)

set_option maxHeartbeats 1000000 in
theorem rread_8 {w : World} {r nq cq : Nat} {m : Ms} {Aq : Option Addr} {l : List Nat} {e : Int} (hm : m.peers = []) (H : Cu w r r l e) :
    Calls Tryd.prog 29 #[.pointer (some ⟨r, 0, none⟩), .int .u64 8, .agg #[.int .i64 m.kind, .int .u32 (m.rid : Int), .int .u8 (m.code : Int), .bool m.has, .int .u64 (m.id : Int), .string m.key, .string m.val, .int .u64 (m.pid : Int), .int .u16 (m.pad : Int), .slice none 0 0, .slice Aq nq cq]] w (RReadPost r 8 m (.slice none 0 0) (.slice Aq nq cq) l e w) := by
  obtain ⟨g, y, w1, w0, hsb, hal1, hsy, hal2, hbx, hY, hb0, hgy, hs0⟩ := box_read w m (.slice none 0 0) (.slice Aq nq cq)
  have hrg : r < g := by rw [← hsb]; exact H.lt
  have HS0 : Hid (Sw w0 r g m (.slice none 0 0) (.slice Aq nq cq) l e w0) := Lib.hid ⟨H.below hb0 hrg, hbx, But2.refl _ _ _, hrg, by omega⟩
  have HB0 := Lib.hid hb0
  have HY0 := Lib.hid hY
  have HSB := Lib.hid hsb
  have HZ0 := Lib.hid hs0
  unfold RReadPost
  have HE0 : Hid (Tg.read 8 m l e = ({ m with peers := m.peers ++ (Tg.list Tg.peer 16 l e).1 }, (Tg.list Tg.peer 16 l e).2)) := rfl
  have C1 := Lib.hid (curuvar_any 16 (by omega) HS0.out.rd)
  have hc := Bm.uvar_le l e 16
  obtain ⟨q, hq⟩ : ∃ q, Hid (Bm.uvar l e 16 = q) := ⟨_, rfl⟩
  obtain ⟨n, l1, e1⟩ := q
  rw [hq.out] at C1 hc
  simp only at C1 hc
  have HE : Hid (Tg.read 8 m l e = ({ m with peers := (Fm.many Tg.peer n l1 e1).1 }, (Fm.many Tg.peer n l1 e1).2)) := Lib.hid (by
    rw [HE0.out, hm, List.nil_append]
    unfold Tg.list
    rw [hq.out])
  clear hm HE0
  clear H hbx hY hb0 hs0
  go_enter Tryd.func29, Tryd.ntmps29
  go_wp2_with fail
  refine (C1.out).mono ?_
  rintro en w2 ⟨rfl, hr1, ho1⟩
  have HS1 : Hid (Sw w0 r g { m with peers := (Fm.many Tg.peer 0 l1 e1).1 } (.slice none 0 0) (.slice Aq nq cq) (Fm.many Tg.peer 0 l1 e1).2.1 (Fm.many Tg.peer 0 l1 e1).2.2 w2) := Lib.hid (by
    have h := HS0.out.read hr1 ho1
    exact ⟨h.rd, h.bx, h.but, h.lt, h.top⟩)
  clear hr1 ho1
  go_wp2_with fail
  go_loopw [8] (fun vi wr => ∃ (j : Nat) (A : Option Addr) (c : Nat), j ≤ n ∧ vi = .int .u64 j ∧ Hid (Sw w0 r g { m with peers := (Fm.many Tg.peer j l1 e1).1 } (.slice A j c) (.slice Aq nq cq) (Fm.many Tg.peer j l1 e1).2.1 (Fm.many Tg.peer j l1 e1).2.2 wr) ∧ Hid (wr.ownsRow w0.heap.size 26 2 (.slice A j c) j (two fPeer (Fm.many Tg.peer j l1 e1).1))) (fun vi _ => n - (intOf vi).toNat)
  case atStart => exact ⟨0, none, 0, by omega, rfl, HS1, Lib.hid (World.ownsRow_nil _ _ _ _)⟩
  case round =>
    obtain ⟨j, A, c, hj, rfl, HR, HOw⟩ := hrel
    by_cases hlt : j < n
    · have HML := Lib.hid (Fm.many_length Tg.peer j l1 e1)
      have P := Lib.hid (rone10_any (HR.out.rd.drew))
      have ca : wr.drew.cell? ⟨g, 9, none⟩ = some (.slice A j c) := Whole.at_ HR.out.bx 9
      obtain ⟨q, hqq⟩ : ∃ q : Nat × Nat, Hid ((Tg.peer (Fm.many Tg.peer j l1 e1).2.1 (Fm.many Tg.peer j l1 e1).2.2).1 = q) := ⟨_, rfl⟩
      have HNX : Hid ((Fm.many Tg.peer j l1 e1).1 ++ [q] = (Fm.many Tg.peer (j + 1) l1 e1).1) := Lib.hid (by rw [← hqq.out]; rfl)
      rw [hqq.out] at P
      go_wp2_with fail
      refine wp_region_tree (.take 0 (.take 2 (.two 1 3 (.one 3 (.one 4 (.one 5 (.take 6 (.one 7 .nil))))) (.two 1 4 (.one 4 (.one 5 (.take 6 (.one 7 .nil)))) (.one 1 (.one 5 (.take 6 (.one 7 .nil)))))))) (by kernel_rfl) (by kernel_rfl) rfl (by kernel_rfl) (fun _ _ _ _ _ h => h) ?_
      iterate 2
        refine alongT_take (v := ?_) rfl (by rfl) ?_ ?_
        rotate_left
        · intro W; go_simp; try with_reducible rfl
        try simp only [Act.put, List.setIfInBounds_toArray, List.set_cons_zero, List.set_cons_succ]
      refine alongT_two rfl rfl (fun K hK => ?_) (fun K hK => ?_)
      · go_simp
        refine hK.out _ _ ?_
        clear hK K
        try simp only [Act.put, List.setIfInBounds_toArray, List.set_cons_zero, List.set_cons_succ]
        refine alongT_one rfl (fun K hK => ?_)
        go_simp
        refine (P.out).mono ?_
        rintro en w8 ⟨rfl, hr8, ho8⟩
        have S8 := Lib.hid (HR.out.below (Below.refl _ _).drew |>.read hr8 ho8)
        have HOw8 := Lib.hid (own2_only (own2_below HOw.out (Below.refl _ _).drew) ho8 (by have := HS0.out.lt; have := HS0.out.top; omega))
        have cb : w8.cell? ⟨g, 9, none⟩ = some (.slice A j c) := Whole.at_ S8.out.bx 9
        have cc : ∀ o, (w8.alloc o).cell? ⟨g, 9, none⟩ = some (.slice A j c) := fun o => Whole.at_ (S8.out.below ((Below.refl _ _).alloc (Nat.le_refl _) o)).bx 9
        clear hr8 ho8
        refine hK.out _ _ ?_
        clear hK K
        try simp only [Act.put, List.setIfInBounds_toArray, List.set_cons_zero, List.set_cons_succ]
        refine alongT_one rfl (fun K hK => ?_)
        go_simp
        refine hK.out _ _ ?_
        clear hK K
        try simp only [Act.put, List.setIfInBounds_toArray, List.set_cons_zero, List.set_cons_succ]
        refine alongT_one rfl (fun K hK => ?_)
        refine step_append_elem2 peerT2 fPeer_one _ _ rfl rfl w0.heap.size _ j _ q rfl rfl rfl HOw8.out (by omega) S8.out.but.size ?_
        intro v9 w9 ho9 hg9
        obtain ⟨A9, c9, rfl, ⟨d9, f9⟩, hs9, hn9⟩ := S8.out.growPeers hg9 HOw8.out HML.out ho9
        rw [HNX.out] at hs9 hn9
        have HS9 := Lib.hid hs9
        have HN9 := Lib.hid hn9
        clear ho9 hg9 hs9 hn9
        refine hK.out _ _ ?_
        clear hK K
        try simp only [Act.put, List.setIfInBounds_toArray, List.set_cons_zero, List.set_cons_succ]
        refine alongT_take (v := ?_) rfl (by rfl) ?_ ?_
        rotate_left
        · intro W; go_simp; try with_reducible rfl
        try simp only [Act.put, List.setIfInBounds_toArray, List.set_cons_zero, List.set_cons_succ]
        refine alongT_one rfl (fun K hK => ?_)
        go_simp
        refine hK.out _ _ ?_
        clear hK K
        try simp only [Act.put, List.setIfInBounds_toArray, List.set_cons_zero, List.set_cons_succ]
        refine alongT_done ?_
        go_wp2_with fail
        go_roundw
        case rel => exact ⟨j + 1, A9, c9, by omega, by go_num, HS9, HN9⟩
        case measure => simp [intOf]; omega
      · go_simp
        refine (P.out).mono ?_
        rintro en w8 ⟨rfl, hr8, ho8⟩
        have S8 := Lib.hid (HR.out.below (Below.refl _ _).drew |>.read hr8 ho8)
        have HOw8 := Lib.hid (own2_only (own2_below HOw.out (Below.refl _ _).drew) ho8 (by have := HS0.out.lt; have := HS0.out.top; omega))
        have cb : w8.cell? ⟨g, 9, none⟩ = some (.slice A j c) := Whole.at_ S8.out.bx 9
        have cc : ∀ o, (w8.alloc o).cell? ⟨g, 9, none⟩ = some (.slice A j c) := fun o => Whole.at_ (S8.out.below ((Below.refl _ _).alloc (Nat.le_refl _) o)).bx 9
        clear hr8 ho8
        refine hK.out _ _ ?_
        clear hK K
        try simp only [Act.put, List.setIfInBounds_toArray, List.set_cons_zero, List.set_cons_succ]
        refine alongT_two rfl rfl (fun K hK => ?_) (fun K hK => ?_)
        · go_simp
          refine hK.out _ _ ?_
          clear hK K
          try simp only [Act.put, List.setIfInBounds_toArray, List.set_cons_zero, List.set_cons_succ]
          refine alongT_one rfl (fun K hK => ?_)
          go_simp
          refine hK.out _ _ ?_
          clear hK K
          try simp only [Act.put, List.setIfInBounds_toArray, List.set_cons_zero, List.set_cons_succ]
          refine alongT_one rfl (fun K hK => ?_)
          refine step_append_elem2 peerT2 fPeer_one _ _ rfl rfl w0.heap.size _ j _ q rfl rfl rfl HOw8.out (by omega) S8.out.but.size ?_
          intro v9 w9 ho9 hg9
          obtain ⟨A9, c9, rfl, ⟨d9, f9⟩, hs9, hn9⟩ := S8.out.growPeers hg9 HOw8.out HML.out ho9
          rw [HNX.out] at hs9 hn9
          have HS9 := Lib.hid hs9
          have HN9 := Lib.hid hn9
          clear ho9 hg9 hs9 hn9
          refine hK.out _ _ ?_
          clear hK K
          try simp only [Act.put, List.setIfInBounds_toArray, List.set_cons_zero, List.set_cons_succ]
          refine alongT_take (v := ?_) rfl (by rfl) ?_ ?_
          rotate_left
          · intro W; go_simp; try with_reducible rfl
          try simp only [Act.put, List.setIfInBounds_toArray, List.set_cons_zero, List.set_cons_succ]
          refine alongT_one rfl (fun K hK => ?_)
          go_simp
          refine hK.out _ _ ?_
          clear hK K
          try simp only [Act.put, List.setIfInBounds_toArray, List.set_cons_zero, List.set_cons_succ]
          refine alongT_done ?_
          go_wp2_with fail
          go_roundw
          case rel => exact ⟨j + 1, A9, c9, by omega, by go_num, HS9, HN9⟩
          case measure => simp [intOf]; omega
        · go_simp
          refine hK.out _ _ ?_
          clear hK K
          try simp only [Act.put, List.setIfInBounds_toArray, List.set_cons_zero, List.set_cons_succ]
          refine alongT_one rfl (fun K hK => ?_)
          go_simp
          refine hK.out _ _ ?_
          clear hK K
          try simp only [Act.put, List.setIfInBounds_toArray, List.set_cons_zero, List.set_cons_succ]
          refine alongT_one rfl (fun K hK => ?_)
          refine step_append_elem2 peerT2 fPeer_one _ _ rfl rfl w0.heap.size _ j _ q rfl rfl rfl HOw8.out (by omega) S8.out.but.size ?_
          intro v9 w9 ho9 hg9
          obtain ⟨A9, c9, rfl, ⟨d9, f9⟩, hs9, hn9⟩ := S8.out.growPeers hg9 HOw8.out HML.out ho9
          rw [HNX.out] at hs9 hn9
          have HS9 := Lib.hid hs9
          have HN9 := Lib.hid hn9
          clear ho9 hg9 hs9 hn9
          refine hK.out _ _ ?_
          clear hK K
          try simp only [Act.put, List.setIfInBounds_toArray, List.set_cons_zero, List.set_cons_succ]
          refine alongT_take (v := ?_) rfl (by rfl) ?_ ?_
          rotate_left
          · intro W; go_simp; try with_reducible rfl
          try simp only [Act.put, List.setIfInBounds_toArray, List.set_cons_zero, List.set_cons_succ]
          refine alongT_one rfl (fun K hK => ?_)
          go_simp
          refine hK.out _ _ ?_
          clear hK K
          try simp only [Act.put, List.setIfInBounds_toArray, List.set_cons_zero, List.set_cons_succ]
          refine alongT_done ?_
          go_wp2_with fail
          go_roundw
          case rel => exact ⟨j + 1, A9, c9, by omega, by go_num, HS9, HN9⟩
          case measure => simp [intOf]; omega
    · have hjn : j = n := by omega
      subst hjn
      have HLl := Lib.hid (Fm.many_length Tg.peer j l1 e1)
      obtain ⟨z, hz⟩ : ∃ z, Hid (Fm.many Tg.peer j l1 e1 = z) := ⟨_, rfl⟩
      obtain ⟨ps, l2, e2⟩ := z
      rw [hz.out] at HR HOw HE HLl
      simp only at HR HOw HE HLl
      obtain ⟨M, hM⟩ : ∃ M : Ms, Hid (({ m with peers := ps } : Ms) = M) := ⟨_, rfl⟩
      have HMP : Hid (M.peers = ps) := Lib.hid (by rw [← hM.out])
      have HMQ : Hid (M.pairs = m.pairs) := Lib.hid (by rw [← hM.out])
      rw [hM.out] at HR HE
      have HYF := Lib.hid (HY0.out.but2 HR.out.but (by omega) (by omega))
      go_wp2_with (first | (refine wpList_load_struct Tryd.underlying30 (msgI rfl) rfl rfl rfl HR.out.bx.load ?_) | (refine wpList_store_whole rfl rfl rfl rfl rfl HYF.out (msgI rfl) rfl (by simp [Value.oneCell']) ?_))
      have HFin := Lib.hid (HR.out.fin HB0.out HSB.out hgy #[.int .i64 M.kind, .int .u32 (M.rid : Int), .int .u8 (M.code : Int), .bool M.has, .int .u64 (M.id : Int), .string M.key, .string M.val, .int .u64 (M.pid : Int), .int .u16 (M.pad : Int), .slice A j c, .slice Aq nq cq])
      refine bodyPost_ret (v := .agg #[.int .i64 M.kind, .int .u32 (M.rid : Int), .int .u8 (M.code : Int), .bool M.has, .int .u64 (M.id : Int), .string M.key, .string M.val, .int .u64 (M.pid : Int), .int .u16 (M.pad : Int), .slice A j c, .slice Aq nq cq]) ?_ rfl ⟨_, _, _, _, _, HE.out, rfl, HFin.out.1, HFin.out.2, .inr ?_, .inl ⟨rfl, HMQ.out⟩, fun h => absurd rfl h, fun _ => rfl⟩
      rotate_left
      · rw [HMP.out, HLl.out]
        exact own2_lower (own2_from HOw.out (fun i hi _ => setRow_other wr y i _ (by have := HZ0.out; omega))) (by have := HZ0.out; have := HSB.out; omega)
      exact results_cell_row rfl _ _ _ _ _ (0, 0) _ rfl (HYF.out.row _) Tryd.underlying30 rfl (msgI rfl)

set_option maxHeartbeats 1000000 in
theorem rread_9 {w : World} {r np cp : Nat} {m : Ms} {Ap : Option Addr} {l : List Nat} {e : Int} (hm : m.pairs = []) (H : Cu w r r l e) :
    Calls Tryd.prog 29 #[.pointer (some ⟨r, 0, none⟩), .int .u64 9, .agg #[.int .i64 m.kind, .int .u32 (m.rid : Int), .int .u8 (m.code : Int), .bool m.has, .int .u64 (m.id : Int), .string m.key, .string m.val, .int .u64 (m.pid : Int), .int .u16 (m.pad : Int), .slice Ap np cp, .slice none 0 0]] w (RReadPost r 9 m (.slice Ap np cp) (.slice none 0 0) l e w) := by
  obtain ⟨g, y, w1, w0, hsb, hal1, hsy, hal2, hbx, hY, hb0, hgy, hs0⟩ := box_read w m (.slice Ap np cp) (.slice none 0 0)
  have hrg : r < g := by rw [← hsb]; exact H.lt
  have HS0 : Hid (Sw w0 r g m (.slice Ap np cp) (.slice none 0 0) l e w0) := Lib.hid ⟨H.below hb0 hrg, hbx, But2.refl _ _ _, hrg, by omega⟩
  have HB0 := Lib.hid hb0
  have HY0 := Lib.hid hY
  have HSB := Lib.hid hsb
  have HZ0 := Lib.hid hs0
  unfold RReadPost
  have HE0 : Hid (Tg.read 9 m l e = ({ m with pairs := m.pairs ++ (Tg.list Tg.pair 8 l e).1 }, (Tg.list Tg.pair 8 l e).2)) := rfl
  have C1 := Lib.hid (curuvar_any 8 (by omega) HS0.out.rd)
  have hc := Bm.uvar_le l e 8
  obtain ⟨q, hq⟩ : ∃ q, Hid (Bm.uvar l e 8 = q) := ⟨_, rfl⟩
  obtain ⟨n, l1, e1⟩ := q
  rw [hq.out] at C1 hc
  simp only at C1 hc
  have HE : Hid (Tg.read 9 m l e = ({ m with pairs := (Fm.many Tg.pair n l1 e1).1 }, (Fm.many Tg.pair n l1 e1).2)) := Lib.hid (by
    rw [HE0.out, hm, List.nil_append]
    unfold Tg.list
    rw [hq.out])
  clear hm HE0
  clear H hbx hY hb0 hs0
  go_enter Tryd.func29, Tryd.ntmps29
  go_wp2_with fail
  refine (C1.out).mono ?_
  rintro en w2 ⟨rfl, hr1, ho1⟩
  have HS1 : Hid (Sw w0 r g { m with pairs := (Fm.many Tg.pair 0 l1 e1).1 } (.slice Ap np cp) (.slice none 0 0) (Fm.many Tg.pair 0 l1 e1).2.1 (Fm.many Tg.pair 0 l1 e1).2.2 w2) := Lib.hid (by
    have h := HS0.out.read hr1 ho1
    exact ⟨h.rd, h.bx, h.but, h.lt, h.top⟩)
  clear hr1 ho1
  go_wp2_with fail
  go_loopw [10] (fun vi wr => ∃ (j : Nat) (A : Option Addr) (c : Nat), j ≤ n ∧ vi = .int .u64 j ∧ Hid (Sw w0 r g { m with pairs := (Fm.many Tg.pair j l1 e1).1 } (.slice Ap np cp) (.slice A j c) (Fm.many Tg.pair j l1 e1).2.1 (Fm.many Tg.pair j l1 e1).2.2 wr) ∧ Hid (wr.ownsRow w0.heap.size 43 2 (.slice A j c) j (two fPair (Fm.many Tg.pair j l1 e1).1))) (fun vi _ => n - (intOf vi).toNat)
  case atStart => exact ⟨0, none, 0, by omega, rfl, HS1, Lib.hid (World.ownsRow_nil _ _ _ _)⟩
  case round =>
    obtain ⟨j, A, c, hj, rfl, HR, HOw⟩ := hrel
    by_cases hlt : j < n
    · have HML := Lib.hid (Fm.many_length Tg.pair j l1 e1)
      have P := Lib.hid (curtext_any 96 (by omega) (by omega) HR.out.rd)
      obtain ⟨q, hqq⟩ : ∃ q : ByteArray × ByteArray, Hid ((Tg.pair (Fm.many Tg.pair j l1 e1).2.1 (Fm.many Tg.pair j l1 e1).2.2).1 = q) := ⟨_, rfl⟩
      have HNX : Hid ((Fm.many Tg.pair j l1 e1).1 ++ [q] = (Fm.many Tg.pair (j + 1) l1 e1).1) := Lib.hid (by rw [← hqq.out]; rfl)
      have hq1 : strOf (Bm.text (Fm.many Tg.pair j l1 e1).2.1 (Fm.many Tg.pair j l1 e1).2.2 96).1 = q.1 := by rw [← hqq.out]; rfl
      have hq2 : strOf (Bm.text (Bm.text (Fm.many Tg.pair j l1 e1).2.1 (Fm.many Tg.pair j l1 e1).2.2 96).2.1 (Bm.text (Fm.many Tg.pair j l1 e1).2.1 (Fm.many Tg.pair j l1 e1).2.2 96).2.2 512).1 = q.2 := by rw [← hqq.out]; rfl
      rw [hq1] at P
      have HQ2 := Lib.hid hq2
      clear hq1 hq2
      go_wp2_with fail
      refine (P.out).mono ?_
      rintro en w7 ⟨rfl, hr7, ho7⟩
      have S7 := Lib.hid (HR.out.read hr7 ho7)
      have HOw7 := Lib.hid (own2_only HOw.out ho7 (by have := HS0.out.lt; have := HS0.out.top; omega))
      have P2 := Lib.hid (curtext_any 512 (by omega) (by omega) hr7)
      rw [HQ2.out] at P2
      clear hr7 ho7
      go_wp2_with fail
      refine (P2.out).mono ?_
      rintro en w8 ⟨rfl, hr8, ho8⟩
      have S8 := Lib.hid (S7.out.read hr8 ho8)
      have HOw8 := Lib.hid (own2_only HOw7.out ho8 (by have := HS0.out.lt; have := HS0.out.top; omega))
      have cb : w8.cell? ⟨g, 10, none⟩ = some (.slice A j c) := Whole.at_ S8.out.bx 10
      clear hr8 ho8
      have HG := Lib.hid (fun (v' : Value) (w2 : World) (o : Obj) (hg : (w8.alloc o).grownBy w2 (Value.slice A j c).ownBlock) ho => S8.out.growPairs (v' := v') (q := q) hg HOw8.out HML.out ho)
      rw [HNX.out] at HG
      go_wp2_with (at_builtin; refine wpList_append_elem2 pairT2 fPair_one _ _ rfl rfl w0.heap.size _ j _ q rfl rfl rfl HOw8.out (by omega) S8.out.but.size ?_; intro v10 w10 ho10 hg10; obtain ⟨A9, c9, rfl, ⟨d10, f10⟩, hs10, hn10⟩ := HG.out v10 w10 _ hg10 ho10; have HS10 := Lib.hid hs10; have HN10 := Lib.hid hn10; clear ho10 hg10 hs10 hn10)
      go_roundw
      case rel => exact ⟨j + 1, A9, c9, by omega, by go_num, HS10, HN10⟩
      case measure => simp [intOf]; omega
    · have hjn : j = n := by omega
      subst hjn
      have HLl := Lib.hid (Fm.many_length Tg.pair j l1 e1)
      obtain ⟨z, hz⟩ : ∃ z, Hid (Fm.many Tg.pair j l1 e1 = z) := ⟨_, rfl⟩
      obtain ⟨ps, l2, e2⟩ := z
      rw [hz.out] at HR HOw HE HLl
      simp only at HR HOw HE HLl
      obtain ⟨M, hM⟩ : ∃ M : Ms, Hid (({ m with pairs := ps } : Ms) = M) := ⟨_, rfl⟩
      have HMQ : Hid (M.pairs = ps) := Lib.hid (by rw [← hM.out])
      have HMP : Hid (M.peers = m.peers) := Lib.hid (by rw [← hM.out])
      rw [hM.out] at HR HE
      have HYF := Lib.hid (HY0.out.but2 HR.out.but (by omega) (by omega))
      go_wp2_with (first | (refine wpList_load_struct Tryd.underlying30 (msgI rfl) rfl rfl rfl HR.out.bx.load ?_) | (refine wpList_store_whole rfl rfl rfl rfl rfl HYF.out (msgI rfl) rfl (by simp [Value.oneCell']) ?_))
      have HFin := Lib.hid (HR.out.fin HB0.out HSB.out hgy #[.int .i64 M.kind, .int .u32 (M.rid : Int), .int .u8 (M.code : Int), .bool M.has, .int .u64 (M.id : Int), .string M.key, .string M.val, .int .u64 (M.pid : Int), .int .u16 (M.pad : Int), .slice Ap np cp, .slice A j c])
      refine bodyPost_ret (v := .agg #[.int .i64 M.kind, .int .u32 (M.rid : Int), .int .u8 (M.code : Int), .bool M.has, .int .u64 (M.id : Int), .string M.key, .string M.val, .int .u64 (M.pid : Int), .int .u16 (M.pad : Int), .slice Ap np cp, .slice A j c]) ?_ rfl ⟨_, _, _, _, _, HE.out, rfl, HFin.out.1, HFin.out.2, .inl ⟨rfl, HMP.out⟩, .inr ?_, fun _ => rfl, fun h => absurd rfl h⟩
      rotate_left
      · rw [HMQ.out, HLl.out]
        exact own2_lower (own2_from HOw.out (fun i hi _ => setRow_other wr y i _ (by have := HZ0.out; omega))) (by have := HZ0.out; have := HSB.out; omega)
      exact results_cell_row rfl _ _ _ _ _ (0, 0) _ rfl (HYF.out.row _) Tryd.underlying30 rfl (msgI rfl)
end Go.Proofs.YtjkjhnpemhlbpaaDoor
