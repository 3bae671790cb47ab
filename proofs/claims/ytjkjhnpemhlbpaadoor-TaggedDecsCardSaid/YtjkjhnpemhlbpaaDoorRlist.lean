/- Contract of the reference's field of layer 10, for the tags of the lists. -/
import Derived.Test.YtjkjhnpemhlbpaaDoorRfield
namespace Go.Proofs.YtjkjhnpemhlbpaaDoor
open Go.RowKit
set_option linter.unusedVariables false
set_option maxRecDepth 100000
set_option linter.unusedSimpArgs false
open Gm

set_option maxHeartbeats 2000000 in
theorem rfield_8 {w : World} {B : Nat} {m : Ms} {vm : Value} (H : Mv w B m vm) (HF : Few m) :
    Calls Tryd.prog 30 #[vm, .int .i64 8] w (Made .u8 5 w.heap.size (Tg.field m 8) w) := by
  obtain ⟨b, vp, vq, w0, rfl, hsb, hal, hsz, hx0, hb0⟩ := boxedk H.all (Nat.le_refl _)
  rw [hsb] at hx0
  obtain ⟨Ap, cp, rfl, _, hp1, hp2, _⟩ := hx0.peers.ex
  obtain ⟨Aq, cq, rfl, _, hq1, hq2, _⟩ := hx0.pairs.ex
  unfold maxLen at hp2 hq2
  have hn16 := HF.peers
  have hn8 := HF.pairs
  have HN0 : Hid (On b b m (.slice Ap m.peers.length cp) (.slice Aq m.pairs.length cq) w (.slice none 0 0) [] (.slice none 0 0) w0) := Lib.hid ⟨World.ownsRow_nil _ _ _ _, hx0, Kept.of_below (by rw [hsb]; exact hb0) _, by simp [Value.ownBlock], by omega⟩
  have HSC := Lib.hid (fun W (h : Boxk W b b m (.slice Ap m.peers.length cp) (.slice Aq m.pairs.length cq)) => Bx.cells h.bx)
  have HFF := Lib.hid HF
  have hbw : b ≤ w0.heap.size := by omega
  clear H hx0 hb0 HF hsz
  go_enter Tryd.func30, Tryd.ntmps30
  go_wp2_with fail
  go_loopw [5, 6] (fun vb vi wr => ∃ (j : Nat), j ≤ m.peers.length ∧ vi = .int .i64 j ∧ Hid (On b b m (.slice Ap m.peers.length cp) (.slice Aq m.pairs.length cq) w (.slice none 0 0) ((m.peers.take j).flatMap Tg.peerB) vb wr)) (fun _ vi _ => m.peers.length - (intOf vi).toNat)
  case atStart => exact ⟨0, by omega, rfl, by simpa using HN0⟩
  case round =>
    obtain ⟨j, hj, rfl, HR⟩ := hrel
    obtain ⟨g0, g1, g2, g3, g4, g5, g6, g7, g8, g9, g10⟩ := Bx.cells HR.out.box.bx
    clear g0 g1 g2 g3 g4 g5 g6 g7 g8
    by_cases hlt : j < m.peers.length
    · obtain ⟨b1, o1, rfl⟩ := HR.out.box.someP (by omega)
      have hlen : ((m.peers.take j).flatMap Tg.peerB).length ≤ 1000000 := by have := Tg.flat_peers (m.peers.take j); rw [List.length_take] at this; omega
      have HNx := Lib.hid (flat_next Tg.peerB m.peers hlt _ rfl)
      have HCQ := Lib.hid (fun W (h : Boxk W b b m (.slice (some ⟨b1, o1, none⟩) m.peers.length cp) (.slice Aq m.pairs.length cq)) => h.cellP hlt)
      have OK := HFF.out.ok.peers _ (List.getElem_mem hlt)
      obtain ⟨p, hp⟩ : ∃ p : Nat × Nat, Hid (m.peers[j] = p) := ⟨m.peers[j], Lib.hid rfl⟩
      obtain ⟨p1, p2⟩ := p
      rw [hp.out] at OK HNx HCQ
      simp only at OK HCQ
      obtain ⟨OK1, OK2⟩ := OK
      have hwr : IntKind.u64.wrap (p2 : Int) = (p2 : Int) := by rw [IntKind.wrap_u64]; omega
      have HD := Lib.hid HR.out.drew
      have P := Lib.hid (rall_call [p1, p2] wr.drew (cs := #[.int .u64 (p1 : Int), .int .u64 (p2 : Int)]) rfl 2 rfl (by omega) (by intro x hx; simp at hx; rcases hx with rfl | rfl <;> omega))
      rw [two_put] at P
      obtain ⟨q, hq⟩ : ∃ q, Hid ((Tg.peerB (p1, p2)).length = q) := ⟨_, rfl⟩
      have hq20 : q ≤ 20 := by rw [← hq.out]; exact Tg.peerB_length _
      obtain ⟨k, hk⟩ : ∃ k, Hid (((m.peers.take j).flatMap Tg.peerB).length = k) := ⟨_, rfl⟩
      rw [hk.out] at hlen
      go_wp2_with fail
      clear g9 g10
      refine wp_region_plan (S := fun W => Boxk W b b m (.slice (some ⟨b1, o1, none⟩) m.peers.length cp) (.slice Aq m.pairs.length cq)) [(0, true), (1, true), (2, true), (3, true), (4, true), (5, true), (6, true), (7, true), (8, true), (9, true), (10, true), (11, true), (12, true), (13, true), (14, false), (15, false), (16, false), (17, true)] (by kernel_rfl) (by kernel_rfl) rfl (by kernel_rfl) (fun _ _ _ _ _ h => h) HD.out.box ?_
      iterate 14
        refine along_take (v := ?_) rfl (by rfl) ?_ ?_
        rotate_left
        · intro W hW; obtain ⟨c0, c1, c2, c3, c4, c5, c6, c7, c8, c9, c10⟩ := HSC.out W hW; obtain ⟨d0, d1⟩ := HCQ.out W hW; clear hW; go_simp; try with_reducible rfl
        try simp only [Act.put, List.setIfInBounds_toArray, List.set_cons_zero, List.set_cons_succ]
      refine along_step rfl (fun K hK => ?_)
      go_simp
      refine hK.out _ _ (HD.out.box.alloc HD.out.size _) ?_
      clear hK K
      try simp only [Act.put, List.setIfInBounds_toArray, List.set_cons_zero, List.set_cons_succ]
      refine along_step rfl (fun K hK => ?_)
      go_simp
      refine (P.out).mono ?_
      rintro e w8 ⟨v8, rfl, ho8, hb8⟩
      have e8 : (Um.put p1 ++ Um.put p2).length = q := hq.out
      rw [e8] at ho8
      obtain ⟨A, c, rfl⟩ := own_shape ho8
      have HSee : Hid (Sees .u8 w8 w8.heap.size A (Tg.peerB (p1, p2))) := Lib.hid (Sees.of_own (by rw [hq.out]; exact ho8))
      have HNil := Lib.hid (own_nil ho8)
      have HN8 := Lib.hid (HD.out.behind hb8)
      have HOw := Lib.hid HN8.out.own
      rw [hk.out] at HOw
      clear ho8 hb8 e8
      refine hK.out _ _ HN8.out.box ?_
      clear hK K
      try simp only [Act.put, List.setIfInBounds_toArray, List.set_cons_zero, List.set_cons_succ]
      refine along_step rfl (fun K hK => ?_)
      refine step_append_rowk byteT _ _ rfl rfl b _ k _ rfl HOw.out q c rfl hq.out HNil.out HSee.out (by omega) HN8.out.size ?_
      intro v9 w9 ho9 hk9
      have h9 := HN8.out.app (Tg.peerB (p1, p2)) k q hk.out hq.out ho9 hk9
      rw [← HNx.out] at h9
      have HN9 := Lib.hid h9
      clear h9 ho9 hk9
      refine hK.out _ _ HN9.out.box ?_
      clear hK K
      try simp only [Act.put, List.setIfInBounds_toArray, List.set_cons_zero, List.set_cons_succ]
      refine along_take (v := ?_) rfl (by rfl) ?_ ?_
      rotate_left
      · intro W hW; clear hW; go_simp; try with_reducible rfl
      simp only [Act.put, List.setIfInBounds_toArray, List.set_cons_zero, List.set_cons_succ]
      refine along_done ?_
      go_wp2_with fail
      go_roundw
      case rel => exact ⟨j + 1, by omega, by go_num, HN9⟩
      case measure => simp [intOf]; omega
    · have hjn : j = m.peers.length := by omega
      have h9 := HR.out
      rw [hjn, List.take_length] at h9
      have HE := Lib.hid h9
      have hle := Tg.flat_peers m.peers
      obtain ⟨q, hq⟩ : ∃ q, Hid ((m.peers.flatMap Tg.peerB).length = q) := ⟨_, rfl⟩
      rw [hq.out] at hle
      have ho := h9.own
      rw [hq.out] at ho
      obtain ⟨A, c, rfl⟩ := own_shape ho
      have HSee := Lib.hid (Sees.of_own (l := m.peers.flatMap Tg.peerB) (by rw [hq.out]; exact ho))
      have HNil := Lib.hid (own_nil ho)
      have HK := Lib.hid h9.kept
      have hsz := h9.size
      clear h9 ho
      by_cases h : m.peers = []
      · have E : Tg.field m 8 = [] := Tg.field_no (by simp [Tg.has, h])
        have hq0 : q = 0 := by rw [← hq.out, h]; rfl
        have HOE := Lib.hid HE.out.own
        rw [hq.out] at HOE
        have hil : m.peers.flatMap Tg.peerB = [] := by rw [h]; rfl
        rw [hil] at HOE
        clear h hil
        go_wp2_with fail
        go_ret
        refine ⟨_, rfl, ?_, by rw [hsb]; exact HK.out.below (fun k hk => by cases hk) (by omega)⟩
        rw [E, hsb, show ([] : List Nat).length = q from hq0.symm]
        exact HOE.out
      · have hq0 : 0 < q := by
          rw [← hq.out]
          cases hl : m.peers with
          | nil => exact absurd hl h
          | cons x l =>
            rw [List.flatMap_cons, List.length_append]
            have : 0 < (Tg.peerB x).length := by
              have h1 := Um.enc_pos 9 x.1
              have e : Um.put x.1 = Um.enc 9 x.1 := rfl
              show 0 < (Um.put x.1 ++ Um.put x.2).length
              rw [List.length_append, e]
              omega
            omega
        have E : ([8, m.peers.length].flatMap Um.put) ++ m.peers.flatMap Tg.peerB = Tg.field m 8 := by rw [tag_two 8 (by omega), Tg.field_yes (by simp [Tg.has, h])]; rfl
        have HEq := Lib.hid E
        have C := Lib.hid (rall_call [8, m.peers.length] wr (cs := #[.int .u64 8, .int .u64 (m.peers.length : Int)]) rfl 2 rfl (by omega) (by intro x hx; simp at hx; omega))
        obtain ⟨k, hk⟩ : ∃ k, Hid (([8, m.peers.length].flatMap Um.put).length = k) := ⟨_, rfl⟩
        have hk20 : k ≤ 20 := by rw [← hk.out]; exact flatput_le _
        clear E h
        go_wp2_with fail
        refine (C.out).mono ?_
        rintro e w1 ⟨v1, rfl, ho1, hb1⟩
        rw [hk.out] at ho1
        have HO1 := Lib.hid (own_lower ho1 hsz)
        have HS1 := Lib.hid (HSee.out.below hb1)
        have HK1 := Lib.hid ((HK.out.below (B := b) (fun k hk => by cases hk) (by omega)).trans (hb1.mono hsz))
        have hz1 : b ≤ w1.heap.size := by have := hb1.size; omega
        clear ho1 hb1
        go_wp2_with (at_builtin; refine wpList_append_rowk byteT _ _ rfl rfl b _ k _ rfl HO1.out q c rfl hq.out HNil.out HS1.out (by omega) hz1 ?_; intro v2 w2 ho2 hk2)
        have HO2 := Lib.hid ho2
        have HB2 := Lib.hid (HK1.out.trans (hk2.below (own_lt HO1.out) hz1))
        clear ho2 hk2
        go_ret
        refine ⟨_, rfl, ?_, by rw [hsb]; exact HB2.out⟩
        rw [hsb, ← HEq.out, List.length_append, hk.out, hq.out, ints_append]
        exact HO2.out

set_option maxHeartbeats 2000000 in
theorem rfield_9 {w : World} {B : Nat} {m : Ms} {vm : Value} (H : Mv w B m vm) (HF : Few m) :
    Calls Tryd.prog 30 #[vm, .int .i64 9] w (Made .u8 5 w.heap.size (Tg.field m 9) w) := by
  obtain ⟨b, vp, vq, w0, rfl, hsb, hal, hsz, hx0, hb0⟩ := boxedk H.all (Nat.le_refl _)
  rw [hsb] at hx0
  obtain ⟨Ap, cp, rfl, _, hp1, hp2, _⟩ := hx0.peers.ex
  obtain ⟨Aq, cq, rfl, _, hq1, hq2, _⟩ := hx0.pairs.ex
  unfold maxLen at hp2 hq2
  have hn16 := HF.peers
  have hn8 := HF.pairs
  have HN0 : Hid (On b b m (.slice Ap m.peers.length cp) (.slice Aq m.pairs.length cq) w (.slice none 0 0) [] (.slice none 0 0) w0) := Lib.hid ⟨World.ownsRow_nil _ _ _ _, hx0, Kept.of_below (by rw [hsb]; exact hb0) _, by simp [Value.ownBlock], by omega⟩
  have HSC := Lib.hid (fun W (h : Boxk W b b m (.slice Ap m.peers.length cp) (.slice Aq m.pairs.length cq)) => Bx.cells h.bx)
  have HFF := Lib.hid HF
  have hbw : b ≤ w0.heap.size := by omega
  clear H hx0 hb0 HF hsz
  go_enter Tryd.func30, Tryd.ntmps30
  go_wp2_with fail
  go_loopw [5, 7] (fun vb vi wr => ∃ (j : Nat), j ≤ m.pairs.length ∧ vi = .int .i64 j ∧ Hid (On b b m (.slice Ap m.peers.length cp) (.slice Aq m.pairs.length cq) w (.slice none 0 0) ((m.pairs.take j).flatMap Tg.pairB) vb wr)) (fun _ vi _ => m.pairs.length - (intOf vi).toNat)
  case atStart => exact ⟨0, by omega, rfl, by simpa using HN0⟩
  case round =>
    obtain ⟨j, hj, rfl, HR⟩ := hrel
    obtain ⟨g0, g1, g2, g3, g4, g5, g6, g7, g8, g9, g10⟩ := Bx.cells HR.out.box.bx
    clear g0 g1 g2 g3 g4 g5 g6 g7 g8
    by_cases hlt : j < m.pairs.length
    · obtain ⟨b1, o1, rfl⟩ := HR.out.box.someQ (by omega)
      have hlen : ((m.pairs.take j).flatMap Tg.pairB).length ≤ 1000000 := by have := Tg.flat_pairs (m.pairs.take j) (fun p hp => HFF.out.pair p (List.mem_of_mem_take hp)); rw [List.length_take] at this; omega
      have HNx := Lib.hid (flat_next Tg.pairB m.pairs hlt _ rfl)
      have HCQ := Lib.hid (fun W (h : Boxk W b b m (.slice Ap m.peers.length cp) (.slice (some ⟨b1, o1, none⟩) m.pairs.length cq)) => h.cellQ hlt)
      have OK := HFF.out.pair _ (List.getElem_mem hlt)
      obtain ⟨p, hp⟩ : ∃ p : ByteArray × ByteArray, Hid (m.pairs[j] = p) := ⟨m.pairs[j], Lib.hid rfl⟩
      obtain ⟨p1, p2⟩ := p
      rw [hp.out] at OK HNx HCQ
      simp only at OK HCQ
      obtain ⟨OK1, OK2⟩ := OK
      have HD := Lib.hid HR.out.drew
      have P1 := Lib.hid (rtexts_any p1 (by omega) wr.drew)
      have P2 := Lib.hid (fun W => rtexts_any p2 (by omega) W)
      have hq1 := Tg.txtB_length p1
      have hq2 := Tg.txtB_length p2
      obtain ⟨q1, hq1'⟩ : ∃ q, Hid ((Tg.txtB p1).length = q) := ⟨_, rfl⟩
      obtain ⟨q2, hq2'⟩ : ∃ q, Hid ((Tg.txtB p2).length = q) := ⟨_, rfl⟩
      rw [hq1'.out] at hq1
      rw [hq2'.out] at hq2
      obtain ⟨k, hk⟩ : ∃ k, Hid (((m.pairs.take j).flatMap Tg.pairB).length = k) := ⟨_, rfl⟩
      rw [hk.out] at hlen
      go_wp2_with fail
      clear g9 g10
      refine wp_region_plan (S := fun W => Boxk W b b m (.slice Ap m.peers.length cp) (.slice (some ⟨b1, o1, none⟩) m.pairs.length cq)) [(0, true), (1, true), (2, true), (3, true), (4, true), (5, true), (6, true), (9, true), (10, true), (11, true), (12, true), (13, true), (14, true), (7, false), (8, false), (15, false), (16, false), (17, true)] (by kernel_rfl) (by kernel_rfl) rfl (by kernel_rfl) (fun _ _ _ _ _ h => h) HD.out.box ?_
      iterate 13
        refine along_take (v := ?_) rfl (by rfl) ?_ ?_
        rotate_left
        · intro W hW; obtain ⟨c0, c1, c2, c3, c4, c5, c6, c7, c8, c9, c10⟩ := HSC.out W hW; obtain ⟨d0, d1⟩ := HCQ.out W hW; clear hW; go_simp; try with_reducible rfl
        try simp only [Act.put, List.setIfInBounds_toArray, List.set_cons_zero, List.set_cons_succ]
      refine along_step rfl (fun K hK => ?_)
      go_simp
      refine (P1.out).mono ?_
      rintro e w7 ⟨v7, rfl, ho7, hb7⟩
      rw [hq1'.out] at ho7
      obtain ⟨A7, c7, rfl⟩ := own_shape ho7
      have HSee7 := Lib.hid (Sees.of_own (l := Tg.txtB p1) (by rw [hq1'.out]; exact ho7))
      have HNil7 := Lib.hid (own_nil ho7)
      have HN7 := Lib.hid (HD.out.behind hb7)
      have HOw7 := Lib.hid HN7.out.own
      rw [hk.out] at HOw7
      clear ho7 hb7
      refine hK.out _ _ HN7.out.box ?_
      clear hK K
      try simp only [Act.put, List.setIfInBounds_toArray, List.set_cons_zero, List.set_cons_succ]
      refine along_step rfl (fun K hK => ?_)
      refine step_append_rowk byteT _ _ rfl rfl b _ k _ rfl HOw7.out q1 c7 rfl hq1'.out HNil7.out HSee7.out (by omega) HN7.out.size ?_
      intro v8 w8 ho8 hk8
      have h8 := HN7.out.app (Tg.txtB p1) k q1 hk.out hq1'.out ho8 hk8
      have HN8 := Lib.hid h8
      clear h8 ho8 hk8
      refine hK.out _ _ HN8.out.box ?_
      clear hK K
      try simp only [Act.put, List.setIfInBounds_toArray, List.set_cons_zero, List.set_cons_succ]
      refine along_step rfl (fun K hK => ?_)
      go_simp
      refine (P2.out _).mono ?_
      rintro e w9 ⟨v9, rfl, ho9, hb9⟩
      rw [hq2'.out] at ho9
      obtain ⟨A9, c9, rfl⟩ := own_shape ho9
      have HSee9 := Lib.hid (Sees.of_own (l := Tg.txtB p2) (by rw [hq2'.out]; exact ho9))
      have HNil9 := Lib.hid (own_nil ho9)
      have HN9 := Lib.hid (HN8.out.behind hb9)
      have HOw9 := Lib.hid HN9.out.own
      rw [List.length_append, hk.out, hq1'.out] at HOw9
      clear ho9 hb9
      refine hK.out _ _ HN9.out.box ?_
      clear hK K
      try simp only [Act.put, List.setIfInBounds_toArray, List.set_cons_zero, List.set_cons_succ]
      refine along_step rfl (fun K hK => ?_)
      refine step_append_rowk byteT _ _ rfl rfl b _ (k + q1) _ rfl HOw9.out q2 c9 rfl hq2'.out HNil9.out HSee9.out (by omega) HN9.out.size ?_
      intro v10 w10 ho10 hk10
      have h10 := HN9.out.app (Tg.txtB p2) (k + q1) q2 (by rw [List.length_append, hk.out, hq1'.out]) hq2'.out ho10 hk10
      rw [List.append_assoc, show Tg.txtB p1 ++ Tg.txtB p2 = Tg.pairB (p1, p2) from rfl, ← HNx.out] at h10
      have HN9 := Lib.hid h10
      clear h10 ho10 hk10
      refine hK.out _ _ HN9.out.box ?_
      clear hK K
      try simp only [Act.put, List.setIfInBounds_toArray, List.set_cons_zero, List.set_cons_succ]
      refine along_take (v := ?_) rfl (by rfl) ?_ ?_
      rotate_left
      · intro W hW; clear hW; go_simp; try with_reducible rfl
      simp only [Act.put, List.setIfInBounds_toArray, List.set_cons_zero, List.set_cons_succ]
      refine along_done ?_
      go_wp2_with fail
      go_roundw
      case rel => exact ⟨j + 1, by omega, by go_num, HN9⟩
      case measure => simp [intOf]; omega
    · have hjn : j = m.pairs.length := by omega
      have h9 := HR.out
      rw [hjn, List.take_length] at h9
      have HE := Lib.hid h9
      have hle := Tg.flat_pairs m.pairs HFF.out.pair
      obtain ⟨q, hq⟩ : ∃ q, Hid ((m.pairs.flatMap Tg.pairB).length = q) := ⟨_, rfl⟩
      rw [hq.out] at hle
      have ho := h9.own
      rw [hq.out] at ho
      obtain ⟨A, c, rfl⟩ := own_shape ho
      have HSee := Lib.hid (Sees.of_own (l := m.pairs.flatMap Tg.pairB) (by rw [hq.out]; exact ho))
      have HNil := Lib.hid (own_nil ho)
      have HK := Lib.hid h9.kept
      have hsz := h9.size
      clear h9 ho
      by_cases h : m.pairs = []
      · have E : Tg.field m 9 = [] := Tg.field_no (by simp [Tg.has, h])
        have hq0 : q = 0 := by rw [← hq.out, h]; rfl
        have HOE := Lib.hid HE.out.own
        rw [hq.out] at HOE
        have hil : m.pairs.flatMap Tg.pairB = [] := by rw [h]; rfl
        rw [hil] at HOE
        clear h hil
        go_wp2_with fail
        go_ret
        refine ⟨_, rfl, ?_, by rw [hsb]; exact HK.out.below (fun k hk => by cases hk) (by omega)⟩
        rw [E, hsb, show ([] : List Nat).length = q from hq0.symm]
        exact HOE.out
      · have hq0 : 0 < q := by
          rw [← hq.out]
          cases hl : m.pairs with
          | nil => exact absurd hl h
          | cons x l =>
            rw [List.flatMap_cons, List.length_append]
            have : 0 < (Tg.pairB x).length := by
              have h1 := Um.enc_pos 9 x.1.size
              have e : Um.put x.1.size = Um.enc 9 x.1.size := rfl
              show 0 < ((Um.put x.1.size ++ nums x.1) ++ Tg.txtB x.2).length
              rw [List.length_append, List.length_append, e]
              omega
            omega
        have E : ([9, m.pairs.length].flatMap Um.put) ++ m.pairs.flatMap Tg.pairB = Tg.field m 9 := by rw [tag_two 9 (by omega), Tg.field_yes (by simp [Tg.has, h])]; rfl
        have HEq := Lib.hid E
        have C := Lib.hid (rall_call [9, m.pairs.length] wr (cs := #[.int .u64 9, .int .u64 (m.pairs.length : Int)]) rfl 2 rfl (by omega) (by intro x hx; simp at hx; omega))
        obtain ⟨k, hk⟩ : ∃ k, Hid (([9, m.pairs.length].flatMap Um.put).length = k) := ⟨_, rfl⟩
        have hk20 : k ≤ 20 := by rw [← hk.out]; exact flatput_le _
        clear E h
        go_wp2_with fail
        refine (C.out).mono ?_
        rintro e w1 ⟨v1, rfl, ho1, hb1⟩
        rw [hk.out] at ho1
        have HO1 := Lib.hid (own_lower ho1 hsz)
        have HS1 := Lib.hid (HSee.out.below hb1)
        have HK1 := Lib.hid ((HK.out.below (B := b) (fun k hk => by cases hk) (by omega)).trans (hb1.mono hsz))
        have hz1 : b ≤ w1.heap.size := by have := hb1.size; omega
        clear ho1 hb1
        go_wp2_with (at_builtin; refine wpList_append_rowk byteT _ _ rfl rfl b _ k _ rfl HO1.out q c rfl hq.out HNil.out HS1.out (by omega) hz1 ?_; intro v2 w2 ho2 hk2)
        have HO2 := Lib.hid ho2
        have HB2 := Lib.hid (HK1.out.trans (hk2.below (own_lt HO1.out) hz1))
        clear ho2 hk2
        go_ret
        refine ⟨_, rfl, ?_, by rw [hsb]; exact HB2.out⟩
        rw [hsb, ← HEq.out, List.length_append, hk.out, hq.out, ints_append]
        exact HO2.out
end Go.Proofs.YtjkjhnpemhlbpaaDoor
