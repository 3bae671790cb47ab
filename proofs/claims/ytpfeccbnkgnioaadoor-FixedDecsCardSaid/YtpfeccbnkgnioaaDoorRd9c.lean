/- Contract of the reference's Dec of layer 9, kinds 4. -/
import Derived.Test.YtpfeccbnkgnioaaDoorPJ
namespace Go.Proofs.YtpfeccbnkgnioaaDoor
open Go.RowKit
set_option linter.unusedVariables false
set_option maxRecDepth 100000
set_option linter.unusedSimpArgs false
open Gm

set_option maxHeartbeats 2000000 in
theorem rdec_4 {w : World} {B : Nat} {v : Value} {p : List Nat} (h : Piece w B v p) (hp : p.length ≤ 1000000000) (hb : ∀ x ∈ p, x < 256) (HK : Hid ((Bm.rfix p 0 1).1 = 4)) :
    Calls Tryd.prog 11 #[v] w (DecPost (Fm.dec p) w) := by
  obtain ⟨y, hy⟩ : ∃ y, w.heap.size = y := ⟨_, rfl⟩
  obtain ⟨w0, hal⟩ : ∃ w0, w.alloc (.cells #[.int .i64 0, .int .u32 0, .int .u8 0, .bool false, .int .u64 0, .string ⟨#[]⟩, .string ⟨#[]⟩, .int .u64 0, .int .u16 0, .slice none 0 0, .slice none 0 0] 30) = w0 := ⟨_, rfl⟩
  have hY : Whole w0 y 30 #[.int .i64 0, .int .u32 0, .int .u8 0, .bool false, .int .u64 0, .string ⟨#[]⟩, .string ⟨#[]⟩, .int .u64 0, .int .u16 0, .slice none 0 0, .slice none 0 0] := by rw [← hal, ← hy]; exact Whole.made _ _ _
  have hB0 : Below y w w0 := by rw [← hal]; exact (Below.refl y w).alloc (by omega) _
  obtain ⟨r, hr⟩ : ∃ r, w0.heap.size = r := ⟨_, rfl⟩
  have hyr : y < r := by rw [← hr, ← hal, ← hy]; simp
  have hpc : Piece w0 r v p := by have := h.kept (by rw [hy]; exact hB0); rw [hr] at this; exact this
  obtain ⟨A0, cap0, rfl, hsee, hnull, hcap, hmax⟩ := hpc
  obtain ⟨n0, hn0⟩ : ∃ n0, Hid (p.length = n0) := ⟨_, rfl⟩
  have hbb : Fm.Bytes p := hb
  have HBY := Lib.hid hbb
  obtain ⟨w1, hal1⟩ : ∃ w1, w0.alloc (.cells #[.slice A0 n0 cap0, .int .i64 0, .int .i64 0] 57) = w1 := ⟨_, rfl⟩
  have hcu : Cu w1 r r p 0 := cu_new hr hn0.out hsee hb (by have := hn0.out; omega) hmax hnull (by have := hn0.out; omega) hal1
  have HB1 : Hid (Below y w w1) := Lib.hid (hB0.trans (by rw [← hal1]; exact (Below.refl y w0).alloc (by omega) _))
  have HY1 : Hid (Whole w1 y 30 #[.int .i64 0, .int .u32 0, .int .u8 0, .bool false, .int .u64 0, .string ⟨#[]⟩, .string ⟨#[]⟩, .int .u64 0, .int .u16 0, .slice none 0 0, .slice none 0 0]) := Lib.hid (by rw [← hal1]; exact hY.alloc _)
  have hrl := hcu.lt
  have C1 := Lib.hid (curfix_any 1 (by omega) (by omega) hcu)
  rw [hn0.out] at hcap ⊢
  have HRD : Hid (Fm.read p = Fm.own (Bm.rfix p 0 1).1 ((Fm.ridR p).1 % 4294967296) (Fm.ridR p).2.1 (Fm.ridR p).2.2) := rfl
  have HFN : Hid (Fm.fin p = Bm.fin (Fm.read p).2.1 (Fm.read p).2.2) := rfl
  have HRR : Hid (Fm.ridR p = Bm.rfix (Bm.rfix p 0 1).2.1 (Fm.kindE p) 4) := rfl
  have HKE : Hid (Fm.kindE p = if known ((Bm.rfix p 0 1).1 : Int) = true then (Bm.rfix p 0 1).2.2 else Bm.fail (Bm.rfix p 0 1).2.2 9) := rfl
  have HD1 := Lib.hid (fun h => Fm.dec_fin (l := p) h)
  have HD2 := Lib.hid (fun h h2 => Fm.dec_good (l := p) h h2)
  have HD3 := Lib.hid (fun h h2 => Fm.dec_bad (l := p) h h2)
  have HSO := Lib.hid (fun h => (Fm.read_sound hbb h).2)
  have ok_few : ∀ {M : Ms}, Ok M → Fm.fin p = 0 → (Fm.read p).1 = M → M.peers.length ≤ 1000000000 ∧ M.pairs.length ≤ 1000000000 := fun _ h1 h2 => by subst h2; exact Fm.read_few hbb h1
  obtain ⟨dd, hdd⟩ : ∃ dd, Hid (Fm.dec p = dd) := ⟨_, rfl⟩
  rw [hdd.out] at HD1 HD2 HD3 ⊢
  rw [HK.out] at C1 HRD HKE
  have hp1 := (Fm.rfix_suf p 0 1).length_le
  obtain ⟨l1', hl1⟩ : ∃ l1', Hid ((Bm.rfix p 0 1).2.1 = l1') := ⟨_, rfl⟩
  obtain ⟨e1', he1⟩ : ∃ e1', Hid ((Bm.rfix p 0 1).2.2 = e1') := ⟨_, rfl⟩
  rw [hl1.out] at C1 HRR hp1
  rw [he1.out] at C1 HKE
  clear h hb hY hB0 hbb hsee hcu
  have hke : Fm.kindE p = e1' := by rw [HKE.out]; exact if_pos (by decide)
  rw [hke] at HRR
  have HKE2 := Lib.hid hke
  clear hke
  go_enter Tryd.func11, Tryd.ntmps11
  go_wp2_with fail
  refine (C1.out).mono ?_
  rintro en w2 ⟨rfl, hr2, ho2⟩
  obtain ⟨g, w2a, w3, hg, hal2, hz, hst, hm3, hs3, hb3⟩   := var_bx w2 4 4 rfl
  have hrg : r < g := by have := ho2.size; omega
  have HZ := Lib.hid hz
  have HY3 := Lib.hid ((HY1.out.only ho2 (by omega)).below hb3 (by omega))
  have HB3 := Lib.hid (HB1.out.trans ((ho2.below (B := y) (by omega) (by omega)).trans (hb3.mono (by omega))))
  have HS3 := Lib.hid (Sx.bald hr2 hrg hb3 hm3 hs3)
  have HS3z := Lib.hid hs3
  clear hr2 ho2 hz hm3 hb3
  have c0 : w3.cell? ⟨g, 0, none⟩ = some (.int .i64 4) := (Bx.cells HS3.out.bx).1
  have C3 := Lib.hid (curfix_any 4 (by omega) (by omega) HS3.out.rd)
  have B3 : (Bm.rfix l1' (e1') 4).1 < 4294967296 := Fm.rfix_nat (show Fm.Bytes _ from HS3.out.rd.byte) _ 4 4 rfl
  rw [← HRR.out] at C3 B3
  obtain ⟨q, hq⟩ : ∃ q, Hid (Fm.ridR p = q) := ⟨_, rfl⟩
  obtain ⟨rid, l, e⟩ := q
  rw [hq.out] at C3 B3 HRD
  simp only at C3 B3 HRD
  rw [Nat.mod_eq_of_lt B3] at HRD
  go_wp2_with (refine wpList_store_whole rfl rfl rfl rfl rfl HZ.out (msgI rfl) rfl (by simp [Value.oneCell']) ?_; rw [hst])
  refine (C3.out).mono ?_
  rintro en w4 ⟨rfl, hr4, ho4⟩
  have S4 := HS3.out.read hr4 ho4
  have z4 := (Bx.cells S4.bx).2.1
  have f4 : w4.frozen? ⟨g, 1, none⟩ = false := Whole.free S4.bx 1
  have T4 := S4.setRid rid
  obtain ⟨w5, hw5⟩ : ∃ W, w4.setCell ⟨g, 1, none⟩ (.int .u32 (rid : Int)) = W := ⟨_, rfl⟩
  rw [hw5] at T4
  have HT0 : Hid (Sx w3 r g (Fm.bald 4 rid) (.slice none 0 0) (.slice none 0 0) l e w5) := Lib.hid T4
  clear hr4 ho4 S4 T4
  clear c0
  have HF : Hid ((Bm.flag l e).1 = true → Fm.own 4 rid l e = ({ Fm.bald 4 rid with has := true, pid := (Fm.peer (Bm.flag l e).2.1 (Bm.flag l e).2.2).1.1, pad := (Fm.peer (Bm.flag l e).2.1 (Bm.flag l e).2.2).1.2, peers := (Fm.peers (Fm.peer (Bm.flag l e).2.1 (Bm.flag l e).2.2).2.1 (Fm.peer (Bm.flag l e).2.1 (Bm.flag l e).2.2).2.2).1 }, (Fm.peers (Fm.peer (Bm.flag l e).2.1 (Bm.flag l e).2.2).2.1 (Fm.peer (Bm.flag l e).2.1 (Bm.flag l e).2.2).2.2).2)) := Lib.hid (fun h => by unfold Fm.own; rw [if_neg (by omega), if_neg (by omega), if_pos rfl]; rw [if_pos h])
  have HG : Hid ((Bm.flag l e).1 = false → Fm.own 4 rid l e = ({ Fm.bald 4 rid with peers := (Fm.peers (Bm.flag l e).2.1 (Bm.flag l e).2.2).1 }, (Fm.peers (Bm.flag l e).2.1 (Bm.flag l e).2.2).2)) := Lib.hid (fun h => by unfold Fm.own; rw [if_neg (by omega), if_neg (by omega), if_pos rfl]; rw [if_neg (by rw [h]; simp)])
  have c0_1 : w5.cell? ⟨g, 0, none⟩ = some (.int .i64 4) := (Bx.cells HT0.out.bx).1
  have C1 := Lib.hid (curflag_any HT0.out.rd)
  go_wp2_with fail
  refine (C1.out).mono ?_
  rintro en w1a ⟨rfl, hr1, ho1⟩
  have S1 := HT0.out.read hr1 ho1
  obtain ⟨x1, hx1⟩ : ∃ x, Hid ((Bm.flag l e).1 = x) := ⟨_, rfl⟩
  rw [hx1.out]
  have z1_0 := (Bx.cells S1.bx).2.2.2.1
  have f1_0 : w1a.frozen? ⟨g, 3, none⟩ = false := Whole.free S1.bx 3
  have T1_0 := S1.setHas x1
  obtain ⟨w1b, hw1_0⟩ : ∃ W, w1a.setCell ⟨g, 3, none⟩ (.bool x1) = W := ⟨_, rfl⟩
  rw [hw1_0] at T1_0
  have HT1 := Lib.hid T1_0
  clear hr1 ho1 S1 T1_0
  clear c0_1
  cases x1
  · have HOWN := Lib.hid (HG.out hx1.out)
    have c0_2 : w1b.cell? ⟨g, 0, none⟩ = some (.int .i64 4) := (Bx.cells HT1.out.bx).1
    have c3_2 : w1b.cell? ⟨g, 3, none⟩ = some (.bool false) := (Bx.cells HT1.out.bx).2.2.2.1
    have C2 := Lib.hid (rcount_any 16 (by omega) HT1.out.rd)
    have hc2 := Fm.count_lt (k := 1) (Bm.flag l e).2.1 (Bm.flag l e).2.2 16 1
    have HL2 : Hid (Fm.peers (Bm.flag l e).2.1 (Bm.flag l e).2.2 = Fm.many Fm.peer (Fm.count 1 16 (Bm.flag l e).2.1 (Bm.flag l e).2.2).1 (Fm.count 1 16 (Bm.flag l e).2.1 (Bm.flag l e).2.2).2.1 (Fm.count 1 16 (Bm.flag l e).2.1 (Bm.flag l e).2.2).2.2) := rfl
    obtain ⟨cc, hcc⟩ : ∃ cc, Hid (Fm.count 1 16 (Bm.flag l e).2.1 (Bm.flag l e).2.2 = cc) := ⟨_, rfl⟩
    obtain ⟨n, l1, e1⟩ := cc
    rw [hcc.out] at C2 hc2 HL2
    simp only at C2 hc2 HL2
    go_wp2_with fail
    refine (C2.out).mono ?_
    rintro en w2a ⟨rfl, hr2, ho2⟩
    have HS2 := Lib.hid (HT1.out.read hr2 ho2)
    clear hr2 ho2
    clear c0_2 c3_2
    have c0_2 : w2a.cell? ⟨g, 0, none⟩ = some (.int .i64 4) := (Bx.cells HS2.out.bx).1
    have c3_2 : w2a.cell? ⟨g, 3, none⟩ = some (.bool false) := (Bx.cells HS2.out.bx).2.2.2.1
    go_wp2_with fail
    obtain ⟨M0, hM0⟩ : ∃ M0 : Ms, Hid (({ Fm.bald 4 rid with has := false } : Ms) = M0) := ⟨_, rfl⟩
    have hpe2 : M0.peers = [] := by rw [← hM0.out] <;> rfl
    have hqe2 : M0.pairs = [] := by rw [← hM0.out] <;> rfl
    have hki2 : M0.kind = 4 := by rw [← hM0.out] <;> rfl
    have hha2 : M0.has = false := by rw [← hM0.out] <;> rfl
    have HS2m : Hid (Sx w3 r g { M0 with peers := [] } (.slice none 0 0) (.slice none 0 0) l1 e1 w2a) := Lib.hid (by have h := HS2.out; rw [show { M0 with peers := [] } = ({ Fm.bald 4 rid with has := false } : Ms) by rw [← hM0.out] <;> rfl]; exact h)
    have HKI := Lib.hid hki2
    have HPE := Lib.hid hpe2
    have HQE := Lib.hid hqe2
    have HHA := Lib.hid hha2
    clear hki2 hpe2 hqe2 hha2
    clear c0_2 c3_2
    go_loopw [7] (fun vi wr => ∃ (j : Nat) (A : Option Addr) (c : Nat), j ≤ n ∧ vi = .int .i64 j ∧ Hid (Sx w3 r g { M0 with peers := (Fm.many Fm.peer j l1 e1).1 } (.slice A j c) (.slice none 0 0) (Fm.many Fm.peer j l1 e1).2.1 (Fm.many Fm.peer j l1 e1).2.2 wr)) (fun vi _ => n - (intOf vi).toNat)
    case atStart => exact ⟨0, none, 0, by omega, rfl, HS2m⟩
    case round =>
      obtain ⟨j, A, c, hj, rfl, HR⟩ := hrel
      by_cases hlt : j < n
      · have HLj := Fm.many_length Fm.peer j l1 e1
        have P := Lib.hid (rone_any (HR.out.rd.drew))
        have ca : wr.drew.cell? ⟨g, 9, none⟩ = some (.slice A j c) := HR.out.bx.at_ 9
        obtain ⟨q, hq⟩ : ∃ q : Nat × Nat, Hid ((Fm.peer (Fm.many Fm.peer j l1 e1).2.1 (Fm.many Fm.peer j l1 e1).2.2).1 = q) := ⟨_, rfl⟩
        rw [hq.out] at P
        have hown := HR.out.peers
        simp only at hown
        rw [HLj] at hown
        have HOw := Lib.hid hown
        have HML := Lib.hid HLj
        clear hown HLj
        go_wp2_with fail
        refine wp_region_tree (.take 0 (.take 2 (.two 1 3 (.one 3 (.one 4 (.one 5 (.take 6 (.one 7 .nil))))) (.two 1 4 (.one 4 (.one 5 (.take 6 (.one 7 .nil)))) (.one 1 (.one 5 (.take 6 (.one 7 .nil)))))))) (by kernel_rfl) (by kernel_rfl) rfl (by kernel_rfl) (fun _ _ _ _ _ h => h) ?_
        iterate 2
          refine alongT_take (v := ?_) rfl (by rfl) ?_ ?_
          rotate_left
          · intro W; go_simp; try with_reducible rfl
          try simp only [Act.put, List.setIfInBounds_toArray, List.set_cons_zero, List.set_cons_succ]
        refine alongT_two rfl rfl (fun K hK => ?_) (fun K hK => ?_)
        · go_simp
          refine hK.out _ _ ?_
          clear hK K
          try simp only [Act.put, List.setIfInBounds_toArray, List.set_cons_zero, List.set_cons_succ]
          refine alongT_one rfl (fun K hK => ?_)
          go_simp
          refine (P.out).mono ?_
          rintro en w8 ⟨rfl, hr8, ho8⟩
          have S8 := Lib.hid (HR.out.below (Below.refl _ _).drew |>.read hr8 ho8)
          have HOw8 := Lib.hid (own2_only (own2_below HOw.out (Below.refl _ _).drew) ho8 (by have := HR.out.lt; omega))
          have cb : w8.cell? ⟨g, 9, none⟩ = some (.slice A j c) := S8.out.bx.at_ 9
          have cc : ∀ o, (w8.alloc o).cell? ⟨g, 9, none⟩ = some (.slice A j c) := fun o => (S8.out.below ((Below.refl _ _).alloc (Nat.le_refl _) o)).bx.at_ 9
          clear hr8 ho8
          refine hK.out _ _ ?_
          clear hK K
          try simp only [Act.put, List.setIfInBounds_toArray, List.set_cons_zero, List.set_cons_succ]
          refine alongT_one rfl (fun K hK => ?_)
          go_simp
          refine hK.out _ _ ?_
          clear hK K
          try simp only [Act.put, List.setIfInBounds_toArray, List.set_cons_zero, List.set_cons_succ]
          refine alongT_one rfl (fun K hK => ?_)
          refine step_append_elem2 peerT2 fPeer_one _ _ rfl rfl (g + 1) _ j _ q rfl rfl rfl HOw8.out (by omega) S8.out.glt ?_
          intro v9 w9 ho9 hg9
          obtain ⟨A9, c9, rfl⟩ := own_shape ho9
          have ho9b : w9.ownsRow (g + 1) 26 2 (.slice A9 (j + 1) c9) (Fm.many Fm.peer (j + 1) l1 e1).1.length (two fPeer (Fm.many Fm.peer (j + 1) l1 e1).1) := by
            rw [Fm.many_length, show (Fm.many Fm.peer (j + 1) l1 e1).1 = (Fm.many Fm.peer j l1 e1).1 ++ [q] by rw [← hq.out]; rfl, two_append]
            exact ho9
          obtain ⟨⟨d9, f9⟩, hs9⟩ := S8.out.growPeers HQE.out (Fm.many Fm.peer (j + 1) l1 e1).1 hg9 ho9b
          have HS9 : Hid (Sx w3 r g { M0 with peers := (Fm.many Fm.peer (j + 1) l1 e1).1 } (.slice A9 (j + 1) c9) (.slice none 0 0) (Fm.many Fm.peer (j + 1) l1 e1).2.1 (Fm.many Fm.peer (j + 1) l1 e1).2.2 (w9.setCell ⟨g, 9, none⟩ (.slice A9 (j + 1) c9))) := Lib.hid hs9
          clear ho9 hg9 ho9b hs9
          refine hK.out _ _ ?_
          clear hK K
          try simp only [Act.put, List.setIfInBounds_toArray, List.set_cons_zero, List.set_cons_succ]
          refine alongT_take (v := ?_) rfl (by rfl) ?_ ?_
          rotate_left
          · intro W; go_simp; try with_reducible rfl
          try simp only [Act.put, List.setIfInBounds_toArray, List.set_cons_zero, List.set_cons_succ]
          refine alongT_one rfl (fun K hK => ?_)
          go_simp
          refine hK.out _ _ ?_
          clear hK K
          try simp only [Act.put, List.setIfInBounds_toArray, List.set_cons_zero, List.set_cons_succ]
          refine alongT_done ?_
          go_wp2_with fail
          go_roundw
          case rel => exact ⟨j + 1, A9, c9, by omega, by go_num, HS9⟩
          case measure => simp [intOf]; omega
        · go_simp
          refine (P.out).mono ?_
          rintro en w8 ⟨rfl, hr8, ho8⟩
          have S8 := Lib.hid (HR.out.below (Below.refl _ _).drew |>.read hr8 ho8)
          have HOw8 := Lib.hid (own2_only (own2_below HOw.out (Below.refl _ _).drew) ho8 (by have := HR.out.lt; omega))
          have cb : w8.cell? ⟨g, 9, none⟩ = some (.slice A j c) := S8.out.bx.at_ 9
          have cc : ∀ o, (w8.alloc o).cell? ⟨g, 9, none⟩ = some (.slice A j c) := fun o => (S8.out.below ((Below.refl _ _).alloc (Nat.le_refl _) o)).bx.at_ 9
          clear hr8 ho8
          refine hK.out _ _ ?_
          clear hK K
          try simp only [Act.put, List.setIfInBounds_toArray, List.set_cons_zero, List.set_cons_succ]
          refine alongT_two rfl rfl (fun K hK => ?_) (fun K hK => ?_)
          · go_simp
            refine hK.out _ _ ?_
            clear hK K
            try simp only [Act.put, List.setIfInBounds_toArray, List.set_cons_zero, List.set_cons_succ]
            refine alongT_one rfl (fun K hK => ?_)
            go_simp
            refine hK.out _ _ ?_
            clear hK K
            try simp only [Act.put, List.setIfInBounds_toArray, List.set_cons_zero, List.set_cons_succ]
            refine alongT_one rfl (fun K hK => ?_)
            refine step_append_elem2 peerT2 fPeer_one _ _ rfl rfl (g + 1) _ j _ q rfl rfl rfl HOw8.out (by omega) S8.out.glt ?_
            intro v9 w9 ho9 hg9
            obtain ⟨A9, c9, rfl⟩ := own_shape ho9
            have ho9b : w9.ownsRow (g + 1) 26 2 (.slice A9 (j + 1) c9) (Fm.many Fm.peer (j + 1) l1 e1).1.length (two fPeer (Fm.many Fm.peer (j + 1) l1 e1).1) := by
              rw [Fm.many_length, show (Fm.many Fm.peer (j + 1) l1 e1).1 = (Fm.many Fm.peer j l1 e1).1 ++ [q] by rw [← hq.out]; rfl, two_append]
              exact ho9
            obtain ⟨⟨d9, f9⟩, hs9⟩ := S8.out.growPeers HQE.out (Fm.many Fm.peer (j + 1) l1 e1).1 hg9 ho9b
            have HS9 : Hid (Sx w3 r g { M0 with peers := (Fm.many Fm.peer (j + 1) l1 e1).1 } (.slice A9 (j + 1) c9) (.slice none 0 0) (Fm.many Fm.peer (j + 1) l1 e1).2.1 (Fm.many Fm.peer (j + 1) l1 e1).2.2 (w9.setCell ⟨g, 9, none⟩ (.slice A9 (j + 1) c9))) := Lib.hid hs9
            clear ho9 hg9 ho9b hs9
            refine hK.out _ _ ?_
            clear hK K
            try simp only [Act.put, List.setIfInBounds_toArray, List.set_cons_zero, List.set_cons_succ]
            refine alongT_take (v := ?_) rfl (by rfl) ?_ ?_
            rotate_left
            · intro W; go_simp; try with_reducible rfl
            try simp only [Act.put, List.setIfInBounds_toArray, List.set_cons_zero, List.set_cons_succ]
            refine alongT_one rfl (fun K hK => ?_)
            go_simp
            refine hK.out _ _ ?_
            clear hK K
            try simp only [Act.put, List.setIfInBounds_toArray, List.set_cons_zero, List.set_cons_succ]
            refine alongT_done ?_
            go_wp2_with fail
            go_roundw
            case rel => exact ⟨j + 1, A9, c9, by omega, by go_num, HS9⟩
            case measure => simp [intOf]; omega
          · go_simp
            refine hK.out _ _ ?_
            clear hK K
            try simp only [Act.put, List.setIfInBounds_toArray, List.set_cons_zero, List.set_cons_succ]
            refine alongT_one rfl (fun K hK => ?_)
            go_simp
            refine hK.out _ _ ?_
            clear hK K
            try simp only [Act.put, List.setIfInBounds_toArray, List.set_cons_zero, List.set_cons_succ]
            refine alongT_one rfl (fun K hK => ?_)
            refine step_append_elem2 peerT2 fPeer_one _ _ rfl rfl (g + 1) _ j _ q rfl rfl rfl HOw8.out (by omega) S8.out.glt ?_
            intro v9 w9 ho9 hg9
            obtain ⟨A9, c9, rfl⟩ := own_shape ho9
            have ho9b : w9.ownsRow (g + 1) 26 2 (.slice A9 (j + 1) c9) (Fm.many Fm.peer (j + 1) l1 e1).1.length (two fPeer (Fm.many Fm.peer (j + 1) l1 e1).1) := by
              rw [Fm.many_length, show (Fm.many Fm.peer (j + 1) l1 e1).1 = (Fm.many Fm.peer j l1 e1).1 ++ [q] by rw [← hq.out]; rfl, two_append]
              exact ho9
            obtain ⟨⟨d9, f9⟩, hs9⟩ := S8.out.growPeers HQE.out (Fm.many Fm.peer (j + 1) l1 e1).1 hg9 ho9b
            have HS9 : Hid (Sx w3 r g { M0 with peers := (Fm.many Fm.peer (j + 1) l1 e1).1 } (.slice A9 (j + 1) c9) (.slice none 0 0) (Fm.many Fm.peer (j + 1) l1 e1).2.1 (Fm.many Fm.peer (j + 1) l1 e1).2.2 (w9.setCell ⟨g, 9, none⟩ (.slice A9 (j + 1) c9))) := Lib.hid hs9
            clear ho9 hg9 ho9b hs9
            refine hK.out _ _ ?_
            clear hK K
            try simp only [Act.put, List.setIfInBounds_toArray, List.set_cons_zero, List.set_cons_succ]
            refine alongT_take (v := ?_) rfl (by rfl) ?_ ?_
            rotate_left
            · intro W; go_simp; try with_reducible rfl
            try simp only [Act.put, List.setIfInBounds_toArray, List.set_cons_zero, List.set_cons_succ]
            refine alongT_one rfl (fun K hK => ?_)
            go_simp
            refine hK.out _ _ ?_
            clear hK K
            try simp only [Act.put, List.setIfInBounds_toArray, List.set_cons_zero, List.set_cons_succ]
            refine alongT_done ?_
            go_wp2_with fail
            go_roundw
            case rel => exact ⟨j + 1, A9, c9, by omega, by go_num, HS9⟩
            case measure => simp [intOf]; omega
      · have hjn : j = n := by omega
        subst hjn
        have HEnd : Hid (Sx w3 r g { M0 with peers := (Fm.peers (Bm.flag l e).2.1 (Bm.flag l e).2.2).1 } (.slice A j c) (.slice none 0 0) (Fm.peers (Bm.flag l e).2.1 (Bm.flag l e).2.2).2.1 (Fm.peers (Bm.flag l e).2.1 (Bm.flag l e).2.2).2.2 wr) := Lib.hid (by rw [HL2.out]; exact HR.out)
        rw [← hM0.out] at HEnd
        have HFin : Hid (Sx w3 r g (Fm.read p).1 (.slice A j c) (.slice none 0 0) (Fm.read p).2.1 (Fm.read p).2.2 wr) := Lib.hid (by
          have hh := HEnd.out
          rw [HRD.out, HOWN.out]
          exact hh)
        have c0_3 : wr.cell? ⟨g, 0, none⟩ = some (.int .i64 4) := (Bx.cells HEnd.out.bx).1
        have c3_3 : wr.cell? ⟨g, 3, none⟩ = some (.bool false) := (Bx.cells HEnd.out.bx).2.2.2.1
        have HE := Lib.hid (curend_any HFin.out.rd)
        rw [← HFN.out] at HE
        have HYF := Lib.hid (HY3.out.but2 HFin.out.but (by omega) (by omega))
        have HBF := Lib.hid (HB3.out.trans (HFin.out.but.below (B := y) (by omega) (by omega) (by have := HFin.out.top; have := HS3z.out; omega)))
        obtain ⟨x, hx⟩ : ∃ x, Hid (Fm.fin p = x) := ⟨_, rfl⟩
        rw [hx.out] at HE HD1 HD2 HD3 HSO
        by_cases hx0 : x = 0
        case neg =>
          have E := HD1.out hx0
          subst E
          have hne : (x != 0) = true := by simpa using hx0
          have hne2 : (x == 0) = false := by simpa using hx0
          go_wp2_with fail
          refine (HE.out).mono ?_
          rintro en w7 ⟨rfl, kd, rfl⟩
          have HYG : Hid (Whole (wr.drewN kd) y 30 #[.int .i64 0, .int .u32 0, .int .u8 0, .bool false, .int .u64 0, .string ⟨#[]⟩, .string ⟨#[]⟩, .int .u64 0, .int .u16 0, .slice none 0 0, .slice none 0 0]) := Lib.hid HYF.out
          have HBG := Lib.hid (HBF.out.trans (show Below y wr (wr.drewN kd) from ⟨rfl, rfl, rfl, Nat.le_refl _, fun _ _ => rfl⟩))
          go_wp2_with (refine wpList_store_whole rfl rfl rfl rfl rfl HYG.out (msgI rfl) rfl (by simp [Value.oneCell']) ?_)
          refine bodyPost_ret (v := .tuple #[.agg #[.int .i64 0, .int .u32 0, .int .u8 0, .bool false, .int .u64 0, .string ⟨#[]⟩, .string ⟨#[]⟩, .int .u64 0, .int .u16 0, .slice none 0 0, .slice none 0 0], .int .i64 x]) ?_ rfl ⟨_, rfl, mv_zero _ _, ?_⟩
          · exact results_cell_row2 rfl rfl rfl (HYG.out.row _) Tryd.underlying30 rfl (msgI rfl)
          · rw [hy]; exact below_row HBG.out (Nat.le_refl _) _
        subst hx0
        have okM := HSO.out rfl
        obtain ⟨M, hM⟩ : ∃ M, Hid ((Fm.read p).1 = M) := ⟨_, rfl⟩
        rw [hM.out] at HFin HD2 HD3 okM
        obtain ⟨Ap, cp, Aq, cq, hbx, hop, hoq⟩ := HFin.out.ends
        have HBx := Lib.hid hbx
        have HOp := Lib.hid hop
        have HOq := Lib.hid hoq
        have hkd : ∀ kd, Below wr.heap.size wr (wr.drewN kd) := fun kd => ⟨rfl, rfl, rfl, Nat.le_refl _, fun _ _ => rfl⟩
        have hmv : ∀ kd, Mv (wr.drewN kd) (wr.drewN kd).heap.size M (.agg #[.int .i64 M.kind, .int .u32 (M.rid : Int), .int .u8 (M.code : Int), .bool M.has, .int .u64 (M.id : Int), .string M.key, .string M.val, .int .u64 (M.pid : Int), .int .u16 (M.pad : Int), .slice Ap M.peers.length cp, .slice Aq M.pairs.length cq]) := fun kd => ⟨⟨_, _, rfl, Sl.of_own (own2_below HOp.out (hkd kd)), Sl.of_own (own2_below HOq.out (hkd kd))⟩, okM⟩
        have hlp := ok_few okM hx.out hM.out
        have HR2 := Lib.hid (fun kd => rright_any (hmv kd) hlp.1 hlp.2)
        obtain ⟨rr, hrr⟩ : ∃ rr, Hid (right M = rr) := ⟨_, rfl⟩
        rw [hrr.out] at HR2 HD2 HD3
        have HKD := Lib.hid hkd
        clear hbx hop hoq hmv hlp hkd
        by_cases hr0 : rr = 0
        case neg =>
          have E := HD3.out rfl hr0
          subst E
          have hlt : ¬ (rr : Int) = 0 := by omega
          go_wp2_with fail
          refine (HE.out).mono ?_
          rintro en w7 ⟨rfl, kd, rfl⟩
          have HBxk : Hid (Bx (wr.drewN kd) g M (.slice Ap M.peers.length cp) (.slice Aq M.pairs.length cq)) := Lib.hid HBx.out
          go_wp2_with (refine wpList_load_struct Tryd.underlying30 (msgI rfl) rfl rfl rfl HBxk.out.load ?_)
          refine (HR2.out kd).mono ?_
          rintro en w8 ⟨rfl, hb8⟩
          have HY8 := Lib.hid (HYF.out.below ((HKD.out kd).trans hb8) HYF.out.lt)
          have HB8 := Lib.hid (HBF.out.trans (((HKD.out kd).trans hb8).mono (by have := HYF.out.lt; omega)))
          clear hb8
          go_wp2_with (refine wpList_store_whole rfl rfl rfl rfl rfl HY8.out (msgI rfl) rfl (by simp [Value.oneCell']) ?_)
          refine bodyPost_ret (v := .tuple #[.agg #[.int .i64 0, .int .u32 0, .int .u8 0, .bool false, .int .u64 0, .string ⟨#[]⟩, .string ⟨#[]⟩, .int .u64 0, .int .u16 0, .slice none 0 0, .slice none 0 0], .int .i64 (rr : Int)]) ?_ rfl ⟨_, rfl, mv_zero _ _, ?_⟩
          · exact results_cell_row2 rfl rfl rfl (HY8.out.row _) Tryd.underlying30 rfl (msgI rfl)
          · rw [hy]; exact below_row HB8.out (Nat.le_refl _) _
        subst hr0
        have E := HD2.out rfl rfl
        subst E
        go_wp2_with fail
        refine (HE.out).mono ?_
        rintro en w7 ⟨rfl, kd, rfl⟩
        have HBxk : Hid (Bx (wr.drewN kd) g M (.slice Ap M.peers.length cp) (.slice Aq M.pairs.length cq)) := Lib.hid HBx.out
        go_wp2_with (refine wpList_load_struct Tryd.underlying30 (msgI rfl) rfl rfl rfl HBxk.out.load ?_)
        refine (HR2.out kd).mono ?_
        rintro en w8 ⟨rfl, hb8⟩
        have HY8 := Lib.hid (HYF.out.below ((HKD.out kd).trans hb8) HYF.out.lt)
        have HB8 := Lib.hid (HBF.out.trans (((HKD.out kd).trans hb8).mono (by have := HYF.out.lt; omega)))
        have HOp8 := Lib.hid (own2_below HOp.out ((HKD.out kd).trans hb8))
        have HOq8 := Lib.hid (own2_below HOq.out ((HKD.out kd).trans hb8))
        have HBx8 : Hid (Bx w8 g M (.slice Ap M.peers.length cp) (.slice Aq M.pairs.length cq)) := Lib.hid (HBx.out.below ((HKD.out kd).trans hb8) (Whole.lt HBx.out))
        clear hb8
        go_wp2_with (first | (refine wpList_load_struct Tryd.underlying30 (msgI rfl) rfl rfl rfl HBx8.out.load ?_) | (refine wpList_store_whole rfl rfl rfl rfl rfl HY8.out (msgI rfl) rfl (by simp [Value.oneCell']) ?_))
        refine bodyPost_ret (v := .tuple #[.agg #[.int .i64 M.kind, .int .u32 (M.rid : Int), .int .u8 (M.code : Int), .bool M.has, .int .u64 (M.id : Int), .string M.key, .string M.val, .int .u64 (M.pid : Int), .int .u16 (M.pad : Int), .slice Ap M.peers.length cp, .slice Aq M.pairs.length cq], .int .i64 0]) ?_ rfl ⟨_, rfl, ⟨⟨_, _, rfl, ?_, ?_⟩, okM⟩, ?_⟩
        · exact results_cell_row2 rfl rfl rfl (HY8.out.row _) Tryd.underlying30 rfl (msgI rfl)
        · exact Sl.of_own (own2_from HOp8.out (fun i hi _ => setRow_other w8 y i _ (by omega)))
        · exact Sl.of_own (own2_from HOq8.out (fun i hi _ => setRow_other w8 y i _ (by omega)))
        · rw [hy]; exact below_row HB8.out (Nat.le_refl _) _
  · have HOWN := Lib.hid (HF.out hx1.out)
    have c0_2 : w1b.cell? ⟨g, 0, none⟩ = some (.int .i64 4) := (Bx.cells HT1.out.bx).1
    have c3_2 : w1b.cell? ⟨g, 3, none⟩ = some (.bool true) := (Bx.cells HT1.out.bx).2.2.2.1
    have C2 := Lib.hid (rone_any HT1.out.rd)
    go_wp2_with fail
    refine (C2.out).mono ?_
    rintro en w2a ⟨rfl, hr2, ho2⟩
    have S2 := HT1.out.read hr2 ho2
    obtain ⟨x2, hx2⟩ : ∃ x, Hid ((Fm.peer (Bm.flag l e).2.1 (Bm.flag l e).2.2).1.1 = x) := ⟨_, rfl⟩
    obtain ⟨y2, hy2⟩ : ∃ x, Hid ((Fm.peer (Bm.flag l e).2.1 (Bm.flag l e).2.2).1.2 = x) := ⟨_, rfl⟩
    rw [hx2.out, hy2.out]
    have z2_0 := (Bx.cells S2.bx).2.2.2.2.2.2.2.1
    have f2_0 : w2a.frozen? ⟨g, 7, none⟩ = false := Whole.free S2.bx 7
    have T2_0 := S2.setPid x2
    obtain ⟨w2m, hw2_0⟩ : ∃ W, w2a.setCell ⟨g, 7, none⟩ (.int .u64 (x2 : Int)) = W := ⟨_, rfl⟩
    rw [hw2_0] at T2_0
    have z2_1 := (Bx.cells T2_0.bx).2.2.2.2.2.2.2.2.1
    have f2_1 : w2m.frozen? ⟨g, 8, none⟩ = false := Whole.free T2_0.bx 8
    have T2_1 := T2_0.setPad y2
    obtain ⟨w2b, hw2_1⟩ : ∃ W, w2m.setCell ⟨g, 8, none⟩ (.int .u16 (y2 : Int)) = W := ⟨_, rfl⟩
    rw [hw2_1] at T2_1
    have HT2 := Lib.hid T2_1
    clear hr2 ho2 S2 T2_0 T2_1
    clear c0_2 c3_2
    have c0_3 : w2b.cell? ⟨g, 0, none⟩ = some (.int .i64 4) := (Bx.cells HT2.out.bx).1
    have c3_3 : w2b.cell? ⟨g, 3, none⟩ = some (.bool true) := (Bx.cells HT2.out.bx).2.2.2.1
    have C3 := Lib.hid (rcount_any 16 (by omega) HT2.out.rd)
    have hc3 := Fm.count_lt (k := 1) (Fm.peer (Bm.flag l e).2.1 (Bm.flag l e).2.2).2.1 (Fm.peer (Bm.flag l e).2.1 (Bm.flag l e).2.2).2.2 16 1
    have HL3 : Hid (Fm.peers (Fm.peer (Bm.flag l e).2.1 (Bm.flag l e).2.2).2.1 (Fm.peer (Bm.flag l e).2.1 (Bm.flag l e).2.2).2.2 = Fm.many Fm.peer (Fm.count 1 16 (Fm.peer (Bm.flag l e).2.1 (Bm.flag l e).2.2).2.1 (Fm.peer (Bm.flag l e).2.1 (Bm.flag l e).2.2).2.2).1 (Fm.count 1 16 (Fm.peer (Bm.flag l e).2.1 (Bm.flag l e).2.2).2.1 (Fm.peer (Bm.flag l e).2.1 (Bm.flag l e).2.2).2.2).2.1 (Fm.count 1 16 (Fm.peer (Bm.flag l e).2.1 (Bm.flag l e).2.2).2.1 (Fm.peer (Bm.flag l e).2.1 (Bm.flag l e).2.2).2.2).2.2) := rfl
    obtain ⟨cc, hcc⟩ : ∃ cc, Hid (Fm.count 1 16 (Fm.peer (Bm.flag l e).2.1 (Bm.flag l e).2.2).2.1 (Fm.peer (Bm.flag l e).2.1 (Bm.flag l e).2.2).2.2 = cc) := ⟨_, rfl⟩
    obtain ⟨n, l1, e1⟩ := cc
    rw [hcc.out] at C3 hc3 HL3
    simp only at C3 hc3 HL3
    go_wp2_with fail
    refine (C3.out).mono ?_
    rintro en w3a ⟨rfl, hr3, ho3⟩
    have HS3 := Lib.hid (HT2.out.read hr3 ho3)
    clear hr3 ho3
    clear c0_3 c3_3
    have c0_3 : w3a.cell? ⟨g, 0, none⟩ = some (.int .i64 4) := (Bx.cells HS3.out.bx).1
    have c3_3 : w3a.cell? ⟨g, 3, none⟩ = some (.bool true) := (Bx.cells HS3.out.bx).2.2.2.1
    go_wp2_with fail
    obtain ⟨M0, hM0⟩ : ∃ M0 : Ms, Hid (({ Fm.bald 4 rid with has := true, pid := x2, pad := y2 } : Ms) = M0) := ⟨_, rfl⟩
    have hpe3 : M0.peers = [] := by rw [← hM0.out] <;> rfl
    have hqe3 : M0.pairs = [] := by rw [← hM0.out] <;> rfl
    have hki3 : M0.kind = 4 := by rw [← hM0.out] <;> rfl
    have hha3 : M0.has = true := by rw [← hM0.out] <;> rfl
    have HS3m : Hid (Sx w3 r g { M0 with peers := [] } (.slice none 0 0) (.slice none 0 0) l1 e1 w3a) := Lib.hid (by have h := HS3.out; rw [show { M0 with peers := [] } = ({ Fm.bald 4 rid with has := true, pid := x2, pad := y2 } : Ms) by rw [← hM0.out] <;> rfl]; exact h)
    have HKI := Lib.hid hki3
    have HPE := Lib.hid hpe3
    have HQE := Lib.hid hqe3
    have HHA := Lib.hid hha3
    clear hki3 hpe3 hqe3 hha3
    clear c0_3 c3_3
    go_loopw [7] (fun vi wr => ∃ (j : Nat) (A : Option Addr) (c : Nat), j ≤ n ∧ vi = .int .i64 j ∧ Hid (Sx w3 r g { M0 with peers := (Fm.many Fm.peer j l1 e1).1 } (.slice A j c) (.slice none 0 0) (Fm.many Fm.peer j l1 e1).2.1 (Fm.many Fm.peer j l1 e1).2.2 wr)) (fun vi _ => n - (intOf vi).toNat)
    case atStart => exact ⟨0, none, 0, by omega, rfl, HS3m⟩
    case round =>
      obtain ⟨j, A, c, hj, rfl, HR⟩ := hrel
      by_cases hlt : j < n
      · have HLj := Fm.many_length Fm.peer j l1 e1
        have P := Lib.hid (rone_any (HR.out.rd.drew))
        have ca : wr.drew.cell? ⟨g, 9, none⟩ = some (.slice A j c) := HR.out.bx.at_ 9
        obtain ⟨q, hq⟩ : ∃ q : Nat × Nat, Hid ((Fm.peer (Fm.many Fm.peer j l1 e1).2.1 (Fm.many Fm.peer j l1 e1).2.2).1 = q) := ⟨_, rfl⟩
        rw [hq.out] at P
        have hown := HR.out.peers
        simp only at hown
        rw [HLj] at hown
        have HOw := Lib.hid hown
        have HML := Lib.hid HLj
        clear hown HLj
        go_wp2_with fail
        refine wp_region_tree (.take 0 (.take 2 (.two 1 3 (.one 3 (.one 4 (.one 5 (.take 6 (.one 7 .nil))))) (.two 1 4 (.one 4 (.one 5 (.take 6 (.one 7 .nil)))) (.one 1 (.one 5 (.take 6 (.one 7 .nil)))))))) (by kernel_rfl) (by kernel_rfl) rfl (by kernel_rfl) (fun _ _ _ _ _ h => h) ?_
        iterate 2
          refine alongT_take (v := ?_) rfl (by rfl) ?_ ?_
          rotate_left
          · intro W; go_simp; try with_reducible rfl
          try simp only [Act.put, List.setIfInBounds_toArray, List.set_cons_zero, List.set_cons_succ]
        refine alongT_two rfl rfl (fun K hK => ?_) (fun K hK => ?_)
        · go_simp
          refine hK.out _ _ ?_
          clear hK K
          try simp only [Act.put, List.setIfInBounds_toArray, List.set_cons_zero, List.set_cons_succ]
          refine alongT_one rfl (fun K hK => ?_)
          go_simp
          refine (P.out).mono ?_
          rintro en w8 ⟨rfl, hr8, ho8⟩
          have S8 := Lib.hid (HR.out.below (Below.refl _ _).drew |>.read hr8 ho8)
          have HOw8 := Lib.hid (own2_only (own2_below HOw.out (Below.refl _ _).drew) ho8 (by have := HR.out.lt; omega))
          have cb : w8.cell? ⟨g, 9, none⟩ = some (.slice A j c) := S8.out.bx.at_ 9
          have cc : ∀ o, (w8.alloc o).cell? ⟨g, 9, none⟩ = some (.slice A j c) := fun o => (S8.out.below ((Below.refl _ _).alloc (Nat.le_refl _) o)).bx.at_ 9
          clear hr8 ho8
          refine hK.out _ _ ?_
          clear hK K
          try simp only [Act.put, List.setIfInBounds_toArray, List.set_cons_zero, List.set_cons_succ]
          refine alongT_one rfl (fun K hK => ?_)
          go_simp
          refine hK.out _ _ ?_
          clear hK K
          try simp only [Act.put, List.setIfInBounds_toArray, List.set_cons_zero, List.set_cons_succ]
          refine alongT_one rfl (fun K hK => ?_)
          refine step_append_elem2 peerT2 fPeer_one _ _ rfl rfl (g + 1) _ j _ q rfl rfl rfl HOw8.out (by omega) S8.out.glt ?_
          intro v9 w9 ho9 hg9
          obtain ⟨A9, c9, rfl⟩ := own_shape ho9
          have ho9b : w9.ownsRow (g + 1) 26 2 (.slice A9 (j + 1) c9) (Fm.many Fm.peer (j + 1) l1 e1).1.length (two fPeer (Fm.many Fm.peer (j + 1) l1 e1).1) := by
            rw [Fm.many_length, show (Fm.many Fm.peer (j + 1) l1 e1).1 = (Fm.many Fm.peer j l1 e1).1 ++ [q] by rw [← hq.out]; rfl, two_append]
            exact ho9
          obtain ⟨⟨d9, f9⟩, hs9⟩ := S8.out.growPeers HQE.out (Fm.many Fm.peer (j + 1) l1 e1).1 hg9 ho9b
          have HS9 : Hid (Sx w3 r g { M0 with peers := (Fm.many Fm.peer (j + 1) l1 e1).1 } (.slice A9 (j + 1) c9) (.slice none 0 0) (Fm.many Fm.peer (j + 1) l1 e1).2.1 (Fm.many Fm.peer (j + 1) l1 e1).2.2 (w9.setCell ⟨g, 9, none⟩ (.slice A9 (j + 1) c9))) := Lib.hid hs9
          clear ho9 hg9 ho9b hs9
          refine hK.out _ _ ?_
          clear hK K
          try simp only [Act.put, List.setIfInBounds_toArray, List.set_cons_zero, List.set_cons_succ]
          refine alongT_take (v := ?_) rfl (by rfl) ?_ ?_
          rotate_left
          · intro W; go_simp; try with_reducible rfl
          try simp only [Act.put, List.setIfInBounds_toArray, List.set_cons_zero, List.set_cons_succ]
          refine alongT_one rfl (fun K hK => ?_)
          go_simp
          refine hK.out _ _ ?_
          clear hK K
          try simp only [Act.put, List.setIfInBounds_toArray, List.set_cons_zero, List.set_cons_succ]
          refine alongT_done ?_
          go_wp2_with fail
          go_roundw
          case rel => exact ⟨j + 1, A9, c9, by omega, by go_num, HS9⟩
          case measure => simp [intOf]; omega
        · go_simp
          refine (P.out).mono ?_
          rintro en w8 ⟨rfl, hr8, ho8⟩
          have S8 := Lib.hid (HR.out.below (Below.refl _ _).drew |>.read hr8 ho8)
          have HOw8 := Lib.hid (own2_only (own2_below HOw.out (Below.refl _ _).drew) ho8 (by have := HR.out.lt; omega))
          have cb : w8.cell? ⟨g, 9, none⟩ = some (.slice A j c) := S8.out.bx.at_ 9
          have cc : ∀ o, (w8.alloc o).cell? ⟨g, 9, none⟩ = some (.slice A j c) := fun o => (S8.out.below ((Below.refl _ _).alloc (Nat.le_refl _) o)).bx.at_ 9
          clear hr8 ho8
          refine hK.out _ _ ?_
          clear hK K
          try simp only [Act.put, List.setIfInBounds_toArray, List.set_cons_zero, List.set_cons_succ]
          refine alongT_two rfl rfl (fun K hK => ?_) (fun K hK => ?_)
          · go_simp
            refine hK.out _ _ ?_
            clear hK K
            try simp only [Act.put, List.setIfInBounds_toArray, List.set_cons_zero, List.set_cons_succ]
            refine alongT_one rfl (fun K hK => ?_)
            go_simp
            refine hK.out _ _ ?_
            clear hK K
            try simp only [Act.put, List.setIfInBounds_toArray, List.set_cons_zero, List.set_cons_succ]
            refine alongT_one rfl (fun K hK => ?_)
            refine step_append_elem2 peerT2 fPeer_one _ _ rfl rfl (g + 1) _ j _ q rfl rfl rfl HOw8.out (by omega) S8.out.glt ?_
            intro v9 w9 ho9 hg9
            obtain ⟨A9, c9, rfl⟩ := own_shape ho9
            have ho9b : w9.ownsRow (g + 1) 26 2 (.slice A9 (j + 1) c9) (Fm.many Fm.peer (j + 1) l1 e1).1.length (two fPeer (Fm.many Fm.peer (j + 1) l1 e1).1) := by
              rw [Fm.many_length, show (Fm.many Fm.peer (j + 1) l1 e1).1 = (Fm.many Fm.peer j l1 e1).1 ++ [q] by rw [← hq.out]; rfl, two_append]
              exact ho9
            obtain ⟨⟨d9, f9⟩, hs9⟩ := S8.out.growPeers HQE.out (Fm.many Fm.peer (j + 1) l1 e1).1 hg9 ho9b
            have HS9 : Hid (Sx w3 r g { M0 with peers := (Fm.many Fm.peer (j + 1) l1 e1).1 } (.slice A9 (j + 1) c9) (.slice none 0 0) (Fm.many Fm.peer (j + 1) l1 e1).2.1 (Fm.many Fm.peer (j + 1) l1 e1).2.2 (w9.setCell ⟨g, 9, none⟩ (.slice A9 (j + 1) c9))) := Lib.hid hs9
            clear ho9 hg9 ho9b hs9
            refine hK.out _ _ ?_
            clear hK K
            try simp only [Act.put, List.setIfInBounds_toArray, List.set_cons_zero, List.set_cons_succ]
            refine alongT_take (v := ?_) rfl (by rfl) ?_ ?_
            rotate_left
            · intro W; go_simp; try with_reducible rfl
            try simp only [Act.put, List.setIfInBounds_toArray, List.set_cons_zero, List.set_cons_succ]
            refine alongT_one rfl (fun K hK => ?_)
            go_simp
            refine hK.out _ _ ?_
            clear hK K
            try simp only [Act.put, List.setIfInBounds_toArray, List.set_cons_zero, List.set_cons_succ]
            refine alongT_done ?_
            go_wp2_with fail
            go_roundw
            case rel => exact ⟨j + 1, A9, c9, by omega, by go_num, HS9⟩
            case measure => simp [intOf]; omega
          · go_simp
            refine hK.out _ _ ?_
            clear hK K
            try simp only [Act.put, List.setIfInBounds_toArray, List.set_cons_zero, List.set_cons_succ]
            refine alongT_one rfl (fun K hK => ?_)
            go_simp
            refine hK.out _ _ ?_
            clear hK K
            try simp only [Act.put, List.setIfInBounds_toArray, List.set_cons_zero, List.set_cons_succ]
            refine alongT_one rfl (fun K hK => ?_)
            refine step_append_elem2 peerT2 fPeer_one _ _ rfl rfl (g + 1) _ j _ q rfl rfl rfl HOw8.out (by omega) S8.out.glt ?_
            intro v9 w9 ho9 hg9
            obtain ⟨A9, c9, rfl⟩ := own_shape ho9
            have ho9b : w9.ownsRow (g + 1) 26 2 (.slice A9 (j + 1) c9) (Fm.many Fm.peer (j + 1) l1 e1).1.length (two fPeer (Fm.many Fm.peer (j + 1) l1 e1).1) := by
              rw [Fm.many_length, show (Fm.many Fm.peer (j + 1) l1 e1).1 = (Fm.many Fm.peer j l1 e1).1 ++ [q] by rw [← hq.out]; rfl, two_append]
              exact ho9
            obtain ⟨⟨d9, f9⟩, hs9⟩ := S8.out.growPeers HQE.out (Fm.many Fm.peer (j + 1) l1 e1).1 hg9 ho9b
            have HS9 : Hid (Sx w3 r g { M0 with peers := (Fm.many Fm.peer (j + 1) l1 e1).1 } (.slice A9 (j + 1) c9) (.slice none 0 0) (Fm.many Fm.peer (j + 1) l1 e1).2.1 (Fm.many Fm.peer (j + 1) l1 e1).2.2 (w9.setCell ⟨g, 9, none⟩ (.slice A9 (j + 1) c9))) := Lib.hid hs9
            clear ho9 hg9 ho9b hs9
            refine hK.out _ _ ?_
            clear hK K
            try simp only [Act.put, List.setIfInBounds_toArray, List.set_cons_zero, List.set_cons_succ]
            refine alongT_take (v := ?_) rfl (by rfl) ?_ ?_
            rotate_left
            · intro W; go_simp; try with_reducible rfl
            try simp only [Act.put, List.setIfInBounds_toArray, List.set_cons_zero, List.set_cons_succ]
            refine alongT_one rfl (fun K hK => ?_)
            go_simp
            refine hK.out _ _ ?_
            clear hK K
            try simp only [Act.put, List.setIfInBounds_toArray, List.set_cons_zero, List.set_cons_succ]
            refine alongT_done ?_
            go_wp2_with fail
            go_roundw
            case rel => exact ⟨j + 1, A9, c9, by omega, by go_num, HS9⟩
            case measure => simp [intOf]; omega
      · have hjn : j = n := by omega
        subst hjn
        have HEnd : Hid (Sx w3 r g { M0 with peers := (Fm.peers (Fm.peer (Bm.flag l e).2.1 (Bm.flag l e).2.2).2.1 (Fm.peer (Bm.flag l e).2.1 (Bm.flag l e).2.2).2.2).1 } (.slice A j c) (.slice none 0 0) (Fm.peers (Fm.peer (Bm.flag l e).2.1 (Bm.flag l e).2.2).2.1 (Fm.peer (Bm.flag l e).2.1 (Bm.flag l e).2.2).2.2).2.1 (Fm.peers (Fm.peer (Bm.flag l e).2.1 (Bm.flag l e).2.2).2.1 (Fm.peer (Bm.flag l e).2.1 (Bm.flag l e).2.2).2.2).2.2 wr) := Lib.hid (by rw [HL3.out]; exact HR.out)
        rw [← hM0.out] at HEnd
        have HFin : Hid (Sx w3 r g (Fm.read p).1 (.slice A j c) (.slice none 0 0) (Fm.read p).2.1 (Fm.read p).2.2 wr) := Lib.hid (by
          have hh := HEnd.out
          rw [HRD.out, HOWN.out]
          rw [← hx2.out, ← hy2.out] at hh
          exact hh)
        have c0_4 : wr.cell? ⟨g, 0, none⟩ = some (.int .i64 4) := (Bx.cells HEnd.out.bx).1
        have c3_4 : wr.cell? ⟨g, 3, none⟩ = some (.bool true) := (Bx.cells HEnd.out.bx).2.2.2.1
        have HE := Lib.hid (curend_any HFin.out.rd)
        rw [← HFN.out] at HE
        have HYF := Lib.hid (HY3.out.but2 HFin.out.but (by omega) (by omega))
        have HBF := Lib.hid (HB3.out.trans (HFin.out.but.below (B := y) (by omega) (by omega) (by have := HFin.out.top; have := HS3z.out; omega)))
        obtain ⟨x, hx⟩ : ∃ x, Hid (Fm.fin p = x) := ⟨_, rfl⟩
        rw [hx.out] at HE HD1 HD2 HD3 HSO
        by_cases hx0 : x = 0
        case neg =>
          have E := HD1.out hx0
          subst E
          have hne : (x != 0) = true := by simpa using hx0
          have hne2 : (x == 0) = false := by simpa using hx0
          go_wp2_with fail
          refine (HE.out).mono ?_
          rintro en w7 ⟨rfl, kd, rfl⟩
          have HYG : Hid (Whole (wr.drewN kd) y 30 #[.int .i64 0, .int .u32 0, .int .u8 0, .bool false, .int .u64 0, .string ⟨#[]⟩, .string ⟨#[]⟩, .int .u64 0, .int .u16 0, .slice none 0 0, .slice none 0 0]) := Lib.hid HYF.out
          have HBG := Lib.hid (HBF.out.trans (show Below y wr (wr.drewN kd) from ⟨rfl, rfl, rfl, Nat.le_refl _, fun _ _ => rfl⟩))
          go_wp2_with (refine wpList_store_whole rfl rfl rfl rfl rfl HYG.out (msgI rfl) rfl (by simp [Value.oneCell']) ?_)
          refine bodyPost_ret (v := .tuple #[.agg #[.int .i64 0, .int .u32 0, .int .u8 0, .bool false, .int .u64 0, .string ⟨#[]⟩, .string ⟨#[]⟩, .int .u64 0, .int .u16 0, .slice none 0 0, .slice none 0 0], .int .i64 x]) ?_ rfl ⟨_, rfl, mv_zero _ _, ?_⟩
          · exact results_cell_row2 rfl rfl rfl (HYG.out.row _) Tryd.underlying30 rfl (msgI rfl)
          · rw [hy]; exact below_row HBG.out (Nat.le_refl _) _
        subst hx0
        have okM := HSO.out rfl
        obtain ⟨M, hM⟩ : ∃ M, Hid ((Fm.read p).1 = M) := ⟨_, rfl⟩
        rw [hM.out] at HFin HD2 HD3 okM
        obtain ⟨Ap, cp, Aq, cq, hbx, hop, hoq⟩ := HFin.out.ends
        have HBx := Lib.hid hbx
        have HOp := Lib.hid hop
        have HOq := Lib.hid hoq
        have hkd : ∀ kd, Below wr.heap.size wr (wr.drewN kd) := fun kd => ⟨rfl, rfl, rfl, Nat.le_refl _, fun _ _ => rfl⟩
        have hmv : ∀ kd, Mv (wr.drewN kd) (wr.drewN kd).heap.size M (.agg #[.int .i64 M.kind, .int .u32 (M.rid : Int), .int .u8 (M.code : Int), .bool M.has, .int .u64 (M.id : Int), .string M.key, .string M.val, .int .u64 (M.pid : Int), .int .u16 (M.pad : Int), .slice Ap M.peers.length cp, .slice Aq M.pairs.length cq]) := fun kd => ⟨⟨_, _, rfl, Sl.of_own (own2_below HOp.out (hkd kd)), Sl.of_own (own2_below HOq.out (hkd kd))⟩, okM⟩
        have hlp := ok_few okM hx.out hM.out
        have HR2 := Lib.hid (fun kd => rright_any (hmv kd) hlp.1 hlp.2)
        obtain ⟨rr, hrr⟩ : ∃ rr, Hid (right M = rr) := ⟨_, rfl⟩
        rw [hrr.out] at HR2 HD2 HD3
        have HKD := Lib.hid hkd
        clear hbx hop hoq hmv hlp hkd
        by_cases hr0 : rr = 0
        case neg =>
          have E := HD3.out rfl hr0
          subst E
          have hlt : ¬ (rr : Int) = 0 := by omega
          go_wp2_with fail
          refine (HE.out).mono ?_
          rintro en w7 ⟨rfl, kd, rfl⟩
          have HBxk : Hid (Bx (wr.drewN kd) g M (.slice Ap M.peers.length cp) (.slice Aq M.pairs.length cq)) := Lib.hid HBx.out
          go_wp2_with (refine wpList_load_struct Tryd.underlying30 (msgI rfl) rfl rfl rfl HBxk.out.load ?_)
          refine (HR2.out kd).mono ?_
          rintro en w8 ⟨rfl, hb8⟩
          have HY8 := Lib.hid (HYF.out.below ((HKD.out kd).trans hb8) HYF.out.lt)
          have HB8 := Lib.hid (HBF.out.trans (((HKD.out kd).trans hb8).mono (by have := HYF.out.lt; omega)))
          clear hb8
          go_wp2_with (refine wpList_store_whole rfl rfl rfl rfl rfl HY8.out (msgI rfl) rfl (by simp [Value.oneCell']) ?_)
          refine bodyPost_ret (v := .tuple #[.agg #[.int .i64 0, .int .u32 0, .int .u8 0, .bool false, .int .u64 0, .string ⟨#[]⟩, .string ⟨#[]⟩, .int .u64 0, .int .u16 0, .slice none 0 0, .slice none 0 0], .int .i64 (rr : Int)]) ?_ rfl ⟨_, rfl, mv_zero _ _, ?_⟩
          · exact results_cell_row2 rfl rfl rfl (HY8.out.row _) Tryd.underlying30 rfl (msgI rfl)
          · rw [hy]; exact below_row HB8.out (Nat.le_refl _) _
        subst hr0
        have E := HD2.out rfl rfl
        subst E
        go_wp2_with fail
        refine (HE.out).mono ?_
        rintro en w7 ⟨rfl, kd, rfl⟩
        have HBxk : Hid (Bx (wr.drewN kd) g M (.slice Ap M.peers.length cp) (.slice Aq M.pairs.length cq)) := Lib.hid HBx.out
        go_wp2_with (refine wpList_load_struct Tryd.underlying30 (msgI rfl) rfl rfl rfl HBxk.out.load ?_)
        refine (HR2.out kd).mono ?_
        rintro en w8 ⟨rfl, hb8⟩
        have HY8 := Lib.hid (HYF.out.below ((HKD.out kd).trans hb8) HYF.out.lt)
        have HB8 := Lib.hid (HBF.out.trans (((HKD.out kd).trans hb8).mono (by have := HYF.out.lt; omega)))
        have HOp8 := Lib.hid (own2_below HOp.out ((HKD.out kd).trans hb8))
        have HOq8 := Lib.hid (own2_below HOq.out ((HKD.out kd).trans hb8))
        have HBx8 : Hid (Bx w8 g M (.slice Ap M.peers.length cp) (.slice Aq M.pairs.length cq)) := Lib.hid (HBx.out.below ((HKD.out kd).trans hb8) (Whole.lt HBx.out))
        clear hb8
        go_wp2_with (first | (refine wpList_load_struct Tryd.underlying30 (msgI rfl) rfl rfl rfl HBx8.out.load ?_) | (refine wpList_store_whole rfl rfl rfl rfl rfl HY8.out (msgI rfl) rfl (by simp [Value.oneCell']) ?_))
        refine bodyPost_ret (v := .tuple #[.agg #[.int .i64 M.kind, .int .u32 (M.rid : Int), .int .u8 (M.code : Int), .bool M.has, .int .u64 (M.id : Int), .string M.key, .string M.val, .int .u64 (M.pid : Int), .int .u16 (M.pad : Int), .slice Ap M.peers.length cp, .slice Aq M.pairs.length cq], .int .i64 0]) ?_ rfl ⟨_, rfl, ⟨⟨_, _, rfl, ?_, ?_⟩, okM⟩, ?_⟩
        · exact results_cell_row2 rfl rfl rfl (HY8.out.row _) Tryd.underlying30 rfl (msgI rfl)
        · exact Sl.of_own (own2_from HOp8.out (fun i hi _ => setRow_other w8 y i _ (by omega)))
        · exact Sl.of_own (own2_from HOq8.out (fun i hi _ => setRow_other w8 y i _ (by omega)))
        · rw [hy]; exact below_row HB8.out (Nat.le_refl _) _

end Go.Proofs.YtpfeccbnkgnioaaDoor
