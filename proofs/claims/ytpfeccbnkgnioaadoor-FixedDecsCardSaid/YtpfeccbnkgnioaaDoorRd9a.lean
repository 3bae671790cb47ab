/- Contract of the reference's Dec of layer 9, kinds 1 3 5 6 8 11. -/
import Derived.Test.YtpfeccbnkgnioaaDoorPJ
namespace Go.Proofs.YtpfeccbnkgnioaaDoor
open Go.RowKit
set_option linter.unusedVariables false
set_option maxRecDepth 100000
set_option linter.unusedSimpArgs false
open Gm

set_option maxHeartbeats 2000000 in
theorem rdec_1 {w : World} {B : Nat} {v : Value} {p : List Nat} (h : Piece w B v p) (hp : p.length ≤ 1000000000) (hb : ∀ x ∈ p, x < 256) (HK : Hid ((Bm.rfix p 0 1).1 = 1)) :
    Calls Tryd.prog 11 #[v] w (DecPost (Fm.dec p) w) := by
  obtain ⟨y, hy⟩ : ∃ y, w.heap.size = y := ⟨_, rfl⟩
  obtain ⟨w0, hal⟩ : ∃ w0, w.alloc (.cells #[.int .i64 0, .int .u32 0, .int .u8 0, .bool false, .int .u64 0, .string ⟨#[]⟩, .string ⟨#[]⟩, .int .u64 0, .int .u16 0, .slice none 0 0, .slice none 0 0] 30) = w0 := ⟨_, rfl⟩
  have hY : Whole w0 y 30 #[.int .i64 0, .int .u32 0, .int .u8 0, .bool false, .int .u64 0, .string ⟨#[]⟩, .string ⟨#[]⟩, .int .u64 0, .int .u16 0, .slice none 0 0, .slice none 0 0] := by rw [← hal, ← hy]; exact Whole.made _ _ _
  have hB0 : Below y w w0 := by rw [← hal]; exact (Below.refl y w).alloc (by omega) _
  obtain ⟨r, hr⟩ : ∃ r, w0.heap.size = r := ⟨_, rfl⟩
  have hyr : y < r := by rw [← hr, ← hal, ← hy]; simp
  have hpc : Piece w0 r v p := by have := h.kept (by rw [hy]; exact hB0); rw [hr] at this; exact this
  obtain ⟨A0, cap0, rfl, hsee, hnull, hcap, hmax⟩ := hpc
  obtain ⟨n0, hn0⟩ : ∃ n0, Hid (p.length = n0) := ⟨_, rfl⟩
  have hbb : Fm.Bytes p := hb
  have HBY := Lib.hid hbb
  obtain ⟨w1, hal1⟩ : ∃ w1, w0.alloc (.cells #[.slice A0 n0 cap0, .int .i64 0, .int .i64 0] 57) = w1 := ⟨_, rfl⟩
  have hcu : Cu w1 r r p 0 := cu_new hr hn0.out hsee hb (by have := hn0.out; omega) hmax hnull (by have := hn0.out; omega) hal1
  have HB1 : Hid (Below y w w1) := Lib.hid (hB0.trans (by rw [← hal1]; exact (Below.refl y w0).alloc (by omega) _))
  have HY1 : Hid (Whole w1 y 30 #[.int .i64 0, .int .u32 0, .int .u8 0, .bool false, .int .u64 0, .string ⟨#[]⟩, .string ⟨#[]⟩, .int .u64 0, .int .u16 0, .slice none 0 0, .slice none 0 0]) := Lib.hid (by rw [← hal1]; exact hY.alloc _)
  have hrl := hcu.lt
  have C1 := Lib.hid (curfix_any 1 (by omega) (by omega) hcu)
  rw [hn0.out] at hcap ⊢
  have HRD : Hid (Fm.read p = Fm.own (Bm.rfix p 0 1).1 ((Fm.ridR p).1 % 4294967296) (Fm.ridR p).2.1 (Fm.ridR p).2.2) := rfl
  have HFN : Hid (Fm.fin p = Bm.fin (Fm.read p).2.1 (Fm.read p).2.2) := rfl
  have HRR : Hid (Fm.ridR p = Bm.rfix (Bm.rfix p 0 1).2.1 (Fm.kindE p) 4) := rfl
  have HKE : Hid (Fm.kindE p = if known ((Bm.rfix p 0 1).1 : Int) = true then (Bm.rfix p 0 1).2.2 else Bm.fail (Bm.rfix p 0 1).2.2 9) := rfl
  have HD1 := Lib.hid (fun h => Fm.dec_fin (l := p) h)
  have HD2 := Lib.hid (fun h h2 => Fm.dec_good (l := p) h h2)
  have HD3 := Lib.hid (fun h h2 => Fm.dec_bad (l := p) h h2)
  have HSO := Lib.hid (fun h => (Fm.read_sound hbb h).2)
  have ok_few : ∀ {M : Ms}, Ok M → Fm.fin p = 0 → (Fm.read p).1 = M → M.peers.length ≤ 1000000000 ∧ M.pairs.length ≤ 1000000000 := fun _ h1 h2 => by subst h2; exact Fm.read_few hbb h1
  obtain ⟨dd, hdd⟩ : ∃ dd, Hid (Fm.dec p = dd) := ⟨_, rfl⟩
  rw [hdd.out] at HD1 HD2 HD3 ⊢
  rw [HK.out] at C1 HRD HKE
  have hp1 := (Fm.rfix_suf p 0 1).length_le
  obtain ⟨l1', hl1⟩ : ∃ l1', Hid ((Bm.rfix p 0 1).2.1 = l1') := ⟨_, rfl⟩
  obtain ⟨e1', he1⟩ : ∃ e1', Hid ((Bm.rfix p 0 1).2.2 = e1') := ⟨_, rfl⟩
  rw [hl1.out] at C1 HRR hp1
  rw [he1.out] at C1 HKE
  clear h hb hY hB0 hbb hsee hcu
  have hke : Fm.kindE p = e1' := by rw [HKE.out]; exact if_pos (by decide)
  rw [hke] at HRR
  have HKE2 := Lib.hid hke
  clear hke
  go_enter Tryd.func11, Tryd.ntmps11
  go_wp2_with fail
  refine (C1.out).mono ?_
  rintro en w2 ⟨rfl, hr2, ho2⟩
  obtain ⟨g, w2a, w3, hg, hal2, hz, hst, hm3, hs3, hb3⟩   := var_bx w2 1 1 rfl
  have hrg : r < g := by have := ho2.size; omega
  have HZ := Lib.hid hz
  have HY3 := Lib.hid ((HY1.out.only ho2 (by omega)).below hb3 (by omega))
  have HB3 := Lib.hid (HB1.out.trans ((ho2.below (B := y) (by omega) (by omega)).trans (hb3.mono (by omega))))
  have HS3 := Lib.hid (Sx.bald hr2 hrg hb3 hm3 hs3)
  have HS3z := Lib.hid hs3
  clear hr2 ho2 hz hm3 hb3
  have c0 : w3.cell? ⟨g, 0, none⟩ = some (.int .i64 1) := (Bx.cells HS3.out.bx).1
  have C3 := Lib.hid (curfix_any 4 (by omega) (by omega) HS3.out.rd)
  have B3 : (Bm.rfix l1' (e1') 4).1 < 4294967296 := Fm.rfix_nat (show Fm.Bytes _ from HS3.out.rd.byte) _ 4 4 rfl
  rw [← HRR.out] at C3 B3
  obtain ⟨q, hq⟩ : ∃ q, Hid (Fm.ridR p = q) := ⟨_, rfl⟩
  obtain ⟨rid, l, e⟩ := q
  rw [hq.out] at C3 B3 HRD
  simp only at C3 B3 HRD
  rw [Nat.mod_eq_of_lt B3] at HRD
  go_wp2_with (refine wpList_store_whole rfl rfl rfl rfl rfl HZ.out (msgI rfl) rfl (by simp [Value.oneCell']) ?_; rw [hst])
  refine (C3.out).mono ?_
  rintro en w4 ⟨rfl, hr4, ho4⟩
  have S4 := HS3.out.read hr4 ho4
  have z4 := (Bx.cells S4.bx).2.1
  have f4 : w4.frozen? ⟨g, 1, none⟩ = false := Whole.free S4.bx 1
  have T4 := S4.setRid rid
  obtain ⟨w5, hw5⟩ : ∃ W, w4.setCell ⟨g, 1, none⟩ (.int .u32 (rid : Int)) = W := ⟨_, rfl⟩
  rw [hw5] at T4
  have HT0 : Hid (Sx w3 r g (Fm.bald 1 rid) (.slice none 0 0) (.slice none 0 0) l e w5) := Lib.hid T4
  clear hr4 ho4 S4 T4
  clear c0
  have HOWN : Hid (Fm.own 1 rid l e = ({ Fm.bald 1 rid with id := (Bm.rfix l e 8).1 }, (Bm.rfix l e 8).2)) := Lib.hid (by unfold Fm.own; rw [if_pos rfl])
  have c0_1 : w5.cell? ⟨g, 0, none⟩ = some (.int .i64 1) := (Bx.cells HT0.out.bx).1
  have C1 := Lib.hid (curfix_any 8 (by omega) (by omega) HT0.out.rd)
  have B1 : (Bm.rfix l e 8).1 < 18446744073709551616 := Fm.rfix_nat (show Fm.Bytes l from HT0.out.rd.byte) e 8 8 rfl
  go_wp2_with fail
  refine (C1.out).mono ?_
  rintro en w1a ⟨rfl, hr1, ho1⟩
  have S1 := HT0.out.read hr1 ho1
  obtain ⟨x1, hx1⟩ : ∃ x, Hid ((Bm.rfix l e 8).1 = x) := ⟨_, rfl⟩
  rw [hx1.out] at B1 ⊢
  have z1_0 := (Bx.cells S1.bx).2.2.2.2.1
  have f1_0 : w1a.frozen? ⟨g, 4, none⟩ = false := Whole.free S1.bx 4
  have T1_0 := S1.setId x1
  obtain ⟨w1b, hw1_0⟩ : ∃ W, w1a.setCell ⟨g, 4, none⟩ (.int .u64 (x1 : Int)) = W := ⟨_, rfl⟩
  rw [hw1_0] at T1_0
  have HT1 := Lib.hid T1_0
  clear hr1 ho1 S1 T1_0
  clear c0_1
  have HFin : Hid (Sx w3 r g (Fm.read p).1 (.slice none 0 0) (.slice none 0 0) (Fm.read p).2.1 (Fm.read p).2.2 w1b) := Lib.hid (by
    have hh := HT1.out
    rw [HRD.out, HOWN.out]
    rw [← hx1.out] at hh
    exact hh)
  have c0_2 : w1b.cell? ⟨g, 0, none⟩ = some (.int .i64 1) := (Bx.cells HT1.out.bx).1
  have HE := Lib.hid (curend_any HFin.out.rd)
  rw [← HFN.out] at HE
  have HYF := Lib.hid (HY3.out.but2 HFin.out.but (by omega) (by omega))
  have HBF := Lib.hid (HB3.out.trans (HFin.out.but.below (B := y) (by omega) (by omega) (by have := HFin.out.top; have := HS3z.out; omega)))
  obtain ⟨x, hx⟩ : ∃ x, Hid (Fm.fin p = x) := ⟨_, rfl⟩
  rw [hx.out] at HE HD1 HD2 HD3 HSO
  by_cases hx0 : x = 0
  case neg =>
    have E := HD1.out hx0
    subst E
    have hne : (x != 0) = true := by simpa using hx0
    have hne2 : (x == 0) = false := by simpa using hx0
    go_wp2_with fail
    refine (HE.out).mono ?_
    rintro en w7 ⟨rfl, kd, rfl⟩
    have HYG : Hid (Whole (w1b.drewN kd) y 30 #[.int .i64 0, .int .u32 0, .int .u8 0, .bool false, .int .u64 0, .string ⟨#[]⟩, .string ⟨#[]⟩, .int .u64 0, .int .u16 0, .slice none 0 0, .slice none 0 0]) := Lib.hid HYF.out
    have HBG := Lib.hid (HBF.out.trans (show Below y w1b (w1b.drewN kd) from ⟨rfl, rfl, rfl, Nat.le_refl _, fun _ _ => rfl⟩))
    go_wp2_with (refine wpList_store_whole rfl rfl rfl rfl rfl HYG.out (msgI rfl) rfl (by simp [Value.oneCell']) ?_)
    refine bodyPost_ret (v := .tuple #[.agg #[.int .i64 0, .int .u32 0, .int .u8 0, .bool false, .int .u64 0, .string ⟨#[]⟩, .string ⟨#[]⟩, .int .u64 0, .int .u16 0, .slice none 0 0, .slice none 0 0], .int .i64 x]) ?_ rfl ⟨_, rfl, mv_zero _ _, ?_⟩
    · exact results_cell_row2 rfl rfl rfl (HYG.out.row _) Tryd.underlying30 rfl (msgI rfl)
    · rw [hy]; exact below_row HBG.out (Nat.le_refl _) _
  subst hx0
  have okM := HSO.out rfl
  obtain ⟨M, hM⟩ : ∃ M, Hid ((Fm.read p).1 = M) := ⟨_, rfl⟩
  rw [hM.out] at HFin HD2 HD3 okM
  obtain ⟨Ap, cp, Aq, cq, hbx, hop, hoq⟩ := HFin.out.ends
  have HBx := Lib.hid hbx
  have HOp := Lib.hid hop
  have HOq := Lib.hid hoq
  have hkd : ∀ kd, Below w1b.heap.size w1b (w1b.drewN kd) := fun kd => ⟨rfl, rfl, rfl, Nat.le_refl _, fun _ _ => rfl⟩
  have hmv : ∀ kd, Mv (w1b.drewN kd) (w1b.drewN kd).heap.size M (.agg #[.int .i64 M.kind, .int .u32 (M.rid : Int), .int .u8 (M.code : Int), .bool M.has, .int .u64 (M.id : Int), .string M.key, .string M.val, .int .u64 (M.pid : Int), .int .u16 (M.pad : Int), .slice Ap M.peers.length cp, .slice Aq M.pairs.length cq]) := fun kd => ⟨⟨_, _, rfl, Sl.of_own (own2_below HOp.out (hkd kd)), Sl.of_own (own2_below HOq.out (hkd kd))⟩, okM⟩
  have hlp := ok_few okM hx.out hM.out
  have HR2 := Lib.hid (fun kd => rright_any (hmv kd) hlp.1 hlp.2)
  obtain ⟨rr, hrr⟩ : ∃ rr, Hid (right M = rr) := ⟨_, rfl⟩
  rw [hrr.out] at HR2 HD2 HD3
  have HKD := Lib.hid hkd
  clear hbx hop hoq hmv hlp hkd
  by_cases hr0 : rr = 0
  case neg =>
    have E := HD3.out rfl hr0
    subst E
    have hlt : ¬ (rr : Int) = 0 := by omega
    go_wp2_with fail
    refine (HE.out).mono ?_
    rintro en w7 ⟨rfl, kd, rfl⟩
    have HBxk : Hid (Bx (w1b.drewN kd) g M (.slice Ap M.peers.length cp) (.slice Aq M.pairs.length cq)) := Lib.hid HBx.out
    go_wp2_with (refine wpList_load_struct Tryd.underlying30 (msgI rfl) rfl rfl rfl HBxk.out.load ?_)
    refine (HR2.out kd).mono ?_
    rintro en w8 ⟨rfl, hb8⟩
    have HY8 := Lib.hid (HYF.out.below ((HKD.out kd).trans hb8) HYF.out.lt)
    have HB8 := Lib.hid (HBF.out.trans (((HKD.out kd).trans hb8).mono (by have := HYF.out.lt; omega)))
    clear hb8
    go_wp2_with (refine wpList_store_whole rfl rfl rfl rfl rfl HY8.out (msgI rfl) rfl (by simp [Value.oneCell']) ?_)
    refine bodyPost_ret (v := .tuple #[.agg #[.int .i64 0, .int .u32 0, .int .u8 0, .bool false, .int .u64 0, .string ⟨#[]⟩, .string ⟨#[]⟩, .int .u64 0, .int .u16 0, .slice none 0 0, .slice none 0 0], .int .i64 (rr : Int)]) ?_ rfl ⟨_, rfl, mv_zero _ _, ?_⟩
    · exact results_cell_row2 rfl rfl rfl (HY8.out.row _) Tryd.underlying30 rfl (msgI rfl)
    · rw [hy]; exact below_row HB8.out (Nat.le_refl _) _
  subst hr0
  have E := HD2.out rfl rfl
  subst E
  go_wp2_with fail
  refine (HE.out).mono ?_
  rintro en w7 ⟨rfl, kd, rfl⟩
  have HBxk : Hid (Bx (w1b.drewN kd) g M (.slice Ap M.peers.length cp) (.slice Aq M.pairs.length cq)) := Lib.hid HBx.out
  go_wp2_with (refine wpList_load_struct Tryd.underlying30 (msgI rfl) rfl rfl rfl HBxk.out.load ?_)
  refine (HR2.out kd).mono ?_
  rintro en w8 ⟨rfl, hb8⟩
  have HY8 := Lib.hid (HYF.out.below ((HKD.out kd).trans hb8) HYF.out.lt)
  have HB8 := Lib.hid (HBF.out.trans (((HKD.out kd).trans hb8).mono (by have := HYF.out.lt; omega)))
  have HOp8 := Lib.hid (own2_below HOp.out ((HKD.out kd).trans hb8))
  have HOq8 := Lib.hid (own2_below HOq.out ((HKD.out kd).trans hb8))
  have HBx8 : Hid (Bx w8 g M (.slice Ap M.peers.length cp) (.slice Aq M.pairs.length cq)) := Lib.hid (HBx.out.below ((HKD.out kd).trans hb8) (Whole.lt HBx.out))
  clear hb8
  go_wp2_with (first | (refine wpList_load_struct Tryd.underlying30 (msgI rfl) rfl rfl rfl HBx8.out.load ?_) | (refine wpList_store_whole rfl rfl rfl rfl rfl HY8.out (msgI rfl) rfl (by simp [Value.oneCell']) ?_))
  refine bodyPost_ret (v := .tuple #[.agg #[.int .i64 M.kind, .int .u32 (M.rid : Int), .int .u8 (M.code : Int), .bool M.has, .int .u64 (M.id : Int), .string M.key, .string M.val, .int .u64 (M.pid : Int), .int .u16 (M.pad : Int), .slice Ap M.peers.length cp, .slice Aq M.pairs.length cq], .int .i64 0]) ?_ rfl ⟨_, rfl, ⟨⟨_, _, rfl, ?_, ?_⟩, okM⟩, ?_⟩
  · exact results_cell_row2 rfl rfl rfl (HY8.out.row _) Tryd.underlying30 rfl (msgI rfl)
  · exact Sl.of_own (own2_from HOp8.out (fun i hi _ => setRow_other w8 y i _ (by omega)))
  · exact Sl.of_own (own2_from HOq8.out (fun i hi _ => setRow_other w8 y i _ (by omega)))
  · rw [hy]; exact below_row HB8.out (Nat.le_refl _) _

set_option maxHeartbeats 2000000 in
theorem rdec_3 {w : World} {B : Nat} {v : Value} {p : List Nat} (h : Piece w B v p) (hp : p.length ≤ 1000000000) (hb : ∀ x ∈ p, x < 256) (HK : Hid ((Bm.rfix p 0 1).1 = 3)) :
    Calls Tryd.prog 11 #[v] w (DecPost (Fm.dec p) w) := by
  obtain ⟨y, hy⟩ : ∃ y, w.heap.size = y := ⟨_, rfl⟩
  obtain ⟨w0, hal⟩ : ∃ w0, w.alloc (.cells #[.int .i64 0, .int .u32 0, .int .u8 0, .bool false, .int .u64 0, .string ⟨#[]⟩, .string ⟨#[]⟩, .int .u64 0, .int .u16 0, .slice none 0 0, .slice none 0 0] 30) = w0 := ⟨_, rfl⟩
  have hY : Whole w0 y 30 #[.int .i64 0, .int .u32 0, .int .u8 0, .bool false, .int .u64 0, .string ⟨#[]⟩, .string ⟨#[]⟩, .int .u64 0, .int .u16 0, .slice none 0 0, .slice none 0 0] := by rw [← hal, ← hy]; exact Whole.made _ _ _
  have hB0 : Below y w w0 := by rw [← hal]; exact (Below.refl y w).alloc (by omega) _
  obtain ⟨r, hr⟩ : ∃ r, w0.heap.size = r := ⟨_, rfl⟩
  have hyr : y < r := by rw [← hr, ← hal, ← hy]; simp
  have hpc : Piece w0 r v p := by have := h.kept (by rw [hy]; exact hB0); rw [hr] at this; exact this
  obtain ⟨A0, cap0, rfl, hsee, hnull, hcap, hmax⟩ := hpc
  obtain ⟨n0, hn0⟩ : ∃ n0, Hid (p.length = n0) := ⟨_, rfl⟩
  have hbb : Fm.Bytes p := hb
  have HBY := Lib.hid hbb
  obtain ⟨w1, hal1⟩ : ∃ w1, w0.alloc (.cells #[.slice A0 n0 cap0, .int .i64 0, .int .i64 0] 57) = w1 := ⟨_, rfl⟩
  have hcu : Cu w1 r r p 0 := cu_new hr hn0.out hsee hb (by have := hn0.out; omega) hmax hnull (by have := hn0.out; omega) hal1
  have HB1 : Hid (Below y w w1) := Lib.hid (hB0.trans (by rw [← hal1]; exact (Below.refl y w0).alloc (by omega) _))
  have HY1 : Hid (Whole w1 y 30 #[.int .i64 0, .int .u32 0, .int .u8 0, .bool false, .int .u64 0, .string ⟨#[]⟩, .string ⟨#[]⟩, .int .u64 0, .int .u16 0, .slice none 0 0, .slice none 0 0]) := Lib.hid (by rw [← hal1]; exact hY.alloc _)
  have hrl := hcu.lt
  have C1 := Lib.hid (curfix_any 1 (by omega) (by omega) hcu)
  rw [hn0.out] at hcap ⊢
  have HRD : Hid (Fm.read p = Fm.own (Bm.rfix p 0 1).1 ((Fm.ridR p).1 % 4294967296) (Fm.ridR p).2.1 (Fm.ridR p).2.2) := rfl
  have HFN : Hid (Fm.fin p = Bm.fin (Fm.read p).2.1 (Fm.read p).2.2) := rfl
  have HRR : Hid (Fm.ridR p = Bm.rfix (Bm.rfix p 0 1).2.1 (Fm.kindE p) 4) := rfl
  have HKE : Hid (Fm.kindE p = if known ((Bm.rfix p 0 1).1 : Int) = true then (Bm.rfix p 0 1).2.2 else Bm.fail (Bm.rfix p 0 1).2.2 9) := rfl
  have HD1 := Lib.hid (fun h => Fm.dec_fin (l := p) h)
  have HD2 := Lib.hid (fun h h2 => Fm.dec_good (l := p) h h2)
  have HD3 := Lib.hid (fun h h2 => Fm.dec_bad (l := p) h h2)
  have HSO := Lib.hid (fun h => (Fm.read_sound hbb h).2)
  have ok_few : ∀ {M : Ms}, Ok M → Fm.fin p = 0 → (Fm.read p).1 = M → M.peers.length ≤ 1000000000 ∧ M.pairs.length ≤ 1000000000 := fun _ h1 h2 => by subst h2; exact Fm.read_few hbb h1
  obtain ⟨dd, hdd⟩ : ∃ dd, Hid (Fm.dec p = dd) := ⟨_, rfl⟩
  rw [hdd.out] at HD1 HD2 HD3 ⊢
  rw [HK.out] at C1 HRD HKE
  have hp1 := (Fm.rfix_suf p 0 1).length_le
  obtain ⟨l1', hl1⟩ : ∃ l1', Hid ((Bm.rfix p 0 1).2.1 = l1') := ⟨_, rfl⟩
  obtain ⟨e1', he1⟩ : ∃ e1', Hid ((Bm.rfix p 0 1).2.2 = e1') := ⟨_, rfl⟩
  rw [hl1.out] at C1 HRR hp1
  rw [he1.out] at C1 HKE
  clear h hb hY hB0 hbb hsee hcu
  have hke : Fm.kindE p = e1' := by rw [HKE.out]; exact if_pos (by decide)
  rw [hke] at HRR
  have HKE2 := Lib.hid hke
  clear hke
  go_enter Tryd.func11, Tryd.ntmps11
  go_wp2_with fail
  refine (C1.out).mono ?_
  rintro en w2 ⟨rfl, hr2, ho2⟩
  obtain ⟨g, w2a, w3, hg, hal2, hz, hst, hm3, hs3, hb3⟩   := var_bx w2 3 3 rfl
  have hrg : r < g := by have := ho2.size; omega
  have HZ := Lib.hid hz
  have HY3 := Lib.hid ((HY1.out.only ho2 (by omega)).below hb3 (by omega))
  have HB3 := Lib.hid (HB1.out.trans ((ho2.below (B := y) (by omega) (by omega)).trans (hb3.mono (by omega))))
  have HS3 := Lib.hid (Sx.bald hr2 hrg hb3 hm3 hs3)
  have HS3z := Lib.hid hs3
  clear hr2 ho2 hz hm3 hb3
  have c0 : w3.cell? ⟨g, 0, none⟩ = some (.int .i64 3) := (Bx.cells HS3.out.bx).1
  have C3 := Lib.hid (curfix_any 4 (by omega) (by omega) HS3.out.rd)
  have B3 : (Bm.rfix l1' (e1') 4).1 < 4294967296 := Fm.rfix_nat (show Fm.Bytes _ from HS3.out.rd.byte) _ 4 4 rfl
  rw [← HRR.out] at C3 B3
  obtain ⟨q, hq⟩ : ∃ q, Hid (Fm.ridR p = q) := ⟨_, rfl⟩
  obtain ⟨rid, l, e⟩ := q
  rw [hq.out] at C3 B3 HRD
  simp only at C3 B3 HRD
  rw [Nat.mod_eq_of_lt B3] at HRD
  go_wp2_with (refine wpList_store_whole rfl rfl rfl rfl rfl HZ.out (msgI rfl) rfl (by simp [Value.oneCell']) ?_; rw [hst])
  refine (C3.out).mono ?_
  rintro en w4 ⟨rfl, hr4, ho4⟩
  have S4 := HS3.out.read hr4 ho4
  have z4 := (Bx.cells S4.bx).2.1
  have f4 : w4.frozen? ⟨g, 1, none⟩ = false := Whole.free S4.bx 1
  have T4 := S4.setRid rid
  obtain ⟨w5, hw5⟩ : ∃ W, w4.setCell ⟨g, 1, none⟩ (.int .u32 (rid : Int)) = W := ⟨_, rfl⟩
  rw [hw5] at T4
  have HT0 : Hid (Sx w3 r g (Fm.bald 3 rid) (.slice none 0 0) (.slice none 0 0) l e w5) := Lib.hid T4
  clear hr4 ho4 S4 T4
  clear c0
  have HOWN : Hid (Fm.own 3 rid l e = (Fm.bald 3 rid, l, e)) := rfl
  have HFin : Hid (Sx w3 r g (Fm.read p).1 (.slice none 0 0) (.slice none 0 0) (Fm.read p).2.1 (Fm.read p).2.2 w5) := Lib.hid (by
    have hh := HT0.out
    rw [HRD.out, HOWN.out]
    exact hh)
  have c0_1 : w5.cell? ⟨g, 0, none⟩ = some (.int .i64 3) := (Bx.cells HT0.out.bx).1
  have HE := Lib.hid (curend_any HFin.out.rd)
  rw [← HFN.out] at HE
  have HYF := Lib.hid (HY3.out.but2 HFin.out.but (by omega) (by omega))
  have HBF := Lib.hid (HB3.out.trans (HFin.out.but.below (B := y) (by omega) (by omega) (by have := HFin.out.top; have := HS3z.out; omega)))
  obtain ⟨x, hx⟩ : ∃ x, Hid (Fm.fin p = x) := ⟨_, rfl⟩
  rw [hx.out] at HE HD1 HD2 HD3 HSO
  by_cases hx0 : x = 0
  case neg =>
    have E := HD1.out hx0
    subst E
    have hne : (x != 0) = true := by simpa using hx0
    have hne2 : (x == 0) = false := by simpa using hx0
    go_wp2_with fail
    refine (HE.out).mono ?_
    rintro en w7 ⟨rfl, kd, rfl⟩
    have HYG : Hid (Whole (w5.drewN kd) y 30 #[.int .i64 0, .int .u32 0, .int .u8 0, .bool false, .int .u64 0, .string ⟨#[]⟩, .string ⟨#[]⟩, .int .u64 0, .int .u16 0, .slice none 0 0, .slice none 0 0]) := Lib.hid HYF.out
    have HBG := Lib.hid (HBF.out.trans (show Below y w5 (w5.drewN kd) from ⟨rfl, rfl, rfl, Nat.le_refl _, fun _ _ => rfl⟩))
    go_wp2_with (refine wpList_store_whole rfl rfl rfl rfl rfl HYG.out (msgI rfl) rfl (by simp [Value.oneCell']) ?_)
    refine bodyPost_ret (v := .tuple #[.agg #[.int .i64 0, .int .u32 0, .int .u8 0, .bool false, .int .u64 0, .string ⟨#[]⟩, .string ⟨#[]⟩, .int .u64 0, .int .u16 0, .slice none 0 0, .slice none 0 0], .int .i64 x]) ?_ rfl ⟨_, rfl, mv_zero _ _, ?_⟩
    · exact results_cell_row2 rfl rfl rfl (HYG.out.row _) Tryd.underlying30 rfl (msgI rfl)
    · rw [hy]; exact below_row HBG.out (Nat.le_refl _) _
  subst hx0
  have okM := HSO.out rfl
  obtain ⟨M, hM⟩ : ∃ M, Hid ((Fm.read p).1 = M) := ⟨_, rfl⟩
  rw [hM.out] at HFin HD2 HD3 okM
  obtain ⟨Ap, cp, Aq, cq, hbx, hop, hoq⟩ := HFin.out.ends
  have HBx := Lib.hid hbx
  have HOp := Lib.hid hop
  have HOq := Lib.hid hoq
  have hkd : ∀ kd, Below w5.heap.size w5 (w5.drewN kd) := fun kd => ⟨rfl, rfl, rfl, Nat.le_refl _, fun _ _ => rfl⟩
  have hmv : ∀ kd, Mv (w5.drewN kd) (w5.drewN kd).heap.size M (.agg #[.int .i64 M.kind, .int .u32 (M.rid : Int), .int .u8 (M.code : Int), .bool M.has, .int .u64 (M.id : Int), .string M.key, .string M.val, .int .u64 (M.pid : Int), .int .u16 (M.pad : Int), .slice Ap M.peers.length cp, .slice Aq M.pairs.length cq]) := fun kd => ⟨⟨_, _, rfl, Sl.of_own (own2_below HOp.out (hkd kd)), Sl.of_own (own2_below HOq.out (hkd kd))⟩, okM⟩
  have hlp := ok_few okM hx.out hM.out
  have HR2 := Lib.hid (fun kd => rright_any (hmv kd) hlp.1 hlp.2)
  obtain ⟨rr, hrr⟩ : ∃ rr, Hid (right M = rr) := ⟨_, rfl⟩
  rw [hrr.out] at HR2 HD2 HD3
  have HKD := Lib.hid hkd
  clear hbx hop hoq hmv hlp hkd
  by_cases hr0 : rr = 0
  case neg =>
    have E := HD3.out rfl hr0
    subst E
    have hlt : ¬ (rr : Int) = 0 := by omega
    go_wp2_with fail
    refine (HE.out).mono ?_
    rintro en w7 ⟨rfl, kd, rfl⟩
    have HBxk : Hid (Bx (w5.drewN kd) g M (.slice Ap M.peers.length cp) (.slice Aq M.pairs.length cq)) := Lib.hid HBx.out
    go_wp2_with (refine wpList_load_struct Tryd.underlying30 (msgI rfl) rfl rfl rfl HBxk.out.load ?_)
    refine (HR2.out kd).mono ?_
    rintro en w8 ⟨rfl, hb8⟩
    have HY8 := Lib.hid (HYF.out.below ((HKD.out kd).trans hb8) HYF.out.lt)
    have HB8 := Lib.hid (HBF.out.trans (((HKD.out kd).trans hb8).mono (by have := HYF.out.lt; omega)))
    clear hb8
    go_wp2_with (refine wpList_store_whole rfl rfl rfl rfl rfl HY8.out (msgI rfl) rfl (by simp [Value.oneCell']) ?_)
    refine bodyPost_ret (v := .tuple #[.agg #[.int .i64 0, .int .u32 0, .int .u8 0, .bool false, .int .u64 0, .string ⟨#[]⟩, .string ⟨#[]⟩, .int .u64 0, .int .u16 0, .slice none 0 0, .slice none 0 0], .int .i64 (rr : Int)]) ?_ rfl ⟨_, rfl, mv_zero _ _, ?_⟩
    · exact results_cell_row2 rfl rfl rfl (HY8.out.row _) Tryd.underlying30 rfl (msgI rfl)
    · rw [hy]; exact below_row HB8.out (Nat.le_refl _) _
  subst hr0
  have E := HD2.out rfl rfl
  subst E
  go_wp2_with fail
  refine (HE.out).mono ?_
  rintro en w7 ⟨rfl, kd, rfl⟩
  have HBxk : Hid (Bx (w5.drewN kd) g M (.slice Ap M.peers.length cp) (.slice Aq M.pairs.length cq)) := Lib.hid HBx.out
  go_wp2_with (refine wpList_load_struct Tryd.underlying30 (msgI rfl) rfl rfl rfl HBxk.out.load ?_)
  refine (HR2.out kd).mono ?_
  rintro en w8 ⟨rfl, hb8⟩
  have HY8 := Lib.hid (HYF.out.below ((HKD.out kd).trans hb8) HYF.out.lt)
  have HB8 := Lib.hid (HBF.out.trans (((HKD.out kd).trans hb8).mono (by have := HYF.out.lt; omega)))
  have HOp8 := Lib.hid (own2_below HOp.out ((HKD.out kd).trans hb8))
  have HOq8 := Lib.hid (own2_below HOq.out ((HKD.out kd).trans hb8))
  have HBx8 : Hid (Bx w8 g M (.slice Ap M.peers.length cp) (.slice Aq M.pairs.length cq)) := Lib.hid (HBx.out.below ((HKD.out kd).trans hb8) (Whole.lt HBx.out))
  clear hb8
  go_wp2_with (first | (refine wpList_load_struct Tryd.underlying30 (msgI rfl) rfl rfl rfl HBx8.out.load ?_) | (refine wpList_store_whole rfl rfl rfl rfl rfl HY8.out (msgI rfl) rfl (by simp [Value.oneCell']) ?_))
  refine bodyPost_ret (v := .tuple #[.agg #[.int .i64 M.kind, .int .u32 (M.rid : Int), .int .u8 (M.code : Int), .bool M.has, .int .u64 (M.id : Int), .string M.key, .string M.val, .int .u64 (M.pid : Int), .int .u16 (M.pad : Int), .slice Ap M.peers.length cp, .slice Aq M.pairs.length cq], .int .i64 0]) ?_ rfl ⟨_, rfl, ⟨⟨_, _, rfl, ?_, ?_⟩, okM⟩, ?_⟩
  · exact results_cell_row2 rfl rfl rfl (HY8.out.row _) Tryd.underlying30 rfl (msgI rfl)
  · exact Sl.of_own (own2_from HOp8.out (fun i hi _ => setRow_other w8 y i _ (by omega)))
  · exact Sl.of_own (own2_from HOq8.out (fun i hi _ => setRow_other w8 y i _ (by omega)))
  · rw [hy]; exact below_row HB8.out (Nat.le_refl _) _

set_option maxHeartbeats 2000000 in
theorem rdec_5 {w : World} {B : Nat} {v : Value} {p : List Nat} (h : Piece w B v p) (hp : p.length ≤ 1000000000) (hb : ∀ x ∈ p, x < 256) (HK : Hid ((Bm.rfix p 0 1).1 = 5)) :
    Calls Tryd.prog 11 #[v] w (DecPost (Fm.dec p) w) := by
  obtain ⟨y, hy⟩ : ∃ y, w.heap.size = y := ⟨_, rfl⟩
  obtain ⟨w0, hal⟩ : ∃ w0, w.alloc (.cells #[.int .i64 0, .int .u32 0, .int .u8 0, .bool false, .int .u64 0, .string ⟨#[]⟩, .string ⟨#[]⟩, .int .u64 0, .int .u16 0, .slice none 0 0, .slice none 0 0] 30) = w0 := ⟨_, rfl⟩
  have hY : Whole w0 y 30 #[.int .i64 0, .int .u32 0, .int .u8 0, .bool false, .int .u64 0, .string ⟨#[]⟩, .string ⟨#[]⟩, .int .u64 0, .int .u16 0, .slice none 0 0, .slice none 0 0] := by rw [← hal, ← hy]; exact Whole.made _ _ _
  have hB0 : Below y w w0 := by rw [← hal]; exact (Below.refl y w).alloc (by omega) _
  obtain ⟨r, hr⟩ : ∃ r, w0.heap.size = r := ⟨_, rfl⟩
  have hyr : y < r := by rw [← hr, ← hal, ← hy]; simp
  have hpc : Piece w0 r v p := by have := h.kept (by rw [hy]; exact hB0); rw [hr] at this; exact this
  obtain ⟨A0, cap0, rfl, hsee, hnull, hcap, hmax⟩ := hpc
  obtain ⟨n0, hn0⟩ : ∃ n0, Hid (p.length = n0) := ⟨_, rfl⟩
  have hbb : Fm.Bytes p := hb
  have HBY := Lib.hid hbb
  obtain ⟨w1, hal1⟩ : ∃ w1, w0.alloc (.cells #[.slice A0 n0 cap0, .int .i64 0, .int .i64 0] 57) = w1 := ⟨_, rfl⟩
  have hcu : Cu w1 r r p 0 := cu_new hr hn0.out hsee hb (by have := hn0.out; omega) hmax hnull (by have := hn0.out; omega) hal1
  have HB1 : Hid (Below y w w1) := Lib.hid (hB0.trans (by rw [← hal1]; exact (Below.refl y w0).alloc (by omega) _))
  have HY1 : Hid (Whole w1 y 30 #[.int .i64 0, .int .u32 0, .int .u8 0, .bool false, .int .u64 0, .string ⟨#[]⟩, .string ⟨#[]⟩, .int .u64 0, .int .u16 0, .slice none 0 0, .slice none 0 0]) := Lib.hid (by rw [← hal1]; exact hY.alloc _)
  have hrl := hcu.lt
  have C1 := Lib.hid (curfix_any 1 (by omega) (by omega) hcu)
  rw [hn0.out] at hcap ⊢
  have HRD : Hid (Fm.read p = Fm.own (Bm.rfix p 0 1).1 ((Fm.ridR p).1 % 4294967296) (Fm.ridR p).2.1 (Fm.ridR p).2.2) := rfl
  have HFN : Hid (Fm.fin p = Bm.fin (Fm.read p).2.1 (Fm.read p).2.2) := rfl
  have HRR : Hid (Fm.ridR p = Bm.rfix (Bm.rfix p 0 1).2.1 (Fm.kindE p) 4) := rfl
  have HKE : Hid (Fm.kindE p = if known ((Bm.rfix p 0 1).1 : Int) = true then (Bm.rfix p 0 1).2.2 else Bm.fail (Bm.rfix p 0 1).2.2 9) := rfl
  have HD1 := Lib.hid (fun h => Fm.dec_fin (l := p) h)
  have HD2 := Lib.hid (fun h h2 => Fm.dec_good (l := p) h h2)
  have HD3 := Lib.hid (fun h h2 => Fm.dec_bad (l := p) h h2)
  have HSO := Lib.hid (fun h => (Fm.read_sound hbb h).2)
  have ok_few : ∀ {M : Ms}, Ok M → Fm.fin p = 0 → (Fm.read p).1 = M → M.peers.length ≤ 1000000000 ∧ M.pairs.length ≤ 1000000000 := fun _ h1 h2 => by subst h2; exact Fm.read_few hbb h1
  obtain ⟨dd, hdd⟩ : ∃ dd, Hid (Fm.dec p = dd) := ⟨_, rfl⟩
  rw [hdd.out] at HD1 HD2 HD3 ⊢
  rw [HK.out] at C1 HRD HKE
  have hp1 := (Fm.rfix_suf p 0 1).length_le
  obtain ⟨l1', hl1⟩ : ∃ l1', Hid ((Bm.rfix p 0 1).2.1 = l1') := ⟨_, rfl⟩
  obtain ⟨e1', he1⟩ : ∃ e1', Hid ((Bm.rfix p 0 1).2.2 = e1') := ⟨_, rfl⟩
  rw [hl1.out] at C1 HRR hp1
  rw [he1.out] at C1 HKE
  clear h hb hY hB0 hbb hsee hcu
  have hke : Fm.kindE p = e1' := by rw [HKE.out]; exact if_pos (by decide)
  rw [hke] at HRR
  have HKE2 := Lib.hid hke
  clear hke
  go_enter Tryd.func11, Tryd.ntmps11
  go_wp2_with fail
  refine (C1.out).mono ?_
  rintro en w2 ⟨rfl, hr2, ho2⟩
  obtain ⟨g, w2a, w3, hg, hal2, hz, hst, hm3, hs3, hb3⟩   := var_bx w2 5 5 rfl
  have hrg : r < g := by have := ho2.size; omega
  have HZ := Lib.hid hz
  have HY3 := Lib.hid ((HY1.out.only ho2 (by omega)).below hb3 (by omega))
  have HB3 := Lib.hid (HB1.out.trans ((ho2.below (B := y) (by omega) (by omega)).trans (hb3.mono (by omega))))
  have HS3 := Lib.hid (Sx.bald hr2 hrg hb3 hm3 hs3)
  have HS3z := Lib.hid hs3
  clear hr2 ho2 hz hm3 hb3
  have c0 : w3.cell? ⟨g, 0, none⟩ = some (.int .i64 5) := (Bx.cells HS3.out.bx).1
  have C3 := Lib.hid (curfix_any 4 (by omega) (by omega) HS3.out.rd)
  have B3 : (Bm.rfix l1' (e1') 4).1 < 4294967296 := Fm.rfix_nat (show Fm.Bytes _ from HS3.out.rd.byte) _ 4 4 rfl
  rw [← HRR.out] at C3 B3
  obtain ⟨q, hq⟩ : ∃ q, Hid (Fm.ridR p = q) := ⟨_, rfl⟩
  obtain ⟨rid, l, e⟩ := q
  rw [hq.out] at C3 B3 HRD
  simp only at C3 B3 HRD
  rw [Nat.mod_eq_of_lt B3] at HRD
  go_wp2_with (refine wpList_store_whole rfl rfl rfl rfl rfl HZ.out (msgI rfl) rfl (by simp [Value.oneCell']) ?_; rw [hst])
  refine (C3.out).mono ?_
  rintro en w4 ⟨rfl, hr4, ho4⟩
  have S4 := HS3.out.read hr4 ho4
  have z4 := (Bx.cells S4.bx).2.1
  have f4 : w4.frozen? ⟨g, 1, none⟩ = false := Whole.free S4.bx 1
  have T4 := S4.setRid rid
  obtain ⟨w5, hw5⟩ : ∃ W, w4.setCell ⟨g, 1, none⟩ (.int .u32 (rid : Int)) = W := ⟨_, rfl⟩
  rw [hw5] at T4
  have HT0 : Hid (Sx w3 r g (Fm.bald 5 rid) (.slice none 0 0) (.slice none 0 0) l e w5) := Lib.hid T4
  clear hr4 ho4 S4 T4
  clear c0
  have HOWN : Hid (Fm.own 5 rid l e = ({ Fm.bald 5 rid with pid := (Fm.peer l e).1.1, pad := (Fm.peer l e).1.2 }, (Fm.peer l e).2)) := Lib.hid (by unfold Fm.own; rw [if_neg (by omega), if_neg (by omega), if_neg (by omega), if_pos rfl])
  have c0_1 : w5.cell? ⟨g, 0, none⟩ = some (.int .i64 5) := (Bx.cells HT0.out.bx).1
  have C1 := Lib.hid (rone_any HT0.out.rd)
  go_wp2_with fail
  refine (C1.out).mono ?_
  rintro en w1a ⟨rfl, hr1, ho1⟩
  have S1 := HT0.out.read hr1 ho1
  obtain ⟨x1, hx1⟩ : ∃ x, Hid ((Fm.peer l e).1.1 = x) := ⟨_, rfl⟩
  obtain ⟨y1, hy1⟩ : ∃ x, Hid ((Fm.peer l e).1.2 = x) := ⟨_, rfl⟩
  rw [hx1.out, hy1.out]
  have z1_0 := (Bx.cells S1.bx).2.2.2.2.2.2.2.1
  have f1_0 : w1a.frozen? ⟨g, 7, none⟩ = false := Whole.free S1.bx 7
  have T1_0 := S1.setPid x1
  obtain ⟨w1m, hw1_0⟩ : ∃ W, w1a.setCell ⟨g, 7, none⟩ (.int .u64 (x1 : Int)) = W := ⟨_, rfl⟩
  rw [hw1_0] at T1_0
  have z1_1 := (Bx.cells T1_0.bx).2.2.2.2.2.2.2.2.1
  have f1_1 : w1m.frozen? ⟨g, 8, none⟩ = false := Whole.free T1_0.bx 8
  have T1_1 := T1_0.setPad y1
  obtain ⟨w1b, hw1_1⟩ : ∃ W, w1m.setCell ⟨g, 8, none⟩ (.int .u16 (y1 : Int)) = W := ⟨_, rfl⟩
  rw [hw1_1] at T1_1
  have HT1 := Lib.hid T1_1
  clear hr1 ho1 S1 T1_0 T1_1
  clear c0_1
  have HFin : Hid (Sx w3 r g (Fm.read p).1 (.slice none 0 0) (.slice none 0 0) (Fm.read p).2.1 (Fm.read p).2.2 w1b) := Lib.hid (by
    have hh := HT1.out
    rw [HRD.out, HOWN.out]
    rw [← hx1.out, ← hy1.out] at hh
    exact hh)
  have c0_2 : w1b.cell? ⟨g, 0, none⟩ = some (.int .i64 5) := (Bx.cells HT1.out.bx).1
  have HE := Lib.hid (curend_any HFin.out.rd)
  rw [← HFN.out] at HE
  have HYF := Lib.hid (HY3.out.but2 HFin.out.but (by omega) (by omega))
  have HBF := Lib.hid (HB3.out.trans (HFin.out.but.below (B := y) (by omega) (by omega) (by have := HFin.out.top; have := HS3z.out; omega)))
  obtain ⟨x, hx⟩ : ∃ x, Hid (Fm.fin p = x) := ⟨_, rfl⟩
  rw [hx.out] at HE HD1 HD2 HD3 HSO
  by_cases hx0 : x = 0
  case neg =>
    have E := HD1.out hx0
    subst E
    have hne : (x != 0) = true := by simpa using hx0
    have hne2 : (x == 0) = false := by simpa using hx0
    go_wp2_with fail
    refine (HE.out).mono ?_
    rintro en w7 ⟨rfl, kd, rfl⟩
    have HYG : Hid (Whole (w1b.drewN kd) y 30 #[.int .i64 0, .int .u32 0, .int .u8 0, .bool false, .int .u64 0, .string ⟨#[]⟩, .string ⟨#[]⟩, .int .u64 0, .int .u16 0, .slice none 0 0, .slice none 0 0]) := Lib.hid HYF.out
    have HBG := Lib.hid (HBF.out.trans (show Below y w1b (w1b.drewN kd) from ⟨rfl, rfl, rfl, Nat.le_refl _, fun _ _ => rfl⟩))
    go_wp2_with (refine wpList_store_whole rfl rfl rfl rfl rfl HYG.out (msgI rfl) rfl (by simp [Value.oneCell']) ?_)
    refine bodyPost_ret (v := .tuple #[.agg #[.int .i64 0, .int .u32 0, .int .u8 0, .bool false, .int .u64 0, .string ⟨#[]⟩, .string ⟨#[]⟩, .int .u64 0, .int .u16 0, .slice none 0 0, .slice none 0 0], .int .i64 x]) ?_ rfl ⟨_, rfl, mv_zero _ _, ?_⟩
    · exact results_cell_row2 rfl rfl rfl (HYG.out.row _) Tryd.underlying30 rfl (msgI rfl)
    · rw [hy]; exact below_row HBG.out (Nat.le_refl _) _
  subst hx0
  have okM := HSO.out rfl
  obtain ⟨M, hM⟩ : ∃ M, Hid ((Fm.read p).1 = M) := ⟨_, rfl⟩
  rw [hM.out] at HFin HD2 HD3 okM
  obtain ⟨Ap, cp, Aq, cq, hbx, hop, hoq⟩ := HFin.out.ends
  have HBx := Lib.hid hbx
  have HOp := Lib.hid hop
  have HOq := Lib.hid hoq
  have hkd : ∀ kd, Below w1b.heap.size w1b (w1b.drewN kd) := fun kd => ⟨rfl, rfl, rfl, Nat.le_refl _, fun _ _ => rfl⟩
  have hmv : ∀ kd, Mv (w1b.drewN kd) (w1b.drewN kd).heap.size M (.agg #[.int .i64 M.kind, .int .u32 (M.rid : Int), .int .u8 (M.code : Int), .bool M.has, .int .u64 (M.id : Int), .string M.key, .string M.val, .int .u64 (M.pid : Int), .int .u16 (M.pad : Int), .slice Ap M.peers.length cp, .slice Aq M.pairs.length cq]) := fun kd => ⟨⟨_, _, rfl, Sl.of_own (own2_below HOp.out (hkd kd)), Sl.of_own (own2_below HOq.out (hkd kd))⟩, okM⟩
  have hlp := ok_few okM hx.out hM.out
  have HR2 := Lib.hid (fun kd => rright_any (hmv kd) hlp.1 hlp.2)
  obtain ⟨rr, hrr⟩ : ∃ rr, Hid (right M = rr) := ⟨_, rfl⟩
  rw [hrr.out] at HR2 HD2 HD3
  have HKD := Lib.hid hkd
  clear hbx hop hoq hmv hlp hkd
  by_cases hr0 : rr = 0
  case neg =>
    have E := HD3.out rfl hr0
    subst E
    have hlt : ¬ (rr : Int) = 0 := by omega
    go_wp2_with fail
    refine (HE.out).mono ?_
    rintro en w7 ⟨rfl, kd, rfl⟩
    have HBxk : Hid (Bx (w1b.drewN kd) g M (.slice Ap M.peers.length cp) (.slice Aq M.pairs.length cq)) := Lib.hid HBx.out
    go_wp2_with (refine wpList_load_struct Tryd.underlying30 (msgI rfl) rfl rfl rfl HBxk.out.load ?_)
    refine (HR2.out kd).mono ?_
    rintro en w8 ⟨rfl, hb8⟩
    have HY8 := Lib.hid (HYF.out.below ((HKD.out kd).trans hb8) HYF.out.lt)
    have HB8 := Lib.hid (HBF.out.trans (((HKD.out kd).trans hb8).mono (by have := HYF.out.lt; omega)))
    clear hb8
    go_wp2_with (refine wpList_store_whole rfl rfl rfl rfl rfl HY8.out (msgI rfl) rfl (by simp [Value.oneCell']) ?_)
    refine bodyPost_ret (v := .tuple #[.agg #[.int .i64 0, .int .u32 0, .int .u8 0, .bool false, .int .u64 0, .string ⟨#[]⟩, .string ⟨#[]⟩, .int .u64 0, .int .u16 0, .slice none 0 0, .slice none 0 0], .int .i64 (rr : Int)]) ?_ rfl ⟨_, rfl, mv_zero _ _, ?_⟩
    · exact results_cell_row2 rfl rfl rfl (HY8.out.row _) Tryd.underlying30 rfl (msgI rfl)
    · rw [hy]; exact below_row HB8.out (Nat.le_refl _) _
  subst hr0
  have E := HD2.out rfl rfl
  subst E
  go_wp2_with fail
  refine (HE.out).mono ?_
  rintro en w7 ⟨rfl, kd, rfl⟩
  have HBxk : Hid (Bx (w1b.drewN kd) g M (.slice Ap M.peers.length cp) (.slice Aq M.pairs.length cq)) := Lib.hid HBx.out
  go_wp2_with (refine wpList_load_struct Tryd.underlying30 (msgI rfl) rfl rfl rfl HBxk.out.load ?_)
  refine (HR2.out kd).mono ?_
  rintro en w8 ⟨rfl, hb8⟩
  have HY8 := Lib.hid (HYF.out.below ((HKD.out kd).trans hb8) HYF.out.lt)
  have HB8 := Lib.hid (HBF.out.trans (((HKD.out kd).trans hb8).mono (by have := HYF.out.lt; omega)))
  have HOp8 := Lib.hid (own2_below HOp.out ((HKD.out kd).trans hb8))
  have HOq8 := Lib.hid (own2_below HOq.out ((HKD.out kd).trans hb8))
  have HBx8 : Hid (Bx w8 g M (.slice Ap M.peers.length cp) (.slice Aq M.pairs.length cq)) := Lib.hid (HBx.out.below ((HKD.out kd).trans hb8) (Whole.lt HBx.out))
  clear hb8
  go_wp2_with (first | (refine wpList_load_struct Tryd.underlying30 (msgI rfl) rfl rfl rfl HBx8.out.load ?_) | (refine wpList_store_whole rfl rfl rfl rfl rfl HY8.out (msgI rfl) rfl (by simp [Value.oneCell']) ?_))
  refine bodyPost_ret (v := .tuple #[.agg #[.int .i64 M.kind, .int .u32 (M.rid : Int), .int .u8 (M.code : Int), .bool M.has, .int .u64 (M.id : Int), .string M.key, .string M.val, .int .u64 (M.pid : Int), .int .u16 (M.pad : Int), .slice Ap M.peers.length cp, .slice Aq M.pairs.length cq], .int .i64 0]) ?_ rfl ⟨_, rfl, ⟨⟨_, _, rfl, ?_, ?_⟩, okM⟩, ?_⟩
  · exact results_cell_row2 rfl rfl rfl (HY8.out.row _) Tryd.underlying30 rfl (msgI rfl)
  · exact Sl.of_own (own2_from HOp8.out (fun i hi _ => setRow_other w8 y i _ (by omega)))
  · exact Sl.of_own (own2_from HOq8.out (fun i hi _ => setRow_other w8 y i _ (by omega)))
  · rw [hy]; exact below_row HB8.out (Nat.le_refl _) _

set_option maxHeartbeats 2000000 in
theorem rdec_6 {w : World} {B : Nat} {v : Value} {p : List Nat} (h : Piece w B v p) (hp : p.length ≤ 1000000000) (hb : ∀ x ∈ p, x < 256) (HK : Hid ((Bm.rfix p 0 1).1 = 6)) :
    Calls Tryd.prog 11 #[v] w (DecPost (Fm.dec p) w) := by
  obtain ⟨y, hy⟩ : ∃ y, w.heap.size = y := ⟨_, rfl⟩
  obtain ⟨w0, hal⟩ : ∃ w0, w.alloc (.cells #[.int .i64 0, .int .u32 0, .int .u8 0, .bool false, .int .u64 0, .string ⟨#[]⟩, .string ⟨#[]⟩, .int .u64 0, .int .u16 0, .slice none 0 0, .slice none 0 0] 30) = w0 := ⟨_, rfl⟩
  have hY : Whole w0 y 30 #[.int .i64 0, .int .u32 0, .int .u8 0, .bool false, .int .u64 0, .string ⟨#[]⟩, .string ⟨#[]⟩, .int .u64 0, .int .u16 0, .slice none 0 0, .slice none 0 0] := by rw [← hal, ← hy]; exact Whole.made _ _ _
  have hB0 : Below y w w0 := by rw [← hal]; exact (Below.refl y w).alloc (by omega) _
  obtain ⟨r, hr⟩ : ∃ r, w0.heap.size = r := ⟨_, rfl⟩
  have hyr : y < r := by rw [← hr, ← hal, ← hy]; simp
  have hpc : Piece w0 r v p := by have := h.kept (by rw [hy]; exact hB0); rw [hr] at this; exact this
  obtain ⟨A0, cap0, rfl, hsee, hnull, hcap, hmax⟩ := hpc
  obtain ⟨n0, hn0⟩ : ∃ n0, Hid (p.length = n0) := ⟨_, rfl⟩
  have hbb : Fm.Bytes p := hb
  have HBY := Lib.hid hbb
  obtain ⟨w1, hal1⟩ : ∃ w1, w0.alloc (.cells #[.slice A0 n0 cap0, .int .i64 0, .int .i64 0] 57) = w1 := ⟨_, rfl⟩
  have hcu : Cu w1 r r p 0 := cu_new hr hn0.out hsee hb (by have := hn0.out; omega) hmax hnull (by have := hn0.out; omega) hal1
  have HB1 : Hid (Below y w w1) := Lib.hid (hB0.trans (by rw [← hal1]; exact (Below.refl y w0).alloc (by omega) _))
  have HY1 : Hid (Whole w1 y 30 #[.int .i64 0, .int .u32 0, .int .u8 0, .bool false, .int .u64 0, .string ⟨#[]⟩, .string ⟨#[]⟩, .int .u64 0, .int .u16 0, .slice none 0 0, .slice none 0 0]) := Lib.hid (by rw [← hal1]; exact hY.alloc _)
  have hrl := hcu.lt
  have C1 := Lib.hid (curfix_any 1 (by omega) (by omega) hcu)
  rw [hn0.out] at hcap ⊢
  have HRD : Hid (Fm.read p = Fm.own (Bm.rfix p 0 1).1 ((Fm.ridR p).1 % 4294967296) (Fm.ridR p).2.1 (Fm.ridR p).2.2) := rfl
  have HFN : Hid (Fm.fin p = Bm.fin (Fm.read p).2.1 (Fm.read p).2.2) := rfl
  have HRR : Hid (Fm.ridR p = Bm.rfix (Bm.rfix p 0 1).2.1 (Fm.kindE p) 4) := rfl
  have HKE : Hid (Fm.kindE p = if known ((Bm.rfix p 0 1).1 : Int) = true then (Bm.rfix p 0 1).2.2 else Bm.fail (Bm.rfix p 0 1).2.2 9) := rfl
  have HD1 := Lib.hid (fun h => Fm.dec_fin (l := p) h)
  have HD2 := Lib.hid (fun h h2 => Fm.dec_good (l := p) h h2)
  have HD3 := Lib.hid (fun h h2 => Fm.dec_bad (l := p) h h2)
  have HSO := Lib.hid (fun h => (Fm.read_sound hbb h).2)
  have ok_few : ∀ {M : Ms}, Ok M → Fm.fin p = 0 → (Fm.read p).1 = M → M.peers.length ≤ 1000000000 ∧ M.pairs.length ≤ 1000000000 := fun _ h1 h2 => by subst h2; exact Fm.read_few hbb h1
  obtain ⟨dd, hdd⟩ : ∃ dd, Hid (Fm.dec p = dd) := ⟨_, rfl⟩
  rw [hdd.out] at HD1 HD2 HD3 ⊢
  rw [HK.out] at C1 HRD HKE
  have hp1 := (Fm.rfix_suf p 0 1).length_le
  obtain ⟨l1', hl1⟩ : ∃ l1', Hid ((Bm.rfix p 0 1).2.1 = l1') := ⟨_, rfl⟩
  obtain ⟨e1', he1⟩ : ∃ e1', Hid ((Bm.rfix p 0 1).2.2 = e1') := ⟨_, rfl⟩
  rw [hl1.out] at C1 HRR hp1
  rw [he1.out] at C1 HKE
  clear h hb hY hB0 hbb hsee hcu
  have hke : Fm.kindE p = e1' := by rw [HKE.out]; exact if_pos (by decide)
  rw [hke] at HRR
  have HKE2 := Lib.hid hke
  clear hke
  go_enter Tryd.func11, Tryd.ntmps11
  go_wp2_with fail
  refine (C1.out).mono ?_
  rintro en w2 ⟨rfl, hr2, ho2⟩
  obtain ⟨g, w2a, w3, hg, hal2, hz, hst, hm3, hs3, hb3⟩   := var_bx w2 6 6 rfl
  have hrg : r < g := by have := ho2.size; omega
  have HZ := Lib.hid hz
  have HY3 := Lib.hid ((HY1.out.only ho2 (by omega)).below hb3 (by omega))
  have HB3 := Lib.hid (HB1.out.trans ((ho2.below (B := y) (by omega) (by omega)).trans (hb3.mono (by omega))))
  have HS3 := Lib.hid (Sx.bald hr2 hrg hb3 hm3 hs3)
  have HS3z := Lib.hid hs3
  clear hr2 ho2 hz hm3 hb3
  have c0 : w3.cell? ⟨g, 0, none⟩ = some (.int .i64 6) := (Bx.cells HS3.out.bx).1
  have C3 := Lib.hid (curfix_any 4 (by omega) (by omega) HS3.out.rd)
  have B3 : (Bm.rfix l1' (e1') 4).1 < 4294967296 := Fm.rfix_nat (show Fm.Bytes _ from HS3.out.rd.byte) _ 4 4 rfl
  rw [← HRR.out] at C3 B3
  obtain ⟨q, hq⟩ : ∃ q, Hid (Fm.ridR p = q) := ⟨_, rfl⟩
  obtain ⟨rid, l, e⟩ := q
  rw [hq.out] at C3 B3 HRD
  simp only at C3 B3 HRD
  rw [Nat.mod_eq_of_lt B3] at HRD
  go_wp2_with (refine wpList_store_whole rfl rfl rfl rfl rfl HZ.out (msgI rfl) rfl (by simp [Value.oneCell']) ?_; rw [hst])
  refine (C3.out).mono ?_
  rintro en w4 ⟨rfl, hr4, ho4⟩
  have S4 := HS3.out.read hr4 ho4
  have z4 := (Bx.cells S4.bx).2.1
  have f4 : w4.frozen? ⟨g, 1, none⟩ = false := Whole.free S4.bx 1
  have T4 := S4.setRid rid
  obtain ⟨w5, hw5⟩ : ∃ W, w4.setCell ⟨g, 1, none⟩ (.int .u32 (rid : Int)) = W := ⟨_, rfl⟩
  rw [hw5] at T4
  have HT0 : Hid (Sx w3 r g (Fm.bald 6 rid) (.slice none 0 0) (.slice none 0 0) l e w5) := Lib.hid T4
  clear hr4 ho4 S4 T4
  clear c0
  have HOWN : Hid (Fm.own 6 rid l e = (Fm.bald 6 rid, l, e)) := rfl
  have HFin : Hid (Sx w3 r g (Fm.read p).1 (.slice none 0 0) (.slice none 0 0) (Fm.read p).2.1 (Fm.read p).2.2 w5) := Lib.hid (by
    have hh := HT0.out
    rw [HRD.out, HOWN.out]
    exact hh)
  have c0_1 : w5.cell? ⟨g, 0, none⟩ = some (.int .i64 6) := (Bx.cells HT0.out.bx).1
  have HE := Lib.hid (curend_any HFin.out.rd)
  rw [← HFN.out] at HE
  have HYF := Lib.hid (HY3.out.but2 HFin.out.but (by omega) (by omega))
  have HBF := Lib.hid (HB3.out.trans (HFin.out.but.below (B := y) (by omega) (by omega) (by have := HFin.out.top; have := HS3z.out; omega)))
  obtain ⟨x, hx⟩ : ∃ x, Hid (Fm.fin p = x) := ⟨_, rfl⟩
  rw [hx.out] at HE HD1 HD2 HD3 HSO
  by_cases hx0 : x = 0
  case neg =>
    have E := HD1.out hx0
    subst E
    have hne : (x != 0) = true := by simpa using hx0
    have hne2 : (x == 0) = false := by simpa using hx0
    go_wp2_with fail
    refine (HE.out).mono ?_
    rintro en w7 ⟨rfl, kd, rfl⟩
    have HYG : Hid (Whole (w5.drewN kd) y 30 #[.int .i64 0, .int .u32 0, .int .u8 0, .bool false, .int .u64 0, .string ⟨#[]⟩, .string ⟨#[]⟩, .int .u64 0, .int .u16 0, .slice none 0 0, .slice none 0 0]) := Lib.hid HYF.out
    have HBG := Lib.hid (HBF.out.trans (show Below y w5 (w5.drewN kd) from ⟨rfl, rfl, rfl, Nat.le_refl _, fun _ _ => rfl⟩))
    go_wp2_with (refine wpList_store_whole rfl rfl rfl rfl rfl HYG.out (msgI rfl) rfl (by simp [Value.oneCell']) ?_)
    refine bodyPost_ret (v := .tuple #[.agg #[.int .i64 0, .int .u32 0, .int .u8 0, .bool false, .int .u64 0, .string ⟨#[]⟩, .string ⟨#[]⟩, .int .u64 0, .int .u16 0, .slice none 0 0, .slice none 0 0], .int .i64 x]) ?_ rfl ⟨_, rfl, mv_zero _ _, ?_⟩
    · exact results_cell_row2 rfl rfl rfl (HYG.out.row _) Tryd.underlying30 rfl (msgI rfl)
    · rw [hy]; exact below_row HBG.out (Nat.le_refl _) _
  subst hx0
  have okM := HSO.out rfl
  obtain ⟨M, hM⟩ : ∃ M, Hid ((Fm.read p).1 = M) := ⟨_, rfl⟩
  rw [hM.out] at HFin HD2 HD3 okM
  obtain ⟨Ap, cp, Aq, cq, hbx, hop, hoq⟩ := HFin.out.ends
  have HBx := Lib.hid hbx
  have HOp := Lib.hid hop
  have HOq := Lib.hid hoq
  have hkd : ∀ kd, Below w5.heap.size w5 (w5.drewN kd) := fun kd => ⟨rfl, rfl, rfl, Nat.le_refl _, fun _ _ => rfl⟩
  have hmv : ∀ kd, Mv (w5.drewN kd) (w5.drewN kd).heap.size M (.agg #[.int .i64 M.kind, .int .u32 (M.rid : Int), .int .u8 (M.code : Int), .bool M.has, .int .u64 (M.id : Int), .string M.key, .string M.val, .int .u64 (M.pid : Int), .int .u16 (M.pad : Int), .slice Ap M.peers.length cp, .slice Aq M.pairs.length cq]) := fun kd => ⟨⟨_, _, rfl, Sl.of_own (own2_below HOp.out (hkd kd)), Sl.of_own (own2_below HOq.out (hkd kd))⟩, okM⟩
  have hlp := ok_few okM hx.out hM.out
  have HR2 := Lib.hid (fun kd => rright_any (hmv kd) hlp.1 hlp.2)
  obtain ⟨rr, hrr⟩ : ∃ rr, Hid (right M = rr) := ⟨_, rfl⟩
  rw [hrr.out] at HR2 HD2 HD3
  have HKD := Lib.hid hkd
  clear hbx hop hoq hmv hlp hkd
  by_cases hr0 : rr = 0
  case neg =>
    have E := HD3.out rfl hr0
    subst E
    have hlt : ¬ (rr : Int) = 0 := by omega
    go_wp2_with fail
    refine (HE.out).mono ?_
    rintro en w7 ⟨rfl, kd, rfl⟩
    have HBxk : Hid (Bx (w5.drewN kd) g M (.slice Ap M.peers.length cp) (.slice Aq M.pairs.length cq)) := Lib.hid HBx.out
    go_wp2_with (refine wpList_load_struct Tryd.underlying30 (msgI rfl) rfl rfl rfl HBxk.out.load ?_)
    refine (HR2.out kd).mono ?_
    rintro en w8 ⟨rfl, hb8⟩
    have HY8 := Lib.hid (HYF.out.below ((HKD.out kd).trans hb8) HYF.out.lt)
    have HB8 := Lib.hid (HBF.out.trans (((HKD.out kd).trans hb8).mono (by have := HYF.out.lt; omega)))
    clear hb8
    go_wp2_with (refine wpList_store_whole rfl rfl rfl rfl rfl HY8.out (msgI rfl) rfl (by simp [Value.oneCell']) ?_)
    refine bodyPost_ret (v := .tuple #[.agg #[.int .i64 0, .int .u32 0, .int .u8 0, .bool false, .int .u64 0, .string ⟨#[]⟩, .string ⟨#[]⟩, .int .u64 0, .int .u16 0, .slice none 0 0, .slice none 0 0], .int .i64 (rr : Int)]) ?_ rfl ⟨_, rfl, mv_zero _ _, ?_⟩
    · exact results_cell_row2 rfl rfl rfl (HY8.out.row _) Tryd.underlying30 rfl (msgI rfl)
    · rw [hy]; exact below_row HB8.out (Nat.le_refl _) _
  subst hr0
  have E := HD2.out rfl rfl
  subst E
  go_wp2_with fail
  refine (HE.out).mono ?_
  rintro en w7 ⟨rfl, kd, rfl⟩
  have HBxk : Hid (Bx (w5.drewN kd) g M (.slice Ap M.peers.length cp) (.slice Aq M.pairs.length cq)) := Lib.hid HBx.out
  go_wp2_with (refine wpList_load_struct Tryd.underlying30 (msgI rfl) rfl rfl rfl HBxk.out.load ?_)
  refine (HR2.out kd).mono ?_
  rintro en w8 ⟨rfl, hb8⟩
  have HY8 := Lib.hid (HYF.out.below ((HKD.out kd).trans hb8) HYF.out.lt)
  have HB8 := Lib.hid (HBF.out.trans (((HKD.out kd).trans hb8).mono (by have := HYF.out.lt; omega)))
  have HOp8 := Lib.hid (own2_below HOp.out ((HKD.out kd).trans hb8))
  have HOq8 := Lib.hid (own2_below HOq.out ((HKD.out kd).trans hb8))
  have HBx8 : Hid (Bx w8 g M (.slice Ap M.peers.length cp) (.slice Aq M.pairs.length cq)) := Lib.hid (HBx.out.below ((HKD.out kd).trans hb8) (Whole.lt HBx.out))
  clear hb8
  go_wp2_with (first | (refine wpList_load_struct Tryd.underlying30 (msgI rfl) rfl rfl rfl HBx8.out.load ?_) | (refine wpList_store_whole rfl rfl rfl rfl rfl HY8.out (msgI rfl) rfl (by simp [Value.oneCell']) ?_))
  refine bodyPost_ret (v := .tuple #[.agg #[.int .i64 M.kind, .int .u32 (M.rid : Int), .int .u8 (M.code : Int), .bool M.has, .int .u64 (M.id : Int), .string M.key, .string M.val, .int .u64 (M.pid : Int), .int .u16 (M.pad : Int), .slice Ap M.peers.length cp, .slice Aq M.pairs.length cq], .int .i64 0]) ?_ rfl ⟨_, rfl, ⟨⟨_, _, rfl, ?_, ?_⟩, okM⟩, ?_⟩
  · exact results_cell_row2 rfl rfl rfl (HY8.out.row _) Tryd.underlying30 rfl (msgI rfl)
  · exact Sl.of_own (own2_from HOp8.out (fun i hi _ => setRow_other w8 y i _ (by omega)))
  · exact Sl.of_own (own2_from HOq8.out (fun i hi _ => setRow_other w8 y i _ (by omega)))
  · rw [hy]; exact below_row HB8.out (Nat.le_refl _) _

set_option maxHeartbeats 2000000 in
theorem rdec_8 {w : World} {B : Nat} {v : Value} {p : List Nat} (h : Piece w B v p) (hp : p.length ≤ 1000000000) (hb : ∀ x ∈ p, x < 256) (HK : Hid ((Bm.rfix p 0 1).1 = 8)) :
    Calls Tryd.prog 11 #[v] w (DecPost (Fm.dec p) w) := by
  obtain ⟨y, hy⟩ : ∃ y, w.heap.size = y := ⟨_, rfl⟩
  obtain ⟨w0, hal⟩ : ∃ w0, w.alloc (.cells #[.int .i64 0, .int .u32 0, .int .u8 0, .bool false, .int .u64 0, .string ⟨#[]⟩, .string ⟨#[]⟩, .int .u64 0, .int .u16 0, .slice none 0 0, .slice none 0 0] 30) = w0 := ⟨_, rfl⟩
  have hY : Whole w0 y 30 #[.int .i64 0, .int .u32 0, .int .u8 0, .bool false, .int .u64 0, .string ⟨#[]⟩, .string ⟨#[]⟩, .int .u64 0, .int .u16 0, .slice none 0 0, .slice none 0 0] := by rw [← hal, ← hy]; exact Whole.made _ _ _
  have hB0 : Below y w w0 := by rw [← hal]; exact (Below.refl y w).alloc (by omega) _
  obtain ⟨r, hr⟩ : ∃ r, w0.heap.size = r := ⟨_, rfl⟩
  have hyr : y < r := by rw [← hr, ← hal, ← hy]; simp
  have hpc : Piece w0 r v p := by have := h.kept (by rw [hy]; exact hB0); rw [hr] at this; exact this
  obtain ⟨A0, cap0, rfl, hsee, hnull, hcap, hmax⟩ := hpc
  obtain ⟨n0, hn0⟩ : ∃ n0, Hid (p.length = n0) := ⟨_, rfl⟩
  have hbb : Fm.Bytes p := hb
  have HBY := Lib.hid hbb
  obtain ⟨w1, hal1⟩ : ∃ w1, w0.alloc (.cells #[.slice A0 n0 cap0, .int .i64 0, .int .i64 0] 57) = w1 := ⟨_, rfl⟩
  have hcu : Cu w1 r r p 0 := cu_new hr hn0.out hsee hb (by have := hn0.out; omega) hmax hnull (by have := hn0.out; omega) hal1
  have HB1 : Hid (Below y w w1) := Lib.hid (hB0.trans (by rw [← hal1]; exact (Below.refl y w0).alloc (by omega) _))
  have HY1 : Hid (Whole w1 y 30 #[.int .i64 0, .int .u32 0, .int .u8 0, .bool false, .int .u64 0, .string ⟨#[]⟩, .string ⟨#[]⟩, .int .u64 0, .int .u16 0, .slice none 0 0, .slice none 0 0]) := Lib.hid (by rw [← hal1]; exact hY.alloc _)
  have hrl := hcu.lt
  have C1 := Lib.hid (curfix_any 1 (by omega) (by omega) hcu)
  rw [hn0.out] at hcap ⊢
  have HRD : Hid (Fm.read p = Fm.own (Bm.rfix p 0 1).1 ((Fm.ridR p).1 % 4294967296) (Fm.ridR p).2.1 (Fm.ridR p).2.2) := rfl
  have HFN : Hid (Fm.fin p = Bm.fin (Fm.read p).2.1 (Fm.read p).2.2) := rfl
  have HRR : Hid (Fm.ridR p = Bm.rfix (Bm.rfix p 0 1).2.1 (Fm.kindE p) 4) := rfl
  have HKE : Hid (Fm.kindE p = if known ((Bm.rfix p 0 1).1 : Int) = true then (Bm.rfix p 0 1).2.2 else Bm.fail (Bm.rfix p 0 1).2.2 9) := rfl
  have HD1 := Lib.hid (fun h => Fm.dec_fin (l := p) h)
  have HD2 := Lib.hid (fun h h2 => Fm.dec_good (l := p) h h2)
  have HD3 := Lib.hid (fun h h2 => Fm.dec_bad (l := p) h h2)
  have HSO := Lib.hid (fun h => (Fm.read_sound hbb h).2)
  have ok_few : ∀ {M : Ms}, Ok M → Fm.fin p = 0 → (Fm.read p).1 = M → M.peers.length ≤ 1000000000 ∧ M.pairs.length ≤ 1000000000 := fun _ h1 h2 => by subst h2; exact Fm.read_few hbb h1
  obtain ⟨dd, hdd⟩ : ∃ dd, Hid (Fm.dec p = dd) := ⟨_, rfl⟩
  rw [hdd.out] at HD1 HD2 HD3 ⊢
  rw [HK.out] at C1 HRD HKE
  have hp1 := (Fm.rfix_suf p 0 1).length_le
  obtain ⟨l1', hl1⟩ : ∃ l1', Hid ((Bm.rfix p 0 1).2.1 = l1') := ⟨_, rfl⟩
  obtain ⟨e1', he1⟩ : ∃ e1', Hid ((Bm.rfix p 0 1).2.2 = e1') := ⟨_, rfl⟩
  rw [hl1.out] at C1 HRR hp1
  rw [he1.out] at C1 HKE
  clear h hb hY hB0 hbb hsee hcu
  have hke : Fm.kindE p = e1' := by rw [HKE.out]; exact if_pos (by decide)
  rw [hke] at HRR
  have HKE2 := Lib.hid hke
  clear hke
  go_enter Tryd.func11, Tryd.ntmps11
  go_wp2_with fail
  refine (C1.out).mono ?_
  rintro en w2 ⟨rfl, hr2, ho2⟩
  obtain ⟨g, w2a, w3, hg, hal2, hz, hst, hm3, hs3, hb3⟩   := var_bx w2 8 8 rfl
  have hrg : r < g := by have := ho2.size; omega
  have HZ := Lib.hid hz
  have HY3 := Lib.hid ((HY1.out.only ho2 (by omega)).below hb3 (by omega))
  have HB3 := Lib.hid (HB1.out.trans ((ho2.below (B := y) (by omega) (by omega)).trans (hb3.mono (by omega))))
  have HS3 := Lib.hid (Sx.bald hr2 hrg hb3 hm3 hs3)
  have HS3z := Lib.hid hs3
  clear hr2 ho2 hz hm3 hb3
  have c0 : w3.cell? ⟨g, 0, none⟩ = some (.int .i64 8) := (Bx.cells HS3.out.bx).1
  have C3 := Lib.hid (curfix_any 4 (by omega) (by omega) HS3.out.rd)
  have B3 : (Bm.rfix l1' (e1') 4).1 < 4294967296 := Fm.rfix_nat (show Fm.Bytes _ from HS3.out.rd.byte) _ 4 4 rfl
  rw [← HRR.out] at C3 B3
  obtain ⟨q, hq⟩ : ∃ q, Hid (Fm.ridR p = q) := ⟨_, rfl⟩
  obtain ⟨rid, l, e⟩ := q
  rw [hq.out] at C3 B3 HRD
  simp only at C3 B3 HRD
  rw [Nat.mod_eq_of_lt B3] at HRD
  go_wp2_with (refine wpList_store_whole rfl rfl rfl rfl rfl HZ.out (msgI rfl) rfl (by simp [Value.oneCell']) ?_; rw [hst])
  refine (C3.out).mono ?_
  rintro en w4 ⟨rfl, hr4, ho4⟩
  have S4 := HS3.out.read hr4 ho4
  have z4 := (Bx.cells S4.bx).2.1
  have f4 : w4.frozen? ⟨g, 1, none⟩ = false := Whole.free S4.bx 1
  have T4 := S4.setRid rid
  obtain ⟨w5, hw5⟩ : ∃ W, w4.setCell ⟨g, 1, none⟩ (.int .u32 (rid : Int)) = W := ⟨_, rfl⟩
  rw [hw5] at T4
  have HT0 : Hid (Sx w3 r g (Fm.bald 8 rid) (.slice none 0 0) (.slice none 0 0) l e w5) := Lib.hid T4
  clear hr4 ho4 S4 T4
  clear c0
  have HOWN : Hid (Fm.own 8 rid l e = ({ Fm.bald 8 rid with key := strOf (Fm.str 1 96 l e).1 }, (Fm.str 1 96 l e).2)) := Lib.hid (by unfold Fm.own; rw [if_neg (by omega), if_neg (by omega), if_neg (by omega), if_neg (by omega), if_neg (by omega), if_pos rfl])
  have c0_1 : w5.cell? ⟨g, 0, none⟩ = some (.int .i64 8) := (Bx.cells HT0.out.bx).1
  have C1 := Lib.hid (rread_any 1 96 1 rfl (by omega) (by omega) (by omega) HT0.out.rd)
  go_wp2_with fail
  refine (C1.out).mono ?_
  rintro en w1a ⟨rfl, hr1, ho1⟩
  have S1 := HT0.out.read hr1 ho1
  obtain ⟨x1, hx1⟩ : ∃ x, Hid ((strOf (Fm.str 1 96 l e).1) = x) := ⟨_, rfl⟩
  rw [hx1.out]
  have z1_0 := (Bx.cells S1.bx).2.2.2.2.2.1
  have f1_0 : w1a.frozen? ⟨g, 5, none⟩ = false := Whole.free S1.bx 5
  have T1_0 := S1.setKey x1
  obtain ⟨w1b, hw1_0⟩ : ∃ W, w1a.setCell ⟨g, 5, none⟩ (.string x1) = W := ⟨_, rfl⟩
  rw [hw1_0] at T1_0
  have HT1 := Lib.hid T1_0
  clear hr1 ho1 S1 T1_0
  clear c0_1
  have HFin : Hid (Sx w3 r g (Fm.read p).1 (.slice none 0 0) (.slice none 0 0) (Fm.read p).2.1 (Fm.read p).2.2 w1b) := Lib.hid (by
    have hh := HT1.out
    rw [HRD.out, HOWN.out]
    rw [← hx1.out] at hh
    exact hh)
  have c0_2 : w1b.cell? ⟨g, 0, none⟩ = some (.int .i64 8) := (Bx.cells HT1.out.bx).1
  have HE := Lib.hid (curend_any HFin.out.rd)
  rw [← HFN.out] at HE
  have HYF := Lib.hid (HY3.out.but2 HFin.out.but (by omega) (by omega))
  have HBF := Lib.hid (HB3.out.trans (HFin.out.but.below (B := y) (by omega) (by omega) (by have := HFin.out.top; have := HS3z.out; omega)))
  obtain ⟨x, hx⟩ : ∃ x, Hid (Fm.fin p = x) := ⟨_, rfl⟩
  rw [hx.out] at HE HD1 HD2 HD3 HSO
  by_cases hx0 : x = 0
  case neg =>
    have E := HD1.out hx0
    subst E
    have hne : (x != 0) = true := by simpa using hx0
    have hne2 : (x == 0) = false := by simpa using hx0
    go_wp2_with fail
    refine (HE.out).mono ?_
    rintro en w7 ⟨rfl, kd, rfl⟩
    have HYG : Hid (Whole (w1b.drewN kd) y 30 #[.int .i64 0, .int .u32 0, .int .u8 0, .bool false, .int .u64 0, .string ⟨#[]⟩, .string ⟨#[]⟩, .int .u64 0, .int .u16 0, .slice none 0 0, .slice none 0 0]) := Lib.hid HYF.out
    have HBG := Lib.hid (HBF.out.trans (show Below y w1b (w1b.drewN kd) from ⟨rfl, rfl, rfl, Nat.le_refl _, fun _ _ => rfl⟩))
    go_wp2_with (refine wpList_store_whole rfl rfl rfl rfl rfl HYG.out (msgI rfl) rfl (by simp [Value.oneCell']) ?_)
    refine bodyPost_ret (v := .tuple #[.agg #[.int .i64 0, .int .u32 0, .int .u8 0, .bool false, .int .u64 0, .string ⟨#[]⟩, .string ⟨#[]⟩, .int .u64 0, .int .u16 0, .slice none 0 0, .slice none 0 0], .int .i64 x]) ?_ rfl ⟨_, rfl, mv_zero _ _, ?_⟩
    · exact results_cell_row2 rfl rfl rfl (HYG.out.row _) Tryd.underlying30 rfl (msgI rfl)
    · rw [hy]; exact below_row HBG.out (Nat.le_refl _) _
  subst hx0
  have okM := HSO.out rfl
  obtain ⟨M, hM⟩ : ∃ M, Hid ((Fm.read p).1 = M) := ⟨_, rfl⟩
  rw [hM.out] at HFin HD2 HD3 okM
  obtain ⟨Ap, cp, Aq, cq, hbx, hop, hoq⟩ := HFin.out.ends
  have HBx := Lib.hid hbx
  have HOp := Lib.hid hop
  have HOq := Lib.hid hoq
  have hkd : ∀ kd, Below w1b.heap.size w1b (w1b.drewN kd) := fun kd => ⟨rfl, rfl, rfl, Nat.le_refl _, fun _ _ => rfl⟩
  have hmv : ∀ kd, Mv (w1b.drewN kd) (w1b.drewN kd).heap.size M (.agg #[.int .i64 M.kind, .int .u32 (M.rid : Int), .int .u8 (M.code : Int), .bool M.has, .int .u64 (M.id : Int), .string M.key, .string M.val, .int .u64 (M.pid : Int), .int .u16 (M.pad : Int), .slice Ap M.peers.length cp, .slice Aq M.pairs.length cq]) := fun kd => ⟨⟨_, _, rfl, Sl.of_own (own2_below HOp.out (hkd kd)), Sl.of_own (own2_below HOq.out (hkd kd))⟩, okM⟩
  have hlp := ok_few okM hx.out hM.out
  have HR2 := Lib.hid (fun kd => rright_any (hmv kd) hlp.1 hlp.2)
  obtain ⟨rr, hrr⟩ : ∃ rr, Hid (right M = rr) := ⟨_, rfl⟩
  rw [hrr.out] at HR2 HD2 HD3
  have HKD := Lib.hid hkd
  clear hbx hop hoq hmv hlp hkd
  by_cases hr0 : rr = 0
  case neg =>
    have E := HD3.out rfl hr0
    subst E
    have hlt : ¬ (rr : Int) = 0 := by omega
    go_wp2_with fail
    refine (HE.out).mono ?_
    rintro en w7 ⟨rfl, kd, rfl⟩
    have HBxk : Hid (Bx (w1b.drewN kd) g M (.slice Ap M.peers.length cp) (.slice Aq M.pairs.length cq)) := Lib.hid HBx.out
    go_wp2_with (refine wpList_load_struct Tryd.underlying30 (msgI rfl) rfl rfl rfl HBxk.out.load ?_)
    refine (HR2.out kd).mono ?_
    rintro en w8 ⟨rfl, hb8⟩
    have HY8 := Lib.hid (HYF.out.below ((HKD.out kd).trans hb8) HYF.out.lt)
    have HB8 := Lib.hid (HBF.out.trans (((HKD.out kd).trans hb8).mono (by have := HYF.out.lt; omega)))
    clear hb8
    go_wp2_with (refine wpList_store_whole rfl rfl rfl rfl rfl HY8.out (msgI rfl) rfl (by simp [Value.oneCell']) ?_)
    refine bodyPost_ret (v := .tuple #[.agg #[.int .i64 0, .int .u32 0, .int .u8 0, .bool false, .int .u64 0, .string ⟨#[]⟩, .string ⟨#[]⟩, .int .u64 0, .int .u16 0, .slice none 0 0, .slice none 0 0], .int .i64 (rr : Int)]) ?_ rfl ⟨_, rfl, mv_zero _ _, ?_⟩
    · exact results_cell_row2 rfl rfl rfl (HY8.out.row _) Tryd.underlying30 rfl (msgI rfl)
    · rw [hy]; exact below_row HB8.out (Nat.le_refl _) _
  subst hr0
  have E := HD2.out rfl rfl
  subst E
  go_wp2_with fail
  refine (HE.out).mono ?_
  rintro en w7 ⟨rfl, kd, rfl⟩
  have HBxk : Hid (Bx (w1b.drewN kd) g M (.slice Ap M.peers.length cp) (.slice Aq M.pairs.length cq)) := Lib.hid HBx.out
  go_wp2_with (refine wpList_load_struct Tryd.underlying30 (msgI rfl) rfl rfl rfl HBxk.out.load ?_)
  refine (HR2.out kd).mono ?_
  rintro en w8 ⟨rfl, hb8⟩
  have HY8 := Lib.hid (HYF.out.below ((HKD.out kd).trans hb8) HYF.out.lt)
  have HB8 := Lib.hid (HBF.out.trans (((HKD.out kd).trans hb8).mono (by have := HYF.out.lt; omega)))
  have HOp8 := Lib.hid (own2_below HOp.out ((HKD.out kd).trans hb8))
  have HOq8 := Lib.hid (own2_below HOq.out ((HKD.out kd).trans hb8))
  have HBx8 : Hid (Bx w8 g M (.slice Ap M.peers.length cp) (.slice Aq M.pairs.length cq)) := Lib.hid (HBx.out.below ((HKD.out kd).trans hb8) (Whole.lt HBx.out))
  clear hb8
  go_wp2_with (first | (refine wpList_load_struct Tryd.underlying30 (msgI rfl) rfl rfl rfl HBx8.out.load ?_) | (refine wpList_store_whole rfl rfl rfl rfl rfl HY8.out (msgI rfl) rfl (by simp [Value.oneCell']) ?_))
  refine bodyPost_ret (v := .tuple #[.agg #[.int .i64 M.kind, .int .u32 (M.rid : Int), .int .u8 (M.code : Int), .bool M.has, .int .u64 (M.id : Int), .string M.key, .string M.val, .int .u64 (M.pid : Int), .int .u16 (M.pad : Int), .slice Ap M.peers.length cp, .slice Aq M.pairs.length cq], .int .i64 0]) ?_ rfl ⟨_, rfl, ⟨⟨_, _, rfl, ?_, ?_⟩, okM⟩, ?_⟩
  · exact results_cell_row2 rfl rfl rfl (HY8.out.row _) Tryd.underlying30 rfl (msgI rfl)
  · exact Sl.of_own (own2_from HOp8.out (fun i hi _ => setRow_other w8 y i _ (by omega)))
  · exact Sl.of_own (own2_from HOq8.out (fun i hi _ => setRow_other w8 y i _ (by omega)))
  · rw [hy]; exact below_row HB8.out (Nat.le_refl _) _

set_option maxHeartbeats 2000000 in
theorem rdec_11 {w : World} {B : Nat} {v : Value} {p : List Nat} (h : Piece w B v p) (hp : p.length ≤ 1000000000) (hb : ∀ x ∈ p, x < 256) (HK : Hid ((Bm.rfix p 0 1).1 = 11)) :
    Calls Tryd.prog 11 #[v] w (DecPost (Fm.dec p) w) := by
  obtain ⟨y, hy⟩ : ∃ y, w.heap.size = y := ⟨_, rfl⟩
  obtain ⟨w0, hal⟩ : ∃ w0, w.alloc (.cells #[.int .i64 0, .int .u32 0, .int .u8 0, .bool false, .int .u64 0, .string ⟨#[]⟩, .string ⟨#[]⟩, .int .u64 0, .int .u16 0, .slice none 0 0, .slice none 0 0] 30) = w0 := ⟨_, rfl⟩
  have hY : Whole w0 y 30 #[.int .i64 0, .int .u32 0, .int .u8 0, .bool false, .int .u64 0, .string ⟨#[]⟩, .string ⟨#[]⟩, .int .u64 0, .int .u16 0, .slice none 0 0, .slice none 0 0] := by rw [← hal, ← hy]; exact Whole.made _ _ _
  have hB0 : Below y w w0 := by rw [← hal]; exact (Below.refl y w).alloc (by omega) _
  obtain ⟨r, hr⟩ : ∃ r, w0.heap.size = r := ⟨_, rfl⟩
  have hyr : y < r := by rw [← hr, ← hal, ← hy]; simp
  have hpc : Piece w0 r v p := by have := h.kept (by rw [hy]; exact hB0); rw [hr] at this; exact this
  obtain ⟨A0, cap0, rfl, hsee, hnull, hcap, hmax⟩ := hpc
  obtain ⟨n0, hn0⟩ : ∃ n0, Hid (p.length = n0) := ⟨_, rfl⟩
  have hbb : Fm.Bytes p := hb
  have HBY := Lib.hid hbb
  obtain ⟨w1, hal1⟩ : ∃ w1, w0.alloc (.cells #[.slice A0 n0 cap0, .int .i64 0, .int .i64 0] 57) = w1 := ⟨_, rfl⟩
  have hcu : Cu w1 r r p 0 := cu_new hr hn0.out hsee hb (by have := hn0.out; omega) hmax hnull (by have := hn0.out; omega) hal1
  have HB1 : Hid (Below y w w1) := Lib.hid (hB0.trans (by rw [← hal1]; exact (Below.refl y w0).alloc (by omega) _))
  have HY1 : Hid (Whole w1 y 30 #[.int .i64 0, .int .u32 0, .int .u8 0, .bool false, .int .u64 0, .string ⟨#[]⟩, .string ⟨#[]⟩, .int .u64 0, .int .u16 0, .slice none 0 0, .slice none 0 0]) := Lib.hid (by rw [← hal1]; exact hY.alloc _)
  have hrl := hcu.lt
  have C1 := Lib.hid (curfix_any 1 (by omega) (by omega) hcu)
  rw [hn0.out] at hcap ⊢
  have HRD : Hid (Fm.read p = Fm.own (Bm.rfix p 0 1).1 ((Fm.ridR p).1 % 4294967296) (Fm.ridR p).2.1 (Fm.ridR p).2.2) := rfl
  have HFN : Hid (Fm.fin p = Bm.fin (Fm.read p).2.1 (Fm.read p).2.2) := rfl
  have HRR : Hid (Fm.ridR p = Bm.rfix (Bm.rfix p 0 1).2.1 (Fm.kindE p) 4) := rfl
  have HKE : Hid (Fm.kindE p = if known ((Bm.rfix p 0 1).1 : Int) = true then (Bm.rfix p 0 1).2.2 else Bm.fail (Bm.rfix p 0 1).2.2 9) := rfl
  have HD1 := Lib.hid (fun h => Fm.dec_fin (l := p) h)
  have HD2 := Lib.hid (fun h h2 => Fm.dec_good (l := p) h h2)
  have HD3 := Lib.hid (fun h h2 => Fm.dec_bad (l := p) h h2)
  have HSO := Lib.hid (fun h => (Fm.read_sound hbb h).2)
  have ok_few : ∀ {M : Ms}, Ok M → Fm.fin p = 0 → (Fm.read p).1 = M → M.peers.length ≤ 1000000000 ∧ M.pairs.length ≤ 1000000000 := fun _ h1 h2 => by subst h2; exact Fm.read_few hbb h1
  obtain ⟨dd, hdd⟩ : ∃ dd, Hid (Fm.dec p = dd) := ⟨_, rfl⟩
  rw [hdd.out] at HD1 HD2 HD3 ⊢
  rw [HK.out] at C1 HRD HKE
  have hp1 := (Fm.rfix_suf p 0 1).length_le
  obtain ⟨l1', hl1⟩ : ∃ l1', Hid ((Bm.rfix p 0 1).2.1 = l1') := ⟨_, rfl⟩
  obtain ⟨e1', he1⟩ : ∃ e1', Hid ((Bm.rfix p 0 1).2.2 = e1') := ⟨_, rfl⟩
  rw [hl1.out] at C1 HRR hp1
  rw [he1.out] at C1 HKE
  clear h hb hY hB0 hbb hsee hcu
  have hke : Fm.kindE p = e1' := by rw [HKE.out]; exact if_pos (by decide)
  rw [hke] at HRR
  have HKE2 := Lib.hid hke
  clear hke
  go_enter Tryd.func11, Tryd.ntmps11
  go_wp2_with fail
  refine (C1.out).mono ?_
  rintro en w2 ⟨rfl, hr2, ho2⟩
  obtain ⟨g, w2a, w3, hg, hal2, hz, hst, hm3, hs3, hb3⟩   := var_bx w2 11 11 rfl
  have hrg : r < g := by have := ho2.size; omega
  have HZ := Lib.hid hz
  have HY3 := Lib.hid ((HY1.out.only ho2 (by omega)).below hb3 (by omega))
  have HB3 := Lib.hid (HB1.out.trans ((ho2.below (B := y) (by omega) (by omega)).trans (hb3.mono (by omega))))
  have HS3 := Lib.hid (Sx.bald hr2 hrg hb3 hm3 hs3)
  have HS3z := Lib.hid hs3
  clear hr2 ho2 hz hm3 hb3
  have c0 : w3.cell? ⟨g, 0, none⟩ = some (.int .i64 11) := (Bx.cells HS3.out.bx).1
  have C3 := Lib.hid (curfix_any 4 (by omega) (by omega) HS3.out.rd)
  have B3 : (Bm.rfix l1' (e1') 4).1 < 4294967296 := Fm.rfix_nat (show Fm.Bytes _ from HS3.out.rd.byte) _ 4 4 rfl
  rw [← HRR.out] at C3 B3
  obtain ⟨q, hq⟩ : ∃ q, Hid (Fm.ridR p = q) := ⟨_, rfl⟩
  obtain ⟨rid, l, e⟩ := q
  rw [hq.out] at C3 B3 HRD
  simp only at C3 B3 HRD
  rw [Nat.mod_eq_of_lt B3] at HRD
  go_wp2_with (refine wpList_store_whole rfl rfl rfl rfl rfl HZ.out (msgI rfl) rfl (by simp [Value.oneCell']) ?_; rw [hst])
  refine (C3.out).mono ?_
  rintro en w4 ⟨rfl, hr4, ho4⟩
  have S4 := HS3.out.read hr4 ho4
  have z4 := (Bx.cells S4.bx).2.1
  have f4 : w4.frozen? ⟨g, 1, none⟩ = false := Whole.free S4.bx 1
  have T4 := S4.setRid rid
  obtain ⟨w5, hw5⟩ : ∃ W, w4.setCell ⟨g, 1, none⟩ (.int .u32 (rid : Int)) = W := ⟨_, rfl⟩
  rw [hw5] at T4
  have HT0 : Hid (Sx w3 r g (Fm.bald 11 rid) (.slice none 0 0) (.slice none 0 0) l e w5) := Lib.hid T4
  clear hr4 ho4 S4 T4
  clear c0
  have HOWN : Hid (Fm.own 11 rid l e = (Fm.bald 11 rid, l, e)) := rfl
  have HFin : Hid (Sx w3 r g (Fm.read p).1 (.slice none 0 0) (.slice none 0 0) (Fm.read p).2.1 (Fm.read p).2.2 w5) := Lib.hid (by
    have hh := HT0.out
    rw [HRD.out, HOWN.out]
    exact hh)
  have c0_1 : w5.cell? ⟨g, 0, none⟩ = some (.int .i64 11) := (Bx.cells HT0.out.bx).1
  have HE := Lib.hid (curend_any HFin.out.rd)
  rw [← HFN.out] at HE
  have HYF := Lib.hid (HY3.out.but2 HFin.out.but (by omega) (by omega))
  have HBF := Lib.hid (HB3.out.trans (HFin.out.but.below (B := y) (by omega) (by omega) (by have := HFin.out.top; have := HS3z.out; omega)))
  obtain ⟨x, hx⟩ : ∃ x, Hid (Fm.fin p = x) := ⟨_, rfl⟩
  rw [hx.out] at HE HD1 HD2 HD3 HSO
  by_cases hx0 : x = 0
  case neg =>
    have E := HD1.out hx0
    subst E
    have hne : (x != 0) = true := by simpa using hx0
    have hne2 : (x == 0) = false := by simpa using hx0
    go_wp2_with fail
    refine (HE.out).mono ?_
    rintro en w7 ⟨rfl, kd, rfl⟩
    have HYG : Hid (Whole (w5.drewN kd) y 30 #[.int .i64 0, .int .u32 0, .int .u8 0, .bool false, .int .u64 0, .string ⟨#[]⟩, .string ⟨#[]⟩, .int .u64 0, .int .u16 0, .slice none 0 0, .slice none 0 0]) := Lib.hid HYF.out
    have HBG := Lib.hid (HBF.out.trans (show Below y w5 (w5.drewN kd) from ⟨rfl, rfl, rfl, Nat.le_refl _, fun _ _ => rfl⟩))
    go_wp2_with (refine wpList_store_whole rfl rfl rfl rfl rfl HYG.out (msgI rfl) rfl (by simp [Value.oneCell']) ?_)
    refine bodyPost_ret (v := .tuple #[.agg #[.int .i64 0, .int .u32 0, .int .u8 0, .bool false, .int .u64 0, .string ⟨#[]⟩, .string ⟨#[]⟩, .int .u64 0, .int .u16 0, .slice none 0 0, .slice none 0 0], .int .i64 x]) ?_ rfl ⟨_, rfl, mv_zero _ _, ?_⟩
    · exact results_cell_row2 rfl rfl rfl (HYG.out.row _) Tryd.underlying30 rfl (msgI rfl)
    · rw [hy]; exact below_row HBG.out (Nat.le_refl _) _
  subst hx0
  have okM := HSO.out rfl
  obtain ⟨M, hM⟩ : ∃ M, Hid ((Fm.read p).1 = M) := ⟨_, rfl⟩
  rw [hM.out] at HFin HD2 HD3 okM
  obtain ⟨Ap, cp, Aq, cq, hbx, hop, hoq⟩ := HFin.out.ends
  have HBx := Lib.hid hbx
  have HOp := Lib.hid hop
  have HOq := Lib.hid hoq
  have hkd : ∀ kd, Below w5.heap.size w5 (w5.drewN kd) := fun kd => ⟨rfl, rfl, rfl, Nat.le_refl _, fun _ _ => rfl⟩
  have hmv : ∀ kd, Mv (w5.drewN kd) (w5.drewN kd).heap.size M (.agg #[.int .i64 M.kind, .int .u32 (M.rid : Int), .int .u8 (M.code : Int), .bool M.has, .int .u64 (M.id : Int), .string M.key, .string M.val, .int .u64 (M.pid : Int), .int .u16 (M.pad : Int), .slice Ap M.peers.length cp, .slice Aq M.pairs.length cq]) := fun kd => ⟨⟨_, _, rfl, Sl.of_own (own2_below HOp.out (hkd kd)), Sl.of_own (own2_below HOq.out (hkd kd))⟩, okM⟩
  have hlp := ok_few okM hx.out hM.out
  have HR2 := Lib.hid (fun kd => rright_any (hmv kd) hlp.1 hlp.2)
  obtain ⟨rr, hrr⟩ : ∃ rr, Hid (right M = rr) := ⟨_, rfl⟩
  rw [hrr.out] at HR2 HD2 HD3
  have HKD := Lib.hid hkd
  clear hbx hop hoq hmv hlp hkd
  by_cases hr0 : rr = 0
  case neg =>
    have E := HD3.out rfl hr0
    subst E
    have hlt : ¬ (rr : Int) = 0 := by omega
    go_wp2_with fail
    refine (HE.out).mono ?_
    rintro en w7 ⟨rfl, kd, rfl⟩
    have HBxk : Hid (Bx (w5.drewN kd) g M (.slice Ap M.peers.length cp) (.slice Aq M.pairs.length cq)) := Lib.hid HBx.out
    go_wp2_with (refine wpList_load_struct Tryd.underlying30 (msgI rfl) rfl rfl rfl HBxk.out.load ?_)
    refine (HR2.out kd).mono ?_
    rintro en w8 ⟨rfl, hb8⟩
    have HY8 := Lib.hid (HYF.out.below ((HKD.out kd).trans hb8) HYF.out.lt)
    have HB8 := Lib.hid (HBF.out.trans (((HKD.out kd).trans hb8).mono (by have := HYF.out.lt; omega)))
    clear hb8
    go_wp2_with (refine wpList_store_whole rfl rfl rfl rfl rfl HY8.out (msgI rfl) rfl (by simp [Value.oneCell']) ?_)
    refine bodyPost_ret (v := .tuple #[.agg #[.int .i64 0, .int .u32 0, .int .u8 0, .bool false, .int .u64 0, .string ⟨#[]⟩, .string ⟨#[]⟩, .int .u64 0, .int .u16 0, .slice none 0 0, .slice none 0 0], .int .i64 (rr : Int)]) ?_ rfl ⟨_, rfl, mv_zero _ _, ?_⟩
    · exact results_cell_row2 rfl rfl rfl (HY8.out.row _) Tryd.underlying30 rfl (msgI rfl)
    · rw [hy]; exact below_row HB8.out (Nat.le_refl _) _
  subst hr0
  have E := HD2.out rfl rfl
  subst E
  go_wp2_with fail
  refine (HE.out).mono ?_
  rintro en w7 ⟨rfl, kd, rfl⟩
  have HBxk : Hid (Bx (w5.drewN kd) g M (.slice Ap M.peers.length cp) (.slice Aq M.pairs.length cq)) := Lib.hid HBx.out
  go_wp2_with (refine wpList_load_struct Tryd.underlying30 (msgI rfl) rfl rfl rfl HBxk.out.load ?_)
  refine (HR2.out kd).mono ?_
  rintro en w8 ⟨rfl, hb8⟩
  have HY8 := Lib.hid (HYF.out.below ((HKD.out kd).trans hb8) HYF.out.lt)
  have HB8 := Lib.hid (HBF.out.trans (((HKD.out kd).trans hb8).mono (by have := HYF.out.lt; omega)))
  have HOp8 := Lib.hid (own2_below HOp.out ((HKD.out kd).trans hb8))
  have HOq8 := Lib.hid (own2_below HOq.out ((HKD.out kd).trans hb8))
  have HBx8 : Hid (Bx w8 g M (.slice Ap M.peers.length cp) (.slice Aq M.pairs.length cq)) := Lib.hid (HBx.out.below ((HKD.out kd).trans hb8) (Whole.lt HBx.out))
  clear hb8
  go_wp2_with (first | (refine wpList_load_struct Tryd.underlying30 (msgI rfl) rfl rfl rfl HBx8.out.load ?_) | (refine wpList_store_whole rfl rfl rfl rfl rfl HY8.out (msgI rfl) rfl (by simp [Value.oneCell']) ?_))
  refine bodyPost_ret (v := .tuple #[.agg #[.int .i64 M.kind, .int .u32 (M.rid : Int), .int .u8 (M.code : Int), .bool M.has, .int .u64 (M.id : Int), .string M.key, .string M.val, .int .u64 (M.pid : Int), .int .u16 (M.pad : Int), .slice Ap M.peers.length cp, .slice Aq M.pairs.length cq], .int .i64 0]) ?_ rfl ⟨_, rfl, ⟨⟨_, _, rfl, ?_, ?_⟩, okM⟩, ?_⟩
  · exact results_cell_row2 rfl rfl rfl (HY8.out.row _) Tryd.underlying30 rfl (msgI rfl)
  · exact Sl.of_own (own2_from HOp8.out (fun i hi _ => setRow_other w8 y i _ (by omega)))
  · exact Sl.of_own (own2_from HOq8.out (fun i hi _ => setRow_other w8 y i _ (by omega)))
  · rw [hy]; exact below_row HB8.out (Nat.le_refl _) _

end Go.Proofs.YtpfeccbnkgnioaaDoor
