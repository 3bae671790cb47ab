/- Contract of fixed.Dec. -/
import Derived.Test.YtpfeccbnkgnioaaDoorFown9
namespace Go.Proofs.YtpfeccbnkgnioaaDoor
open Go.RowKit
set_option linter.unusedVariables false
set_option maxRecDepth 100000
open Gm

theorem Piece.kept {w w' : World} {B : Nat} {v : Value} {p : List Nat} (h : Piece w B v p) (hb : Below w.heap.size w w') : Piece w' w'.heap.size v p := by
  obtain ⟨A, c, h1, h2, h3⟩ := h
  exact ⟨A, c, h1, ((h2.lower).below (hb.mono (Nat.min_le_right _ _))).more (Nat.le_trans (Nat.min_le_right _ _) hb.size), h3⟩
theorem Whole.but2 {w w' : World} {g h b : Nat} {t : TypeId} {cs : Array Value} (hw : Whole w b t cs) (k : But2 g h w w') (h1 : b ≠ g) (h2 : b ≠ h) : Whole w' b t cs := (k.block b hw.lt h1 h2).trans hw
/-- a message that is stored in a new variable, when its kind is known -/
theorem var_bald (w : World) (k : Nat) : ∃ g w0 w1, w.heap.size = g ∧ w.alloc (.cells #[.int .i64 0, .int .u32 0, .int .u8 0, .bool false, .int .u64 0, .string ⟨#[]⟩, .string ⟨#[]⟩, .int .u64 0, .int .u16 0, .slice none 0 0, .slice none 0 0] 30) = w0 ∧ Whole w0 g 30 #[.int .i64 0, .int .u32 0, .int .u8 0, .bool false, .int .u64 0, .string ⟨#[]⟩, .string ⟨#[]⟩, .int .u64 0, .int .u16 0, .slice none 0 0, .slice none 0 0] ∧
    w0.setRow g #[.int .i64 (k : Int), .int .u32 0, .int .u8 0, .bool false, .int .u64 0, .string ⟨#[]⟩, .string ⟨#[]⟩, .int .u64 0, .int .u16 0, .slice none 0 0, .slice none 0 0] = w1 ∧ Mb w1 g (Fm.bald k 0) ∧ w1.heap.size = g + 1 ∧ Below g w w1 := by
  have h0 := Whole.made w 30 #[.int .i64 0, .int .u32 0, .int .u8 0, .bool false, .int .u64 0, .string ⟨#[]⟩, .string ⟨#[]⟩, .int .u64 0, .int .u16 0, .slice none 0 0, .slice none 0 0]
  refine ⟨_, _, _, rfl, rfl, h0, rfl, ⟨none, 0, none, 0, h0.row _, World.ownsRow_nil _ _ _ _, World.ownsRow_nil _ _ _ _⟩, by rw [size_setRow]; simp, ?_⟩
  exact below_row ((Below.refl _ _).alloc (Nat.le_refl _) _) (Nat.le_refl _) _
/-- what Dec answers -/
def DecPost (r : Ms × Int) (w : World) (en : Ending) (w' : World) : Prop :=
  ∃ v, en = .returned (.tuple #[v, .int .i64 r.2]) ∧ Mv w' w'.heap.size r.1 v ∧ Below w.heap.size w w'
theorem mv_zero (w : World) (B : Nat) : Mv w B Fm.zero (.agg #[.int .i64 0, .int .u32 0, .int .u8 0, .bool false, .int .u64 0, .string ⟨#[]⟩, .string ⟨#[]⟩, .int .u64 0, .int .u16 0, .slice none 0 0, .slice none 0 0]) :=
  ⟨⟨_, _, rfl, Sl.empty _ _, Sl.empty _ _⟩, Fm.ok_zero⟩
theorem Bx.load {w : World} {g : Nat} {m : Ms} {vp vq : Value} (h : Bx w g m vp vq) : Whole w g 30 #[.int .i64 m.kind, .int .u32 (m.rid : Int), .int .u8 (m.code : Int), .bool m.has, .int .u64 (m.id : Int), .string m.key, .string m.val, .int .u64 (m.pid : Int), .int .u16 (m.pad : Int), vp, vq] := h

set_option maxHeartbeats 1000000 in
theorem fdec_any {w : World} {B : Nat} {v : Value} {p : List Nat} (h : Piece w B v p) (hp : p.length ≤ 1000000000) (hb : ∀ x ∈ p, x < 256) (T : Tab w) :
    Calls Tryd.prog 10 #[v] w (DecPost (Fm.dec p) w) := by
  obtain ⟨y, hy⟩ : ∃ y, w.heap.size = y := ⟨_, rfl⟩
  obtain ⟨w0, hal⟩ : ∃ w0, w.alloc (.cells #[.int .i64 0, .int .u32 0, .int .u8 0, .bool false, .int .u64 0, .string ⟨#[]⟩, .string ⟨#[]⟩, .int .u64 0, .int .u16 0, .slice none 0 0, .slice none 0 0] 30) = w0 := ⟨_, rfl⟩
  have hY : Whole w0 y 30 #[.int .i64 0, .int .u32 0, .int .u8 0, .bool false, .int .u64 0, .string ⟨#[]⟩, .string ⟨#[]⟩, .int .u64 0, .int .u16 0, .slice none 0 0, .slice none 0 0] := by rw [← hal, ← hy]; exact Whole.made _ _ _
  have hB0 : Below y w w0 := by rw [← hal]; exact (Below.refl y w).alloc (by omega) _
  have hs0 : w0.heap.size = y + 1 := by rw [← hal, ← hy]; simp
  have hty : 0 < y := by rw [← hy]; exact T.lt
  have HO := Lib.hid (open_any (h.kept (by rw [hy]; exact hB0)) (by omega) hb)
  have HY0 := Lib.hid hY
  have HB0 := Lib.hid hB0
  have HT := Lib.hid T
  have hbb : Fm.Bytes p := hb
  have HBY := Lib.hid hbb
  have HRD : Hid (Fm.read p = Fm.own (Bm.rfix p 0 1).1 ((Fm.ridR p).1 % 4294967296) (Fm.ridR p).2.1 (Fm.ridR p).2.2) := rfl
  have HFN : Hid (Fm.fin p = Bm.fin (Fm.read p).2.1 (Fm.read p).2.2) := rfl
  have HRR : Hid (Fm.ridR p = Bm.rfix (Bm.rfix p 0 1).2.1 (Fm.kindE p) 4) := rfl
  have HD1 := Lib.hid (fun h => Fm.dec_fin (l := p) h)
  have HD2 := Lib.hid (fun h h2 => Fm.dec_good (l := p) h h2)
  have HD3 := Lib.hid (fun h h2 => Fm.dec_bad (l := p) h h2)
  have HSO := Lib.hid (fun h => (Fm.read_sound hbb h).2)
  have hk1 := (Fm.rfix_suf p 0 1).length_le
  have hk2 := (Fm.rfix_suf (Bm.rfix p 0 1).2.1 (Fm.kindE p) 4).length_le
  have hn : (Bm.rfix p 0 1).1 < 256 := Fm.rfix_nat hbb 0 1 1 rfl
  obtain ⟨dd, hdd⟩ : ∃ dd, Hid (Fm.dec p = dd) := ⟨_, rfl⟩
  rw [hdd.out] at HD1 HD2 HD3 ⊢
  clear h hb T hY hB0 hbb
  go_enter Tryd.func10, Tryd.ntmps10
  go_wp2_with fail
  refine (HO.out).mono ?_
  rintro en w1 ⟨r, rfl, hr, hrd, hb1⟩
  have hyr : y < r := by omega
  have HK := Lib.hid (getkind_any hrd (HT.out.below (HB0.out.trans (hb1.mono (by omega))) hty) (by omega))
  have HY1 := Lib.hid (HY0.out.below hb1 (by omega))
  have HB1 := Lib.hid (HB0.out.trans (hb1.mono (by omega)))
  have hrl := hrd.lt
  clear hr hrd hb1
  obtain ⟨k, hk⟩ : ∃ k, Hid ((Bm.rfix p 0 1).1 = k) := ⟨_, rfl⟩
  rw [hk.out] at HK HRD hn
  go_wp2_with fail
  refine (HK.out).mono ?_
  rintro en w2 ⟨rfl, hr2, ho2⟩
  obtain ⟨g, w2a, w3, hg, hal2, hz, hst, hm3, hs3, hb3⟩ := var_bald w2 k
  have hrg : r < g := by have := ho2.size; omega
  have HZ := Lib.hid hz
  have HR3 := Lib.hid (hr2.below (hb3.mono (show r + 1 ≤ g by omega)) (by omega))
  have HY3 := Lib.hid ((HY1.out.only ho2 (by omega)).below hb3 (by omega))
  have HB3 := Lib.hid (HB1.out.trans ((ho2.below (B := y) (by omega) (by omega)).trans (hb3.mono (by omega))))
  have HS3 : Hid (Sg (fun w l e => Rd w r l e) w3 r g (Fm.bald k 0) (Bm.rfix p 0 1).2.1 (Fm.kindE p) w3) := Lib.hid ⟨HR3.out, hm3, But2.refl _ _ _, hrg, fun W W' l e h1 h2 => h1.only h2 hrg⟩
  have C3 := Lib.hid (rfix_any 4 (by omega) (by omega) HR3.out)
  have B3 : (Bm.rfix (Bm.rfix p 0 1).2.1 (Fm.kindE p) 4).1 < 4294967296 := Fm.rfix_nat (show Fm.Bytes _ from HR3.out.byte) _ 4 4 rfl
  clear hr2 ho2 hz hm3 hb3
  rw [← HRR.out] at C3 B3 hk2
  obtain ⟨q, hq⟩ : ∃ q, Hid (Fm.ridR p = q) := ⟨_, rfl⟩
  obtain ⟨rid, l4, e4⟩ := q
  rw [hq.out] at C3 B3 HRD hk2
  simp only at C3 B3 HRD hk2
  rw [Nat.mod_eq_of_lt B3] at HRD
  go_wp2_with (refine wpList_store_whole rfl rfl rfl rfl rfl HZ.out (msgI rfl) rfl (by simp [Value.oneCell']) ?_; rw [hst])
  refine (C3.out).mono ?_
  rintro en w4 ⟨rfl, hr4, ho4⟩
  have S4 := HS3.out.read hr4 ho4
  have z4 := S4.mb.cells.2.1
  have f4 := S4.mb.free 1
  have T4 := S4.put (S4.mb.setRid rid)
  obtain ⟨w5, hw5⟩ : ∃ W, w4.setCell ⟨g, 1, none⟩ (.int .u32 (rid : Int)) = W := ⟨_, rfl⟩
  rw [hw5] at T4
  have HOwn := Lib.hid (getown_any k (by omega) (show Sg _ w3 r g (Fm.bald k rid) l4 e4 w5 from T4))
  clear hr4 ho4 S4 T4
  unfold OwnPost at HOwn
  rw [← HRD.out] at HOwn
  go_wp2_with fail
  refine (HOwn.out).mono ?_
  rintro en w6 ⟨rfl, hs6⟩
  have HS6 := Lib.hid hs6
  have HE := Lib.hid (rend_any hs6.rd)
  rw [← HFN.out] at HE
  have hw36 := hs6.but.size
  have HY6 := Lib.hid (HY3.out.but2 hs6.but (by omega) (by omega))
  have HB6 := Lib.hid (HB3.out.trans (hs6.but.below (B := y) (by omega) (by omega) (by omega)))
  clear hs6
  obtain ⟨x, hx⟩ : ∃ x, Hid (Fm.fin p = x) := ⟨_, rfl⟩
  rw [hx.out] at HE HD1 HD2 HD3 HSO
  by_cases hx0 : x = 0
  case neg =>
    have E := HD1.out hx0
    subst E
    have hne : (x != 0) = true := by simpa using hx0
    go_wp2_with fail
    refine (HE.out).mono ?_
    rintro en w7 ⟨rfl, hw7⟩
    subst hw7
    go_wp2_with (refine wpList_store_whole rfl rfl rfl rfl rfl HY6.out (msgI rfl) rfl (by simp [Value.oneCell']) ?_)
    refine bodyPost_ret (v := .tuple #[.agg #[.int .i64 0, .int .u32 0, .int .u8 0, .bool false, .int .u64 0, .string ⟨#[]⟩, .string ⟨#[]⟩, .int .u64 0, .int .u16 0, .slice none 0 0, .slice none 0 0], .int .i64 x]) ?_ rfl ⟨_, rfl, mv_zero _ _, ?_⟩
    · exact results_cell_row2 rfl rfl rfl (HY6.out.row _) Tryd.underlying30 rfl (msgI rfl)
    · rw [hy]; exact below_row HB6.out (Nat.le_refl _) _
  subst hx0
  have okM := HSO.out rfl
  obtain ⟨M, hM⟩ : ∃ M, Hid ((Fm.read p).1 = M) := ⟨_, rfl⟩
  rw [hM.out] at HS6 HD2 HD3 okM
  obtain ⟨Ap, cp, Aq, cq, hbx, hop, hoq⟩ := HS6.out.mb.ex
  have hmv : Mv w6 w6.heap.size M (.agg #[.int .i64 M.kind, .int .u32 (M.rid : Int), .int .u8 (M.code : Int), .bool M.has, .int .u64 (M.id : Int), .string M.key, .string M.val, .int .u64 (M.pid : Int), .int .u16 (M.pad : Int), .slice Ap M.peers.length cp, .slice Aq M.pairs.length cq]) := ⟨⟨_, _, rfl, Sl.of_own hop, Sl.of_own hoq⟩, okM⟩
  have HBx := Lib.hid hbx
  have HOp := Lib.hid hop
  have HOq := Lib.hid hoq
  have HR := Lib.hid (right_any hmv (HT.out.below HB6.out hty))
  obtain ⟨rr, hrr⟩ : ∃ rr, Hid (right M = rr) := ⟨_, rfl⟩
  rw [hrr.out] at HR HD2 HD3
  clear hbx hop hoq hmv
  by_cases hr0 : rr = 0
  case neg =>
    have E := HD3.out rfl hr0
    subst E
    have hlt : ¬ (rr : Int) = 0 := by omega
    go_wp2_with fail
    refine (HE.out).mono ?_
    rintro en w7 ⟨rfl, hw7⟩
    subst hw7
    go_wp2_with (refine wpList_load_struct Tryd.underlying30 (msgI rfl) rfl rfl rfl HBx.out.load ?_)
    refine (HR.out).mono ?_
    rintro en w8 ⟨rfl, hb8⟩
    have HY8 := Lib.hid (HY6.out.below hb8 HY6.out.lt)
    have HB8 := Lib.hid (HB6.out.trans (hb8.mono (by have := HY6.out.lt; omega)))
    clear hb8
    go_wp2_with (refine wpList_store_whole rfl rfl rfl rfl rfl HY8.out (msgI rfl) rfl (by simp [Value.oneCell']) ?_)
    refine bodyPost_ret (v := .tuple #[.agg #[.int .i64 0, .int .u32 0, .int .u8 0, .bool false, .int .u64 0, .string ⟨#[]⟩, .string ⟨#[]⟩, .int .u64 0, .int .u16 0, .slice none 0 0, .slice none 0 0], .int .i64 (rr : Int)]) ?_ rfl ⟨_, rfl, mv_zero _ _, ?_⟩
    · exact results_cell_row2 rfl rfl rfl (HY8.out.row _) Tryd.underlying30 rfl (msgI rfl)
    · rw [hy]; exact below_row HB8.out (Nat.le_refl _) _
  subst hr0
  have E := HD2.out rfl rfl
  subst E
  go_wp2_with fail
  refine (HE.out).mono ?_
  rintro en w7 ⟨rfl, hw7⟩
  subst hw7
  go_wp2_with (refine wpList_load_struct Tryd.underlying30 (msgI rfl) rfl rfl rfl HBx.out.load ?_)
  refine (HR.out).mono ?_
  rintro en w8 ⟨rfl, hb8⟩
  have HY8 := Lib.hid (HY6.out.below hb8 HY6.out.lt)
  have HB8 := Lib.hid (HB6.out.trans (hb8.mono (by have := HY6.out.lt; omega)))
  have HOp8 := Lib.hid (own2_below HOp.out hb8)
  have HOq8 := Lib.hid (own2_below HOq.out hb8)
  have HBx8 : Hid (Bx w8 g M (.slice Ap M.peers.length cp) (.slice Aq M.pairs.length cq)) := Lib.hid (HBx.out.below hb8 (Whole.lt HBx.out))
  clear hb8
  go_wp2_with (first | (refine wpList_load_struct Tryd.underlying30 (msgI rfl) rfl rfl rfl HBx8.out.load ?_) | (refine wpList_store_whole rfl rfl rfl rfl rfl HY8.out (msgI rfl) rfl (by simp [Value.oneCell']) ?_))
  refine bodyPost_ret (v := .tuple #[.agg #[.int .i64 M.kind, .int .u32 (M.rid : Int), .int .u8 (M.code : Int), .bool M.has, .int .u64 (M.id : Int), .string M.key, .string M.val, .int .u64 (M.pid : Int), .int .u16 (M.pad : Int), .slice Ap M.peers.length cp, .slice Aq M.pairs.length cq], .int .i64 0]) ?_ rfl ⟨_, rfl, ⟨⟨_, _, rfl, ?_, ?_⟩, okM⟩, ?_⟩
  · exact results_cell_row2 rfl rfl rfl (HY8.out.row _) Tryd.underlying30 rfl (msgI rfl)
  · exact Sl.of_own (own2_from HOp8.out (fun i hi _ => setRow_other w8 y i _ (by omega)))
  · exact Sl.of_own (own2_from HOq8.out (fun i hi _ => setRow_other w8 y i _ (by omega)))
  · rw [hy]; exact below_row HB8.out (Nat.le_refl _) _
end Go.Proofs.YtpfeccbnkgnioaaDoor
