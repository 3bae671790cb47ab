/- Contract of tagged.Dec. -/
import Derived.Test.YtjkjhnpemhlbpaaDoorTfield
import Derived.Test.YtjkjhnpemhlbpaaDoorTlp
import Derived.Test.YtjkjhnpemhlbpaaDoorPI
namespace Go.Proofs.YtjkjhnpemhlbpaaDoor
open Go.RowKit
set_option linter.unusedVariables false
set_option maxRecDepth 100000
open Gm

/-- how many bytes a reader has left, as the memory tells it -/
def leftIn (w : World) (r : Nat) : Nat :=
  match w.cell? ⟨r, 2, none⟩ with
  | some (.int _ e) => if e ≠ 0 then 0 else match w.cell? ⟨r, 1, none⟩ with
    | some (.slice _ n _) => n
    | _ => 0
  | _ => 0
theorem leftIn_rd {w : World} {r : Nat} {l : List Nat} {e : Int} (h : Rd w r l e) : leftIn w r = Bm.left l e := by
  obtain ⟨A, c, h⟩ := h
  unfold leftIn Bm.left
  rw [h.err, h.rest]
/-- where the loop of Dec stands -/
structure TLoop (p : List Nat) (w0 : World) (r g last : Nat) (m : Ms) (l : List Nat) (e : Int) (w : World) : Prop where
  sg : Sg (fun w l e => Rd w r l e) w0 r g m l e w
  lp : Tg.Lp p last m l e
  le : last ≤ 9

set_option maxHeartbeats 2000000 in
theorem tdec_any {w : World} {B : Nat} {v : Value} {p : List Nat} (h : Piece w B v p) (hp : p.length ≤ 1000000000) (hb : ∀ x ∈ p, x < 256) (T : Tab w) :
    Calls Tryd.prog 10 #[v] w (DecPost (Tg.dec p) w) := by
  obtain ⟨y, hy⟩ : ∃ y, w.heap.size = y := ⟨_, rfl⟩
  obtain ⟨w0, hal⟩ : ∃ w0, w.alloc (.cells #[.int .i64 0, .int .u32 0, .int .u8 0, .bool false, .int .u64 0, .string ⟨#[]⟩, .string ⟨#[]⟩, .int .u64 0, .int .u16 0, .slice none 0 0, .slice none 0 0] 30) = w0 := ⟨_, rfl⟩
  have hY : Whole w0 y 30 #[.int .i64 0, .int .u32 0, .int .u8 0, .bool false, .int .u64 0, .string ⟨#[]⟩, .string ⟨#[]⟩, .int .u64 0, .int .u16 0, .slice none 0 0, .slice none 0 0] := by rw [← hal, ← hy]; exact Whole.made _ _ _
  have hB0 : Below y w w0 := by rw [← hal]; exact (Below.refl y w).alloc (by omega) _
  have hs0 : w0.heap.size = y + 1 := by rw [← hal, ← hy]; simp
  have hty : 0 < y := by rw [← hy]; exact T.lt
  have HO := Lib.hid (open_any (h.kept (by rw [hy]; exact hB0)) (by omega) hb)
  have HY0 := Lib.hid hY
  have HB0 := Lib.hid hB0
  have HT := Lib.hid T
  have hbb : Fm.Bytes p := hb
  have HD1 := Lib.hid (fun h => Tg.dec_err (l := p) h)
  have HD2 := Lib.hid (fun h h2 => Tg.dec_good (l := p) h h2)
  have HD3 := Lib.hid (fun h h2 => Tg.dec_bad (l := p) h h2)
  have HSO := Lib.hid (fun h => (Tg.all_sound hbb h).2.1)
  have hn := Bm.uvar_le p 0 Tg.u64
  obtain ⟨K, hK⟩ : ∃ K, Hid (min (Bm.uvar p 0 Tg.u64).1 2147483647 = K) := ⟨_, rfl⟩
  have HL0 : Hid (Tg.Lp p 0 (Tg.bald K) (Bm.uvar p 0 Tg.u64).2.1 (Tg.kindE p)) := Lib.hid (Tg.Lp.start hbb (fun h1 h2 => by rw [← hK.out]; omega))
  obtain ⟨dd, hdd⟩ : ∃ dd, Hid (Tg.dec p = dd) := ⟨_, rfl⟩
  rw [hdd.out] at HD1 HD2 HD3 ⊢
  clear h hb T hY hB0 hbb hn
  go_enter Tryd.func10, Tryd.ntmps10
  go_wp2_with fail
  refine (HO.out).mono ?_
  rintro en w1 ⟨r, rfl, hr, hrd, hb1⟩
  have hyr : y < r := by omega
  have HK := Lib.hid (tgetkind_any hrd (HT.out.below (HB0.out.trans (hb1.mono (by omega))) hty) (by omega))
  rw [hK.out] at HK
  have HY1 := Lib.hid (HY0.out.below hb1 (by omega))
  have HB1 := Lib.hid (HB0.out.trans (hb1.mono (by omega)))
  have hrl := hrd.lt
  clear hr hrd hb1
  go_wp2_with fail
  refine (HK.out).mono ?_
  rintro en w2 ⟨rfl, hr2, ho2⟩
  obtain ⟨g, w2a, w3, hg, hal2, hz, hst, hm3, hs3, hb3⟩ := var_bald w2 K
  have hrg : r < g := by have := ho2.size; omega
  have HZ := Lib.hid hz
  have HR3 := Lib.hid (hr2.below (hb3.mono (show r + 1 ≤ g by omega)) (by omega))
  have HY3 := Lib.hid ((HY1.out.only ho2 (by omega)).below hb3 (by omega))
  have HB3 := Lib.hid (HB1.out.trans ((ho2.below (B := y) (by omega) (by omega)).trans (hb3.mono (by omega))))
  have HS3 : Hid (TLoop p w3 r g 0 (Tg.bald K) (Bm.uvar p 0 Tg.u64).2.1 (Tg.kindE p) w3) := Lib.hid ⟨⟨HR3.out, hm3, But2.refl _ _ _, hrg, fun W W' l e h1 h2 => h1.only h2 hrg⟩, HL0.out, by omega⟩
  clear hr2 ho2 hz hm3 hb3
  go_wp2_with (refine wpList_store_whole rfl rfl rfl rfl rfl HZ.out (msgI rfl) rfl (by simp [Value.oneCell']) ?_; rw [hst])
  go_loopw [6] (fun v6 wr => ∃ (last : Nat) (m : Ms) (l : List Nat) (e : Int), v6 = .int .i64 (last : Int) ∧ Hid (TLoop p w3 r g last m l e wr)) (fun _ wr => leftIn wr r)
  case atStart => exact ⟨0, _, _, _, rfl, HS3⟩
  case round =>
    obtain ⟨last, m, l, e, rfl, HR⟩ := hrel
    have hle9 := HR.out.le
    have C1 := Lib.hid (rleft_any HR.out.sg.rd)
    have HM := Lib.hid (leftIn_rd HR.out.sg.rd)
    obtain ⟨q, hq⟩ : ∃ q, Hid (Bm.left l e = q) := ⟨_, rfl⟩
    rw [hq.out] at C1 HM
    by_cases hq0 : q = 0
    case neg =>
      have hq1 : 0 < q := by omega
      have hleft : Bm.left l e ≠ 0 := by rw [hq.out]; exact hq0
      obtain ⟨he0, _⟩ := Tg.left_some hleft
      have hql : q = l.length := by rw [← hq.out, he0]; rfl
      have C2 := Lib.hid (gettag_any last hle9 HR.out.sg.rd)
      have HTg : Hid (Tg.tagOf last l e = if (Bm.uvar l e Tg.u64).1 ≤ last ∨ 9 < (Bm.uvar l e Tg.u64).1 then 0 else (Bm.uvar l e Tg.u64).1) := rfl
      by_cases hbad : (Bm.uvar l e Tg.u64).1 ≤ last ∨ 9 < (Bm.uvar l e Tg.u64).1
      · have ht0 : Tg.tagOf last l e = 0 := by rw [HTg.out]; exact if_pos hbad
        rw [ht0] at C2
        have HW := Lib.hid (fun (l' : List Nat) (hb : Fm.Bytes l') => Tg.Lp.wrong HR.out.lp hleft hbad (last' := 0) (m' := m) (l' := l') hb)
        clear hbad ht0 hql hleft
        go_wp2_with fail
        refine (C1.out).mono ?_
        rintro en w4 ⟨rfl, rfl⟩
        go_wp2_with fail
        refine (C2.out).mono ?_
        rintro en w4 ⟨rfl, hr4, ho4⟩
        have S4 := HR.out.sg.read hr4 ho4
        obtain ⟨L1, L2⟩ := HW.out _ (show Fm.Bytes _ from hr4.byte)
        have HS4 : Hid (TLoop p w3 r g 0 m (Bm.uvar l e Tg.u64).2.1 (Tg.tagE last l e) w4) := Lib.hid ⟨S4, L1, by omega⟩
        have F0 := Lib.hid (tfield_0 S4)
        have HM4 : Hid (leftIn w4 r = 0) := Lib.hid (by rw [leftIn_rd hr4]; exact Tg.left_zero.2 (.inl L2))
        clear hr4 ho4 S4 L1 L2
        go_wp2_with fail
        refine (F0.out).mono ?_
        rintro en w5 ⟨rfl, rfl⟩
        go_wp2_with fail
        go_roundw
        case rel => exact ⟨0, _, _, _, rfl, HS4⟩
        case measure => rw [HM4.out, HM.out]; exact hq1
      · have ht0 : Tg.tagOf last l e = (Bm.uvar l e Tg.u64).1 := by rw [HTg.out]; exact if_neg hbad
        rw [ht0] at C2
        obtain ⟨R1, R2, R3, R4⟩ := Tg.Lp.right HR.out.lp hleft (by omega) (by omega)
        have hpos : last < (Bm.uvar l e Tg.u64).1 ∧ (Bm.uvar l e Tg.u64).1 ≤ 9 := by omega
        rw [R1] at C2
        obtain ⟨u, hu⟩ : ∃ u, Hid (Bm.uvar l e Tg.u64 = u) := ⟨_, rfl⟩
        obtain ⟨t, l1, e1⟩ := u
        rw [hu.out] at C2 R2 R3 R4 hpos
        simp only at C2 R2 R3 R4 hpos
        obtain ⟨ht1, ht9⟩ := hpos
        have HSuf := Lib.hid (Tg.read_suf t m l1 0).length_le
        have HZ := Lib.hid (Tg.zeroE_fail t (Tg.read t m l1 0))
        have HR4 := Lib.hid R4
        have HNo := Lib.hid R2
        have hlen : l1.length < q := by omega
        clear hbad ht0 hql hleft R1 R2 R3 R4
        go_wp2_with fail
        refine (C1.out).mono ?_
        rintro en w4 ⟨rfl, rfl⟩
        go_wp2_with fail
        refine (C2.out).mono ?_
        rintro en w4 ⟨rfl, hr4, ho4⟩
        have F := Lib.hid (tfield_any t (by omega) ht9 HNo.out (HR.out.sg.read hr4 ho4))
        unfold FieldPost at F
        clear hr4 ho4
        obtain ⟨z, hz⟩ : ∃ z, Hid (Tg.read t m l1 0 = z) := ⟨_, rfl⟩
        obtain ⟨m2, l2, e2⟩ := z
        rw [hz.out] at F HSuf HZ HR4
        simp only at F HSuf HZ HR4
        have HMz : Hid (∀ e3, Bm.left l2 e3 < q) := Lib.hid (fun e3 => by have := HSuf.out; unfold Bm.left; split <;> omega)
        obtain ⟨hh, HH⟩ : ∃ hh, Hid (Tg.has m2 t = hh) := ⟨_, rfl⟩
        rw [HH.out] at F HZ
        cases hh
        case true =>
          have hz2 : Tg.zeroE t (m2, l2, e2) = e2 := by rw [HZ.out]; rfl
          rw [hz2] at HR4
          clear hz2
          go_wp2_with fail
          refine (F.out).mono ?_
          rintro en w5 ⟨rfl, hs5⟩
          have HS5 : Hid (TLoop p w3 r g t m2 l2 e2 w5) := Lib.hid ⟨hs5, HR4.out, ht9⟩
          have HM5 : Hid (leftIn w5 r < q) := Lib.hid (by rw [leftIn_rd hs5.rd]; exact HMz.out _)
          clear hs5
          go_wp2_with fail
          go_roundw
          case rel => exact ⟨t, _, _, _, rfl, HS5⟩
          case measure => rw [HM.out]; exact HM5.out
        case false =>
          have hz2 : Tg.zeroE t (m2, l2, e2) = Bm.fail e2 3 := by rw [HZ.out]; rfl
          rw [hz2] at HR4
          clear hz2
          go_wp2_with fail
          refine (F.out).mono ?_
          rintro en w5 ⟨rfl, hs5⟩
          have HS5 := Lib.hid hs5
          have FF := Lib.hid (rfail_any 3 hs5.rd)
          clear hs5
          go_wp2_with fail
          refine (FF.out).mono ?_
          rintro en w6 ⟨rfl, hr6, ho6⟩
          have HS6 : Hid (TLoop p w3 r g t m2 l2 (Bm.fail e2 3) w6) := Lib.hid ⟨HS5.out.read hr6 ho6, HR4.out, ht9⟩
          have HM6 : Hid (leftIn w6 r < q) := Lib.hid (by rw [leftIn_rd hr6]; exact HMz.out _)
          clear hr6 ho6
          go_wp2_with fail
          go_roundw
          case rel => exact ⟨t, _, _, _, rfl, HS6⟩
          case measure => rw [HM.out]; exact HM6.out
    subst hq0
    have hw3 := HR.out.sg.but.size
    obtain ⟨HA, HB⟩ := Tg.Lp.halt HR.out.lp hq.out
    have HE := Lib.hid (rerr_any HR.out.sg.rd)
    have HYF := Lib.hid (HY3.out.but2 HR.out.sg.but (by omega) (by omega))
    have HBF := Lib.hid (HB3.out.trans (HR.out.sg.but.below (B := y) (by omega) (by omega) (by omega)))
    by_cases hx0 : e = 0
    case neg =>
      have E := HD1.out (by rw [HA hx0]; exact hx0)
      rw [HA hx0] at E
      subst E
      have hne : (e != 0) = true := by simpa using hx0
      clear HA HB
      go_wp2_with fail
      refine (C1.out).mono ?_
      rintro en w7 ⟨rfl, hw7⟩
      subst hw7
      go_wp2_with fail
      refine (HE.out).mono ?_
      rintro en w7 ⟨rfl, hw7⟩
      subst hw7
      go_wp2_with (refine wpList_store_whole rfl rfl rfl rfl rfl HYF.out (msgI rfl) rfl (by simp [Value.oneCell']) ?_)
      refine bodyPost_ret (v := .tuple #[.agg #[.int .i64 0, .int .u32 0, .int .u8 0, .bool false, .int .u64 0, .string ⟨#[]⟩, .string ⟨#[]⟩, .int .u64 0, .int .u16 0, .slice none 0 0, .slice none 0 0], .int .i64 e]) ?_ rfl ⟨_, rfl, mv_zero _ _, ?_⟩
      · exact results_cell_row2 rfl rfl rfl (HYF.out.row _) Tryd.underlying30 rfl (msgI rfl)
      · rw [hy]; exact below_row HBF.out (Nat.le_refl _) _
    have hall := HB hx0
    subst hx0
    have okM := HSO.out (by rw [hall])
    have hD2 := HD2.out (by rw [hall])
    have hD3 := HD3.out (by rw [hall])
    rw [hall] at okM hD2 hD3
    simp only at okM hD2 hD3
    have HD2' := Lib.hid hD2
    have HD3' := Lib.hid hD3
    clear hD2 hD3 hall HA HB
    obtain ⟨Ap, cp, Aq, cq, hbx, hop, hoq⟩ := HR.out.sg.mb.ex
    have hmv : Mv wr wr.heap.size m (.agg #[.int .i64 m.kind, .int .u32 (m.rid : Int), .int .u8 (m.code : Int), .bool m.has, .int .u64 (m.id : Int), .string m.key, .string m.val, .int .u64 (m.pid : Int), .int .u16 (m.pad : Int), .slice Ap m.peers.length cp, .slice Aq m.pairs.length cq]) := ⟨⟨_, _, rfl, Sl.of_own hop, Sl.of_own hoq⟩, okM⟩
    have HBx := Lib.hid hbx
    have HOp := Lib.hid hop
    have HOq := Lib.hid hoq
    have HRt := Lib.hid (right_any hmv (HT.out.below HBF.out hty))
    obtain ⟨rr, hrr⟩ : ∃ rr, Hid (right m = rr) := ⟨_, rfl⟩
    rw [hrr.out] at HRt HD2' HD3'
    clear hbx hop hoq hmv
    by_cases hr0 : rr = 0
    case neg =>
      have E := HD3'.out hr0
      subst E
      have hlt : ¬ (rr : Int) = 0 := by omega
      go_wp2_with fail
      refine (C1.out).mono ?_
      rintro en w7 ⟨rfl, hw7⟩
      subst hw7
      go_wp2_with fail
      refine (HE.out).mono ?_
      rintro en w7 ⟨rfl, hw7⟩
      subst hw7
      go_wp2_with (refine wpList_load_struct Tryd.underlying30 (msgI rfl) rfl rfl rfl HBx.out.load ?_)
      refine (HRt.out).mono ?_
      rintro en w8 ⟨rfl, hb8⟩
      have HY8 := Lib.hid (HYF.out.below hb8 HYF.out.lt)
      have HB8 := Lib.hid (HBF.out.trans (hb8.mono (by have := HYF.out.lt; omega)))
      clear hb8
      go_wp2_with (refine wpList_store_whole rfl rfl rfl rfl rfl HY8.out (msgI rfl) rfl (by simp [Value.oneCell']) ?_)
      refine bodyPost_ret (v := .tuple #[.agg #[.int .i64 0, .int .u32 0, .int .u8 0, .bool false, .int .u64 0, .string ⟨#[]⟩, .string ⟨#[]⟩, .int .u64 0, .int .u16 0, .slice none 0 0, .slice none 0 0], .int .i64 (rr : Int)]) ?_ rfl ⟨_, rfl, mv_zero _ _, ?_⟩
      · exact results_cell_row2 rfl rfl rfl (HY8.out.row _) Tryd.underlying30 rfl (msgI rfl)
      · rw [hy]; exact below_row HB8.out (Nat.le_refl _) _
    subst hr0
    have E := HD2'.out rfl
    subst E
    go_wp2_with fail
    refine (C1.out).mono ?_
    rintro en w7 ⟨rfl, hw7⟩
    subst hw7
    go_wp2_with fail
    refine (HE.out).mono ?_
    rintro en w7 ⟨rfl, hw7⟩
    subst hw7
    go_wp2_with (refine wpList_load_struct Tryd.underlying30 (msgI rfl) rfl rfl rfl HBx.out.load ?_)
    refine (HRt.out).mono ?_
    rintro en w8 ⟨rfl, hb8⟩
    have HY8 := Lib.hid (HYF.out.below hb8 HYF.out.lt)
    have HB8 := Lib.hid (HBF.out.trans (hb8.mono (by have := HYF.out.lt; omega)))
    have HOp8 := Lib.hid (own2_below HOp.out hb8)
    have HOq8 := Lib.hid (own2_below HOq.out hb8)
    have HBx8 : Hid (Bx w8 g m (.slice Ap m.peers.length cp) (.slice Aq m.pairs.length cq)) := Lib.hid (HBx.out.below hb8 (Whole.lt HBx.out))
    clear hb8
    go_wp2_with (first | (refine wpList_load_struct Tryd.underlying30 (msgI rfl) rfl rfl rfl HBx8.out.load ?_) | (refine wpList_store_whole rfl rfl rfl rfl rfl HY8.out (msgI rfl) rfl (by simp [Value.oneCell']) ?_))
    refine bodyPost_ret (v := .tuple #[.agg #[.int .i64 m.kind, .int .u32 (m.rid : Int), .int .u8 (m.code : Int), .bool m.has, .int .u64 (m.id : Int), .string m.key, .string m.val, .int .u64 (m.pid : Int), .int .u16 (m.pad : Int), .slice Ap m.peers.length cp, .slice Aq m.pairs.length cq], .int .i64 0]) ?_ rfl ⟨_, rfl, ⟨⟨_, _, rfl, ?_, ?_⟩, okM⟩, ?_⟩
    · exact results_cell_row2 rfl rfl rfl (HY8.out.row _) Tryd.underlying30 rfl (msgI rfl)
    · exact Sl.of_own (own2_from HOp8.out (fun i hi _ => setRow_other w8 y i _ (by omega)))
    · exact Sl.of_own (own2_from HOq8.out (fun i hi _ => setRow_other w8 y i _ (by omega)))
    · rw [hy]; exact below_row HB8.out (Nat.le_refl _) _
end Go.Proofs.YtjkjhnpemhlbpaaDoor
