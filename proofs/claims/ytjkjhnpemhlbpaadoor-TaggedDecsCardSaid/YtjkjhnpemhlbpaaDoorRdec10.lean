/- Contract of the reference's Dec of layer 10. -/
import Derived.Test.YtjkjhnpemhlbpaaDoorRread10
import Derived.Test.YtjkjhnpemhlbpaaDoorRenc10
import Derived.Test.YtjkjhnpemhlbpaaDoorPI
import Derived.Deep.CutRange
namespace Go.Proofs.YtjkjhnpemhlbpaaDoor
open Go.RowKit
set_option linter.unusedVariables false
set_option maxRecDepth 100000
set_option linter.unusedSimpArgs false
open Gm

theorem rread_any {w : World} {r np cp nq cq : Nat} {m : Ms} {Ap Aq : Option Addr} {l : List Nat} {e : Int} (t : Nat) (h : e = 0 → 1 ≤ t ∧ t ≤ 9 ∧ Tg.has m t = false) (hp : e = 0 → m.peers = [] → Value.slice Ap np cp = .slice none 0 0) (hq : e = 0 → m.pairs = [] → Value.slice Aq nq cq = .slice none 0 0) (H : Cu w r r l e) :
    Calls Tryd.prog 29 #[.pointer (some ⟨r, 0, none⟩), .int .u64 (t : Int), .agg #[.int .i64 m.kind, .int .u32 (m.rid : Int), .int .u8 (m.code : Int), .bool m.has, .int .u64 (m.id : Int), .string m.key, .string m.val, .int .u64 (m.pid : Int), .int .u16 (m.pad : Int), .slice Ap np cp, .slice Aq nq cq]] w (RReadPost r t m (.slice Ap np cp) (.slice Aq nq cq) l e w) := by
  by_cases ht : t = 0 ∨ 9 < t
  · exact rread_0 t ht H
  rcases Tg.tags (show 1 ≤ t by omega) (by omega) with rfl | rfl | rfl | rfl | rfl | rfl | rfl | rfl | rfl
  · exact rread_1 H
  · exact rread_2 H
  · exact rread_3 H
  · exact rread_4 H
  · exact rread_5 H
  · exact rread_6 H
  · exact rread_7 H
  · by_cases he : e = 0
    · have hm : m.peers = [] := by have := (h he).2.2; simpa [Tg.has] using this
      obtain ⟨rfl, rfl, rfl⟩ : Ap = none ∧ np = 0 ∧ cp = 0 := by have := hp he hm; injection this with h1 h2 h3; exact ⟨h1, h2, h3⟩
      exact rread_8 hm H
    · exact rread_8e he H
  · by_cases he : e = 0
    · have hm : m.pairs = [] := by have := (h he).2.2; simpa [Tg.has] using this
      obtain ⟨rfl, rfl, rfl⟩ : Aq = none ∧ nq = 0 ∧ cq = 0 := by have := hq he hm; injection this with h1 h2 h3; exact ⟨h1, h2, h3⟩
      exact rread_9 hm H
    · exact rread_9e he H

namespace Tg
theorem read_kind (t : Nat) (m : Ms) (l : List Nat) (e : Int) : (read t m l e).1.kind = m.kind := by
  unfold read
  repeat' split
  all_goals rfl
/-- a field leaves the lists that are not its own -/
theorem read_lists {t : Nat} {m : Ms} {l : List Nat} {e : Int} : (t ≠ 8 → (read t m l e).1.peers = m.peers) ∧ (t ≠ 9 → (read t m l e).1.pairs = m.pairs) := by
  unfold read
  repeat' split
  all_goals exact ⟨fun h => by first | rfl | (exfalso; omega), fun h => by first | rfl | (exfalso; omega)⟩
theorem Lp.okT {p l : List Nat} {last : Nat} {m : Ms} {e : Int} (H : Lp p last m l e) (h : Bm.left l e ≠ 0) (h1 : last < (Bm.uvar l e u64).1) (h9 : (Bm.uvar l e u64).1 ≤ 9) (hr : (read (Bm.uvar l e u64).1 m (Bm.uvar l e u64).2.1 0).2.2 = 0) : OkT (read (Bm.uvar l e u64).1 m (Bm.uvar l e u64).2.1 0).1 := by
  obtain ⟨he, _⟩ := left_some h
  subst he
  obtain ⟨_, hok, hno, _⟩ := H.good rfl
  exact (read_sound (by omega) h9 (H.bytes.suf (uvar_suf l 0 u64)) hok (hno _ h1) hr).ok
end Tg
theorem few_okT {m : Ms} {K : Nat} (ok : Tg.OkT m) (hk : m.kind = (K : Int)) (h16 : K < 16) : Few m :=
  ⟨Tg.okM_of ok (by omega), by have := ok.key; omega, by have := ok.val; omega, ok.peers.1, ok.pairs.1, fun p hp => by have := ok.pairs.2 p hp; omega⟩

/-- how many bytes the reference's reader has left, as the memory tells it -/
def curIn (w : World) (r : Nat) : Nat :=
  match w.cell? ⟨r, 2, none⟩ with
  | some (.int _ e) => if e ≠ 0 then 0 else match w.cell? ⟨r, 0, none⟩, w.cell? ⟨r, 1, none⟩ with
    | some (.slice _ n _), some (.int _ p) => n - p.toNat
    | _, _ => 0
  | _ => 0
theorem curIn_cu {w : World} {B r : Nat} {l : List Nat} {e : Int} (h : Cu w B r l e) : curIn w r = Bm.left l e := by
  obtain ⟨A, c, f, p, h, rfl⟩ := h
  unfold curIn Bm.left
  rw [h.c2, h.c0, h.c1]
  simp only [Int.toNat_natCast, List.length_drop]
/-- where the loop of Dec stands -/
structure RLoop (p : List Nat) (w0 : World) (r g K last : Nat) (m : Ms) (vp vq : Value) (l : List Nat) (e : Int) (w : World) : Prop where
  sx : Sx w0 r g m vp vq l e w
  lp : Tg.Lp p last m l e
  kind : m.kind = (K : Int)
  lt : last < 18446744073709551616
  nilp : e = 0 → m.peers = [] → vp = .slice none 0 0
  nilq : e = 0 → m.pairs = [] → vq = .slice none 0 0
/-- behind the store of what read answered -/
theorem Sx.store {w0 w w1 : World} {r g : Nat} {m M : Ms} {vp vq vp' vq' : Value} {l l' : List Nat} {e e' : Int} (h : Sx w0 r g m vp vq l e w) (hr : Cu w1 r r l' e') (ho : Only r w w1)
    (hp : RowOf fPeer 26 w w1 vp m.peers vp' M.peers) (hq : RowOf fPair 43 w w1 vq m.pairs vq' M.pairs) :
    Whole w1 g 30 #[.int .i64 m.kind, .int .u32 (m.rid : Int), .int .u8 (m.code : Int), .bool m.has, .int .u64 (m.id : Int), .string m.key, .string m.val, .int .u64 (m.pid : Int), .int .u16 (m.pad : Int), vp, vq] ∧
    Sx w0 r g M vp' vq' l' e' (w1.setRow g #[.int .i64 M.kind, .int .u32 (M.rid : Int), .int .u8 (M.code : Int), .bool M.has, .int .u64 (M.id : Int), .string M.key, .string M.val, .int .u64 (M.pid : Int), .int .u16 (M.pad : Int), vp', vq']) := by
  have hlt := h.lt
  have hg := h.glt
  have hW : Whole w1 g 30 #[.int .i64 m.kind, .int .u32 (m.rid : Int), .int .u8 (m.code : Int), .bool m.has, .int .u64 (m.id : Int), .string m.key, .string m.val, .int .u64 (m.pid : Int), .int .u16 (m.pad : Int), vp, vq] := Whole.only h.bx.load ho (by omega)
  have key : ∀ cs, ∀ i, g + 1 ≤ i → (w1.setRow g cs).heap[i]? = w1.heap[i]? := fun cs i hi => setRow_other w1 g i cs (by omega)
  refine ⟨hW, ?_, hW.row _, ?_, ?_, ?_, h.lt, h.top⟩
  · exact hr.below (below_row (Below.refl (r + 1) w1) (by omega) _) (by omega)
  · rcases hp with ⟨rfl, h2⟩ | h2
    · rw [h2]; exact own2_from (own2_only h.peers ho (by omega)) (fun i hi _ => key _ i hi)
    · exact own2_from (own2_lower h2 (by omega)) (fun i hi _ => key _ i hi)
  · rcases hq with ⟨rfl, h2⟩ | h2
    · rw [h2]; exact own2_from (own2_only h.pairs ho (by omega)) (fun i hi _ => key _ i hi)
    · exact own2_from (own2_lower h2 (by omega)) (fun i hi _ => key _ i hi)
  · have h1 := h.but.trans (ho.left g)
    exact ⟨h1.os, h1.tape, h1.output, by rw [size_setRow]; exact h1.size, fun i hi a b => (setRow_other w1 g i _ (by omega)).trans (h1.block i hi a b)⟩

set_option maxHeartbeats 4000000 in
theorem rdec10_any {w : World} {B : Nat} {v : Value} {p : List Nat} (h : Piece w B v p) (hp : p.length ≤ 1000000000) (hb : ∀ x ∈ p, x < 256) :
    Calls Tryd.prog 11 #[v] w (DecPost (Tg.dec p) w) := by
  obtain ⟨y, hy⟩ : ∃ y, w.heap.size = y := ⟨_, rfl⟩
  obtain ⟨w0, hal⟩ : ∃ w0, w.alloc (.cells #[.int .i64 0, .int .u32 0, .int .u8 0, .bool false, .int .u64 0, .string ⟨#[]⟩, .string ⟨#[]⟩, .int .u64 0, .int .u16 0, .slice none 0 0, .slice none 0 0] 30) = w0 := ⟨_, rfl⟩
  have hY : Whole w0 y 30 #[.int .i64 0, .int .u32 0, .int .u8 0, .bool false, .int .u64 0, .string ⟨#[]⟩, .string ⟨#[]⟩, .int .u64 0, .int .u16 0, .slice none 0 0, .slice none 0 0] := by rw [← hal, ← hy]; exact Whole.made _ _ _
  have hB0 : Below y w w0 := by rw [← hal]; exact (Below.refl y w).alloc (by omega) _
  obtain ⟨r, hr⟩ : ∃ r, w0.heap.size = r := ⟨_, rfl⟩
  have hyr : y < r := by rw [← hr, ← hal, ← hy]; simp
  have hpc : Piece w0 r v p := by have := h.kept (by rw [hy]; exact hB0); rw [hr] at this; exact this
  obtain ⟨A0, cap0, rfl, hsee, hnull, hcap, hmax⟩ := hpc
  obtain ⟨n0, hn0⟩ : ∃ n0, Hid (p.length = n0) := ⟨_, rfl⟩
  have hbb : Fm.Bytes p := hb
  obtain ⟨w1, hal1⟩ : ∃ w1, w0.alloc (.cells #[.slice A0 n0 cap0, .int .i64 0, .int .i64 0] 59) = w1 := ⟨_, rfl⟩
  have hcu : Cu w1 r r p 0 := cu_new hr hn0.out hsee hb (by have := hn0.out; omega) hmax hnull (by have := hn0.out; omega) hal1
  have HB1 : Hid (Below y w w1) := Lib.hid (hB0.trans (by rw [← hal1]; exact (Below.refl y w0).alloc (by omega) _))
  have HY1 : Hid (Whole w1 y 30 #[.int .i64 0, .int .u32 0, .int .u8 0, .bool false, .int .u64 0, .string ⟨#[]⟩, .string ⟨#[]⟩, .int .u64 0, .int .u16 0, .slice none 0 0, .slice none 0 0]) := Lib.hid (by rw [← hal1]; exact hY.alloc _)
  have hrl := hcu.lt
  have C1 := Lib.hid (curuvarA hcu)
  rw [hn0.out] at hcap ⊢
  have HD1 := Lib.hid (fun h => Tg.dec_err (l := p) h)
  have HD2 := Lib.hid (fun h h2 => Tg.dec_good (l := p) h h2)
  have HD3 := Lib.hid (fun h h2 => Tg.dec_bad (l := p) h h2)
  have HSO := Lib.hid (fun h => Tg.all_sound hbb h)
  have hn := Bm.uvar_le p 0 Tg.u64
  unfold Tg.u64 at hn
  change (Bm.uvar p 0 Tg.u64).1 ≤ 18446744073709551615 at hn
  have HKE : Hid (Tg.kindE p = if (Bm.uvar p 0 Tg.u64).1 < 1 ∨ 12 < (Bm.uvar p 0 Tg.u64).1 then Bm.fail (Bm.uvar p 0 Tg.u64).2.2 9 else (Bm.uvar p 0 Tg.u64).2.2) := rfl
  obtain ⟨K, hK⟩ : ∃ K, Hid ((Bm.uvar p 0 Tg.u64).1 % 16 = K) := ⟨_, rfl⟩
  have hK16 : K < 16 := by rw [← hK.out]; omega
  have HL0 : Hid (Tg.Lp p 0 (Tg.bald K) (Bm.uvar p 0 Tg.u64).2.1 (Tg.kindE p)) := Lib.hid (Tg.Lp.start hbb (fun h1 h2 => by rw [← hK.out]; omega))
  obtain ⟨dd, hdd⟩ : ∃ dd, Hid (Tg.dec p = dd) := ⟨_, rfl⟩
  rw [hdd.out] at HD1 HD2 HD3 ⊢
  obtain ⟨u, hu⟩ : ∃ u, Hid (Bm.uvar p 0 Tg.u64 = u) := ⟨_, rfl⟩
  obtain ⟨n, l1, e1⟩ := u
  rw [hu.out] at C1 hn HKE hK HL0
  simp only at C1 hn HKE hK HL0
  have hmod : (n : Int) % 16 = (K : Int) := by have := hK.out; omega
  obtain ⟨ke, hke⟩ : ∃ ke, Hid (Tg.kindE p = ke) := ⟨_, rfl⟩
  rw [hke.out] at HKE HL0
  clear h hb hY hB0 hbb hsee hcu
  go_enter Tryd.func11, Tryd.ntmps11
  go_wp2_with fail
  refine (C1.out).mono ?_
  rintro en w2 ⟨rfl, hr2, ho2⟩
  have HR2 := Lib.hid hr2
  have HO2 := Lib.hid ho2
  clear hr2 ho2
  obtain ⟨bad, HBad⟩ : ∃ bad, Hid (decide (n < 1 ∨ 12 < n) = bad) := ⟨_, rfl⟩
  go_upto_region 3 with fail
  go_cut [20] from 15 (fun s20 wx => s20 = Value.bool bad ∧ wx = w2)
  case first =>
    by_cases h1 : n < 1
    · have hb1 : bad = true := by rw [← HBad.out]; exact decide_eq_true (.inl h1)
      subst hb1
      go_wp2_with fail
      go_meet
      exact ⟨rfl, rfl⟩
    · by_cases h2 : 12 < n
      · have hb1 : bad = true := by rw [← HBad.out]; exact decide_eq_true (.inr h2)
        subst hb1
        go_wp2_with fail
        go_meet
        exact ⟨by simp; omega, rfl⟩
      · have hb1 : bad = false := by rw [← HBad.out]; exact decide_eq_false (by omega)
        subst hb1
        go_wp2_with fail
        go_meet
        exact ⟨by simp; omega, rfl⟩
  case rest =>
  obtain ⟨rfl, rfl⟩ := hcut
  go_upto_if 20 with fail
  go_cut [5] from 10 (fun s5 wx => s5 = Value.int IntKind.u64 (n : Int) ∧ Hid (Cu wx r r l1 ke) ∧ Hid (Only r w1 wx))
  case first =>
    cases bad
    case true =>
      have hx : ke = Bm.fail e1 9 := by rw [HKE.out]; exact if_pos (by simpa using HBad.out)
      have F := Lib.hid (curfail_any 9 HR2.out)
      rw [← hx] at F
      clear hx
      go_wp2_with fail
      refine (F.out).mono ?_
      rintro en w3 ⟨rfl, hr3, ho3⟩
      have HR3 := Lib.hid hr3
      have HO3 := Lib.hid (HO2.out.trans ho3)
      clear hr3 ho3
      go_wp2_with fail
      go_meet
      exact ⟨rfl, HR3, HO3⟩
    case false =>
      have hx : ke = e1 := by rw [HKE.out]; exact if_neg (by simpa using HBad.out)
      rw [← hx] at HR2
      clear hx
      go_wp2_with fail
      go_meet
      exact ⟨rfl, HR2, HO2⟩
  case rest =>
  obtain ⟨rfl, HRc, HOc⟩ := hcut
  clear HR2 HO2
  obtain ⟨g, w2a, w3, hg, hal2, hz, hst, hm3, hs3, hb3⟩ := var_bx wc K (K : Int) rfl
  have hrg : r < g := by have := HOc.out.size; omega
  have HZ := Lib.hid hz
  have HY3 := Lib.hid ((HY1.out.only HOc.out (by omega)).below hb3 (by omega))
  have HB3 := Lib.hid (HB1.out.trans ((HOc.out.below (B := y) (by omega) (by omega)).trans (hb3.mono (by omega))))
  have HS3 : Hid (RLoop p w3 r g K 0 (Tg.bald K) (.slice none 0 0) (.slice none 0 0) l1 ke w3) := Lib.hid ⟨Sx.bald HRc.out hrg hb3 hm3 hs3, HL0.out, rfl, by omega, fun _ _ => rfl, fun _ _ => rfl⟩
  have HS3z := Lib.hid hs3
  clear hz hm3 hb3 hs3
  go_wp2_with (refine wpList_store_whole rfl rfl rfl rfl rfl HZ.out (msgI rfl) rfl (by simp [Value.oneCell']) ?_; rw [hst])
  clear hmod
  go_loopw [7] (fun v7 wr => ∃ (last : Nat) (m : Ms) (vp vq : Value) (l : List Nat) (e : Int), v7 = .int .u64 (last : Int) ∧ Hid (RLoop p w3 r g K last m vp vq l e wr)) (fun _ wr => curIn wr r)
  case atStart => exact ⟨0, _, _, _, _, _, rfl, HS3⟩
  case round =>
    obtain ⟨last, m, vp, vq, l, e, rfl, HR⟩ := hrel
    obtain ⟨Ap, cp, hvp⟩ := own_shape HR.out.sx.peers
    obtain ⟨Aq, cq, hvq⟩ := own_shape HR.out.sx.pairs
    obtain ⟨np, hnp⟩ : ∃ k, Hid (m.peers.length = k) := ⟨_, rfl⟩
    obtain ⟨nq, hnq⟩ : ∃ k, Hid (m.pairs.length = k) := ⟨_, rfl⟩
    rw [hnp.out] at hvp
    rw [hnq.out] at hvq
    subst hvp hvq
    have C1 := Lib.hid (curLeft_any HR.out.sx.rd)
    have HM := Lib.hid (curIn_cu HR.out.sx.rd)
    have hlast := HR.out.lt
    have HSd := Lib.hid (fun k => HR.out.sx.below (below_drewn (Below.refl _ _) k))
    obtain ⟨q, hq⟩ : ∃ q, Hid (Bm.left l e = q) := ⟨_, rfl⟩
    rw [hq.out] at C1 HM
    by_cases hq0 : q = 0
    case neg =>
      have hq1 : 0 < q := by omega
      have hleft : Bm.left l e ≠ 0 := by rw [hq.out]; exact hq0
      obtain ⟨he0, _⟩ := Tg.left_some hleft
      have hql : q = l.length := by rw [← hq.out, he0]; rfl
      have ht64 := Bm.uvar_le l e Tg.u64
      unfold Tg.u64 at ht64
      change (Bm.uvar l e Tg.u64).1 ≤ 18446744073709551615 at ht64
      by_cases hbad : (Bm.uvar l e Tg.u64).1 ≤ last ∨ 9 < (Bm.uvar l e Tg.u64).1
      · have HWr := Lib.hid (fun (last' : Nat) (m' : Ms) (l' : List Nat) (hb : Fm.Bytes l') => Tg.Lp.wrong HR.out.lp hleft hbad (last' := last') (m' := m') (l' := l') hb)
        have HX : Hid (Tg.tagE last l e = Bm.fail (Bm.uvar l e Tg.u64).2.2 3) := Lib.hid (if_pos hbad)
        obtain ⟨tE, hTE⟩ : ∃ x, Hid (Tg.tagE last l e = x) := ⟨_, rfl⟩
        rw [hTE.out] at HWr HX
        obtain ⟨u, hu2⟩ : ∃ u, Hid (Bm.uvar l e Tg.u64 = u) := ⟨_, rfl⟩
        obtain ⟨t, l2, e2⟩ := u
        have HC2 := Lib.hid (fun k => curuvarA (HSd.out k).rd)
        rw [hu2.out] at HX ht64 HC2
        simp only at HX ht64 HC2
        have hbad2 : t ≤ last ∨ 9 < t := by rw [hu2.out] at hbad; exact hbad
        have htE0 : tE ≠ 0 := (HWr.out 0 m [] (fun x hx => by cases hx)).2
        have HTE0 := Lib.hid htE0
        clear hbad hleft hql htE0
        by_cases h1 : t ≤ last
        case' pos =>
          clear hbad2
          go_wp2_with fail
          refine (C1.out).mono ?_
          rintro en w4 ⟨rfl, k, hk4⟩
          have S4 := HSd.out k
          have C2 := HC2.out k
          rw [← hk4] at S4 C2
          have HS4 := Lib.hid S4
          have HC3 := Lib.hid C2
          clear hk4 S4 C2
          go_wp2_with fail
          refine (HC3.out).mono ?_
          rintro en w5 ⟨rfl, hr5, ho5⟩
          have S5 := HS4.out.read hr5 ho5
          have HS5 := Lib.hid S5
          have F := Lib.hid (curfail_any 3 S5.rd)
          clear hr5 ho5 S5
          go_wp2_with fail
        case' neg =>
          have h2 : last < t := by omega
          have h3 : 9 < t := by omega
          clear hbad2
          go_wp2_with fail
          refine (C1.out).mono ?_
          rintro en w4 ⟨rfl, k, hk4⟩
          have S4 := HSd.out k
          have C2 := HC2.out k
          rw [← hk4] at S4 C2
          have HS4 := Lib.hid S4
          have HC3 := Lib.hid C2
          clear hk4 S4 C2
          go_wp2_with fail
          refine (HC3.out).mono ?_
          rintro en w5 ⟨rfl, hr5, ho5⟩
          have S5 := HS4.out.read hr5 ho5
          have HS5 := Lib.hid S5
          have F := Lib.hid (curfail_any 3 S5.rd)
          clear hr5 ho5 S5
          go_wp2_with fail
        all_goals
          refine (F.out).mono ?_
          rintro en w6 ⟨rfl, hr6, ho6⟩
          have S6 := HS5.out.read hr6 ho6
          rw [← HX.out] at S6
          have HS6 := Lib.hid S6
          have C6 := Lib.hid (rread_any (m := m) (Ap := Ap) (np := np) (cp := cp) (Aq := Aq) (nq := nq) (cq := cq) t (fun h => absurd h HTE0.out) (fun h => absurd h HTE0.out) (fun h => absurd h HTE0.out) S6.rd)
          clear hr6 ho6 S6
          go_wp2_with (refine wpList_load_struct Tryd.underlying30 (msgI rfl) rfl rfl rfl HS6.out.bx.load ?_)
          refine (C6.out).mono ?_
          rintro en w7 ⟨M, l', e', vp', vq', hE, rfl, hcu, hon, hrp, hrq, hnp, hnq⟩
          obtain ⟨hW, hS⟩ := HS6.out.store hcu hon hrp hrq
          obtain ⟨Ap', cp', hvp'⟩ := own_shape hS.peers
          obtain ⟨Aq', cq', hvq'⟩ := own_shape hS.pairs
          obtain ⟨np', hnp'⟩ : ∃ k, Hid (M.peers.length = k) := ⟨_, rfl⟩
          obtain ⟨nq', hnq'⟩ : ∃ k, Hid (M.pairs.length = k) := ⟨_, rfl⟩
          rw [hnp'.out] at hvp'
          rw [hnq'.out] at hvq'
          subst hvp' hvq'
          have HE' := Lib.hid hE
          have HW7 := Lib.hid hW
          have HNP := Lib.hid hnp
          have HNQ := Lib.hid hnq
          have hMk : M.kind = (K : Int) := by have h := Tg.read_kind t m l2 tE; rw [hE] at h; rw [h]; exact HR.out.kind
          have HMK := Lib.hid hMk
          obtain ⟨w8, hw8⟩ : ∃ W, w7.setRow g #[.int .i64 M.kind, .int .u32 (M.rid : Int), .int .u8 (M.code : Int), .bool M.has, .int .u64 (M.id : Int), .string M.key, .string M.val, .int .u64 (M.pid : Int), .int .u16 (M.pad : Int), .slice Ap' np' cp', .slice Aq' nq' cq'] = W := ⟨_, rfl⟩
          rw [hw8] at hS
          have HS8 := Lib.hid hS
          have cm : w8.cell? ⟨r, 2, none⟩ = some (.int .i64 e') := hS.rd.met
          clear hcu hon hrp hrq hE hW hnp hnq hS hMk
          have he' : e' = tE := by have h := Tg.read_err t m l2 HTE0.out; rw [HE'.out] at h; exact h
          subst he'
          have hne : (e' == 0) = false := by simpa using HTE0.out
          have HS8b : Hid (RLoop p w3 r g K t M (.slice Ap' np' cp') (.slice Aq' nq' cq') l' e' w8) := Lib.hid ⟨HS8.out, (HWr.out t M l' (show Fm.Bytes _ from HS8.out.rd.byte)).1, HMK.out, by omega, fun h => absurd h HTE0.out, fun h => absurd h HTE0.out⟩
          have HM8 : Hid (curIn w8 r = 0) := Lib.hid (by rw [curIn_cu HS8.out.rd]; exact Tg.left_zero.2 (.inl HTE0.out))
          go_wp2_with (refine wpList_store_whole rfl rfl rfl rfl rfl HW7.out (msgI rfl) rfl (by simp [Value.oneCell']) ?_; rw [hw8])
          go_roundw
          case rel => (first | exact ⟨t, _, _, _, _, _, rfl, HS8b⟩ | ((repeat apply Exists.intro); exact ⟨⟨t, _, _, _, _, _, rfl, HS8b⟩, rfl⟩))
          case measure => rw [HM8.out, HM.out]; exact hq1
      · have hpos : last < (Bm.uvar l e Tg.u64).1 ∧ (Bm.uvar l e Tg.u64).1 ≤ 9 := by omega
        obtain ⟨R1, R2, R3, R4⟩ := Tg.Lp.right HR.out.lp hleft hpos.1 hpos.2
        have R5 := fun hr => Tg.Lp.okT HR.out.lp hleft hpos.1 hpos.2 hr
        have hX : Tg.tagE last l e = (Bm.uvar l e Tg.u64).2.2 := if_neg hbad
        rw [R1] at hX
        have HC2 := Lib.hid (fun k => curuvarA (HSd.out k).rd)
        rw [← hX] at HC2
        have HNP0 := Lib.hid (HR.out.nilp he0)
        have HNQ0 := Lib.hid (HR.out.nilq he0)
        obtain ⟨u, hu2⟩ : ∃ u, Hid (Bm.uvar l e Tg.u64 = u) := ⟨_, rfl⟩
        obtain ⟨t, l2, e2⟩ := u
        rw [hu2.out] at R2 R3 R4 R5 hpos HC2 ht64
        simp only at R2 R3 R4 R5 hpos HC2 ht64
        obtain ⟨h1, h9⟩ := hpos
        have h1n : ¬ t ≤ last := by omega
        have h9n : ¬ 9 < t := by omega
        have HSuf := Lib.hid (Tg.read_suf t m l2 0).length_le
        have HZ := Lib.hid (Tg.zeroE_fail t (Tg.read t m l2 0))
        have HRL := Lib.hid (Tg.read_lists (t := t) (m := m) (l := l2) (e := 0))
        have HR4 := Lib.hid R4
        have HR5 := Lib.hid R5
        have HNo := Lib.hid R2
        have hlen : l2.length < q := by omega
        clear hbad hql hleft R1 R2 R3 R4 R5 hX
        go_wp2_with fail
        refine (C1.out).mono ?_
        rintro en w4 ⟨rfl, k, hk4⟩
        have S4 := HSd.out k
        have C2 := HC2.out k
        rw [← hk4] at S4 C2
        have HS4 := Lib.hid S4
        have HC3 := Lib.hid C2
        clear hk4 S4 C2
        go_wp2_with fail
        refine (HC3.out).mono ?_
        rintro en w5 ⟨rfl, hr5, ho5⟩
        have S5 := HS4.out.read hr5 ho5
        have HS6 := Lib.hid S5
        have C6 := Lib.hid (rread_any (m := m) (Ap := Ap) (np := np) (cp := cp) (Aq := Aq) (nq := nq) (cq := cq) t (fun _ => ⟨by omega, h9, HNo.out⟩) (fun _ => HNP0.out) (fun _ => HNQ0.out) S5.rd)
        clear hr5 ho5 S5
        go_wp2_with (refine wpList_load_struct Tryd.underlying30 (msgI rfl) rfl rfl rfl HS6.out.bx.load ?_)
        refine (C6.out).mono ?_
        rintro en w7 ⟨M, l', e', vp', vq', hE, rfl, hcu, hon, hrp, hrq, hnp, hnq⟩
        obtain ⟨hW, hS⟩ := HS6.out.store hcu hon hrp hrq
        obtain ⟨Ap', cp', hvp'⟩ := own_shape hS.peers
        obtain ⟨Aq', cq', hvq'⟩ := own_shape hS.pairs
        obtain ⟨np', hnp'⟩ : ∃ k, Hid (M.peers.length = k) := ⟨_, rfl⟩
        obtain ⟨nq', hnq'⟩ : ∃ k, Hid (M.pairs.length = k) := ⟨_, rfl⟩
        rw [hnp'.out] at hvp'
        rw [hnq'.out] at hvq'
        subst hvp' hvq'
        have HE' := Lib.hid hE
        have HW7 := Lib.hid hW
        have HNP := Lib.hid hnp
        have HNQ := Lib.hid hnq
        have hMk : M.kind = (K : Int) := by have h := Tg.read_kind t m l2 0; rw [hE] at h; rw [h]; exact HR.out.kind
        have HMK := Lib.hid hMk
        obtain ⟨w8, hw8⟩ : ∃ W, w7.setRow g #[.int .i64 M.kind, .int .u32 (M.rid : Int), .int .u8 (M.code : Int), .bool M.has, .int .u64 (M.id : Int), .string M.key, .string M.val, .int .u64 (M.pid : Int), .int .u16 (M.pad : Int), .slice Ap' np' cp', .slice Aq' nq' cq'] = W := ⟨_, rfl⟩
        rw [hw8] at hS
        have HS8 := Lib.hid hS
        have cm : w8.cell? ⟨r, 2, none⟩ = some (.int .i64 e') := hS.rd.met
        clear hcu hon hrp hrq hE hW hnp hnq hS hMk
        rw [HE'.out] at HSuf HZ HRL HR4 HR5
        simp only at HSuf HZ HRL HR4 HR5
        have HMz : Hid (∀ e3, Bm.left l' e3 < q) := Lib.hid (fun e3 => by have := HSuf.out; unfold Bm.left; split <;> omega)
        by_cases he' : e' = 0
        case neg =>
          have hne : (e' == 0) = false := by simpa using he'
          have hz : Tg.zeroE t (M, l', e') = e' := Tg.zeroE_err he'
          rw [hz] at HR4
          have HS8b : Hid (RLoop p w3 r g K t M (.slice Ap' np' cp') (.slice Aq' nq' cq') l' e' w8) := Lib.hid ⟨HS8.out, HR4.out, HMK.out, by omega, fun h => absurd h he', fun h => absurd h he'⟩
          have HM8 : Hid (curIn w8 r < q) := Lib.hid (by rw [curIn_cu HS8.out.rd]; exact HMz.out _)
          clear hz
          go_wp2_with (refine wpList_store_whole rfl rfl rfl rfl rfl HW7.out (msgI rfl) rfl (by simp [Value.oneCell']) ?_; rw [hw8])
          go_roundw
          case rel => (first | exact ⟨t, _, _, _, _, _, rfl, HS8b⟩ | ((repeat apply Exists.intro); exact ⟨⟨t, _, _, _, _, _, rfl, HS8b⟩, rfl⟩))
          case measure => rw [HM.out]; exact HM8.out
        subst he'
        have hFew : Few M := few_okT (HR5.out rfl) HMK.out hK16
        have hmv : Mv w8 w8.heap.size M (.agg #[.int .i64 M.kind, .int .u32 (M.rid : Int), .int .u8 (M.code : Int), .bool M.has, .int .u64 (M.id : Int), .string M.key, .string M.val, .int .u64 (M.pid : Int), .int .u16 (M.pad : Int), .slice Ap' np' cp', .slice Aq' nq' cq']) := ⟨⟨_, _, rfl, Sl.of_own HS8.out.peers, Sl.of_own HS8.out.pairs⟩, hFew.ok⟩
        have CF := Lib.hid (rfield_any hmv hFew t (by omega) h9)
        obtain ⟨d0, d1, d2, d3, d4, d5, d6, d7, d8, d9, d10⟩ := Bx.cells HS8.out.bx
        obtain ⟨k9, hk9⟩ : ∃ k, Hid ((Tg.field M t).length = k) := ⟨_, rfl⟩
        have hfl := Tg.field_few hFew t
        rw [hk9.out] at hfl
        obtain ⟨hh, HH⟩ : ∃ hh, Hid (Tg.has M t = hh) := ⟨_, rfl⟩
        rw [HH.out] at HZ
        clear hmv hFew
        cases hh
        case true =>
          have hk0 : ¬ k9 = 0 := by rw [← hk9.out, Tg.field_yes HH.out]; simp
          have hk1 : ((k9 : Int) == 0) = false := by simp; omega
          have hz : Tg.zeroE t (M, l', 0) = 0 := by rw [HZ.out]; rfl
          rw [hz] at HR4
          have hP : M.peers = [] → Value.slice Ap' np' cp' = .slice none 0 0 := fun hM => by
            have ht8 : t ≠ 8 := fun h => by
              have h2 := HH.out
              rw [h] at h2
              simp [Tg.has, hM] at h2
            rw [HNP.out ht8]
            exact HNP0.out (by rw [← HRL.out.1 ht8]; exact hM)
          have hQ : M.pairs = [] → Value.slice Aq' nq' cq' = .slice none 0 0 := fun hM => by
            have ht9 : t ≠ 9 := fun h => by
              have h2 := HH.out
              rw [h] at h2
              simp [Tg.has, hM] at h2
            rw [HNQ.out ht9]
            exact HNQ0.out (by rw [← HRL.out.2 ht9]; exact hM)
          have HP := Lib.hid hP
          have HQ := Lib.hid hQ
          clear hz hP hQ
          go_wp2_with (refine wpList_store_whole rfl rfl rfl rfl rfl HW7.out (msgI rfl) rfl (by simp [Value.oneCell']) ?_; rw [hw8])
          refine (CF.out).mono ?_
          rintro en w9 ⟨v9, rfl, ho9, hb9⟩
          rw [hk9.out] at ho9
          obtain ⟨A9, c9, rfl⟩ := own_shape ho9
          have S9 := HS8.out.below hb9
          have HS9 : Hid (RLoop p w3 r g K t M (.slice Ap' np' cp') (.slice Aq' nq' cq') l' 0 w9) := Lib.hid ⟨S9, HR4.out, HMK.out, by omega, fun _ => HP.out, fun _ => HQ.out⟩
          have HM9 : Hid (curIn w9 r < q) := Lib.hid (by rw [curIn_cu S9.rd]; exact HMz.out _)
          clear ho9 hb9 S9 d0 d1 d2 d3 d4 d5 d6 d7 d8 d9 d10
          go_wp2_with fail
          go_roundw
          case rel => (first | exact ⟨t, _, _, _, _, _, rfl, HS9⟩ | ((repeat apply Exists.intro); exact ⟨⟨t, _, _, _, _, _, rfl, HS9⟩, rfl⟩))
          case measure => rw [HM.out]; exact HM9.out
        case false =>
          have hk0 : k9 = 0 := by rw [← hk9.out, Tg.field_no HH.out]; rfl
          have hz : Tg.zeroE t (M, l', 0) = Bm.fail 0 3 := by rw [HZ.out]; rfl
          rw [hz] at HR4
          clear hz
          go_wp2_with (refine wpList_store_whole rfl rfl rfl rfl rfl HW7.out (msgI rfl) rfl (by simp [Value.oneCell']) ?_; rw [hw8])
          refine (CF.out).mono ?_
          rintro en w9 ⟨v9, rfl, ho9, hb9⟩
          rw [hk9.out, hk0] at ho9
          obtain ⟨A9, c9, rfl⟩ := own_shape ho9
          have S9 := HS8.out.below hb9
          have HS9 := Lib.hid S9
          have F9 := Lib.hid (curfail_any 3 S9.rd)
          clear ho9 hb9 S9 d0 d1 d2 d3 d4 d5 d6 d7 d8 d9 d10
          go_wp2_with fail
          refine (F9.out).mono ?_
          rintro en w10 ⟨rfl, hr10, ho10⟩
          have S10 := HS9.out.read hr10 ho10
          have HS10 : Hid (RLoop p w3 r g K t M (.slice Ap' np' cp') (.slice Aq' nq' cq') l' (Bm.fail 0 3) w10) := Lib.hid ⟨S10, HR4.out, HMK.out, by omega, fun h => absurd h (Tg.fail_ne (by omega)), fun h => absurd h (Tg.fail_ne (by omega))⟩
          have HM10 : Hid (curIn w10 r < q) := Lib.hid (by rw [curIn_cu S10.rd]; exact HMz.out _)
          clear hr10 ho10 S10
          go_wp2_with fail
          go_roundw
          case rel => (first | exact ⟨t, _, _, _, _, _, rfl, HS10⟩ | ((repeat apply Exists.intro); exact ⟨⟨t, _, _, _, _, _, rfl, HS10⟩, rfl⟩))
          case measure => rw [HM.out]; exact HM10.out
    subst hq0
    obtain ⟨HA, HB⟩ := Tg.Lp.halt HR.out.lp hq.out
    by_cases hx0 : e = 0
    case neg =>
      have E := HD1.out (by rw [HA hx0]; exact hx0)
      rw [HA hx0] at E
      subst E
      have hne : (e == 0) = false := by simpa using hx0
      have hne2 : (e != 0) = true := by simpa using hx0
      clear HA HB
      go_wp2_with fail
      refine (C1.out).mono ?_
      rintro en w4 ⟨rfl, k, hk4⟩
      have S4 := HSd.out k
      rw [← hk4] at S4
      have HS4 := Lib.hid S4
      have cm : w4.cell? ⟨r, 2, none⟩ = some (.int .i64 e) := S4.rd.met
      have hw4 := S4.but.size
      have HYF := Lib.hid (HY3.out.but2 S4.but (by omega) (by omega))
      have HBF := Lib.hid (HB3.out.trans (S4.but.below (B := y) (by omega) (by omega) (by have := HS3z.out; omega)))
      clear hk4 S4
      go_wp2_with (refine wpList_store_whole rfl rfl rfl rfl rfl HYF.out (msgI rfl) rfl (by simp [Value.oneCell']) ?_)
      refine bodyPost_ret (v := .tuple #[.agg #[.int .i64 0, .int .u32 0, .int .u8 0, .bool false, .int .u64 0, .string ⟨#[]⟩, .string ⟨#[]⟩, .int .u64 0, .int .u16 0, .slice none 0 0, .slice none 0 0], .int .i64 e]) ?_ rfl ⟨_, rfl, mv_zero _ _, ?_⟩
      · exact results_cell_row2 rfl rfl rfl (HYF.out.row _) Tryd.underlying30 rfl (msgI rfl)
      · rw [hy]; exact below_row HBF.out (Nat.le_refl _) _
    have hall := HB hx0
    subst hx0
    obtain ⟨_, okM, _, hpl, hql⟩ := HSO.out (by rw [hall])
    have hD2 := HD2.out (by rw [hall])
    have hD3 := HD3.out (by rw [hall])
    rw [hall] at okM hD2 hD3 hpl hql
    simp only at okM hD2 hD3 hpl hql
    have HD2' := Lib.hid hD2
    have HD3' := Lib.hid hD3
    have HOK := Lib.hid okM
    rw [hnp.out] at hpl
    rw [hnq.out] at hql
    clear hD2 hD3 hall HA HB okM
    obtain ⟨rr, hrr⟩ : ∃ rr, Hid (right m = rr) := ⟨_, rfl⟩
    rw [hrr.out] at HD2' HD3'
    by_cases hr0 : rr = 0
    case neg =>
      have E := HD3'.out hr0
      subst E
      have hlt : ¬ (rr : Int) = 0 := by omega
      go_wp2_with fail
      refine (C1.out).mono ?_
      rintro en w4 ⟨rfl, k, hk4⟩
      have S4 := HSd.out k
      rw [← hk4] at S4
      have HS4 := Lib.hid S4
      have cm : w4.cell? ⟨r, 2, none⟩ = some (.int .i64 0) := S4.rd.met
      have hw4 := S4.but.size
      have HYF := Lib.hid (HY3.out.but2 S4.but (by omega) (by omega))
      have HBF := Lib.hid (HB3.out.trans (S4.but.below (B := y) (by omega) (by omega) (by have := HS3z.out; omega)))
      clear hk4 S4
      have HRt := Lib.hid (rright_any (⟨⟨_, _, rfl, Sl.of_own HS4.out.peers, Sl.of_own HS4.out.pairs⟩, HOK.out⟩ : Mv w4 w4.heap.size m (.agg #[.int .i64 m.kind, .int .u32 (m.rid : Int), .int .u8 (m.code : Int), .bool m.has, .int .u64 (m.id : Int), .string m.key, .string m.val, .int .u64 (m.pid : Int), .int .u16 (m.pad : Int), .slice Ap np cp, .slice Aq nq cq])) (by rw [hnp.out]; omega) (by rw [hnq.out]; omega))
      rw [hrr.out] at HRt
      go_wp2_with (refine wpList_load_struct Tryd.underlying30 (msgI rfl) rfl rfl rfl HS4.out.bx.load ?_)
      refine (HRt.out).mono ?_
      rintro en w8 ⟨rfl, hb8⟩
      have HY8 := Lib.hid (HYF.out.below hb8 HYF.out.lt)
      have HB8 := Lib.hid (HBF.out.trans (hb8.mono (by have := HYF.out.lt; omega)))
      clear hb8
      go_wp2_with (refine wpList_store_whole rfl rfl rfl rfl rfl HY8.out (msgI rfl) rfl (by simp [Value.oneCell']) ?_)
      refine bodyPost_ret (v := .tuple #[.agg #[.int .i64 0, .int .u32 0, .int .u8 0, .bool false, .int .u64 0, .string ⟨#[]⟩, .string ⟨#[]⟩, .int .u64 0, .int .u16 0, .slice none 0 0, .slice none 0 0], .int .i64 (rr : Int)]) ?_ rfl ⟨_, rfl, mv_zero _ _, ?_⟩
      · exact results_cell_row2 rfl rfl rfl (HY8.out.row _) Tryd.underlying30 rfl (msgI rfl)
      · rw [hy]; exact below_row HB8.out (Nat.le_refl _) _
    case pos =>
      subst hr0
      have E := HD2'.out rfl
      subst E
      go_wp2_with fail
      refine (C1.out).mono ?_
      rintro en w4 ⟨rfl, k, hk4⟩
      have S4 := HSd.out k
      rw [← hk4] at S4
      have HS4 := Lib.hid S4
      have cm : w4.cell? ⟨r, 2, none⟩ = some (.int .i64 0) := S4.rd.met
      have hw4 := S4.but.size
      have HYF := Lib.hid (HY3.out.but2 S4.but (by omega) (by omega))
      have HBF := Lib.hid (HB3.out.trans (S4.but.below (B := y) (by omega) (by omega) (by have := HS3z.out; omega)))
      clear hk4 S4
      have HRt := Lib.hid (rright_any (⟨⟨_, _, rfl, Sl.of_own HS4.out.peers, Sl.of_own HS4.out.pairs⟩, HOK.out⟩ : Mv w4 w4.heap.size m (.agg #[.int .i64 m.kind, .int .u32 (m.rid : Int), .int .u8 (m.code : Int), .bool m.has, .int .u64 (m.id : Int), .string m.key, .string m.val, .int .u64 (m.pid : Int), .int .u16 (m.pad : Int), .slice Ap np cp, .slice Aq nq cq])) (by rw [hnp.out]; omega) (by rw [hnq.out]; omega))
      rw [hrr.out] at HRt
      go_wp2_with (refine wpList_load_struct Tryd.underlying30 (msgI rfl) rfl rfl rfl HS4.out.bx.load ?_)
      refine (HRt.out).mono ?_
      rintro en w8 ⟨rfl, hb8⟩
      have HY8 := Lib.hid (HYF.out.below hb8 HYF.out.lt)
      have HB8 := Lib.hid (HBF.out.trans (hb8.mono (by have := HYF.out.lt; omega)))
      have S8 := HS4.out.below hb8
      have HS8 := Lib.hid S8
      clear hb8 S8
      go_wp2_with (first | (refine wpList_load_struct Tryd.underlying30 (msgI rfl) rfl rfl rfl HS8.out.bx.load ?_) | (refine wpList_store_whole rfl rfl rfl rfl rfl HY8.out (msgI rfl) rfl (by simp [Value.oneCell']) ?_))
      refine bodyPost_ret (v := .tuple #[.agg #[.int .i64 m.kind, .int .u32 (m.rid : Int), .int .u8 (m.code : Int), .bool m.has, .int .u64 (m.id : Int), .string m.key, .string m.val, .int .u64 (m.pid : Int), .int .u16 (m.pad : Int), .slice Ap np cp, .slice Aq nq cq], .int .i64 0]) ?_ rfl ⟨_, rfl, ⟨⟨_, _, rfl, ?_, ?_⟩, HOK.out⟩, ?_⟩
      · exact results_cell_row2 rfl rfl rfl (HY8.out.row _) Tryd.underlying30 rfl (msgI rfl)
      · exact Sl.of_own (own2_from HS8.out.peers (fun i hi _ => setRow_other w8 y i _ (by omega)))
      · exact Sl.of_own (own2_from HS8.out.pairs (fun i hi _ => setRow_other w8 y i _ (by omega)))
      · rw [hy]; exact below_row HB8.out (Nat.le_refl _) _
end Go.Proofs.YtjkjhnpemhlbpaaDoor
