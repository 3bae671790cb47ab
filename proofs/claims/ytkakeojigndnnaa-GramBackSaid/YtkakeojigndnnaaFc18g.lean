/- Contracts of layer 18's code: read, Get. -/
import Derived.Test.YtkakeojigndnnaaFc18p
import Derived.Test.YtkakeojigndnnaaRgg18
import Derived.Test.YtkakeojigndnnaaPC
namespace Go.Proofs.Ytkakeojigndnnaa
open Go.RowKit
set_option linter.unusedVariables false
set_option maxRecDepth 100000
set_option linter.unusedSimpArgs false

namespace Gr
theorem mark_iff {l : List Nat} (hb : ∀ x ∈ l, x < 256) (h : 20 ≤ l.length) : (l.getD 0 0 = 167 ∧ l.getD 1 0 = 78) ↔ Bm.be ((ahead l).take 2) = 42830 := by
  match l, h with
  | a :: b :: c :: d :: e :: r, h =>
    have ha := hb a (by simp)
    have hb' := hb b (by simp)
    have e1 : (ahead (a :: b :: c :: d :: e :: r)).take 2 = [a, b] := by
      unfold ahead
      rw [List.take_take, show min 2 ((a :: b :: c :: d :: e :: r).length - 4) = 2 by simp only [List.length_cons] at h ⊢; omega]
      rfl
    rw [e1, show Bm.be [a, b] = a * 256 + b by simp [Bm.be]]
    simp only [List.getD_cons_zero, List.getD_cons_succ]
    omega
end Gr
set_option maxHeartbeats 2000000 in
theorem gread18_any {w : World} {rd : Nat} {l : List Nat} (H : Rd w rd l 0) (h14 : 14 ≤ l.length) (hl : l.length ≤ 1000000000) :
    Calls Try.prog 24 #[.pointer (some ⟨rd, 0, none⟩)] w fun e w' => ∃ v, e = .returned v ∧ Gown w' w.heap.size (Gr.parse l) v ∧ Only rd w w' := by
  obtain ⟨r, w1, hr, hal1, hs1, hR1, hb1⟩ := var_gram w
  have hlt := H.lt
  have HRd0 : Hid (Rd w1 rd l 0) := Lib.hid (H.below (show Below w.heap.size w w1 by rw [hr]; exact hb1) hlt)
  have HW0 := Lib.hid hR1.whole
  have HB1 : Hid (Below w.heap.size w w1) := Lib.hid (by rw [hr]; exact hb1)
  have HOn0 : Hid (Only rd w1 w1) := Lib.hid (Only.refl _ _)
  have hby := H.byte
  have hrd : rd < r := by omega
  have hrw : r < w1.heap.size := by omega
  have HOK := Lib.hid ((Gr.mid_parse hby h14).2)
  have HPA : Hid (Gr.parse l = ⟨Bm.be (l.take 1), Bm.be ((Gr.d1 l).take 1), Bm.be ((Gr.d2 l).take 4), Bm.be ((Gr.d3 l).take 4), Bm.be ((Gr.d4 l).take 2), Bm.be ((Gr.d5 l).take 2), Gr.d6 l⟩) := Lib.hid rfl
  obtain ⟨L, hL⟩ : ∃ n, Hid (l.length = n) := ⟨_, Lib.hid rfl⟩
  have hln0 : Hid (l.length = L - 0) := Lib.hid (by rw [hL.out]; omega)
  rw [hL.out] at h14 hl
  have hmb0 : Hid (∀ x ∈ l, x < 256) := Lib.hid hby
  clear H hR1 hb1 hs1 hby
  go_enter Try.func24, Try.ntmps24
  go_wp2_with fail
  have D0 := Lib.hid (rfix_any (1 : Int) (by omega) (by omega) HRd0.out)
  have hk0 : Hid (1 ≤ l.length) := Lib.hid (by rw [hln0.out]; omega)
  rw [show Bm.rfix l 0 (1 : Int) = (Bm.be (l.take 1), l.drop 1, 0) from Bm.rfix_good (k := 1) (by omega) (by omega) hk0.out] at D0
  have hzb0 : Bm.be (l.take 1) < 256 := Gr.be_lt (k := 1) hmb0.out hk0.out
  obtain ⟨z0, hz0v⟩ : ∃ z, Hid (Bm.be (l.take 1) = z) := ⟨_, Lib.hid rfl⟩
  obtain ⟨m1, hd0⟩ : ∃ l' : List Nat, Hid (l.drop 1 = l') := ⟨_, Lib.hid rfl⟩
  rw [hz0v.out] at D0 hzb0
  rw [hd0.out] at D0
  have hln1 : Hid (m1.length = L - 1) := Lib.hid (by rw [← hd0.out, List.length_drop, hln0.out]; omega)
  have hmb1 : Hid (∀ x ∈ m1, x < 256) := Lib.hid (by rw [← hd0.out]; exact fun x hx => hmb0.out x (List.mem_of_mem_drop hx))
  have hwz0 : IntKind.u8.wrap (z0 : Int) = (z0 : Int) := by rw [IntKind.wrap_u8]; omega
  refine (D0.out).mono ?_
  rintro e u1 ⟨rfl, hcu0, hon0⟩
  have HRd1 := Lib.hid hcu0
  have HW1 : Hid (Whole u1 r 26 #[.int .u8 0, .int .u8 0, .int .u32 0, .int .u32 0, .int .u16 0, .int .u16 0, .slice none 0 0]) := Lib.hid (HW0.out.only hon0 (by omega))
  have HOn1 : Hid (Only rd w1 u1) := Lib.hid (HOn0.out.trans hon0)
  clear hcu0 hon0 D0
  go_wp2_with fail
  have D1 := Lib.hid (rfix_any (1 : Int) (by omega) (by omega) HRd1.out)
  have hk1 : Hid (1 ≤ m1.length) := Lib.hid (by rw [hln1.out]; omega)
  rw [show Bm.rfix m1 0 (1 : Int) = (Bm.be (m1.take 1), m1.drop 1, 0) from Bm.rfix_good (k := 1) (by omega) (by omega) hk1.out] at D1
  have hzb1 : Bm.be (m1.take 1) < 256 := Gr.be_lt (k := 1) hmb1.out hk1.out
  obtain ⟨z1, hz1v⟩ : ∃ z, Hid (Bm.be (m1.take 1) = z) := ⟨_, Lib.hid rfl⟩
  obtain ⟨m2, hd1⟩ : ∃ l' : List Nat, Hid (m1.drop 1 = l') := ⟨_, Lib.hid rfl⟩
  rw [hz1v.out] at D1 hzb1
  rw [hd1.out] at D1
  have hln2 : Hid (m2.length = L - 2) := Lib.hid (by rw [← hd1.out, List.length_drop, hln1.out]; omega)
  have hmb2 : Hid (∀ x ∈ m2, x < 256) := Lib.hid (by rw [← hd1.out]; exact fun x hx => hmb1.out x (List.mem_of_mem_drop hx))
  have hwz1 : IntKind.u8.wrap (z1 : Int) = (z1 : Int) := by rw [IntKind.wrap_u8]; omega
  refine (D1.out).mono ?_
  rintro e u2 ⟨rfl, hcu1, hon1⟩
  have HRd2 := Lib.hid hcu1
  have HW2 : Hid (Whole u2 r 26 #[.int .u8 0, .int .u8 0, .int .u32 0, .int .u32 0, .int .u16 0, .int .u16 0, .slice none 0 0]) := Lib.hid (HW1.out.only hon1 (by omega))
  have HOn2 : Hid (Only rd w1 u2) := Lib.hid (HOn1.out.trans hon1)
  clear hcu1 hon1 D1
  go_wp2_with fail
  have D2 := Lib.hid (rfix_any (4 : Int) (by omega) (by omega) HRd2.out)
  have hk2 : Hid (4 ≤ m2.length) := Lib.hid (by rw [hln2.out]; omega)
  rw [show Bm.rfix m2 0 (4 : Int) = (Bm.be (m2.take 4), m2.drop 4, 0) from Bm.rfix_good (k := 4) (by omega) (by omega) hk2.out] at D2
  have hzb2 : Bm.be (m2.take 4) < 4294967296 := Gr.be_lt (k := 4) hmb2.out hk2.out
  obtain ⟨z2, hz2v⟩ : ∃ z, Hid (Bm.be (m2.take 4) = z) := ⟨_, Lib.hid rfl⟩
  obtain ⟨m3, hd2⟩ : ∃ l' : List Nat, Hid (m2.drop 4 = l') := ⟨_, Lib.hid rfl⟩
  rw [hz2v.out] at D2 hzb2
  rw [hd2.out] at D2
  have hln3 : Hid (m3.length = L - 6) := Lib.hid (by rw [← hd2.out, List.length_drop, hln2.out]; omega)
  have hmb3 : Hid (∀ x ∈ m3, x < 256) := Lib.hid (by rw [← hd2.out]; exact fun x hx => hmb2.out x (List.mem_of_mem_drop hx))
  have hwz2 : IntKind.u32.wrap (z2 : Int) = (z2 : Int) := by rw [IntKind.wrap_u32]; omega
  refine (D2.out).mono ?_
  rintro e u3 ⟨rfl, hcu2, hon2⟩
  have HRd3 := Lib.hid hcu2
  have HW3 : Hid (Whole u3 r 26 #[.int .u8 0, .int .u8 0, .int .u32 0, .int .u32 0, .int .u16 0, .int .u16 0, .slice none 0 0]) := Lib.hid (HW2.out.only hon2 (by omega))
  have HOn3 : Hid (Only rd w1 u3) := Lib.hid (HOn2.out.trans hon2)
  clear hcu2 hon2 D2
  go_wp2_with fail
  have D3 := Lib.hid (rfix_any (4 : Int) (by omega) (by omega) HRd3.out)
  have hk3 : Hid (4 ≤ m3.length) := Lib.hid (by rw [hln3.out]; omega)
  rw [show Bm.rfix m3 0 (4 : Int) = (Bm.be (m3.take 4), m3.drop 4, 0) from Bm.rfix_good (k := 4) (by omega) (by omega) hk3.out] at D3
  have hzb3 : Bm.be (m3.take 4) < 4294967296 := Gr.be_lt (k := 4) hmb3.out hk3.out
  obtain ⟨z3, hz3v⟩ : ∃ z, Hid (Bm.be (m3.take 4) = z) := ⟨_, Lib.hid rfl⟩
  obtain ⟨m4, hd3⟩ : ∃ l' : List Nat, Hid (m3.drop 4 = l') := ⟨_, Lib.hid rfl⟩
  rw [hz3v.out] at D3 hzb3
  rw [hd3.out] at D3
  have hln4 : Hid (m4.length = L - 10) := Lib.hid (by rw [← hd3.out, List.length_drop, hln3.out]; omega)
  have hmb4 : Hid (∀ x ∈ m4, x < 256) := Lib.hid (by rw [← hd3.out]; exact fun x hx => hmb3.out x (List.mem_of_mem_drop hx))
  have hwz3 : IntKind.u32.wrap (z3 : Int) = (z3 : Int) := by rw [IntKind.wrap_u32]; omega
  refine (D3.out).mono ?_
  rintro e u4 ⟨rfl, hcu3, hon3⟩
  have HRd4 := Lib.hid hcu3
  have HW4 : Hid (Whole u4 r 26 #[.int .u8 0, .int .u8 0, .int .u32 0, .int .u32 0, .int .u16 0, .int .u16 0, .slice none 0 0]) := Lib.hid (HW3.out.only hon3 (by omega))
  have HOn4 : Hid (Only rd w1 u4) := Lib.hid (HOn3.out.trans hon3)
  clear hcu3 hon3 D3
  go_wp2_with fail
  have D4 := Lib.hid (rfix_any (2 : Int) (by omega) (by omega) HRd4.out)
  have hk4 : Hid (2 ≤ m4.length) := Lib.hid (by rw [hln4.out]; omega)
  rw [show Bm.rfix m4 0 (2 : Int) = (Bm.be (m4.take 2), m4.drop 2, 0) from Bm.rfix_good (k := 2) (by omega) (by omega) hk4.out] at D4
  have hzb4 : Bm.be (m4.take 2) < 65536 := Gr.be_lt (k := 2) hmb4.out hk4.out
  obtain ⟨z4, hz4v⟩ : ∃ z, Hid (Bm.be (m4.take 2) = z) := ⟨_, Lib.hid rfl⟩
  obtain ⟨m5, hd4⟩ : ∃ l' : List Nat, Hid (m4.drop 2 = l') := ⟨_, Lib.hid rfl⟩
  rw [hz4v.out] at D4 hzb4
  rw [hd4.out] at D4
  have hln5 : Hid (m5.length = L - 12) := Lib.hid (by rw [← hd4.out, List.length_drop, hln4.out]; omega)
  have hmb5 : Hid (∀ x ∈ m5, x < 256) := Lib.hid (by rw [← hd4.out]; exact fun x hx => hmb4.out x (List.mem_of_mem_drop hx))
  have hwz4 : IntKind.u16.wrap (z4 : Int) = (z4 : Int) := by rw [IntKind.wrap_u16]; omega
  refine (D4.out).mono ?_
  rintro e u5 ⟨rfl, hcu4, hon4⟩
  have HRd5 := Lib.hid hcu4
  have HW5 : Hid (Whole u5 r 26 #[.int .u8 0, .int .u8 0, .int .u32 0, .int .u32 0, .int .u16 0, .int .u16 0, .slice none 0 0]) := Lib.hid (HW4.out.only hon4 (by omega))
  have HOn5 : Hid (Only rd w1 u5) := Lib.hid (HOn4.out.trans hon4)
  clear hcu4 hon4 D4
  go_wp2_with fail
  have D5 := Lib.hid (rfix_any (2 : Int) (by omega) (by omega) HRd5.out)
  have hk5 : Hid (2 ≤ m5.length) := Lib.hid (by rw [hln5.out]; omega)
  rw [show Bm.rfix m5 0 (2 : Int) = (Bm.be (m5.take 2), m5.drop 2, 0) from Bm.rfix_good (k := 2) (by omega) (by omega) hk5.out] at D5
  have hzb5 : Bm.be (m5.take 2) < 65536 := Gr.be_lt (k := 2) hmb5.out hk5.out
  obtain ⟨z5, hz5v⟩ : ∃ z, Hid (Bm.be (m5.take 2) = z) := ⟨_, Lib.hid rfl⟩
  obtain ⟨m6, hd5⟩ : ∃ l' : List Nat, Hid (m5.drop 2 = l') := ⟨_, Lib.hid rfl⟩
  rw [hz5v.out] at D5 hzb5
  rw [hd5.out] at D5
  have hln6 : Hid (m6.length = L - 14) := Lib.hid (by rw [← hd5.out, List.length_drop, hln5.out]; omega)
  have hmb6 : Hid (∀ x ∈ m6, x < 256) := Lib.hid (by rw [← hd5.out]; exact fun x hx => hmb5.out x (List.mem_of_mem_drop hx))
  have hwz5 : IntKind.u16.wrap (z5 : Int) = (z5 : Int) := by rw [IntKind.wrap_u16]; omega
  refine (D5.out).mono ?_
  rintro e u6 ⟨rfl, hcu5, hon5⟩
  have HRd6 := Lib.hid hcu5
  have HW6 : Hid (Whole u6 r 26 #[.int .u8 0, .int .u8 0, .int .u32 0, .int .u32 0, .int .u16 0, .int .u16 0, .slice none 0 0]) := Lib.hid (HW5.out.only hon5 (by omega))
  have HOn6 : Hid (Only rd w1 u6) := Lib.hid (HOn5.out.trans hon5)
  clear hcu5 hon5 D5
  obtain ⟨nb, hnb⟩ : ∃ n, Hid (m6.length = n) := ⟨_, Lib.hid rfl⟩
  have CL := Lib.hid (rleft_any HRd6.out)
  rw [Bm.left_ok] at CL
  have CT := Lib.hid (rtake_any (m6.length : Int) (by omega) (by rw [hln6.out]; omega) (by rw [hln6.out]; omega) HRd6.out)
  rw [Bm.take_good (k := m6.length) (Nat.le_refl _), List.take_length] at CT
  rw [hnb.out] at CL CT
  go_wp2_with fail
  refine (CL.out).mono ?_
  rintro e xl ⟨rfl, rfl⟩
  go_wp2_with fail
  refine (CT.out).mono ?_
  rintro e u7 ⟨vb, rfl, hov, hcu, hon⟩
  obtain ⟨Av, cv, rfl, _⟩ := own_look hov
  have HW7 : Hid (Whole u7 r 26 #[.int .u8 0, .int .u8 0, .int .u32 0, .int .u32 0, .int .u16 0, .int .u16 0, .slice none 0 0]) := Lib.hid (HW6.out.only hon (by omega))
  have HOn7 : Hid (Only rd w1 u7) := Lib.hid (HOn6.out.trans hon)
  have HO7 := Lib.hid hov
  clear hov hcu hon CL CT
  go_wp2_with (refine wpList_store_whole rfl rfl rfl rfl rfl HW7.out (gramI rfl) rfl (by simp [Value.oneCell']) ?_)
  have hw1z : w.heap.size ≤ w1.heap.size := HB1.out.size
  have h6z : r < u6.heap.size := HW6.out.lt
  have PG : Hid (Gr.parse l = ⟨z0, z1, z2, z3, z4, z5, m6⟩) := Lib.hid (by
    rw [HPA.out]
    have e1 : Gr.d1 l = m1 := hd0.out
    have e2 : Gr.d2 l = m2 := by unfold Gr.d2; rw [e1]; exact hd1.out
    have e3 : Gr.d3 l = m3 := by unfold Gr.d3; rw [e2]; exact hd2.out
    have e4 : Gr.d4 l = m4 := by unfold Gr.d4; rw [e3]; exact hd3.out
    have e5 : Gr.d5 l = m5 := by unfold Gr.d5; rw [e4]; exact hd4.out
    have e6 : Gr.d6 l = m6 := by unfold Gr.d6; rw [e5]; exact hd5.out
    rw [e1, e2, e3, e4, e5, e6, hz0v.out, hz1v.out, hz2v.out, hz3v.out, hz4v.out, hz5v.out])
  have HON : Hid (Only rd w (u7.setRow r #[.int .u8 (z0 : Int), .int .u8 (z1 : Int), .int .u32 (z2 : Int), .int .u32 (z3 : Int), .int .u16 (z4 : Int), .int .u16 (z5 : Int), .slice Av nb cv])) := Lib.hid (by
    have k := (Only.of_below HB1.out : Only rd w w1).trans HOn7.out
    exact ⟨k.os, k.tape, k.output, by rw [size_setRow]; exact k.size, fun i hi hg => by rw [setRow_other _ _ _ _ (by omega)]; exact k.block i hi hg⟩)
  have HGo : Hid (Gown (u7.setRow r #[.int .u8 (z0 : Int), .int .u8 (z1 : Int), .int .u32 (z2 : Int), .int .u32 (z3 : Int), .int .u16 (z4 : Int), .int .u16 (z5 : Int), .slice Av nb cv]) w.heap.size (Gr.parse l) (.agg #[.int .u8 (z0 : Int), .int .u8 (z1 : Int), .int .u32 (z2 : Int), .int .u32 (z3 : Int), .int .u16 (z4 : Int), .int .u16 (z5 : Int), .slice Av nb cv])) := Lib.hid (by
    rw [PG.out] at HOK ⊢
    refine ⟨⟨.slice Av nb cv, rfl, ?_⟩, HOK.out⟩
    show World.ownsRow _ _ _ _ _ m6.length (ints .u8 m6)
    rw [hnb.out]
    exact own_lower1 (own_setrow HO7.out h6z _) (show w.heap.size ≤ u6.heap.size by have := HOn6.out.size; omega))
  refine bodyPost_ret (v := .agg #[.int .u8 (z0 : Int), .int .u8 (z1 : Int), .int .u32 (z2 : Int), .int .u32 (z3 : Int), .int .u16 (z4 : Int), .int .u16 (z5 : Int), .slice Av nb cv]) ?_ rfl ⟨_, rfl, HGo.out, HON.out⟩
  exact results_cell_row rfl _ _ _ _ _ (0, 0) _ rfl (HW7.out.row _) Try.underlying26 rfl (gramI rfl)
set_option maxHeartbeats 4000000 in
theorem gget18_any {w : World} {B : Nat} {v : Value} {l : List Nat} (h : Piece w B v l) (hB : B ≤ w.heap.size) (hb : ∀ x ∈ l, x < 256) (hl : l.length ≤ 1000000000) :
    Calls Try.prog 14 #[v] w (GgetPost (Gr.get l) w) := by
  obtain ⟨r, w1, hr, hal1, hs1, hR1, hb1⟩ := var_gram w
  have HR1 := Lib.hid hR1.whole
  have HB1 : Hid (Below w.heap.size w w1) := Lib.hid (by rw [hr]; exact hb1)
  have hwr : w.heap.size ≤ r := by omega
  have hr1 : r < w1.heap.size := by omega
  have HP : Hid (∀ W, Below w.heap.size w W → Piece W B v l) := Lib.hid (fun W hW => h.below (hW.mono hB))
  obtain ⟨A, c, rfl, _, hnull, hle, hmx⟩ := h
  unfold maxLen at hmx
  have HNu := Lib.hid hnull
  have HS : Hid (∀ W, Below w.heap.size w W → Sees .u8 W B A l) := Lib.hid (fun W hW => by
    obtain ⟨A', c', e, k, _⟩ := HP.out W hW
    injection e with e1 _ _
    subst e1
    exact k)
  have HBy := Lib.hid hb
  have E1 := Lib.hid (fun h => Gr.get_short (l := l) h)
  have E2 := Lib.hid (fun h k => Gr.get_long (l := l) h k)
  have E3 := Lib.hid (fun h k s => Gr.get_sum (l := l) h k s)
  have E4 := Lib.hid (fun h k s f => Gr.get_form (l := l) h k s f)
  have E5 := Lib.hid (fun h k s f r => Gr.get_bad (l := l) h k s f r)
  have E6 := Lib.hid (fun h k s f r => Gr.get_good (l := l) h k s f r)
  have PAh := Lib.hid (fun W (hW : Below w.heap.size w W) (hk : ¬ l.length < 20) => (show Piece W B (.slice A (l.length - 4) c) (Gr.ahead l) from ⟨A, c, by unfold Gr.ahead; rw [List.length_take]; congr 1; omega, (HS.out W hW).take _, HNu.out, by unfold Gr.ahead; rw [List.length_take]; omega, by unfold maxLen; omega⟩))
  have HAb : Hid (∀ x ∈ Gr.ahead l, x < 256) := Lib.hid (fun x hx => HBy.out x (List.mem_of_mem_take hx))
  have PTl := Lib.hid (fun W (hW : Below w.heap.size w W) => (show Piece W B (.slice (cutAt A c (l.length - 4)) (l.length - (l.length - 4)) (c - (l.length - 4))) (Gr.tail4 l) from ⟨_, _, by unfold Gr.tail4; rw [List.length_drop], (HS.out W hW).cut (by omega) hle, cutAt_null HNu.out, by unfold Gr.tail4; rw [List.length_drop]; omega, by unfold maxLen; omega⟩))
  have HTB : Hid (∀ x ∈ Gr.tail4 l, x < 256) := Lib.hid (fun x hx => HBy.out x (List.mem_of_mem_drop hx))
  have HAl : Hid ((Gr.ahead l).length = l.length - 4) := Lib.hid (by unfold Gr.ahead; rw [List.length_take]; omega)
  obtain ⟨n, hn⟩ : ∃ n, Hid (l.length = n) := ⟨_, Lib.hid rfl⟩
  rw [hn.out] at hle hl E1 E2 E3 E4 E5 E6 PAh PTl HAl ⊢
  clear hR1 hb1 hnull hb hs1
  by_cases c1 : n < 20
  · have EF := E1.out c1
    go_enter Try.func14, Try.ntmps14
    go_wp2_with (refine wpList_store_whole rfl rfl rfl rfl rfl HR1.out (gramI rfl) rfl (by simp [Value.oneCell']) ?_)
    refine bodyPost_ret (v := .tuple #[.agg #[.int .u8 0, .int .u8 0, .int .u32 0, .int .u32 0, .int .u16 0, .int .u16 0, .slice none 0 0], .int .i64 2]) ?_ rfl (by rw [EF]; exact ⟨_, rfl, Gown.zero _ _, below_row HB1.out (by omega) _⟩)
    exact results_gram2 rfl rfl rfl (HR1.out.row _) rfl

  by_cases c2 : 65507 < n
  · have EF := Lib.hid (E2.out c1 c2)
    go_enter Try.func14, Try.ntmps14
    go_wp2_with (refine wpList_store_whole rfl rfl rfl rfl rfl HR1.out (gramI rfl) rfl (by simp [Value.oneCell']) ?_)
    refine bodyPost_ret (v := .tuple #[.agg #[.int .u8 0, .int .u8 0, .int .u32 0, .int .u32 0, .int .u16 0, .int .u16 0, .slice none 0 0], .int .i64 5]) ?_ rfl (by rw [EF.out]; exact ⟨_, rfl, Gown.zero _ _, below_row HB1.out (by omega) _⟩)
    exact results_gram2 rfl rfl rfl (HR1.out.row _) rfl

  obtain ⟨q, hq⟩ : ∃ q, Hid (n - 4 = q) := ⟨_, Lib.hid rfl⟩
  have hq4 : Hid (q + 4 = n) := Lib.hid (by have := hq.out; omega)
  have hqn1 : q ≤ n := by have := hq.out; omega
  have hqn2 : n ≤ q + 4 := by have := hq.out; omega
  have PA2 := Lib.hid (fun W hW => PAh.out W hW c1)
  rw [hq.out] at PA2 PTl HAl
  rw [show n - q = 4 from by have := hq4.out; omega] at PTl
  have hqi : (n : Int) - 4 = (q : Int) := by have := hq4.out; omega
  have hwq : IntKind.i64.wrap (q : Int) = (q : Int) := by rw [IntKind.wrap_i64]; omega
  have hqc1 : q ≤ c := by omega
  have hqc : ¬ c = q := by have := hq4.out; omega
  rw [show cutAt A c q = A.map (fun x => x.add q) from if_neg hqc] at PTl
  have hnq : n - q = 4 := by have := hq4.out; omega
  have CSl := Lib.hid (fun W (hW : Below w.heap.size w W) => seal18_any (PA2.out W hW) HAb.out)
  have HLb := Lib.hid (Gr.le_byte 4 (Cm.sum (Gr.ahead l)))
  obtain ⟨z4, hz4⟩ : ∃ z, Hid (Gr.le 4 (Cm.sum (Gr.ahead l)) = z) := ⟨_, Lib.hid rfl⟩
  obtain ⟨y4, hy4⟩ : ∃ z, Hid (Gr.tail4 l = z) := ⟨_, Lib.hid rfl⟩
  rw [hz4.out] at CSl HLb E3 E4 E5 E6
  rw [hy4.out] at PTl HTB E3 E4 E5 E6
  clear PAh
  go_enter Try.func14, Try.ntmps14
  go_wp2_with fail
  refine wp_region_plans (fun W => Below w1.heap.size w1 W) [(0, true), (1, true), (2, true), (4, true), (5, true), (6, true), (3, false), (7, false), (8, true)] (by kernel_rfl) (by kernel_rfl) rfl (by kernel_rfl) (fun _ _ _ _ _ h => h) (Below.refl _ _).drew ?_
  iterate 6
    refine alongs_take (v := ?_) rfl (by rfl) ?_ ?_
    rotate_left
    · intro W hW; clear hW; go_simp; try with_reducible rfl
    simp only [Act.put, List.setIfInBounds_toArray, List.set_cons_zero, List.set_cons_succ]
  refine alongs_step rfl (fun K hK => ?_)
  go_simp
  refine (CSl.out _ (HB1.out.trans ((Below.refl _ _).drew.mono HB1.out.size))).mono ?_
  rintro e w4 ⟨u4, rfl, ho4, hb4⟩
  have hb14 : Below w1.heap.size w1 w4 := (Below.refl _ _).drew.trans hb4
  have HB4 := Lib.hid (HB1.out.trans (hb14.mono HB1.out.size))
  have PO4 := Lib.hid (own_piece ho4)
  obtain ⟨A4, c4, rfl, _⟩ := own_look ho4
  have HR4 := Lib.hid (HR1.out.below hb14 (by omega))
  have CE := Lib.hid (bequal_any PO4.out (PTl.out w4 HB4.out) HLb.out HTB.out)
  obtain ⟨eq, heq⟩ : ∃ b, Hid (decide (z4 = y4) = b) := ⟨_, Lib.hid rfl⟩
  rw [heq.out] at CE
  refine hK.out (fun W => Below w1.heap.size w1 W) _ _ (fun W hW => hW) hb14 ?_
  clear hK K ho4 hb4
  try simp only [Act.put, List.setIfInBounds_toArray, List.set_cons_zero, List.set_cons_succ]
  refine alongs_step rfl (fun K hK => ?_)
  go_simp
  refine (CE.out).mono ?_
  rintro e w5 ⟨rfl, rfl⟩
  refine hK.out (fun W => Below w1.heap.size w1 W) _ _ (fun W hW => hW) hb14 ?_
  clear hK K hb14 CE
  try simp only [Act.put, List.setIfInBounds_toArray, List.set_cons_zero, List.set_cons_succ]
  refine alongs_take (v := ?_) rfl (by rfl) ?_ ?_
  rotate_left
  · intro W hW; clear hW; go_simp; try with_reducible rfl
  simp only [Act.put, List.setIfInBounds_toArray, List.set_cons_zero, List.set_cons_succ]
  refine alongs_done ?_
  cases eq
  case false =>
    have hne : Hid (¬ z4 = y4) := Lib.hid (by simpa using heq.out)
    have EF := Lib.hid (E3.out c1 c2 hne.out)
    go_wp2_with (refine wpList_store_whole rfl rfl rfl rfl rfl HR4.out (gramI rfl) rfl (by simp [Value.oneCell']) ?_)
    refine bodyPost_ret (v := .tuple #[.agg #[.int .u8 0, .int .u8 0, .int .u32 0, .int .u32 0, .int .u16 0, .int .u16 0, .slice none 0 0], .int .i64 8]) ?_ rfl (by rw [EF.out]; exact ⟨_, rfl, Gown.zero _ _, below_row HB4.out (by omega) _⟩)
    exact results_gram2 rfl rfl rfl (HR4.out.row _) rfl

  have HZ : Hid (z4 = y4) := Lib.hid (by simpa using heq.out)
  have E4' := Lib.hid (fun f => E4.out c1 c2 HZ.out f)
  have E5' := Lib.hid (fun f r => E5.out c1 c2 HZ.out f r)
  have E6' := Lib.hid (fun f r => E6.out c1 c2 HZ.out f r)
  clear E1 E2 E3 E4 E5 E6
  have hlen2 : Hid (2 ≤ (Gr.ahead l).length) := Lib.hid (by rw [HAl.out]; omega)
  have HFF : Hid ((l.getD 0 0 = 167 ∧ l.getD 1 0 = 78) ↔ Bm.be ((Gr.ahead l).take 2) = 42830) := Lib.hid (Gr.mark_iff HBy.out (by rw [hn.out]; omega))
  have COp := Lib.hid (open_any (PA2.out w4 HB4.out) (by rw [HAl.out]; omega) HAb.out)
  obtain ⟨al, hal⟩ : ∃ l', Hid (Gr.ahead l = l') := ⟨_, Lib.hid rfl⟩
  rw [hal.out] at HAl hlen2 HFF COp HAb E5' E6'
  go_wp2_with fail
  refine (COp.out).mono ?_
  rintro e w5 ⟨rd, rfl, hrd, hRd, hb5⟩
  have HB5 := Lib.hid (HB4.out.trans (hb5.mono HB4.out.size))
  have HR5 := Lib.hid (HR4.out.below hb5 (by have := HR4.out.lt; omega))
  have hr4 := HR4.out.lt
  have CF := Lib.hid (rfix_any (2 : Int) (by omega) (by omega) hRd)
  rw [show Bm.rfix al 0 (2 : Int) = (Bm.be (al.take 2), al.drop 2, 0) from Bm.rfix_good (k := 2) (by omega) (by omega) hlen2.out] at CF
  obtain ⟨k, hk⟩ : ∃ k, Hid (Bm.be (al.take 2) = k) := ⟨_, Lib.hid rfl⟩
  rw [hk.out] at CF HFF
  obtain ⟨m, hm⟩ : ∃ m, Hid (al.drop 2 = m) := ⟨_, Lib.hid rfl⟩
  rw [hm.out] at CF E5' E6'
  have hml : Hid (m.length = q - 2) := Lib.hid (by rw [← hm.out, List.length_drop, HAl.out])
  clear hRd hb5
  go_wp2_with fail
  refine (CF.out).mono ?_
  rintro e w6 ⟨rfl, hRd6, hon6⟩
  have HB6 : Hid (Below w.heap.size w w6) := Lib.hid (HB5.out.trans (hon6.below (by have := HB4.out.size; omega) HB5.out.size))
  have HR6 := Lib.hid (HR5.out.only hon6 (by omega))
  have CRd := Lib.hid (gread18_any hRd6 (by rw [hml.out]; omega) (by rw [hml.out]; omega))
  have hrd6 := hRd6.lt
  have hr6 := HR6.out.lt
  clear hRd6 hon6 CF
  by_cases hk2 : k = 42830
  case neg =>
    have hne : ((k : Int) != 42830) = true := by simp; omega
    have EF : Hid (Gr.get l = (Gr.zero, 3)) := Lib.hid (E4'.out (fun e => hk2 (HFF.out.1 e)))
    clear hk2
    go_wp2_with (refine wpList_store_whole rfl rfl rfl rfl rfl HR6.out (gramI rfl) rfl (by simp [Value.oneCell']) ?_)
    refine bodyPost_ret (v := .tuple #[.agg #[.int .u8 0, .int .u8 0, .int .u32 0, .int .u32 0, .int .u16 0, .int .u16 0, .slice none 0 0], .int .i64 3]) ?_ rfl (by rw [EF.out]; exact ⟨_, rfl, Gown.zero _ _, below_row HB6.out (by omega) _⟩)
    exact results_gram2 rfl rfl rfl (HR6.out.row _) rfl

  have hne : ((k : Int) != 42830) = false := by simp; omega
  have hff := Lib.hid (HFF.out.2 hk2)
  have E5'' := Lib.hid (fun r => E5'.out hff.out r)
  have E6'' := Lib.hid (fun r => E6'.out hff.out r)
  clear E4' E5' E6' hk2
  go_wp2_with fail
  refine (CRd.out).mono ?_
  rintro e w7 ⟨gv, rfl, hgo, hon7⟩
  have hgv := hgo.gv
  obtain ⟨⟨vb, rfl, hvb⟩, hok⟩ := hgo
  obtain ⟨G, hG⟩ : ∃ G, Hid (Gr.parse m = G) := ⟨_, Lib.hid rfl⟩
  rw [hG.out] at hvb hok E5'' E6'' hgv
  rw [hG.out]
  obtain ⟨Av, cv, rfl, _⟩ := own_look hvb
  obtain ⟨gb, w8, hgb, hal8, hs8, hG8, hb8⟩ := var_gram w7
  have HB7 : Hid (Below w.heap.size w w7) := Lib.hid (HB6.out.trans (hon7.below (by have := HB4.out.size; omega) HB6.out.size))
  have HR7 := Lib.hid (HR6.out.only hon7 (by omega))
  have HGW := Lib.hid hG8.whole
  have hb8' : Below w7.heap.size w7 w8 := by rw [hgb]; exact hb8
  have HB8 := Lib.hid (HB7.out.trans (hb8'.mono HB7.out.size))
  have hr7 := HR7.out.lt
  obtain ⟨nb, hnb⟩ : ∃ n, Hid (G.body.length = n) := ⟨_, Lib.hid rfl⟩
  have hgr : r < gb := by omega
  have hb79 : ∀ cs, Below w7.heap.size w7 (w8.setRow gb cs) := fun cs => below_row hb8' (by omega) cs
  have hgv9 := fun cs => hgv.kept (hb79 cs)
  rw [hnb.out] at hvb
  have HO7 := Lib.hid hvb
  have HOK := Lib.hid hok
  simp only [hnb.out] at hgv9
  obtain ⟨w9, hw9⟩ : ∃ W, Hid (w8.setRow gb #[.int .u8 (G.kind : Int), .int .u8 (G.version : Int), .int .u32 (G.epoch : Int), .int .u32 (G.id : Int), .int .u16 (G.index : Int), .int .u16 (G.count : Int), .slice Av nb cv] = W) := ⟨_, Lib.hid rfl⟩
  have HB79 : Hid (Below w7.heap.size w7 w9) := Lib.hid (by rw [← hw9.out]; exact hb79 _)
  have CR := Lib.hid (gright18_any (hgv9 #[.int .u8 (G.kind : Int), .int .u8 (G.version : Int), .int .u32 (G.epoch : Int), .int .u32 (G.id : Int), .int .u16 (G.index : Int), .int .u16 (G.count : Int), .slice Av nb cv]))
  rw [hw9.out] at CR
  have HG9 : Hid (Whole w9 gb 26 #[.int .u8 (G.kind : Int), .int .u8 (G.version : Int), .int .u32 (G.epoch : Int), .int .u32 (G.id : Int), .int .u16 (G.index : Int), .int .u16 (G.count : Int), .slice Av nb cv]) := Lib.hid (by rw [← hw9.out]; exact HGW.out.row _)
  have HR9 := Lib.hid (HR7.out.below HB79.out hr7)
  have HB9 := Lib.hid (HB7.out.trans (HB79.out.mono HB7.out.size))
  obtain ⟨rg, hrg⟩ : ∃ n, Hid (Gr.right G = n) := ⟨_, Lib.hid rfl⟩
  rw [hrg.out] at CR E5'' E6''
  have h67 : r < w6.heap.size := hr6
  have hw6 : w.heap.size ≤ w6.heap.size := HB6.out.size
  clear hon7 hG8 hb8 hb8' CRd hgv hok hb79 hgv9 hvb
  rw [hnb.out]
  go_wp2_with (first | (refine wpList_load_struct Try.underlying26 (gramI rfl) rfl rfl rfl HG9.out ?_) | (refine wpList_store_whole rfl rfl rfl rfl rfl HGW.out (gramI rfl) rfl (by simp [Value.oneCell']) ?_; rw [hw9.out]))
  refine (CR.out).mono ?_
  rintro e w10 ⟨rfl, hb10⟩
  have HB10 := Lib.hid (HB9.out.trans (hb10.mono HB9.out.size))
  have HR10 := Lib.hid (HR9.out.below hb10 HR9.out.lt)
  have HG10 := Lib.hid (HG9.out.below hb10 HG9.out.lt)
  have HB710 := Lib.hid (HB79.out.trans (hb10.mono HB79.out.size))
  have HO10 := Lib.hid (own_below HO7.out HB710.out)
  clear hb10 CR
  by_cases h0 : rg = 0
  · have EF : Hid (Gr.get l = (G, 0)) := Lib.hid (E6''.out h0)
    subst h0
    go_wp2_with (first | (refine wpList_load_struct Try.underlying26 (gramI rfl) rfl rfl rfl HG10.out ?_) | (refine wpList_store_whole rfl rfl rfl rfl rfl HR10.out (gramI rfl) rfl (by simp [Value.oneCell']) ?_))
    refine bodyPost_ret (v := .tuple #[.agg #[.int .u8 (G.kind : Int), .int .u8 (G.version : Int), .int .u32 (G.epoch : Int), .int .u32 (G.id : Int), .int .u16 (G.index : Int), .int .u16 (G.count : Int), .slice Av nb cv], .int .i64 0]) ?_ rfl (by
      rw [EF.out]
      refine ⟨_, rfl, ⟨⟨.slice Av nb cv, rfl, ?_⟩, HOK.out⟩, below_row HB10.out (by omega) _⟩
      rw [hnb.out]
      exact own_lower1 (own_setrow HO10.out (by omega) _) hw6)
    exact results_gram2 rfl rfl rfl (HR10.out.row _) rfl
  · have EF : Hid (Gr.get l = (Gr.zero, rg)) := Lib.hid (E5''.out h0)
    have hne2 : ((rg : Int) != 0) = true := by simp; omega
    clear h0
    go_wp2_with (first | (refine wpList_store_whole rfl rfl rfl rfl rfl HR10.out (gramI rfl) rfl (by simp [Value.oneCell']) ?_))
    refine bodyPost_ret (v := .tuple #[.agg #[.int .u8 0, .int .u8 0, .int .u32 0, .int .u32 0, .int .u16 0, .int .u16 0, .slice none 0 0], .int .i64 (rg : Int)]) ?_ rfl (by rw [EF.out]; exact ⟨_, rfl, Gown.zero _ _, below_row HB10.out (by omega) _⟩)
    exact results_gram2 rfl rfl rfl (HR10.out.row _) rfl

end Go.Proofs.Ytkakeojigndnnaa
