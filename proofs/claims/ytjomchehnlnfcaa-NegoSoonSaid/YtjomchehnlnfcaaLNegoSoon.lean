/- The walk of the law NegoSoon. -/
import Derived.Test.YtjomchehnlnfcaaAwake25
namespace Go.Proofs.Ytjomchehnlnfcaa
open Go.RowKit
open Gm
set_option linter.unusedVariables false
set_option maxRecDepth 100000
set_option linter.unusedSimpArgs false

namespace Ng
/-- asked, j ticks ago -/
def wait (j : Nat) : Tk := ⟨0, 1, 0, 0, (j : Int), 0, 0, []⟩
theorem ok_wait {j : Nat} (h : j ≤ 4) : (wait j).Ok :=
  ⟨(by decide : (0 : Nat) < 65536), (by decide : -9223372036854775808 ≤ (1 : Int) ∧ (1 : Int) ≤ 9223372036854775807), (by decide : (0 : Nat) < 65536), (by decide : -9223372036854775808 ≤ (0 : Int) ∧ (0 : Int) ≤ 9223372036854775807),
    (by show -9223372036854775808 ≤ (j : Int) ∧ (j : Int) ≤ 9223372036854775807; omega), (by decide : (0 : Nat) < 4294967296), (by decide : (0 : Nat) < 4294967296)⟩
theorem tick_wait {k : Nat} (h1 : 1 ≤ k) (h4 : k ≤ 4) : tick (wait ((k - 1) % 4)) = (wait (k % 4), decide (k = 4)) := by
  have : k = 1 ∨ k = 2 ∨ k = 3 ∨ k = 4 := by omega
  rcases this with rfl | rfl | rfl | rfl <;> rfl
theorem hear_wait (a b : Nat) : hear (wait 0) a b true = (⟨0, if Vs.best a b = 0 then 3 else 2, b, (Vs.best a b : Nat), 0, 0, 0, []⟩, false) := rfl
theorem hear_zero (a b : Nat) : hear zero b a false = (⟨0, if Vs.best a b = 0 then 3 else 2, a, (Vs.best a b : Nat), 0, 0, 0, []⟩, true) := by
  unfold hear
  rw [Vs.best_comm b a]
  rfl
end Ng
theorem Ml.empty {w w' : World} {B B' : Nat} {A : Option Addr} {c : Nat} (h : Ml w B (.slice A 0 c) []) : Ml w' B' (.slice A 0 c) [] := by
  obtain ⟨A', c', e, h1, h2, h3, _⟩ := h
  exact ⟨A', c', e, h1, h2, h3, fun i hi => by cases hi⟩
set_option maxHeartbeats 8000000 in
theorem negoSoon_walk (a0 a1 a2 : Int) (w : World) (w0 : (Lit.int .u16 a0).wf = true) (w1 : (Lit.int .u16 a1).wf = true) (w2 : (Lit.int .u8 a2).wf = true) :
    Calls Try.prog 6 #[.int .u16 a0, .int .u16 a1, .int .u8 a2] w fun e w' => e = .returned (.bool true) ∧ Below w.heap.size w w' := by
  obtain ⟨p0, q0⟩ := bounds_u16 w0
  obtain ⟨p1, q1⟩ := bounds_u16 w1
  obtain ⟨p2, q2⟩ := bounds_u8 w2
  obtain ⟨a, rfl⟩ := Int.eq_ofNat_of_zero_le p0
  obtain ⟨b, rfl⟩ := Int.eq_ofNat_of_zero_le p1
  obtain ⟨lost, rfl⟩ := Int.eq_ofNat_of_zero_le p2
  have ha : a < 65536 := by omega
  have hb : b < 65536 := by omega
  have hl : lost < 256 := by omega
  obtain ⟨m, hm⟩ : ∃ m, Hid (lost % 5 = m) := ⟨_, Lib.hid rfl⟩
  have hm5 : m < 5 := by have := hm.out; omega
  have hrem : (lost : Int).tmod 5 = (m : Int) := by rw [Int.tmod_eq_emod_of_nonneg (by omega)]; have := hm.out; omega
  have hrem' : (lost : Int) % 5 = (m : Int) := by have := hm.out; omega
  have hcv : IntKind.i64.wrap (m : Int) = (m : Int) := by rw [IntKind.wrap_i64]; omega
  have D1 := Lib.hid (fun W => cask25_any (w := W) (t := Ng.zero) Ng.ok_zero (Ml.nil W _) Sz.nil)
  rw [Ng.ask_zero] at D1
  have DT := Lib.hid (fun W A c (k : Nat) (h1 : 1 ≤ k) (h4 : k ≤ 4) (h : Ml W W.heap.size (.slice A 0 c) []) => ctick25_any (w := W) (t := Ng.wait ((k - 1) % 4)) (n := 0) (Ng.ok_wait (by omega)) h Sz.nil)
  have HTk := Lib.hid (fun k h1 h4 => Ng.tick_wait (k := k) h1 h4)
  have D2 := Lib.hid (fun W => chello25_any (w := W) ha false)
  have D3 := Lib.hid (fun W B v (h : Piece W B v (Ng.hello a false)) (hB : B ≤ W.heap.size) => cnread25_any h hB (by unfold Ng.hello; intro x hx; simp at hx; rcases hx with rfl | rfl | rfl <;> omega) (by unfold Ng.hello; simp))
  rw [Ng.read_hello ha false] at D3
  have D4 := Lib.hid (fun W => chear25_any (w := W) (t := Ng.zero) (own := b) (th := a) Ng.ok_zero (Ml.nil W _) Sz.nil hb ha false)
  rw [Ng.hear_zero] at D4
  have D5 := Lib.hid (fun W => chello25_any (w := W) hb true)
  have D6 := Lib.hid (fun W B v (h : Piece W B v (Ng.hello b true)) (hB : B ≤ W.heap.size) => cnread25_any h hB (by unfold Ng.hello; intro x hx; simp at hx; rcases hx with rfl | rfl | rfl <;> omega) (by unfold Ng.hello; simp))
  rw [Ng.read_hello hb true] at D6
  have D7 := Lib.hid (fun W A c (h : Ml W W.heap.size (.slice A 0 c) []) => chear25_any (w := W) (t := Ng.wait 0) (own := a) (th := b) (n := 0) (Ng.ok_wait (by omega)) h Sz.nil ha hb true)
  rw [Ng.hear_wait] at D7
  have D8 := Lib.hid (fun W => rbest24_any (w := W) ha hb)
  unfold TalkPost at D1 D4 D7 DT
  unfold Made at D2 D5
  simp only [Ng.asked, Ng.zero, List.length_nil] at D1 D4 D7
  have DT' : Hid (∀ W A c (k : Nat), 1 ≤ k → k ≤ 4 → Ml W W.heap.size (.slice A 0 c) [] → Calls Try.prog 13 #[.agg #[.int .u16 0, .int .i64 1, .int .u16 0, .int .i64 0, .int .i64 (((k - 1) % 4 : Nat) : Int), .int .u32 0, .int .u32 0, .slice A 0 c]] W fun e w' => ∃ A c, e = .returned (.tuple #[.agg #[.int .u16 0, .int .i64 1, .int .u16 0, .int .i64 0, .int .i64 ((k % 4 : Nat) : Int), .int .u32 0, .int .u32 0, .slice A 0 c], .bool (decide (k = 4))]) ∧ Ml w' w'.heap.size (.slice A 0 c) [] ∧ Below W.heap.size W w') := Lib.hid (fun W A c k h1 h4 h => by
    have hh := DT.out W A c k h1 h4 h
    rw [HTk.out k h1 h4] at hh
    refine hh.mono ?_
    rintro e w' ⟨A', c', rfl, hm, hb⟩
    exact ⟨A', c', rfl, Ml.empty hm, hb⟩)
  obtain ⟨n, hn⟩ : ∃ n, Hid (Vs.best a b = n) := ⟨_, Lib.hid rfl⟩
  rw [hn.out] at D4 D7 D8
  obtain ⟨st, hst⟩ : ∃ st : Int, Hid ((if n = 0 then (3 : Int) else 2) = st) := ⟨_, Lib.hid rfl⟩
  rw [hst.out] at D4 D7
  have hlnA : Hid ((Ng.hello a false).length = 3) := Lib.hid rfl
  have hlnB : Hid ((Ng.hello b true).length = 3) := Lib.hid rfl
  obtain ⟨zz, hz3⟩ : ∃ z, decide (0 < n) = z := ⟨_, rfl⟩
  have hz2 : decide (0 < (n : Int)) = zz := by rw [← hz3]; exact decide_eq_decide.2 (by omega)
  have hz1 : (st == 2) = zz := by
    rw [← hst.out, ← hz3]
    by_cases h : n = 0
    · subst h; rfl
    · rw [if_neg h, decide_eq_true (by omega)]; rfl
  have hzz : (zz == zz) = true := by cases zz <;> rfl
  have enn : ((n : Int) == (n : Int)) = true := by simp
  have ess : (st == st) = true := by simp
  clear DT HTk w0 w1 w2 p0 q0 p1 q1 p2 q2
  go_enter Try.func6, Try.ntmps6
  go_wp2_with fail
  refine (D1.out _).mono ?_
  rintro e u1 ⟨A1, c1, rfl, hm1, hb1⟩
  obtain ⟨g, p1, q1, hg1, hal1, hW1, hst1, hx1, hbq1, hlt1⟩ := var_tk u1 #[.int .u16 0, .int .i64 1, .int .u16 0, .int .i64 0, .int .i64 0, .int .u32 0, .int .u32 0, .slice A1 0 c1]
  have HW1 := Lib.hid hW1
  have HX1 := Lib.hid hx1
  have hq1 := hb1.trans (hbq1.mono hb1.size)
  have HB1 := Lib.hid hq1
  have HM1 : Hid (Ml q1 q1.heap.size (.slice A1 0 c1) []) := Lib.hid (Ml.empty hm1)
  have hgw : w.heap.size ≤ g := by have := hb1.size; omega
  clear hm1 hb1 hW1 hx1 hbq1 hq1 hlt1
  go_wp2_with (refine wpList_store_whole rfl rfl rfl rfl rfl HW1.out (talkI rfl) rfl (by simp [Value.oneCell']) ?_; rw [hst1])
  clear hal1 hst1 hg1
  go_loopw [8, 9] (fun y x wr => ∃ (i : Nat) (z : Bool) (A : Option Addr) (c : Nat), i ≤ m ∧ x = .int .i64 (i : Int) ∧ y = .bool z ∧ Hid (Whole wr g 26 #[.int .u16 0, .int .i64 1, .int .u16 0, .int .i64 0, .int .i64 0, .int .u32 0, .int .u32 0, .slice A 0 c]) ∧ Hid (Ml wr wr.heap.size (.slice A 0 c) []) ∧ Hid (Below w.heap.size w wr)) (fun _ x _ => m - (intOf x).toNat)
  case atStart => exact ⟨0, true, A1, c1, by omega, rfl, rfl, HX1, HM1, HB1⟩
  case round =>
    obtain ⟨i, z, A, c, hi, rfl, rfl, HX, HM, HB⟩ := hrel
    obtain ⟨wo, rfl⟩ : ∃ W, W = wr := ⟨_, rfl⟩
    by_cases hlt : i < m
    · go_wp2_with fail
      go_loopw [8, 10] (fun y x wx => ∃ (k : Nat) (z : Bool) (A : Option Addr) (c : Nat), 1 ≤ k ∧ k ≤ 5 ∧ x = .int .i64 (k : Int) ∧ y = .bool z ∧ Hid (Whole wx g 26 #[.int .u16 0, .int .i64 1, .int .u16 0, .int .i64 0, .int .i64 (((k - 1) % 4 : Nat) : Int), .int .u32 0, .int .u32 0, .slice A 0 c]) ∧ Hid (Ml wx wx.heap.size (.slice A 0 c) []) ∧ Hid (Below w.heap.size w wx)) (fun _ x _ => 5 - (intOf x).toNat)
      case atStart => exact ⟨1, z, A, c, by omega, by omega, rfl, rfl, HX, HM, HB⟩
      case round =>
        obtain ⟨k, z', A', c', hk1, hk5, rfl, rfl, HX', HM', HB'⟩ := hrel
        by_cases hk4 : k ≤ 4
        · have C := Lib.hid (DT'.out wr A' c' k hk1 hk4 HM'.out)
          obtain ⟨j, hj⟩ : ∃ j, Hid ((k - 1) % 4 = j) := ⟨_, Lib.hid rfl⟩
          obtain ⟨j', hj'⟩ : ∃ j, Hid (k % 4 = j) := ⟨_, Lib.hid rfl⟩
          obtain ⟨q, hq⟩ : ∃ q, Hid (decide (k = 4) = q) := ⟨_, Lib.hid rfl⟩
          rw [hj.out, hj'.out, hq.out] at C
          rw [hj.out] at HX'
          have hqe : ((k : Int) == 4) = q := by
            rw [← hq.out]
            by_cases e : k = 4
            · subst e; rfl
            · rw [decide_eq_false e, beq_eq_false_iff_ne]; omega
          have hqq : (q != q) = false := by cases q <;> rfl
          obtain ⟨c0, d1, d2, d3, d4, d5, d6, d7⟩ := cellsT HX'.out
          go_wp2_with fail
          refine (C.out).mono ?_
          rintro e x1 ⟨A2, c2, rfl, hm2, hb⟩
          have HX2 := Lib.hid (HX'.out.below hb HX'.out.lt)
          obtain ⟨x2, hx2⟩ : ∃ W, x1.setRow g #[.int .u16 0, .int .i64 1, .int .u16 0, .int .i64 0, .int .i64 (j' : Int), .int .u32 0, .int .u32 0, .slice A2 0 c2] = W := ⟨_, rfl⟩
          have HX3 : Hid (Whole x2 g 26 #[.int .u16 0, .int .i64 1, .int .u16 0, .int .i64 0, .int .i64 (j' : Int), .int .u32 0, .int .u32 0, .slice A2 0 c2]) := Lib.hid (by rw [← hx2]; exact HX2.out.row _)
          have HB3 : Hid (Below w.heap.size w x2) := Lib.hid (by rw [← hx2]; exact below_row (HB'.out.trans (hb.mono HB'.out.size)) hgw _)
          clear hb c0 d1 d2 d3 d4 d5 d6 d7
          go_wp2_with (refine wpList_store_whole rfl rfl rfl rfl rfl HX2.out (talkI rfl) rfl (by simp [Value.oneCell']) ?_; rw [hx2])
          refine ⟨⟨k + 1, q, A2, c2, by omega, by omega, by simp, rfl, ?_, Lib.hid (Ml.empty hm2), HB3⟩, by simp [intOf]; omega⟩
          rw [show (k + 1 - 1) % 4 = j' by rw [Nat.add_sub_cancel]; exact hj'.out]
          exact HX3
        · obtain rfl : k = 5 := by omega
          go_wp2_with fail
          go_roundw
          case rel => exact ⟨i + 1, z', A', c', by omega, by go_num, rfl, HX', HM', HB'⟩
          case measure => simp [intOf]; omega
    · go_wp2_with fail
      refine (D2.out _).mono ?_
      rintro e u2 ⟨v2, rfl, ho2, hb2⟩
      have HX2 := Lib.hid (HX.out.below hb2 HX.out.lt)
      have HB2 := Lib.hid (HB.out.trans (hb2.mono HB.out.size))
      have HP2 := Lib.hid (own_piece ho2)
      obtain ⟨A2, c2, rfl, _⟩ := own_look ho2
      rw [hlnA.out] at HP2
      rw [hlnA.out]
      clear ho2 hb2
      go_wp2_with fail
      refine (D3.out _ _ _ HP2.out (Nat.le_refl _)).mono ?_
      rintro e u3 ⟨rfl, hb⟩
      have HX3 := Lib.hid (HX2.out.below hb HX2.out.lt)
      have HB3 := Lib.hid (HB2.out.trans (hb.mono HB2.out.size))
      clear hb
      go_wp2_with fail
      refine (D4.out _).mono ?_
      rintro e u4 ⟨A4, c4, rfl, hm4, hb4⟩
      obtain ⟨g4, p4, q4, hg4, hal4, hW4, hst4, hx4, hbq4, hlt4⟩ := var_tk u4 #[.int .u16 0, .int .i64 st, .int .u16 (a : Int), .int .i64 (n : Int), .int .i64 0, .int .u32 0, .int .u32 0, .slice A4 0 c4]
      have HW4 := Lib.hid hW4
      have hq4 := hb4.trans (hbq4.mono hb4.size)
      have HX4 := Lib.hid (HX3.out.below hq4 HX3.out.lt)
      have HB4 := Lib.hid (HB3.out.trans (hq4.mono HB3.out.size))
      have HY4 := Lib.hid hx4
      have hne : g4 ≠ g := by have := HX3.out.lt; have := hb4.size; omega
      clear hm4 hb4 hW4 hx4 hbq4 hq4
      go_wp2_with (refine wpList_store_whole rfl rfl rfl rfl rfl HW4.out (talkI rfl) rfl (by simp [Value.oneCell']) ?_; rw [hst4])
      clear hg4 hal4 hst4
      refine (D5.out _).mono ?_
      rintro e u5 ⟨v5, rfl, ho5, hb5⟩
      have HX5 := Lib.hid (HX4.out.below hb5 HX4.out.lt)
      have HY5 := Lib.hid (HY4.out.below hb5 HY4.out.lt)
      have HB5 := Lib.hid (HB4.out.trans (hb5.mono HB4.out.size))
      have HP5 := Lib.hid (own_piece ho5)
      obtain ⟨A5, c5, rfl, _⟩ := own_look ho5
      rw [hlnB.out] at HP5
      rw [hlnB.out]
      clear ho5 hb5
      go_wp2_with fail
      refine (D6.out _ _ _ HP5.out (Nat.le_refl _)).mono ?_
      rintro e u6 ⟨rfl, hb⟩
      have HX6 := Lib.hid (HX5.out.below hb HX5.out.lt)
      have HY6 := Lib.hid (HY5.out.below hb HY5.out.lt)
      have HB6 := Lib.hid (HB5.out.trans (hb.mono HB5.out.size))
      have HM6 : Hid (Ml u6 u6.heap.size (.slice A 0 c) []) := Lib.hid (Ml.empty HM.out)
      clear hb
      obtain ⟨c0, d1, d2, d3, d4, d5, d6, d7⟩ := cellsT HX6.out
      go_wp2_with fail
      refine (D7.out _ _ _ HM6.out).mono ?_
      rintro e u7 ⟨A7, c7, rfl, hm7, hb7⟩
      have HX7 := Lib.hid (HX6.out.below hb7 HX6.out.lt)
      have HY7 := Lib.hid (HY6.out.below hb7 HY6.out.lt)
      obtain ⟨x8, hx8⟩ : ∃ W, u7.setRow g #[.int .u16 0, .int .i64 st, .int .u16 (b : Int), .int .i64 (n : Int), .int .i64 0, .int .u32 0, .int .u32 0, .slice A7 0 c7] = W := ⟨_, rfl⟩
      have HX8 : Hid (Whole x8 g 26 #[.int .u16 0, .int .i64 st, .int .u16 (b : Int), .int .i64 (n : Int), .int .i64 0, .int .u32 0, .int .u32 0, .slice A7 0 c7]) := Lib.hid (by rw [← hx8]; exact HX7.out.row _)
      have HY8 : Hid (Whole x8 g4 26 #[.int .u16 0, .int .i64 st, .int .u16 (a : Int), .int .i64 (n : Int), .int .i64 0, .int .u32 0, .int .u32 0, .slice A4 0 c4]) := Lib.hid (by rw [← hx8]; exact HY7.out.rowOther hne _)
      have HB8 : Hid (Below w.heap.size w x8) := Lib.hid (by rw [← hx8]; exact below_row (HB6.out.trans (hb7.mono HB6.out.size)) hgw _)
      clear hm7 hb7 c0 d1 d2 d3 d4 d5 d6 d7
      go_wp2_with (refine wpList_store_whole rfl rfl rfl rfl rfl HX7.out (talkI rfl) rfl (by simp [Value.oneCell']) ?_; rw [hx8])
      refine (D8.out _).mono ?_
      rintro e u9 ⟨rfl, rfl⟩
      obtain ⟨f0, f1, f2, f3, f4, f5, f6, f7⟩ := cellsT HX8.out
      obtain ⟨h0, h1, h2, h3, h4, h5, h6, h7⟩ := cellsT HY8.out
      go_wp2_with fail
      refine (awake25 _).mono ?_
      rintro e ua ⟨rfl, hb⟩
      have HBa := Lib.hid (HB8.out.trans (hb.mono HB8.out.size))
      clear hb
      go_wp2_with fail
      go_ret
      exact ⟨rfl, HBa.out⟩
end Go.Proofs.Ytjomchehnlnfcaa
