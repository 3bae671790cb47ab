/- Contracts of layer 25's law's same and large, and of the reference's Hello and Read. -/
import Derived.Test.YtjomchehnlnfcaaRsm16
import Derived.Test.YtjomchehnlnfcaaRng25
import Derived.Test.YtjomchehnlnfcaaPC
namespace Go.Proofs.Ytjomchehnlnfcaa
open Go.RowKit
open Gm
set_option linter.unusedVariables false
set_option maxRecDepth 100000
set_option linter.unusedSimpArgs false

set_option maxHeartbeats 1000000 in
theorem lsame25_any {w : World} {xa xt xe xn : Nat} {xs xv xi : Int} {A A' : Option Addr} {n c n' c' : Nat} {ms : List Ms} (H1 : Ml w w.heap.size (.slice A n c) ms) (H2 : Ml w w.heap.size (.slice A' n' c') ms) :
    Calls Try.prog 15 #[.agg #[.int .u16 (xa : Int), .int .i64 xs, .int .u16 (xt : Int), .int .i64 xv, .int .i64 xi, .int .u32 (xe : Int), .int .u32 (xn : Int), .slice A n c], .agg #[.int .u16 (xa : Int), .int .i64 xs, .int .u16 (xt : Int), .int .i64 xv, .int .i64 xi, .int .u32 (xe : Int), .int .u32 (xn : Int), .slice A' n' c']] w fun e w' => e = .returned (.bool true) ∧ Below w.heap.size w w' := by
  obtain ⟨g, w1, hg, hal, hsz, hx, hb1⟩ := boxedT25 w #[.int .u16 (xa : Int), .int .i64 xs, .int .u16 (xt : Int), .int .i64 xv, .int .i64 xi, .int .u32 (xe : Int), .int .u32 (xn : Int), .slice A n c]
  obtain ⟨r, w2, hr, hal2, hsz2, hy, hb2⟩ := boxedT25 w1 #[.int .u16 (xa : Int), .int .i64 xs, .int .u16 (xt : Int), .int .i64 xv, .int .i64 xi, .int .u32 (xe : Int), .int .u32 (xn : Int), .slice A' n' c']
  have hbb := hb1.trans (hb2.mono hb1.size)
  have HB2 : Hid (Below w.heap.size w w2) := Lib.hid hbb
  have hx2 := hx.below hb2 (by omega)
  obtain ⟨c0, c1, c2, c3, c4, c5, c6, c7⟩ := cellsT hx2
  obtain ⟨d0, d1, d2, d3, d4, d5, d6, d7⟩ := cellsT hy
  have CS := Lib.hid (rsame16_any (H1.kept hbb) (H2.kept hbb) (Nat.le_refl _) (Nat.le_refl _))
  have e1 : ((xa : Int) == (xa : Int)) = true := by simp
  have e2 : (xs == xs) = true := by simp
  have e3 : ((xt : Int) == (xt : Int)) = true := by simp
  have e4 : (xv == xv) = true := by simp
  have e5 : (xi == xi) = true := by simp
  have e6 : ((xe : Int) == (xe : Int)) = true := by simp
  have e7 : ((xn : Int) == (xn : Int)) = true := by simp
  clear hx hb1 hsz hx2 hy hsz2 hb2 hbb H1 H2
  go_enter Try.func15, Try.ntmps15
  go_wp2_with fail
  refine (CS.out).mono ?_
  rintro e w3 ⟨rfl, hb⟩
  have HB3 := Lib.hid (HB2.out.trans (hb.mono HB2.out.size))
  clear hb
  go_wp2_with fail
  go_ret
  exact ⟨rfl, by first | exact HB3.out | (rw [← hg]; exact HB3.out)⟩
theorem llarge25_any {w : World} {c0 c1 c2 c3 c4 c5 c6 : Value} {A : Option Addr} {n c : Nat} :
    Calls Try.prog 7 #[.agg #[c0, c1, c2, c3, c4, c5, c6, .slice A n c]] w fun e w' => e = .returned (.bool (decide (40 < (n : Int)))) ∧ Below w.heap.size w w' := by
  obtain ⟨g, w1, hg, hal, hsz, hx, hb1⟩ := boxedT25 w #[c0, c1, c2, c3, c4, c5, c6, .slice A n c]
  have HB1 := Lib.hid hb1
  obtain ⟨d0, d1, d2, d3, d4, d5, d6, d7⟩ := cellsT hx
  clear hx hb1 hsz
  go_enter Try.func7, Try.ntmps7
  go_wp2_with fail
  go_ret
  exact ⟨rfl, by first | exact HB1.out | (rw [← hg]; exact HB1.out)⟩
set_option maxHeartbeats 1000000 in
theorem rhello25_any {w : World} {s : Nat} (hs : s < 65536) (rp : Bool) :
    Calls Try.prog 19 #[.int .u16 (s : Int), .bool rp] w (Made .u8 5 w.heap.size (Ng.hello s rp) w) := by
  obtain ⟨a, ha⟩ : ∃ a, Hid (s / 256 = a) := ⟨_, Lib.hid rfl⟩
  obtain ⟨b, hb⟩ : ∃ b, Hid (s % 256 = b) := ⟨_, Lib.hid rfl⟩
  have ha2 : a < 256 := by have := ha.out; omega
  have hb2 : b < 256 := by have := hb.out; omega
  have hA : (s : Int).tdiv 256 = (a : Int) := by rw [Int.tdiv_eq_ediv_of_nonneg (by omega)]; have := ha.out; omega
  have hB : (s : Int).tmod 256 = (b : Int) := by rw [Int.tmod_eq_emod_of_nonneg (by omega)]; have := hb.out; omega
  have hA' : (s : Int) / 256 = (a : Int) := by have := ha.out; omega
  have hB' : (s : Int) % 256 = (b : Int) := by have := hb.out; omega
  have HH : Hid (Ng.hello s rp = [if rp = true then 2 else 1, a, b]) := Lib.hid (by unfold Ng.hello; rw [ha.out, hb.out])
  have ho1 : Hid ((w.alloc (.cells #[.int .u8 1, .int .u8 (a : Int), .int .u8 (b : Int)] 5)).ownsRow w.heap.size 5 1 (.slice (some ⟨w.heap.size, 0, none⟩) 3 3) 3 (ints .u8 [1, a, b])) := Lib.hid (World.ownsRow_lit w #[.int .u8 1, .int .u8 (a : Int), .int .u8 (b : Int)] 3 (Nat.le_refl _) (by decide) rfl)
  have HB1 : Hid (Below w.heap.size w (w.alloc (.cells #[.int .u8 1, .int .u8 (a : Int), .int .u8 (b : Int)] 5))) := Lib.hid ((Below.refl _ _).alloc (Nat.le_refl _) _)
  rw [HH.out]
  cases rp
  · go_enter Try.func19, Try.ntmps19
    go_wp2_with fail
    go_ret
    exact ⟨_, rfl, ho1.out, HB1.out⟩
  · have HO2 : Hid ((w.alloc (.cells #[.int .u8 2, .int .u8 (a : Int), .int .u8 (b : Int)] 5)).ownsRow w.heap.size 5 1 (.slice (some ⟨w.heap.size, 0, none⟩) 3 3) 3 (ints .u8 [2, a, b])) := Lib.hid (World.ownsRow_lit w #[.int .u8 2, .int .u8 (a : Int), .int .u8 (b : Int)] 3 (Nat.le_refl _) (by decide) rfl)
    have HB2 : Hid (Below w.heap.size w (w.alloc (.cells #[.int .u8 2, .int .u8 (a : Int), .int .u8 (b : Int)] 5))) := Lib.hid ((Below.refl _ _).alloc (Nat.le_refl _) _)
    clear ho1 HB1
    go_enter Try.func19, Try.ntmps19
    go_wp2_with fail
    go_ret
    exact ⟨_, rfl, HO2.out, HB2.out⟩
set_option maxHeartbeats 1000000 in
theorem rnread25_any {w : World} {B : Nat} {v : Value} {l : List Nat} (h : Piece w B v l) (hb : ∀ x ∈ l, x < 256) :
    Calls Try.prog 17 #[v] w fun e w' => e = .returned (.tuple #[.int .u16 (((Ng.read l).1 : Nat) : Int), .bool (Ng.read l).2.1, .int .i64 (((Ng.read l).2.2 : Nat) : Int)]) ∧ Below w.heap.size w w' := by
  obtain ⟨A, c, rfl, hs, hn, hle, hm⟩ := h
  unfold maxLen at hm
  by_cases h3 : l.length = 3
  · match l, h3 with
    | [x, y, z], _ =>
    have hx : x < 256 := hb x (by simp)
    have hy : y < 256 := hb y (by simp)
    have hz : z < 256 := hb z (by simp)
    obtain ⟨b, off, rfl, hbB, hc0⟩ := hs.at_ (i := 0) (by simp)
    obtain ⟨b', off', e, _, hc1⟩ := hs.at_ (i := 1) (by simp)
    cases e
    obtain ⟨b', off', e, _, hc2⟩ := hs.at_ (i := 2) (by simp)
    cases e
    simp only [List.getD_cons_zero, List.getD_cons_succ, Nat.add_zero] at hc0 hc1 hc2
    have HR : Hid (Ng.read [x, y, z] = if 1 ≤ x ∧ x ≤ 2 then (y * 256 + z, decide (x = 2), 0) else (0, false, 3)) := Lib.hid (by unfold Ng.read; simp)
    simp only [List.length_cons, List.length_nil] at hle ⊢
    clear hs hn hb
    by_cases p1 : x < 1
    · have hd : decide ((x : Int) < 1) = true := decide_eq_true (by omega)
      rw [HR.out, if_neg (by omega)]
      clear p1
      go_enter Try.func17, Try.ntmps17
      go_wp2_with fail
      go_ret3
      exact ⟨rfl, Below.refl _ _⟩
    · have hd : decide ((x : Int) < 1) = false := decide_eq_false (by omega)
      by_cases p2 : 2 < x
      · have hd2 : decide (2 < (x : Int)) = true := decide_eq_true (by omega)
        rw [HR.out, if_neg (by omega)]
        clear p1 p2
        go_enter Try.func17, Try.ntmps17
        go_wp2_with fail
        go_ret3
        exact ⟨rfl, Below.refl _ _⟩
      · have hd2 : decide (2 < (x : Int)) = false := decide_eq_false (by omega)
        rw [HR.out, if_pos (by omega)]
        obtain ⟨q, hq⟩ : ∃ q, Hid (decide (x = 2) = q) := ⟨_, Lib.hid rfl⟩
        have hq2 : ((x : Int) == 2) = q := by
          rw [← hq.out]
          by_cases e : x = 2
          · subst e; rfl
          · rw [decide_eq_false e, beq_eq_false_iff_ne]; omega
        rw [hq.out]
        obtain ⟨t, ht⟩ : ∃ t, Hid (y * 256 + z = t) := ⟨_, Lib.hid rfl⟩
        have ht2 : t < 65536 := by have := ht.out; omega
        have hw1 : IntKind.u16.wrap ((y : Int) * 256) = (y : Int) * 256 := by
          show ((y : Int) * 256) % 65536 = _
          omega
        have hw0 : IntKind.u16.wrap (y : Int) = (y : Int) := by
          show (y : Int) % 65536 = _
          omega
        have hw3 : IntKind.u16.wrap (z : Int) = (z : Int) := by
          show (z : Int) % 65536 = _
          omega
        have hw2 : IntKind.u16.wrap ((y : Int) * 256 + (z : Int)) = (t : Int) := by
          have := ht.out
          show ((y : Int) * 256 + (z : Int)) % 65536 = _
          omega
        rw [ht.out]
        clear p1 p2
        go_enter Try.func17, Try.ntmps17
        go_wp2_with fail
        go_region
        go_wp2_with fail
        go_ret3
        exact ⟨rfl, by first | exact Below.refl _ _ | exact (Below.refl _ _).drew⟩
  · have hd : ((l.length : Int) != 3) = true := by simp; omega
    have HR : Hid (Ng.read l = (0, false, 3)) := Lib.hid (by unfold Ng.read; rw [if_neg (by omega)])
    rw [HR.out]
    obtain ⟨n, hn'⟩ : ∃ n, Hid (l.length = n) := ⟨_, Lib.hid rfl⟩
    rw [hn'.out] at hd hle ⊢
    clear h3 hs hn HR
    go_enter Try.func17, Try.ntmps17
    go_wp2_with fail
    go_ret3
    exact ⟨rfl, Below.refl _ _⟩
end Go.Proofs.Ytjomchehnlnfcaa
