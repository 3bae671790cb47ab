/- Contracts of the reference's Join and Flip. -/
import Derived.Test.YtiopnbjmnalaeaaFlip
namespace Go.Proofs.Ytiopnbjmnalaeaa
open Go.RowKit
set_option linter.unusedVariables false

theorem below_sum {B : Nat} {w w1 w2 : World} (h : Below B w w1) (k : Below w1.heap.size w1 w2) (hB : B ≤ w.heap.size) : Below B w w2 := h.trans (k.mono (Nat.le_trans hB h.size))

theorem refJoin_any (a b : Nat) (n : Int) (w : World) (ha : a < 4294967296) (hb : b < 4294967296) (h2 : n ≤ 2000) :
    Calls Try.prog 14 #[.int .u32 (a : Int), .int .u32 (b : Int), .int .i64 n] w fun e w' => e = .returned (.int .u32 (Cm.join a b n.toNat : Int)) ∧ Below w.heap.size w w' := by
  by_cases hpos : 0 < n
  · obtain ⟨n, rfl⟩ := Int.eq_ofNat_of_zero_le (show 0 ≤ n by omega)
    rw [Int.toNat_natCast]
    have hmk := run_make_ints byteT n (by omega)
    have hI : Ints .u8 (w.alloc (.cells (ints .u8 (List.replicate n 0)).toArray 5)) w.heap.size 5 (List.replicate n 0) := Whole.made w _ _
    have Hst := Lib.hid (refStep_any _ a _ _ n n _ ha (by simp) (by omega) hI.sees (fun x hx => by rw [(List.mem_replicate.1 hx).2]; decide))
    have Hz := Lib.hid (Cm.step_zeros a n)
    have Hx := Lib.hid (u32_xor_nat (Cm.shN (8 * n) a) b (Cm.shN_lt _ _ ha) hb)
    have Hbel := Lib.hid ((Below.refl w.heap.size w).alloc (Nat.le_refl _) (.cells (ints .u8 (List.replicate n 0)).toArray 5))
    obtain ⟨zs, Hzs⟩ : ∃ zs, Hid (ints .u8 (List.replicate n 0) = zs) := ⟨_, rfl⟩
    rw [Hzs.out] at hmk Hst Hbel
    rw [Hz.out] at Hst
    clear hI
    go_enter Try.func14, Try.ntmps14
    go_wp2_with fail
    refine Hst.out.mono ?_
    rintro e w' ⟨rfl, rfl⟩
    go_wp2_with fail
    go_ret
    exact ⟨ret_int Hx.out, Hbel.out⟩
  · have Hx := Lib.hid (u32_xor_nat a b ha hb)
    have Hn : Hid (n.toNat = 0) := by show _ = _; omega
    go_enter Try.func14, Try.ntmps14
    go_wp2_with fail
    go_ret
    exact ⟨ret_int (by rw [Hx.out, Hn.out]; rfl), Below.refl _ _⟩

theorem bit_int (x k : Nat) : (((x : Int) / 2 ^ k).tmod 2 == 1) = x.testBit k := by
  have h : ((x : Int) / 2 ^ k) = ((x / 2 ^ k : Nat) : Int) := by rw [Int.natCast_ediv, Int.natCast_pow]; rfl
  rw [h, Nat.testBit_eq_decide_div_mod_eq, Bool.eq_iff_iff]
  generalize x / 2 ^ k = y
  rw [Int.tmod_eq_emod_of_nonneg (by omega)]
  simp
  omega

/-- what the reference's Flip answers -/
def NewsAnd (l : List Nat) (w : World) (e : Ending) (w' : World) : Prop :=
  ∃ g many, e = .returned (.tuple #[.slice (some ⟨g, 0, none⟩) l.length l.length, .int .i64 many]) ∧ w.heap.size ≤ g ∧ Ints .u8 w' g 5 l ∧ Below w.heap.size w w'

set_option maxRecDepth 100000 in
set_option maxHeartbeats 400000 in
theorem refFlip_any (B : Nat) (A : Option Addr) (l : List Nat) (n c : Nat) (p : Int) (m : Nat) (w : World) (hn : l.length = n) (hc : n ≤ 300) (hA : Sees .u8 w B A l) (hb : ∀ x ∈ l, x < 256) (hB : B ≤ w.heap.size)
    (h1 : -9223372036854775808 ≤ p) (h2 : p ≤ 9223372036854775807) (hm : m < 4294967296) :
    Calls Try.prog 15 #[.slice A n c, .int .i64 p, .int .u32 (m : Int)] w (NewsAnd (Cm.flip l p m) w) := by
  have hmk := run_make_ints byteT n (by omega)
  have HG : Hid (Ints .u8 (w.alloc (.cells (ints .u8 (List.replicate n 0)).toArray 5)) w.heap.size 5 (Cm.lows (Cm.flip l p m) 0)) := by
    rw [Cm.lows_start, Cm.flip_length, hn]
    exact Whole.made w _ _
  have Hbel := Lib.hid ((Below.refl w.heap.size w).alloc (Nat.le_refl _) (.cells (ints .u8 (List.replicate n 0)).toArray 5))
  obtain ⟨zs, Hzs⟩ : ∃ zs, Hid (ints .u8 (List.replicate n 0) = zs) := ⟨_, rfl⟩
  rw [Hzs.out] at hmk HG Hbel
  have Hn := Lib.hid hn
  clear hn
  have HA := Lib.hid hA
  clear hA
  have Hb := Lib.hid hb
  clear hb
  have HF := Lib.hid (Cm.flip_byte l p m Hb.out)
  go_enter Try.func15, Try.ntmps15
  go_wp2_with fail
  go_loopw [9, 10] (fun y i wr => ∃ (j many : Nat), j ≤ 8 * n ∧ many ≤ j ∧ i = .int .i64 j ∧ y = .int .i64 many ∧ Hid (Ints .u8 wr w.heap.size 5 (Cm.lows (Cm.flip l p m) j)) ∧ Hid (Below w.heap.size w wr)) (fun _ i _ => 8 * n - (intOf i).toNat)
  case atStart => exact ⟨0, 0, by omega, by omega, rfl, rfl, HG, Hbel⟩
  case round =>
    obtain ⟨j, many, hj, hmany, rfl, rfl, HI, Hb1⟩ := hrel
    by_cases hlt : j < 8 * n
    · obtain ⟨q, Hq⟩ : ∃ q, Hid (j / 8 = q) := ⟨_, rfl⟩
      obtain ⟨k, Hk⟩ : ∃ k, Hid (j % 8 = k) := ⟨_, rfl⟩
      have hqn : q < n := by have := Hq.out; omega
      have hk8 : k < 8 := by have := Hk.out; omega
      have hq : (j : Int) / 8 = (q : Int) := by have := Hq.out; omega
      have hk : (j : Int) % 8 = (k : Int) := by have := Hk.out; omega
      have hq0 : 0 ≤ (q : Int) := by omega
      obtain ⟨b, off, rfl, hbB, hcell⟩ := HA.out.at_ (i := q) (by rw [Hn.out]; exact hqn)
      have hx : l.getD q 0 < 256 := getD_lt Hb.out q
      have hout := HI.out.at_ q (by rw [Cm.lows_length, Cm.flip_length, Hn.out]; exact hqn)
      have hfree := HI.out.free q
      have hcell' : wr.cell? ⟨b, off + q, none⟩ = w.cell? ⟨b, off + q, none⟩ := Hb1.out.cell (show b < w.heap.size by omega)
      rw [hcell] at hcell'
      have HL := Lib.hid (Cm.lows_get (Cm.flip l p m) j (by rw [Cm.flip_length, Hn.out, Hq.out]; exact hqn))
      have Hbit := Lib.hid (Cm.flip_bit l p m j (by rw [Hn.out, Hq.out]; exact hqn))
      rw [Hq.out, Hk.out] at HL Hbit
      rw [HL.out] at hout
      obtain ⟨x, Hx⟩ : ∃ x, Hid (l.getD q 0 = x) := ⟨_, rfl⟩
      obtain ⟨y, Hy⟩ : ∃ y, Hid ((Cm.flip l p m).getD q 0 = y) := ⟨_, rfl⟩
      rw [Hx.out] at hcell' hx Hbit
      rw [Hy.out] at hout Hbit
      have HN1 : Hid (y.testBit k = true → Cm.lows (Cm.flip l p m) (j + 1) = (Cm.lows (Cm.flip l p m) j).set q (y % 2 ^ k + 2 ^ k)) := fun h => by
        have h3 := Cm.lows_next (Cm.flip l p m) j (by rw [Cm.flip_length, Hn.out, Hq.out]; exact hqn) HF.out
        rw [Hq.out, Hk.out, Hy.out, if_pos h] at h3
        exact h3
      have HN0 : Hid (y.testBit k = false → Cm.lows (Cm.flip l p m) (j + 1) = Cm.lows (Cm.flip l p m) j) := fun h => by
        refine Cm.lows_same (Cm.flip l p m) j (by rw [Cm.flip_length, Hn.out, Hq.out]; exact hqn) HF.out ?_
        rw [Hq.out, Hk.out, Hy.out]; exact h
      have hz : y % 2 ^ k < 2 ^ k := Nat.mod_lt _ (Nat.pow_pos (by omega))
      have hz2 : 2 ^ k ≤ 128 := Nat.le_trans (Nat.pow_le_pow_right (by omega) (show k ≤ 7 by omega)) (by omega)
      have hbx : (((x : Int) / 2 ^ k).tmod 2 == 1) = x.testBit k := bit_int x k
      have hbm : (((m : Int) / 2 ^ ((j : Int) - p).toNat).tmod 2 == 1) = m.testBit ((j : Int) - p).toNat := bit_int m _
      have Hhigh : Hid (¬ (j : Int) - 32 < p → p ≤ (j : Int) → m.testBit ((j : Int) - p).toNat = false) := fun h3 h4 => Cm.mask_high m _ hm (by omega)
      obtain ⟨z, Hz⟩ : ∃ z, Hid (y % 2 ^ k = z) := ⟨_, rfl⟩
      obtain ⟨bm, Hbm⟩ : ∃ bm, Hid (m.testBit ((j : Int) - p).toNat = bm) := ⟨_, rfl⟩
      obtain ⟨bx, Hbx⟩ : ∃ bx, Hid (x.testBit k = bx) := ⟨_, rfl⟩
      rw [Hz.out] at hout hz HN1
      rw [Hbm.out] at hbm Hhigh Hbit
      rw [Hbx.out] at hbx Hbit
      clear hcell HL
      have Hst : Hid (((z : Int) + 2 ^ k) % 256 = ((z + 2 ^ k : Nat) : Int)) := by
        have h3 : ((2 ^ k : Nat) : Int) = (2 : Int) ^ k := by rw [Int.natCast_pow]; rfl
        show _ = _
        rw [← h3, ← Int.natCast_add]
        exact Int.emod_eq_of_lt (Int.natCast_nonneg _) (Int.ofNat_lt.2 (show z + 2 ^ k < 256 by omega))
      clear hz hz2
      by_cases hp1 : p ≤ (j : Int)
      · by_cases hp2 : (j : Int) - 32 < p
        · cases bx <;> cases bm
          · go_wp2_with fail
            go_roundw
            case rel => exact ⟨j + 1, many, by omega, by omega, by go_num, by go_num, by rw [HN0.out (by rw [Hbit.out]; simp [hp1])]; exact HI, Hb1⟩
            case measure => simp [intOf]; omega
          · go_wp2_with fail
            go_roundw
            case rel => exact ⟨j + 1, many + 1, by omega, by omega, by go_num, by go_num, by rw [Hst.out, HN1.out (by rw [Hbit.out]; simp [hp1])]; exact Lib.hid (HI.out.put q (z + 2 ^ k)), Lib.hid (Hb1.out.setCell (p := ⟨w.heap.size, q, none⟩) (Nat.le_refl _) _)⟩
            case measure => simp [intOf]; omega
          · go_wp2_with fail
            go_roundw
            case rel => exact ⟨j + 1, many, by omega, by omega, by go_num, by go_num, by rw [Hst.out, HN1.out (by rw [Hbit.out]; simp [hp1])]; exact Lib.hid (HI.out.put q (z + 2 ^ k)), Lib.hid (Hb1.out.setCell (p := ⟨w.heap.size, q, none⟩) (Nat.le_refl _) _)⟩
            case measure => simp [intOf]; omega
          · go_wp2_with fail
            go_roundw
            case rel => exact ⟨j + 1, many + 1, by omega, by omega, by go_num, by go_num, by rw [HN0.out (by rw [Hbit.out]; simp [hp1])]; exact HI, Hb1⟩
            case measure => simp [intOf]; omega
        · obtain rfl : false = bm := (Hhigh.out hp2 hp1).symm
          cases bx
          · go_wp2_with fail
            go_roundw
            case rel => exact ⟨j + 1, many, by omega, by omega, by go_num, by go_num, by rw [HN0.out (by rw [Hbit.out]; simp [hp1])]; exact HI, Hb1⟩
            case measure => simp [intOf]; omega
          · go_wp2_with fail
            go_roundw
            case rel => exact ⟨j + 1, many, by omega, by omega, by go_num, by go_num, by rw [Hst.out, HN1.out (by rw [Hbit.out]; simp [hp1])]; exact Lib.hid (HI.out.put q (z + 2 ^ k)), Lib.hid (Hb1.out.setCell (p := ⟨w.heap.size, q, none⟩) (Nat.le_refl _) _)⟩
            case measure => simp [intOf]; omega
      · cases bx
        · go_wp2_with fail
          go_roundw
          case rel => exact ⟨j + 1, many, by omega, by omega, by go_num, by go_num, by rw [HN0.out (by rw [Hbit.out]; simp [hp1])]; exact HI, Hb1⟩
          case measure => simp [intOf]; omega
        · go_wp2_with fail
          go_roundw
          case rel => exact ⟨j + 1, many, by omega, by omega, by go_num, by go_num, by rw [Hst.out, HN1.out (by rw [Hbit.out]; simp [hp1])]; exact Lib.hid (HI.out.put q (z + 2 ^ k)), Lib.hid (Hb1.out.setCell (p := ⟨w.heap.size, q, none⟩) (Nat.le_refl _) _)⟩
          case measure => simp [intOf]; omega
    · go_wp2_with fail
      go_ret2
      have hj8 : j = 8 * n := by omega
      have hI := HI.out
      rw [hj8, show 8 * n = 8 * (Cm.flip l p m).length by rw [Cm.flip_length, Hn.out], Cm.lows_end _ HF.out] at hI
      refine ⟨w.heap.size, many, ?_, Nat.le_refl _, hI, Hb1.out⟩
      rw [Cm.flip_length, Hn.out]
      rfl
end Go.Proofs.Ytiopnbjmnalaeaa
