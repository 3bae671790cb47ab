/- Contract of crc.Flip. -/
import Derived.Test.YtiopnbjmnalaeaaEff
namespace Go.Proofs.Ytiopnbjmnalaeaa
open Go.RowKit
set_option linter.unusedVariables false

theorem byteT : ElemT Try.prog 22 5 (.int .u8 0) 1 := ⟨Try.underlying22, by kernel_rfl, rfl, by decide⟩
theorem byteSize : (Try.prog.info? 5).map (·.size) = some 1 := by kernel_rfl

/-- the call answers a new block that holds just l; what was there has not turned -/
def News (k : IntKind) (t : Nat) (l : List Nat) (w : World) (e : Ending) (w' : World) : Prop :=
  ∃ g, e = .returned (.slice (some ⟨g, 0, none⟩) l.length l.length) ∧ w.heap.size ≤ g ∧ Ints k w' g t l ∧ Below w.heap.size w w'

theorem and7 (n : Int) (h1 : -9223372036854775808 ≤ n) (h2 : n ≤ 9223372036854775807) : bits .and .i64 n 7 = n % 8 := by
  show IntKind.i64.wrap ((BitVec.ofInt 64 n &&& BitVec.ofInt 64 ((7 : Nat) : Int)).toNat : Int) = _
  rw [BitVec.toNat_and, BitVec.ofInt_natCast, BitVec.toNat_ofNat, BitVec.toNat_ofInt, Nat.mod_eq_of_lt (show 7 < 2 ^ 64 by omega)]
  have h := Nat.and_two_pow_sub_one_eq_mod (n % ((2 ^ 64 : Nat) : Int)).toNat 3
  rw [show (7 : Nat) = 2 ^ 3 - 1 by decide, h, IntKind.wrap_i64]
  omega

theorem copy_src {k : IntKind} {w : World} {B : Nat} {A : Option Addr} {l : List Nat} {o : Obj} (h : Sees k w B A l) (hB : B ≤ w.heap.size) :
    0 < (ints k l).length → some (⟨w.heap.size, 0, none⟩ : Addr) = some ⟨w.heap.size, 0, none⟩ ∧ ∃ ad, A = some ad ∧ ∀ j v, (ints k l)[j]? = some v → (w.alloc o).cell? (ad.add j) = some v := by
  intro hl
  rw [ints_length] at hl
  obtain ⟨b, off, rfl, hb, hc⟩ := h hl
  refine ⟨rfl, _, rfl, fun j v hv => ?_⟩
  have hj : j < l.length := by
    rcases Nat.lt_or_ge j l.length with h | h
    · exact h
    · rw [List.getElem?_eq_none (by rw [ints_length]; exact h)] at hv; cases hv
  have ha : (⟨b, off, none⟩ : Addr).add j = ⟨b, off + j, none⟩ := by unfold Addr.add; split <;> simp_all
  rw [ha, World.cell?_alloc_lt w o _ (show b < w.heap.size by omega), hc j hj, ← ints_get k l j hj, hv]

theorem copied {w1 : World} {g t n : Nat} {l : List Nat} {zs xs : List Value} (hn : l.length = n) (hz : ints .u8 (List.replicate n 0) = zs) (hx : ints .u8 l = xs) (h : w1.heap[g]? = some (.cells (splice zs 0 xs).toArray t (0, 0))) : Ints .u8 w1 g t l := by
  subst hz hx
  have e : splice (ints .u8 (List.replicate n 0)) 0 (ints .u8 l) = ints .u8 l := by
    unfold splice
    rw [List.take_zero, List.nil_append, List.drop_of_length_le (by rw [ints_length, ints_length, hn]; simp), List.append_nil]
  rw [e] at h
  exact h

set_option maxRecDepth 100000 in
set_option maxHeartbeats 400000 in
theorem flip_any (B : Nat) (A : Option Addr) (l : List Nat) (n c : Nat) (p : Int) (m : Nat) (w : World) (hn : l.length = n) (hc : n ≤ 1000000000) (hA : Sees .u8 w B A l) (hb : ∀ x ∈ l, x < 256) (hB : B ≤ w.heap.size)
    (h1 : -9223372036854775808 ≤ p) (h2 : p ≤ 9223372036854775807) (hm : m < 4294967296) :
    Calls Try.prog 16 #[.slice A n c, .int .i64 p, .int .u32 (m : Int)] w (News .u8 5 (Cm.flip l p m) w) := by
  have hmk := run_make_ints byteT n (by omega)
  have hand := and7 p h1 h2
  have Hn := Lib.hid hn
  clear hn
  have HA := Lib.hid hA
  clear hA
  have Hb := Lib.hid hb
  clear hb
  have HG := Lib.hid (Whole.made w 5 (ints .u8 (List.replicate n 0)).toArray)
  have Hlen : Hid ((ints .u8 l).length = Nat.min n n) := by show _ = _; rw [ints_length, Hn.out]; exact (Nat.min_self n).symm
  have Hfit : Hid (0 + (ints .u8 l).length ≤ (ints .u8 (List.replicate n 0)).length) := by show _ ≤ _; rw [ints_length, ints_length, Hn.out]; simp
  have Hsrc := Lib.hid (copy_src (o := .cells (ints .u8 (List.replicate n 0)).toArray 5) HA.out hB)
  have Hbel := Lib.hid ((Below.refl w.heap.size w).alloc (Nat.le_refl _) (.cells (ints .u8 (List.replicate n 0)).toArray 5))
  obtain ⟨zs, Hzs⟩ : ∃ zs, Hid (ints .u8 (List.replicate n 0) = zs) := ⟨_, rfl⟩
  obtain ⟨xs, Hxs⟩ : ∃ xs, Hid (ints .u8 l = xs) := ⟨_, rfl⟩
  have H1 := Lib.hid (ints_one .u8 l)
  rw [Hxs.out] at Hlen Hfit Hsrc H1
  rw [Hzs.out] at Hfit Hsrc HG Hbel hmk
  have hwd : m * 2 ^ (p % 8).toNat < 549755813888 := by
    have h3 : 2 ^ (p % 8).toNat ≤ 2 ^ 7 := Nat.pow_le_pow_right (by omega) (by omega)
    have h4 := Nat.mul_le_mul (show m ≤ 4294967295 by omega) h3
    omega
  have hwrap : IntKind.u64.wrap ((m : Int) * 2 ^ (p % 8).toNat) = ((m * 2 ^ (p % 8).toNat : Nat) : Int) := by
    rw [IntKind.wrap_u64, Int.natCast_mul, Int.natCast_pow]
    exact Int.emod_eq_of_lt (by have := Int.natCast_nonneg (m * 2 ^ (p % 8).toNat); rw [Int.natCast_mul, Int.natCast_pow] at this; exact this) (by have := Int.ofNat_lt.2 hwd; rw [Int.natCast_mul, Int.natCast_pow] at this; exact Int.lt_trans this (by decide))
  obtain ⟨wd, Hwd⟩ : ∃ wd, Hid (m * 2 ^ (p % 8).toNat = wd) := ⟨_, rfl⟩
  rw [Hwd.out] at hwd hwrap
  go_enter Try.func16, Try.ntmps16
  go_wp2_with ((refine wpList_copy_splice (o := ⟨some 18, _, _, _, _, _⟩) rfl (.tmp 16) (.tmp 17) _ _ rfl 5 byteT.under byteSize _ _ _ _ _ _ rfl rfl w.heap.size 0 zs 5 HG.out xs Hlen.out Hsrc.out Hfit.out H1.out w.heap.size w Hbel.out (Nat.le_refl _) ?_); intro w1 hg1 hb1)
  have HI : Hid (Ints .u8 w1 w.heap.size 5 l) := copied Hn.out Hzs.out Hxs.out hg1.out
  have Hb1 := Lib.hid hb1
  clear hg1 hb1
  go_loopw [27] (fun i wr => ∃ (j : Nat), j ≤ 5 ∧ i = .int .i64 j ∧ Hid (Ints .u8 wr w.heap.size 5 (Cm.part l p m (p / 8 + (j : Int)))) ∧ Hid (Below w.heap.size w wr)) (fun i _ => 5 - (intOf i).toNat)
  case atStart => exact ⟨0, by omega, rfl, by rw [show p / 8 + ((0 : Nat) : Int) = p / 8 by omega, Cm.part_start l p m hm]; exact HI, Hb1⟩
  case round =>
    obtain ⟨j, hj, rfl, HI, Hb1⟩ := hrel
    by_cases hlt : j < 5
    · by_cases hin : 0 ≤ p / 8 + (j : Int) ∧ p / 8 + (j : Int) < (n : Int)
      · obtain ⟨hin1, hin2⟩ := hin
        obtain ⟨q, hq⟩ := Int.eq_ofNat_of_zero_le hin1
        have hqn : q < n := by omega
        have hq0 : 0 ≤ (q : Int) := by omega
        have Hw := Lib.hid (Cm.over_wide p m q j hq.symm)
        rw [Hwd.out] at Hw
        rw [hq] at HI
        have hcell := HI.out.at_ q (by rw [Cm.part_length, Hn.out]; exact hqn)
        have hfree := HI.out.free q
        rw [Cm.part_get l p m q (by rw [Hn.out]; exact hqn)] at hcell
        have hx : l.getD q 0 < 256 := getD_lt Hb.out q
        have HN := Lib.hid (Cm.part_next l p m q (by rw [Hn.out]; exact hqn))
        obtain ⟨x, Hx⟩ : ∃ x, Hid (l.getD q 0 = x) := ⟨_, rfl⟩
        rw [Hx.out] at hcell hx HN
        have Hxor : Hid (bits BinOp.xor IntKind.u8 (x : Int) ((wd : Int) / 2 ^ (8 * j) % 256) = ((x ^^^ Cm.over p m q : Nat) : Int)) := by
          have h3 : ((wd : Int) / 2 ^ (8 * j) % 256) = ((Cm.over p m q : Nat) : Int) := by
            rw [← Hw.out, Int.natCast_emod, Int.natCast_ediv, Int.natCast_pow]; rfl
          show _ = _
          rw [h3]
          exact u8_xor_nat _ _ hx (Cm.over_lt _ _ _)
        have Hq := Lib.hid hq
        clear hin1 hin2
        go_wp2_with fail
        go_region
        go_wp2_with fail
        go_roundw
        case rel =>
          refine ⟨j + 1, by omega, by go_num, ?_, ?_⟩
          · rw [Hxor.out, show p / 8 + ((j + 1 : Nat) : Int) = (q : Int) + 1 by have := Hq.out; omega, HN.out]
            exact Lib.hid (HI.out.put q (x ^^^ Cm.over p m q)).drew
          · exact Lib.hid (Hb1.out.setCell (p := ⟨w.heap.size, q, none⟩) (Nat.le_refl _) _).drew
        case measure => simp [intOf]; omega
      · have HN := Lib.hid (Cm.part_skip l p m (p / 8 + (j : Int)) (by rw [Hn.out]; omega))
        by_cases h0 : 0 ≤ p / 8 + (j : Int)
        · have h0' : ¬ p / 8 + (j : Int) < (n : Int) := by omega
          clear hin
          go_wp2_with fail
          go_roundw
          case rel =>
            refine ⟨j + 1, by omega, by go_num, ?_, Hb1⟩
            rw [show p / 8 + ((j + 1 : Nat) : Int) = p / 8 + (j : Int) + 1 by omega, HN.out]
            exact HI
          case measure => simp [intOf]; omega
        · clear hin
          go_wp2_with fail
          go_roundw
          case rel =>
            refine ⟨j + 1, by omega, by go_num, ?_, Hb1⟩
            rw [show p / 8 + ((j + 1 : Nat) : Int) = p / 8 + (j : Int) + 1 by omega, HN.out]
            exact HI
          case measure => simp [intOf]; omega
    · go_wp2_with fail
      go_ret
      have hj5 : j = 5 := by omega
      have hI := HI.out
      rw [hj5, show p / 8 + ((5 : Nat) : Int) = p / 8 + 5 by omega, Cm.part_end l p m hm] at hI
      refine ⟨w.heap.size, ?_, Nat.le_refl _, hI, Hb1.out⟩
      rw [Cm.flip_length, Hn.out]
      rfl
end Go.Proofs.Ytiopnbjmnalaeaa
