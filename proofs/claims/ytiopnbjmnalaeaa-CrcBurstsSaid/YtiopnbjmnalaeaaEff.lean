/- Contracts of crc's effects: apply, twice, oneByte, and of crc.Join. -/
import Derived.Test.YtiopnbjmnalaeaaCrc
import Derived.Test.YtiopnbjmnalaeaaRegion
import Derived.Test.YtiopnbjmnalaeaaArr
namespace Go.Proofs.Ytiopnbjmnalaeaa
open Go.RowKit
set_option linter.unusedVariables false

/-- the effects of q steps, as the cells of an array -/
def effV (q : Nat) : Array Value := (ints .u32 (Cm.eff q)).toArray
theorem effV_size (q : Nat) : (effV q).size = 32 := by simp [effV, ints_length, Cm.eff_length]
theorem effV_get (q i : Nat) (h : i < 32) : (effV q)[i]? = some (.int .u32 (Cm.shN q (2 ^ i) : Int)) := by
  have := ints_get .u32 (Cm.eff q) i (by rw [Cm.eff_length]; exact h)
  rw [Cm.eff_get q i h] at this
  simpa [effV] using this
theorem effV_one (q : Nat) : (effV q).all (·.oneCell') = true := by
  rw [Array.all_eq_true]
  intro i hi
  have := ints_one .u32 (Cm.eff q) ((effV q)[i]) (by simp [effV])
  exact this

set_option maxRecDepth 100000 in
set_option maxHeartbeats 400000 in
theorem apply_any (q x : Nat) (w : World) (hx : x < 4294967296) :
    Calls Try.prog 20 #[.agg (effV q), .int .u32 (x : Int)] w fun e w' => e = .returned (.int .u32 (Cm.shN q x : Int)) ∧ w' = w.alloc (.cells (effV q) 39) := by
  obtain ⟨cs, Hcs⟩ : ∃ cs, Hid (effV q = cs) := ⟨_, rfl⟩
  rw [Hcs.out]
  go_enter Try.func20, Try.ntmps20
  go_wp2_with fail
  go_loop [5, 7] (fun r i => ∃ (j a : Nat), j ≤ 32 ∧ i = .int .i64 j ∧ r = .int .u32 a ∧ a < 4294967296 ∧ Hid (a = Cm.shN q (x % 2 ^ j))) (fun _ i => 32 - (intOf i).toNat)
  case atStart => exact ⟨0, 0, by omega, rfl, rfl, by omega, by show _ = _; rw [Nat.pow_zero, Nat.mod_one, Cm.shN_zero]⟩
  case round =>
    obtain ⟨j, a, hj, rfl, rfl, ha, He⟩ := hrel
    by_cases hlt : j < 32
    · have hcell : cs[j]? = some (.int .u32 (Cm.shN q (2 ^ j) : Int)) := by rw [← Hcs.out]; exact effV_get q j hlt
      have hel := Cm.eff_lt q j hlt
      obtain ⟨y, Hy⟩ : ∃ y, Hid (Cm.shN q (2 ^ j) = y) := ⟨_, rfl⟩
      rw [Hy.out] at hcell hel
      have hcast : ((x : Int) / 2 ^ j) = ((x / 2 ^ j : Nat) : Int) := by rw [Int.natCast_ediv, Int.natCast_pow]; rfl
      have hand := u32_and_one (x / 2 ^ j) (Nat.lt_of_le_of_lt (Nat.div_le_self _ _) hx)
      rw [← hcast] at hand
      have hxl : a ^^^ y < 4294967296 := Nat.xor_lt_two_pow (n := 32) ha hel
      have Hxor := Lib.hid (u32_xor_nat a y ha hel)
      have hnext := Cm.eff_next q x j
      by_cases hbit : x / 2 ^ j % 2 = 1
      · have hc : (bits BinOp.and IntKind.u32 ((x : Int) / 2 ^ j) 1 == 1) = true := by rw [hand, hbit]; rfl
        rw [if_pos hbit, Hy.out] at hnext
        have Hnext := Lib.hid hnext
        clear hnext hbit hand hcast
        go_wp2_with fail
        go_round
        case rel => exact ⟨j + 1, a ^^^ y, by omega, by go_num, by rw [← Hxor.out], hxl, by show _ = _; rw [Hnext.out, He.out]⟩
        case measure => simp [intOf]; omega
      · have hbit0 : x / 2 ^ j % 2 = 0 := by omega
        have hc : (bits BinOp.and IntKind.u32 ((x : Int) / 2 ^ j) 1 == 1) = false := by rw [hand, hbit0]; rfl
        rw [if_neg hbit, Nat.xor_zero] at hnext
        have Hnext := Lib.hid hnext
        clear hnext hbit hbit0 hand hcast
        go_wp2_with fail
        go_round
        case rel => exact ⟨j + 1, a, by omega, by go_num, rfl, ha, by show _ = _; rw [Hnext.out, He.out]⟩
        case measure => simp [intOf]; omega
    · go_wp2_with fail
      go_ret
      have hj' : j = 32 := by omega
      exact ⟨ret_int (by rw [He.out, hj', Nat.mod_eq_of_lt (by omega)]), rfl⟩

theorem arrT : Try.prog.underlying 39 = some (.array 32 23) := by kernel_rfl
theorem arrSize : (Try.prog.info? 39).map (·.size) = some 32 := by kernel_rfl

/-- an array in block g of which the first j cells are those of v -/
def Filled (w : World) (g j : Nat) (v : Array Value) : Prop := ∃ c, Whole w g 39 c ∧ c.size = 32 ∧ ∀ i, i < j → c[i]? = v[i]?
theorem Filled.next {w : World} {g j : Nat} {v : Array Value} {u : Value} (h : Filled w g j v) (hj : j < 32) (hu : v[j]? = some u) : Filled (w.setCell ⟨g, j, none⟩ u) g (j + 1) v := by
  obtain ⟨c, h1, h2, h3⟩ := h
  refine ⟨_, h1.put j u, by simpa using h2, fun i hi => ?_⟩
  rw [Array.getElem?_setIfInBounds]
  by_cases e : j = i
  · subst e
    simp [h2, hj, hu]
  · rw [if_neg e]
    exact h3 i (by omega)
theorem Filled.all {w : World} {g : Nat} {v : Array Value} (h : Filled w g 32 v) (hv : v.size = 32) : Whole w g 39 v := by
  obtain ⟨c, h1, h2, h3⟩ := h
  have : c = v := by
    apply Array.ext_getElem?
    intro i
    rcases Nat.lt_or_ge i 32 with hi | hi
    · exact h3 i hi
    · rw [Array.getElem?_eq_none (by omega), Array.getElem?_eq_none (by omega)]
  exact this ▸ h1
theorem Filled.cell {w : World} {g j : Nat} {v : Array Value} (h : Filled w g j v) (i : Nat) (hi : i < 32) : (∃ u, w.cell? ⟨g, i, none⟩ = some u) ∧ w.frozen? ⟨g, i, none⟩ = false := by
  obtain ⟨c, h1, h2, _⟩ := h
  exact ⟨⟨c[i], by rw [h1.at_]; exact Array.getElem?_eq_getElem (by omega)⟩, h1.free i⟩
theorem Filled.below {w w' : World} {g j B : Nat} {v : Array Value} (h : Filled w g j v) (hb : Below B w w') (hg : g < B) : Filled w' g j v := by
  obtain ⟨c, h1, h2⟩ := h
  exact ⟨c, h1.below hb hg, h2⟩
theorem Filled.other {w : World} {g j : Nat} {v : Array Value} (h : Filled w g j v) {p : Addr} (hp : g ≠ p.block) (u : Value) : Filled (w.setCell p u) g j v := by
  obtain ⟨c, h1, h2⟩ := h
  exact ⟨c, h1.other hp u, h2⟩
theorem Filled.start {w : World} {g : Nat} {v c : Array Value} (h : Whole w g 39 c) (hc : c.size = 32) : Filled w g 0 v := ⟨c, h, hc, fun _ hi => by omega⟩
theorem Filled.lt {w : World} {g j : Nat} {v : Array Value} (h : Filled w g j v) : g < w.heap.size := by
  obtain ⟨c, h1, _⟩ := h
  exact h1.lt

/-- what twice's loop has done after j rounds -/
structure Dbl (B q j : Nat) (cs : Array Value) (w wr : World) : Prop where
  box : Whole wr B 39 cs
  res : Filled wr (B + 1) 0 #[]
  dbl : Filled wr (B + 1 + 1) j (effV (2 * q))
  below : Below B w wr

theorem Dbl.next {B q j : Nat} {cs : Array Value} {w wr wr' : World} (h : Dbl B q j cs w wr) (hj : j < 32) (hb : Below wr.heap.size wr wr') : Dbl B q (j + 1) cs w (wr'.setCell ⟨B + 1 + 1, j, none⟩ (.int .u32 (Cm.shN q (Cm.shN q (2 ^ j)) : Int))) := by
  have hd := h.dbl.lt
  refine ⟨(h.box.below hb (by omega)).other (p := ⟨B + 1 + 1, j, none⟩) (by simp; omega) _, (h.res.below hb (by omega)).other (p := ⟨B + 1 + 1, j, none⟩) (by simp) _,
    (h.dbl.below hb (by omega)).next hj (by rw [effV_get _ _ hj, Cm.eff_twice]), ?_⟩
  exact (h.below.trans (hb.mono (by have := h.below.size; omega))).setCell (p := ⟨B + 1 + 1, j, none⟩) (by simp; omega) _

set_option maxRecDepth 100000 in
set_option maxHeartbeats 400000 in
theorem twice_any (q : Nat) (w : World) :
    Calls Try.prog 21 #[.agg (effV q)] w fun e w' => e = .returned (.agg (effV (2 * q))) ∧ Below w.heap.size w w' := by
  obtain ⟨cs, Hcs⟩ : ∃ cs, Hid (effV q = cs) := ⟨_, rfl⟩
  rw [Hcs.out]
  go_enter Try.func21, Try.ntmps21
  go_wp2_with fail
  go_loopw [5] (fun i wr => ∃ (j : Nat), j ≤ 32 ∧ i = .int .i64 j ∧ Hid (Dbl w.heap.size q j cs w wr)) (fun i _ => 32 - (intOf i).toNat)
  case atStart =>
    refine ⟨0, by omega, rfl, ⟨((Whole.made w _ cs).alloc _).alloc _, Filled.start (Whole.alloc (by simpa using Whole.made (w.alloc _) _ _) _) rfl, Filled.start (by simpa using Whole.made ((w.alloc _).alloc _) _ _) rfl, ?_⟩⟩
    exact (((Below.refl _ _).alloc (Nat.le_refl _) _).alloc (by simp) _).alloc (by simp; omega) _
  case round =>
    obtain ⟨j, hj, rfl, HD⟩ := hrel
    by_cases hlt : j < 32
    · have hcell : cs[j]? = some (.int .u32 (Cm.shN q (2 ^ j) : Int)) := by rw [← Hcs.out]; exact effV_get q j hlt
      have hel := Cm.eff_lt q j hlt
      have hbox := HD.out.box
      have hS0 : Whole wr.drew w.heap.size 39 cs := HD.out.box
      have hsz : (Try.prog.info? 39).map (·.size) = some cs.size := by rw [← Hcs.out, effV_size]; exact arrSize
      obtain ⟨y, Hy⟩ : ∃ y, Hid (Cm.shN q (2 ^ j) = y) := ⟨_, rfl⟩
      rw [Hy.out] at hcell hel
      have hap := fun W => apply_any q y W hel
      rw [Hcs.out] at hap
      have Hap := Lib.hid hap
      clear hap
      have Hcell := Lib.hid hcell
      have Hsz := Lib.hid hsz
      have Hbox := Lib.hid hbox
      clear hcell hsz hbox
      go_wp2_with fail
      refine wp_region_plan (S := fun W => Whole W w.heap.size 39 cs) [(0, true), (1, true), (2, true), (3, true), (4, true), (5, false), (6, true), (7, false)] (by kernel_rfl) (by kernel_rfl) rfl (by kernel_rfl) (fun _ _ _ _ _ h => h) hS0 ?_
      refine along_take (v := ?_) rfl (by rfl) ?_ ?_
      rotate_left
      · intro W hW; go_simp; try with_reducible rfl
      simp only [Act.put, List.setIfInBounds_toArray, List.set_cons_zero, List.set_cons_succ]
      refine along_take (v := .agg cs) rfl (by rfl) (fun W hW => exec_load_whole arrT Hsz.out rfl rfl hW) ?_
      simp only [Act.put, List.setIfInBounds_toArray, List.set_cons_zero, List.set_cons_succ]
      iterate 2
        refine along_take (v := ?_) rfl (by rfl) ?_ ?_
        rotate_left
        · intro W hW; go_simp; try with_reducible rfl
        simp only [Act.put, List.setIfInBounds_toArray, List.set_cons_zero, List.set_cons_succ]
      refine along_take (v := .int .u32 (y : Int)) rfl (by rfl) ?_ ?_
      · intro W hW
        have hc := (hW.at_ j).trans Hcell.out
        go_simp
      simp only [Act.put, List.setIfInBounds_toArray, List.set_cons_zero, List.set_cons_succ]
      refine along_step rfl (fun K hK => ?_)
      go_simp
      refine (Hap.out _).mono ?_
      rintro e w1 ⟨rfl, rfl⟩
      have hb1 : Below wr.heap.size wr (wr.drew.alloc (.cells cs 39)) := (Below.refl _ _).drew.alloc (Nat.le_refl _) _
      obtain ⟨w1, Hw1⟩ : ∃ w1, Hid (wr.drew.alloc (.cells cs 39) = w1) := ⟨_, rfl⟩
      rw [Hw1.out] at hb1 ⊢
      have hS1 : Whole w1 w.heap.size 39 cs := Hbox.out.below hb1 Hbox.out.lt
      refine hK.out _ _ hS1 ?_
      clear hK K
      refine along_take (v := ?_) rfl (by rfl) ?_ ?_
      rotate_left
      · intro W hW; go_simp; try with_reducible rfl
      simp only [Act.put, List.setIfInBounds_toArray, List.set_cons_zero, List.set_cons_succ]
      obtain ⟨⟨u, hcu⟩, hfu⟩ := (HD.out.dbl.below hb1 HD.out.dbl.lt).cell j hlt
      have hD' := HD.out.next hlt hb1
      rw [Hy.out] at hD'
      have HD' := Lib.hid hD'
      clear hD' hb1
      refine along_step rfl (fun K hK => ?_)
      go_simp
      refine hK.out _ _ HD'.out.box ?_
      clear hK K hcu hfu
      refine along_done ?_
      go_wp2_with fail
      go_roundw
      case rel => exact ⟨j + 1, by omega, by go_num, HD'⟩
      case measure => simp [intOf]; omega
    · have hj' : j = 32 := by omega
      have hd := HD.out.dbl
      rw [hj'] at hd
      have Hd := Lib.hid (hd.all (effV_size _))
      obtain ⟨c0, h1, h2, _⟩ := HD.out.res
      have H1 := Lib.hid h1
      have Hs1 : Hid ((Try.prog.info? 39).map (·.size) = some (effV (2 * q)).size) := by rw [effV_size]; exact arrSize
      have H2 : Hid (c0.size = (effV (2 * q)).size) := by rw [effV_size]; exact h2
      have Hf := Lib.hid (below_row HD.out.below (show w.heap.size ≤ w.heap.size + 1 by omega) (effV (2 * q)))
      clear hj' hd h1 h2
      obtain ⟨ds, Hds⟩ : ∃ ds, Hid (effV (2 * q) = ds) := ⟨_, rfl⟩
      have H3 := Lib.hid (effV_one (2 * q))
      rw [Hds.out] at Hd Hs1 H2 Hf H3
      go_wp2_with (first | (refine wpList_load_whole arrT Hs1.out rfl rfl rfl Hd.out ?_) | (refine wpList_store_whole rfl rfl rfl rfl rfl H1.out Hs1.out H2.out H3.out ?_))
      refine bodyPost_ret (v := .agg ds) ?_ rfl ⟨by rw [Hds.out], Hf.out⟩
      exact results_cell_row rfl _ _ _ _ _ (0, 0) _ rfl (H1.out.row ds) arrT rfl Hs1.out

/-- what oneByte's loop has done after j rounds -/
structure One (B j : Nat) (w wr : World) : Prop where
  res : Filled wr B 0 #[]
  one : Filled wr (B + 1) j (effV 8)
  below : Below B w wr
theorem step_one (j : Nat) : Cm.step (2 ^ j) [0] = Cm.shN 8 (2 ^ j) := by rw [Cm.step_cons, Nat.xor_zero]; rfl
theorem One.next {B j : Nat} {w wr wr' : World} (h : One B j w wr) (hj : j < 32) (hb : Below wr.heap.size wr wr') : One B (j + 1) w (wr'.setCell ⟨B + 1, j, none⟩ (.int .u32 (Cm.step (2 ^ j) [0] : Int))) := by
  have hd := h.one.lt
  refine ⟨(h.res.below hb (by omega)).other (p := ⟨B + 1, j, none⟩) (by simp) _, (h.one.below hb (by omega)).next hj (by rw [effV_get _ _ hj, step_one]), ?_⟩
  exact (h.below.trans (hb.mono (by have := h.below.size; omega))).setCell (p := ⟨B + 1, j, none⟩) (by simp) _
theorem pow_lt32 (j : Nat) (h : j < 32) : 2 ^ j < 4294967296 := Nat.lt_of_lt_of_le (Nat.pow_lt_pow_right (by omega) h) (by omega)

set_option maxRecDepth 100000 in
set_option maxHeartbeats 400000 in
theorem oneByte_any (w : World) :
    Calls Try.prog 19 #[] w fun e w' => e = .returned (.agg (effV 8)) ∧ Below w.heap.size w w' := by
  go_enter Try.func19, Try.ntmps19
  go_wp2_with fail
  go_loopw [3] (fun i wr => ∃ (j : Nat), j ≤ 32 ∧ i = .int .i64 j ∧ Hid (One w.heap.size j w wr)) (fun i _ => 32 - (intOf i).toNat)
  case atStart =>
    refine ⟨0, by omega, rfl, ⟨Filled.start (Whole.alloc (Whole.made w _ _) _) rfl, Filled.start (by simpa using Whole.made (w.alloc _) _ _) rfl, ?_⟩⟩
    exact ((Below.refl _ _).alloc (Nat.le_refl _) _).alloc (by simp) _
  case round =>
    obtain ⟨j, hj, rfl, HD⟩ := hrel
    by_cases hlt : j < 32
    · have hp : Hid (((2 : Int) ^ j % 4294967296) = ((2 ^ j : Nat) : Int)) := by
        have h1 := pow_lt32 j hlt
        have h2 : ((2 ^ j : Nat) : Int) = (2 : Int) ^ j := by rw [Int.natCast_pow]; rfl
        show _ = _
        rw [← h2]
        exact Int.emod_eq_of_lt (Int.natCast_nonneg _) (Int.ofNat_lt.2 h1)
      have Hst := Lib.hid (step_any (wr.heap.size + 1) (2 ^ j) (some ⟨wr.heap.size, 0, none⟩) [0] 1 1 (wr.alloc (.cells #[.int .u8 0] 5)) (pow_lt32 j hlt) rfl (by omega) (sees_new _ [0] _ _ rfl rfl) (by decide))
      have hb1 : Below wr.heap.size wr (wr.alloc (.cells #[.int .u8 0] 5)) := (Below.refl _ _).alloc (Nat.le_refl _) _
      obtain ⟨⟨u, hcu⟩, hfu⟩ := (HD.out.one.below hb1 HD.out.one.lt).cell j hlt
      have HD' := Lib.hid (HD.out.next hlt hb1)
      have Hcu := Lib.hid hcu
      have Hfu := Lib.hid hfu
      clear hb1 hcu hfu
      go_wp2_with fail
      rw [hp.out]
      refine Hst.out.mono ?_
      rintro e w1 ⟨rfl, rfl⟩
      have hcu := Hcu.out
      have hfu := Hfu.out
      obtain ⟨w1, Hw1⟩ : ∃ w1, Hid (wr.alloc (.cells #[.int .u8 0] 5) = w1) := ⟨_, rfl⟩
      rw [Hw1.out] at hcu hfu HD' ⊢
      clear Hcu Hfu Hst
      go_wp2_with fail
      go_roundw
      case rel => exact ⟨j + 1, by omega, by go_num, HD'⟩
      case measure => simp [intOf]; omega
    · have hj' : j = 32 := by omega
      have hd := HD.out.one
      rw [hj'] at hd
      have Hd := Lib.hid (hd.all (effV_size _))
      obtain ⟨c0, h1, h2, _⟩ := HD.out.res
      have H1 := Lib.hid h1
      have Hs1 : Hid ((Try.prog.info? 39).map (·.size) = some (effV 8).size) := by rw [effV_size]; exact arrSize
      have H2 : Hid (c0.size = (effV 8).size) := by rw [effV_size]; exact h2
      have Hf := Lib.hid (below_row HD.out.below (Nat.le_refl w.heap.size) (effV 8))
      clear hj' hd h1 h2
      obtain ⟨ds, Hds⟩ : ∃ ds, Hid (effV 8 = ds) := ⟨_, rfl⟩
      have H3 := Lib.hid (effV_one 8)
      rw [Hds.out] at Hd Hs1 H2 Hf H3
      go_wp2_with (first | (refine wpList_load_whole arrT Hs1.out rfl rfl rfl Hd.out ?_) | (refine wpList_store_whole rfl rfl rfl rfl rfl H1.out Hs1.out H2.out H3.out ?_))
      refine bodyPost_ret (v := .agg ds) ?_ rfl ⟨by rw [Hds.out], Hf.out⟩
      exact results_cell_row rfl _ _ _ _ _ (0, 0) _ rfl (H1.out.row ds) arrT rfl Hs1.out

/-! ### Join -/
/-- what Join's loop comes to from here on: m left of n, e the effects of q steps -/
structure Joins (B : Nat) (a0 n0 : Nat) (w : World) (q a m : Nat) (wr : World) : Prop where
  eff : Whole wr B 39 (effV q)
  same : Cm.shN (q * m) a = Cm.shN (8 * n0) a0
  below : Below w.heap.size w wr
  base : w.heap.size ≤ B

theorem Joins.turn {B a0 n0 q a m a' m' : Nat} {w wr w3 : World} (h : Joins B a0 n0 w q a m wr) (hb : Below wr.heap.size wr w3) (hs : Cm.shN (2 * q * m') a' = Cm.shN (q * m) a) :
    Joins B a0 n0 w (2 * q) a' m' (w3.setRow B (effV (2 * q))) :=
  ⟨(h.eff.below hb h.eff.lt).row _, hs.trans h.same, below_row (h.below.trans (hb.mono h.below.size)) h.base _, h.base⟩
theorem i64_and_one (x : Nat) (h : x < 9223372036854775808) : bits .and .i64 (x : Int) 1 = ((x % 2 : Nat) : Int) := by
  have h1 : x % 2 < 2 := Nat.mod_lt _ (by decide)
  show IntKind.i64.wrap ((BitVec.ofInt 64 (x : Int) &&& BitVec.ofInt 64 ((1 : Nat) : Int)).toNat : Int) = _
  rw [BitVec.toNat_and, BitVec.ofInt_natCast, BitVec.ofInt_natCast, BitVec.toNat_ofNat, BitVec.toNat_ofNat, Nat.mod_eq_of_lt (by omega), Nat.mod_eq_of_lt (by omega), Nat.and_one_is_mod, IntKind.wrap_i64]
  omega

set_option maxRecDepth 100000 in
set_option maxHeartbeats 400000 in
theorem join_any (a b : Nat) (n : Int) (w : World) (ha : a < 4294967296) (hb : b < 4294967296) (h1 : -9223372036854775808 ≤ n) (h2 : n ≤ 9223372036854775807) :
    Calls Try.prog 13 #[.int .u32 (a : Int), .int .u32 (b : Int), .int .i64 n] w fun e w' => e = .returned (.int .u32 (Cm.join a b n.toNat : Int)) ∧ Below w.heap.size w w' := by
  have He1 : Hid ((Try.prog.info? 39).map (·.size) = some (effV 8).size) := by rw [effV_size]; exact arrSize
  have He2 := Lib.hid (effV_size 8)
  have He3 := Lib.hid (effV_one 8)
  go_enter Try.func13, Try.ntmps13
  go_wp2_with fail
  refine (oneByte_any _).mono ?_
  rintro e w1 ⟨rfl, hb1⟩
  have Hb1 := Lib.hid hb1
  clear hb1
  obtain ⟨cs, Hcs⟩ : ∃ cs, Hid (effV 8 = cs) := ⟨_, rfl⟩
  rw [Hcs.out] at He1 He2 He3 ⊢
  go_wp2_with ((refine wpList_store_whole rfl rfl rfl rfl rfl (Whole.made w1 _ _) He1.out He2.out.symm He3.out ?_))
  go_loopw [0, 2] (fun r i wr => ∃ (q a' : Nat) (m : Int), r = .int .u32 (a' : Int) ∧ a' < 4294967296 ∧ i = .int .i64 m ∧ -9223372036854775808 ≤ m ∧ m ≤ 9223372036854775807 ∧ Hid (Joins w1.heap.size a n.toNat w q a' m.toNat wr)) (fun _ i _ => (intOf i).toNat)
  case atStart =>
    refine ⟨8, a, n, rfl, ha, rfl, h1, h2, ⟨?_, rfl, below_row (Hb1.out.alloc Hb1.out.size _) Hb1.out.size _, Hb1.out.size⟩⟩
    rw [Hcs.out]
    exact (Whole.made w1 _ _).row _
  case round =>
    obtain ⟨q, a', m, rfl, ha', rfl, hm1, hm2, HJ⟩ := hrel
    by_cases hpos : 0 < m
    · obtain ⟨m, rfl⟩ := Int.eq_ofNat_of_zero_le (show 0 ≤ m by omega)
      rw [Int.toNat_natCast] at HJ
      have hand := i64_and_one m (by omega)
      have Hs : Hid ((Try.prog.info? 39).map (·.size) = some (effV q).size) := by rw [effV_size]; exact arrSize
      have Hd1 : Hid ((Try.prog.info? 39).map (·.size) = some (effV (2 * q)).size) := by rw [effV_size]; exact arrSize
      have Hd2 : Hid ((effV q).size = (effV (2 * q)).size) := by show _ = _; rw [effV_size, effV_size]
      have Hd3 := Lib.hid (effV_one (2 * q))
      have HE := Lib.hid HJ.out.eff
      have Hap := Lib.hid (fun W => apply_any q a' W ha')
      have Htw := Lib.hid (fun W => twice_any q W)
      have Ht := Lib.hid (fun (m' a'' : Nat) (w3 : World) => HJ.out.turn (m' := m') (a' := a'') (w3 := w3))
      obtain ⟨es, Hes⟩ : ∃ es, Hid (effV q = es) := ⟨_, rfl⟩
      obtain ⟨ds, Hds⟩ : ∃ ds, Hid (effV (2 * q) = ds) := ⟨_, rfl⟩
      rw [Hes.out] at Hs Hd2 HE Hap Htw
      rw [Hds.out] at Hd1 Hd2 Hd3 Htw Ht
      rcases Nat.mod_two_eq_zero_or_one m with h0 | h0
      · have hc : (bits BinOp.and IntKind.i64 (m : Int) 1 == 1) = false := by rw [hand, h0]; rfl
        have Hr := Lib.hid (Cm.round_even q m a' h0)
        clear hand h0
        go_wp2_with ((refine wpList_load_whole arrT Hs.out rfl rfl rfl HE.out ?_))
        refine (Htw.out _).mono ?_
        rintro e w3 ⟨rfl, hb3⟩
        have Hb3 := Lib.hid hb3
        have HE3 := Lib.hid (HE.out.below hb3 HE.out.lt)
        clear hb3
        go_wp2_with ((refine wpList_store_whole rfl rfl rfl rfl rfl HE3.out Hd1.out Hd2.out Hd3.out ?_))
        go_roundw
        case rel => exact ⟨2 * q, a', ((m / 2 : Nat) : Int), rfl, ha', by go_num, by omega, by omega, by rw [Int.toNat_natCast]; exact Lib.hid (Ht.out _ _ _ Hb3.out Hr.out)⟩
        case measure => simp [intOf]; omega
      · have hc : (bits BinOp.and IntKind.i64 (m : Int) 1 == 1) = true := by rw [hand, h0]; rfl
        have Hr := Lib.hid (Cm.round_odd q m a' h0)
        clear hand h0
        go_wp2_with ((refine wpList_load_whole arrT Hs.out rfl rfl rfl HE.out ?_))
        refine (Hap.out _).mono ?_
        rintro e w2 ⟨rfl, rfl⟩
        have hb2 : Below wr.heap.size wr (wr.alloc (.cells es 39)) := (Below.refl _ _).alloc (Nat.le_refl _) _
        obtain ⟨w2, Hw2⟩ : ∃ w2, Hid (wr.alloc (.cells es 39) = w2) := ⟨_, rfl⟩
        rw [Hw2.out] at hb2 ⊢
        have Hb2 := Lib.hid hb2
        have HE2 := Lib.hid (HE.out.below hb2 HE.out.lt)
        clear hb2
        go_wp2_with ((refine wpList_load_whole arrT Hs.out rfl rfl rfl HE2.out ?_))
        refine (Htw.out _).mono ?_
        rintro e w3 ⟨rfl, hb3⟩
        have Hb3 := Lib.hid (Hb2.out.trans (hb3.mono Hb2.out.size))
        have HE3 := Lib.hid (HE2.out.below hb3 HE2.out.lt)
        clear hb3
        go_wp2_with ((refine wpList_store_whole rfl rfl rfl rfl rfl HE3.out Hd1.out Hd2.out Hd3.out ?_))
        go_roundw
        case rel => exact ⟨2 * q, Cm.shN q a', ((m / 2 : Nat) : Int), rfl, Cm.shN_lt _ _ ha', by go_num, by omega, by omega, by rw [Int.toNat_natCast]; exact Lib.hid (Ht.out _ _ _ Hb3.out Hr.out)⟩
        case measure => simp [intOf]; omega
    · have hm0 : m.toNat = 0 := by omega
      have hsame := HJ.out.same
      rw [hm0, Nat.mul_zero] at hsame
      have Hsame : Hid (a' = Cm.shN (8 * n.toNat) a) := hsame
      have Hf := Lib.hid HJ.out.below
      have Hx := Lib.hid (u32_xor_nat a' b ha' hb)
      clear hm0 hsame
      go_wp2_with fail
      go_ret
      exact ⟨ret_int (by rw [Hx.out, Hsame.out]; rfl), Hf.out⟩
end Go.Proofs.Ytiopnbjmnalaeaa
