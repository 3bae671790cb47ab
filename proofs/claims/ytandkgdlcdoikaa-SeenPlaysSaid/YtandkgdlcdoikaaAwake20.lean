/- Contract of layer 20's law's awake. -/
import Derived.Test.YtandkgdlcdoikaaFc20
namespace Go.Proofs.Ytandkgdlcdoikaa
open Go.RowKit
set_option linter.unusedVariables false
set_option maxRecDepth 100000
set_option linter.unusedSimpArgs false

set_option maxHeartbeats 2000000 in
theorem awake20 (w : World) : Calls Try.prog 11 #[] w fun e w' => e = .returned (.bool true) ∧ Below w.heap.size w w' := by
  obtain ⟨r, w1, hr, hal, hsz, hy, hb1⟩ := varS w
  have HW := Lib.hid hy
  obtain ⟨w2, hst⟩ : ∃ W, w1.setRow r #[.bool true, .int .u32 1, .int .u32 70, .int .u64 1] = W := ⟨_, rfl⟩
  have hx : Whole w2 r 25 #[.bool true, .int .u32 ((1 : Nat) : Int), .int .u32 ((70 : Nat) : Int), .int .u64 ((1 : Nat) : Int)] := by rw [← hst]; exact hy.row _
  have HX := Lib.hid hx
  have HB2 : Hid (Below w.heap.size w w2) := Lib.hid (by rw [← hst]; exact below_row hb1 (by omega) _)
  have hr2 := hx.lt
  obtain ⟨c0, c1, c2, c3⟩ := cellsS hx
  clear hx hy hb1 hsz
  have FR := Lib.hid (fun W (i : Nat) (hi : i < 4294967296) => cfresh20_any (w := W) (v := true) (e := 1) (t := 70) (b := 1) (E := 1) (i := i) (by decide) (by decide) (by decide) (by decide) hi)
  have FH := Lib.hid (fun W (i : Nat) (hi : i < 4294967296) => chas20_any (w := W) (v := true) (e := 1) (t := 70) (b := 1) (E := 1) (i := i) (by decide) (by decide) (by decide) (by decide) hi)
  have FM := Lib.hid (fun W => cmark20_any (w := W) (v := true) (e := 1) (t := 70) (b := 1) (E := 1) (i := 71) (by decide) (by decide) (by decide) (by decide) (by decide))
  have E6 : Hid (Sn.fresh ⟨true, 1, 70, 1⟩ 1 6 = 11) := Lib.hid (by decide +kernel)
  have E7 : Hid (Sn.fresh ⟨true, 1, 70, 1⟩ 1 7 = 0) := Lib.hid (by decide +kernel)
  have E70 : Hid (Sn.fresh ⟨true, 1, 70, 1⟩ 1 70 = 12) := Lib.hid (by decide +kernel)
  have E69 : Hid (Sn.fresh ⟨true, 1, 70, 1⟩ 1 69 = 0) := Lib.hid (by decide +kernel)
  have EM : Hid (Sn.mark ⟨true, 1, 70, 1⟩ 1 71 = ⟨true, 1, 71, 3⟩) := Lib.hid (by decide +kernel)
  have F6 := Lib.hid (fun W => FR.out W 6 (by decide))
  have F7 := Lib.hid (fun W => FR.out W 7 (by decide))
  have F70 := Lib.hid (fun W => FR.out W 70 (by decide))
  have H70 := Lib.hid (fun W => FH.out W 70 (by decide))
  have H69 := Lib.hid (fun W => FH.out W 69 (by decide))
  rw [E6.out] at F6
  rw [E7.out] at F7
  rw [E70.out] at F70 H70
  rw [E69.out] at H69
  rw [EM.out] at FM
  clear FR FH
  go_enter Try.func11, Try.ntmps11
  go_wp2_with (refine wpList_store_whole rfl rfl rfl rfl rfl HW.out (seenI rfl) rfl (by simp [Value.oneCell']) ?_; rw [hst])
  refine (F6.out _).mono ?_
  rintro e w3 ⟨rfl, hb⟩
  have HB3 := Lib.hid (HB2.out.trans (hb.mono HB2.out.size))
  have HX3 := Lib.hid (HX.out.below hb HX.out.lt)
  clear hb c0 c1 c2 c3
  obtain ⟨c0, c1, c2, c3⟩ := cellsS HX3.out
  go_wp2_with fail
  refine (F7.out _).mono ?_
  rintro e w4 ⟨rfl, hb⟩
  have HB4 := Lib.hid (HB3.out.trans (hb.mono HB3.out.size))
  have HX4 := Lib.hid (HX3.out.below hb HX3.out.lt)
  clear hb c0 c1 c2 c3
  obtain ⟨c0, c1, c2, c3⟩ := cellsS HX4.out
  go_wp2_with fail
  refine (F70.out _).mono ?_
  rintro e w5 ⟨rfl, hb⟩
  have HB5 := Lib.hid (HB4.out.trans (hb.mono HB4.out.size))
  have HX5 := Lib.hid (HX4.out.below hb HX4.out.lt)
  clear hb c0 c1 c2 c3
  obtain ⟨c0, c1, c2, c3⟩ := cellsS HX5.out
  go_wp2_with fail
  refine (FM.out _).mono ?_
  rintro e w6 ⟨rfl, hb⟩
  have HB6 := Lib.hid (HB5.out.trans (hb.mono HB5.out.size))
  have HX6 := Lib.hid (HX5.out.below hb HX5.out.lt)
  clear hb c0 c1 c2 c3
  obtain ⟨c0, c1, c2, c3⟩ := cellsS HX6.out
  go_wp2_with fail
  refine (H70.out _).mono ?_
  rintro e w7 ⟨rfl, hb⟩
  have HB7 := Lib.hid (HB6.out.trans (hb.mono HB6.out.size))
  have HX7 := Lib.hid (HX6.out.below hb HX6.out.lt)
  clear hb c0 c1 c2 c3
  obtain ⟨c0, c1, c2, c3⟩ := cellsS HX7.out
  go_wp2_with fail
  refine (H69.out _).mono ?_
  rintro e w8 ⟨rfl, hb⟩
  have HB8 := Lib.hid (HB7.out.trans (hb.mono HB7.out.size))
  have HX8 := Lib.hid (HX7.out.below hb HX7.out.lt)
  clear hb c0 c1 c2 c3
  obtain ⟨c0, c1, c2, c3⟩ := cellsS HX8.out
  go_wp2_with fail
  go_ret
  exact ⟨rfl, HB8.out⟩
end Go.Proofs.Ytandkgdlcdoikaa
