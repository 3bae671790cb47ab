/- Contract of annuletlaw07.awake. -/
import Derived.Test.YtjjciefkmkffnaaNumget
import Derived.Test.YtjjciefkmkffnaaNumby
namespace Go.Proofs.Ytjjciefkmkffnaa
open Go.RowKit
set_option linter.unusedVariables false

theorem put_least : Nm.put (-9223372036854775808) = [45, 57, 50, 50, 51, 51, 55, 50, 48, 51, 54, 56, 53, 52, 55, 55, 53, 56, 48, 56] := by
  rw [Nm.put_neg (by omega)]
  show 45 :: Nm.dec 9223372036854775808 = _
  simp [Nm.dec_high, Nm.dec_low]
theorem put_zero : Nm.put 0 = [48] := by
  rw [Nm.put_pos (by omega)]
  exact Nm.dec_low (by omega)
theorem get_ex1 : Nm.get [45, 48] = (0, 3) := by
  rw [Nm.get_code (by simp), show Nm.gv [45, 48] = 0 by decide +kernel, put_zero, if_neg (by decide)]
theorem get_ex2 : Nm.get [45, 57, 50, 50, 51, 51, 55, 50, 48, 51, 54, 56, 53, 52, 55, 55, 53, 56, 48, 56] = (-9223372036854775808, 0) :=
  Nm.get_of ⟨by omega, by omega⟩ put_least
theorem get_ex3 : Nm.get [57, 50, 50, 51, 51, 55, 50, 48, 51, 54, 56, 53, 52, 55, 55, 53, 56, 48, 56] = (0, 3) := by
  rw [Nm.get_code (by simp), show Nm.gv [57, 50, 50, 51, 51, 55, 50, 48, 51, 54, 56, 53, 52, 55, 55, 53, 56, 48, 56] = -9223372036854775808 by decide +kernel, put_least, if_neg (by decide)]

set_option maxRecDepth 100000 in
set_option maxHeartbeats 800000 in
theorem awake7_any (w : World) : Calls Try.prog 6 #[] w fun e w' => e = .returned (.bool true) ∧ Below w.heap.size w w' := by
  go_enter Try.func6, Try.ntmps6
  go_wp2_with fail
  refine (nget_any (Txt.lit [45, 48]) (by simp) _).mono ?_
  rintro e w1 ⟨rfl, hb⟩
  have HB := Lib.hid hb
  clear hb
  rw [show List.map UInt8.toNat [45, 48] = [45, 48] from rfl, get_ex1]
  go_wp2_with fail
  refine (nget_any (Txt.lit [45, 57, 50, 50, 51, 51, 55, 50, 48, 51, 54, 56, 53, 52, 55, 55, 53, 56, 48, 56]) (by simp) _).mono ?_
  rintro e w2 ⟨rfl, hb⟩
  have HB := Lib.hid (HB.out.trans (hb.mono HB.out.size))
  clear hb
  rw [show List.map UInt8.toNat [45, 57, 50, 50, 51, 51, 55, 50, 48, 51, 54, 56, 53, 52, 55, 55, 53, 56, 48, 56] = [45, 57, 50, 50, 51, 51, 55, 50, 48, 51, 54, 56, 53, 52, 55, 55, 53, 56, 48, 56] from rfl, get_ex2]
  go_wp2_with fail
  refine (nget_any (Txt.lit [57, 50, 50, 51, 51, 55, 50, 48, 51, 54, 56, 53, 52, 55, 55, 53, 56, 48, 56]) (by simp) _).mono ?_
  rintro e w3 ⟨rfl, hb⟩
  have HB := Lib.hid (HB.out.trans (hb.mono HB.out.size))
  clear hb
  rw [show List.map UInt8.toNat [57, 50, 50, 51, 51, 55, 50, 48, 51, 54, 56, 53, 52, 55, 55, 53, 56, 48, 56] = [57, 50, 50, 51, 51, 55, 50, 48, 51, 54, 56, 53, 52, 55, 55, 53, 56, 48, 56] from rfl, get_ex3]
  go_wp2_with fail
  refine (nget_any (Txt.lit []) (by simp) _).mono ?_
  rintro e w4 ⟨rfl, hb⟩
  have HB := Lib.hid (HB.out.trans (hb.mono HB.out.size))
  clear hb
  rw [show List.map UInt8.toNat [] = [] from rfl, Nm.get_nil]
  have CB : Hid (Calls Try.prog 11 #[.slice (some ⟨w4.heap.size, 0, none⟩) 2 2] (w4.alloc (.cells #[.int .u8 1, .int .u8 171] 5)) fun e w' => e = .returned (.string ⟨#[48, 49, 97, 98]⟩) ∧ Below (w4.alloc (.cells #[.int .u8 1, .int .u8 171] 5)).heap.size (w4.alloc (.cells #[.int .u8 1, .int .u8 171] 5)) w') :=
    Lib.hid (nbytes_any (w4.heap.size + 1) _ [1, 171] 2 2 _ rfl (by omega) (fun h => by cases h) (by simp) (sees_new w4.heap.size _ _ _ rfl rfl) (by simp))
  have CP : Hid (∀ W, Calls Try.prog 7 #[.int .i64 (-9223372036854775808)] W fun e w' => e = .returned (.string ⟨#[45, 57, 50, 50, 51, 51, 55, 50, 48, 51, 54, 56, 53, 52, 55, 55, 53, 56, 48, 56]⟩) ∧ Below W.heap.size W w') := Lib.hid (fun W => by
    have := nput_any (-9223372036854775808) (by omega) (by omega) W
    rw [put_least] at this
    exact this)
  have CH : Hid (∀ W, Calls Try.prog 9 #[.int .u64 255] W fun e w' => e = .returned (.string ⟨#[48, 48, 48, 48, 48, 48, 48, 48, 48, 48, 48, 48, 48, 48, 102, 102]⟩) ∧ Below W.heap.size W w') := Lib.hid (fun W => nhex_any 255 (by omega) W)
  have hal : Hid (Below w.heap.size w (w4.alloc (.cells #[.int .u8 1, .int .u8 171] 5))) := Lib.hid (HB.out.alloc HB.out.size _)
  go_wp2_with fail
  refine CB.out.mono ?_
  rintro e w5 ⟨rfl, hb⟩
  have HB := Lib.hid (hal.out.trans (hb.mono hal.out.size))
  clear hb
  go_wp2_with fail
  refine (CP.out _).mono ?_
  rintro e w6 ⟨rfl, hb⟩
  have HB := Lib.hid (HB.out.trans (hb.mono HB.out.size))
  clear hb
  go_wp2_with fail
  refine (CH.out _).mono ?_
  rintro e w7 ⟨rfl, hb⟩
  have HB := Lib.hid (HB.out.trans (hb.mono HB.out.size))
  clear hb
  go_wp2_with fail
  go_ret
  exact ⟨rfl, HB.out⟩
end Go.Proofs.Ytjjciefkmkffnaa
