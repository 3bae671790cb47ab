/- Contract of annuletlaw04.awake. -/
import Derived.Test.YtlelhoghbgbciaaUnquote
namespace Go.Proofs.Ytlelhoghbgbciaa
open Go.RowKit
set_option linter.unusedVariables false

set_option maxRecDepth 100000 in
set_option maxHeartbeats 800000 in
theorem awake4_any (w : World) : Calls Try.prog 7 #[] w fun e w' => e = .returned (.bool true) ∧ Below w.heap.size w w' := by
  go_enter Try.func7, Try.ntmps7
  go_wp2_with fail
  refine (unquote_any (Txt.lit [37, 52, 49]) (by simp) _).mono ?_
  rintro e w1 ⟨rfl, hb⟩
  have HB1 := Lib.hid hb
  clear hb
  rw [show Tm.unquote (List.map UInt8.toNat [37, 52, 49]) = ([], 3) by decide +kernel]
  go_wp2_with fail
  refine (unquote_any (Txt.lit [37]) (by simp) _).mono ?_
  rintro e w2 ⟨rfl, hb⟩
  have HB2 := Lib.hid (HB1.out.trans (hb.mono HB1.out.size))
  clear hb HB1
  rw [show Tm.unquote (List.map UInt8.toNat [37]) = ([], 0) by decide +kernel, show strOf [] = ⟨#[]⟩ by rfl]
  go_wp2_with fail
  refine (quote_any (Txt.lit [97, 32, 98]) (by simp) _).mono ?_
  rintro e w3 ⟨rfl, hb⟩
  have HB3 := Lib.hid (HB2.out.trans (hb.mono HB2.out.size))
  clear hb HB2
  rw [show Tm.quote (List.map UInt8.toNat [97, 32, 98]) = [97, 37, 50, 48, 98] by decide +kernel, show strOf [97, 37, 50, 48, 98] = ⟨#[97, 37, 50, 48, 98]⟩ by rfl]
  go_wp2_with fail
  refine (count_any (Txt.lit [195, 169]) (by simp) _).mono ?_
  rintro e w4 ⟨rfl, hb⟩
  have HB4 := Lib.hid (HB3.out.trans (hb.mono HB3.out.size))
  clear hb HB3
  rw [show (Tm.parts (List.map UInt8.toNat [195, 169])).length = 1 by decide +kernel]
  go_wp2_with fail
  refine (valid_any (Txt.lit [255]) (by simp) _).mono ?_
  rintro e w5 ⟨rfl, hb⟩
  have HB5 := Lib.hid (HB4.out.trans (hb.mono HB4.out.size))
  clear hb HB4
  rw [show Tm.valid (List.map UInt8.toNat [255]) = false by decide +kernel]
  go_wp2_with fail
  refine (valid_any (Txt.lit [195, 169]) (by simp) _).mono ?_
  rintro e w6 ⟨rfl, hb⟩
  have HB6 := Lib.hid (HB5.out.trans (hb.mono HB5.out.size))
  clear hb HB5
  rw [show Tm.valid (List.map UInt8.toNat [195, 169]) = true by decide +kernel]
  go_wp2_with fail
  refine (clip_any (Txt.lit [195, 169, 97]) (by simp) 1 (by omega) (by omega) _).mono ?_
  rintro e w7 ⟨rfl, hb⟩
  have HB7 := Lib.hid (HB6.out.trans (hb.mono HB6.out.size))
  clear hb HB6
  rw [show Tm.clip (List.map UInt8.toNat [195, 169, 97]) 1 = [195, 169] by decide +kernel, show strOf [195, 169] = ⟨#[195, 169]⟩ by rfl]
  go_wp2_with fail
  refine (quote_any (Txt.lit []) (by simp) _).mono ?_
  rintro e w8 ⟨rfl, hb⟩
  have HB8 := Lib.hid (HB7.out.trans (hb.mono HB7.out.size))
  clear hb HB7
  rw [show Tm.quote (List.map UInt8.toNat []) = [37] by decide +kernel, show strOf [37] = ⟨#[37]⟩ by rfl]
  go_wp2_with fail
  go_ret
  exact ⟨rfl, HB8.out⟩
end Go.Proofs.Ytlelhoghbgbciaa
