/- Contract of layer 19's law's awake. -/
import Derived.Test.YtgfjniogflmlmaaFc19
import Derived.Lib.SlBytesConst
import Derived.Test.YtgfjniogflmlmaaRsa15
namespace Go.Proofs.Ytgfjniogflmlmaa
open Go.RowKit
set_option linter.unusedVariables false
set_option maxRecDepth 100000
set_option linter.unusedSimpArgs false

def gd13 : Gd := ⟨1, 0, 0, 0, 0, 0, [97, 98, 99, 100, 101, 102, 103, 104, 105, 106, 107, 108, 109]⟩
theorem ok_gd13 : gd13.Ok := ⟨by decide, by decide, by decide, by decide, by decide, by decide, by decide⟩
theorem split_gd13 : Sp.split 32 gd13 = (Sp.ahead gd13 12 2 2, 0) := by
  rw [Sp.split_good (by decide +kernel) (by decide)]
  rfl
theorem ahead_gd13 : Sp.ahead gd13 12 2 2 = [Gr.bytes (Sp.part gd13 12 2 0), Gr.bytes (Sp.part gd13 12 2 1)] := rfl
set_option maxHeartbeats 2000000 in
theorem awake19 (w : World) : Calls Try.prog 10 #[] w fun e w' => e = .returned (.bool true) ∧ Below w.heap.size w w' := by
  have HB0 : Hid (∀ W o, Below W.heap.size W (W.alloc o)) := Lib.hid (fun W o => (Below.refl _ _).alloc (Nat.le_refl _) o)
  have E1 : Sp.count 32 25 = (3, 0) := by decide +kernel
  have E2 : Sp.count 32 786421 = (0, 5) := by decide +kernel
  have E3 : Sp.count 32 786420 = (65535, 0) := by decide +kernel
  have E4 : Sp.room 31 = 0 := by decide +kernel
  have D1 := Lib.hid (fun W => ccount19_any (w := W) (m := 32) (n := 25) (by omega) (by omega) (by omega) (by omega))
  have D2 := Lib.hid (fun W => ccount19_any (w := W) (m := 32) (n := 786421) (by omega) (by omega) (by omega) (by omega))
  have D3 := Lib.hid (fun W => ccount19_any (w := W) (m := 32) (n := 786420) (by omega) (by omega) (by omega) (by omega))
  have D4 := Lib.hid (fun W => croom19_any (w := W) (m := 31) (by omega) (by omega))
  have D5 := Lib.hid (fun W (B : Nat) v (hv : Gv W B gd13 v) => csplit19_any hv (by decide) (m := 32) (by omega) (by omega))
  rw [E1] at D1
  rw [E2] at D2
  rw [E3] at D3
  rw [E4] at D4
  rw [split_gd13] at D5
  have HL1 : Hid ((Gr.bytes (Sp.part gd13 12 2 0)).length = 32) := Lib.hid (by rw [Gr.bytes_length, Sp.part_len]; rfl)
  have HL2 : Hid ((Gr.bytes (Sp.part gd13 12 2 1)).length = 21) := Lib.hid (by rw [Gr.bytes_length, Sp.part_len]; rfl)
  have HA := Lib.hid ahead_gd13
  obtain ⟨X, hX⟩ : ∃ X, Hid (Gr.bytes (Sp.part gd13 12 2 0) = X) := ⟨_, Lib.hid rfl⟩
  obtain ⟨Y, hY⟩ : ∃ Y, Hid (Gr.bytes (Sp.part gd13 12 2 1) = Y) := ⟨_, Lib.hid rfl⟩
  rw [hX.out] at HL1 HA
  rw [hY.out] at HL2 HA
  rw [HA.out] at D5
  unfold SplitPost at D5
  clear E1 E2 E3 E4
  have kc := fun (w : World) (C : Array Value) (n c : Nat) => Lib.run_convert_bytes_const (P := Try.prog) w 30 5 C n c Try.underlying30 Try.underlying5
  go_enter Try.func10, Try.ntmps10
  go_wp2_with fail
  refine (D1.out _).mono ?_
  rintro e w1 ⟨rfl, hb⟩
  have H1 := Lib.hid hb
  clear hb
  go_wp2_with fail
  refine (D2.out _).mono ?_
  rintro e w2 ⟨rfl, hb⟩
  have H2 := Lib.hid (H1.out.trans (hb.mono H1.out.size))
  clear hb
  go_wp2_with fail
  refine (D3.out _).mono ?_
  rintro e w3 ⟨rfl, hb⟩
  have H3 := Lib.hid (H2.out.trans (hb.mono H2.out.size))
  clear hb
  go_wp2_with fail
  have ha := HB0.out w3 (.cells #[.int .u8 97, .int .u8 98, .int .u8 99, .int .u8 100, .int .u8 101, .int .u8 102, .int .u8 103, .int .u8 104, .int .u8 105, .int .u8 106, .int .u8 107, .int .u8 108, .int .u8 109] 5 (13, 14))
  refine (D5.out _ _ _ ⟨⟨_, _, rfl, piece_litf w3 _ _ 13 (13, 14) rfl rfl (by omega)⟩, ok_gd13⟩).mono ?_
  rintro e w4 ⟨v4, rfl, ho4, hb4⟩
  have H4 := Lib.hid (H3.out.trans ((ha.trans (hb4.mono (by simp))).mono H3.out.size))
  have hbl := ho4.bl
  obtain ⟨A4, c4, rfl, _⟩ := hbl.shape
  obtain ⟨b, off, A0, c0, rfl, hb0, hf0⟩ := Bl.fix (ls := [X, Y]) hbl (i := 0) (by simp)
  obtain ⟨b', off', A1, c1, he, hb1, hf1⟩ := Bl.fix (ls := [X, Y]) hbl (i := 1) (by simp)
  cases he
  have d0 := (hf0 w4 (Below.refl _ _)).1
  have d1 := (hf1 w4 (Below.refl _ _)).1
  simp only [List.getElem_cons_zero, List.getElem_cons_succ, HL1.out, HL2.out, Nat.add_zero] at d0 d1
  simp only [List.length_cons, List.length_nil]
  clear ha hb4 ho4 hbl hf0 hf1 hb0 hb1
  go_wp2_with fail
  refine (D4.out _).mono ?_
  rintro e w5 ⟨rfl, hb⟩
  have H5 := Lib.hid (H4.out.trans (hb.mono H4.out.size))
  clear hb
  go_wp2_with fail
  go_ret
  exact ⟨rfl, H5.out⟩
end Go.Proofs.Ytgfjniogflmlmaa
