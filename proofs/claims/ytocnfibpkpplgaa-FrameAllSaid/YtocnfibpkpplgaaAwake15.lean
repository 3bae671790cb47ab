/- Contract of layer 15's law's awake. -/
import Derived.Test.YtocnfibpkpplgaaFc15
import Derived.Lib.SlBytesConst
namespace Go.Proofs.Ytocnfibpkpplgaa
open Go.RowKit
set_option linter.unusedVariables false
set_option maxRecDepth 100000
set_option linter.unusedSimpArgs false

theorem fnext_a : Fr.next [2, 97] 9 = ([], 0, 2) := by decide +kernel
theorem fnext_b : Fr.next [9, 1] 8 = ([], 0, 5) := by decide +kernel
theorem fnext_c : Fr.next [1, 97, 5] 8 = ([97], 2, 0) := by decide +kernel
theorem fall_a : Fr.all 4 [1, 97, 0, 3] 8 0 [] = ([[97], []], 3, 2) := by decide +kernel
theorem fput_a : Fr.put [97] = [1, 97] := by decide +kernel
set_option maxHeartbeats 1000000 in
theorem awake15 (w : World) : Calls Try.prog 6 #[] w fun e w' => e = .returned (.bool true) ∧ Below w.heap.size w w' := by
  have HB0 : Hid (∀ W o, Below W.heap.size W (W.alloc o)) := Lib.hid (fun W o => (Below.refl _ _).alloc (Nat.le_refl _) o)
  have D1 := Lib.hid (fun W (B : Nat) v (hB : B ≤ W.heap.size) (hp : Piece W B v [2, 97]) => cnext15_any hp hB (by decide) (by decide) 9 (by omega) (by omega))
  rw [fnext_a] at D1
  have D2 := Lib.hid (fun W (B : Nat) v (hB : B ≤ W.heap.size) (hp : Piece W B v [9, 1]) => cnext15_any hp hB (by decide) (by decide) 8 (by omega) (by omega))
  rw [fnext_b] at D2
  have D3 := Lib.hid (fun W (B : Nat) v (hB : B ≤ W.heap.size) (hp : Piece W B v [1, 97, 5]) => cnext15_any hp hB (by decide) (by decide) 8 (by omega) (by omega))
  rw [fnext_c] at D3
  have D4 := Lib.hid (fun W (B : Nat) v (hB : B ≤ W.heap.size) (hp : Piece W B v [1, 97, 0, 3]) => call15_any hp hB (by decide) (by decide) 8 (by omega) (by omega))
  rw [show ([1, 97, 0, 3] : List Nat).length = 4 from rfl, fall_a] at D4
  have D5 := Lib.hid (fun W (B : Nat) v (hB : B ≤ W.heap.size) (hp : Piece W B v [97]) => cput15_any W.heap.size (.slice none 0 0) [] (u := v) (World.ownsRow_nil W _ 5 1) (Nat.le_refl _) (by decide) hp hB (by decide))
  rw [fput_a, List.nil_append] at D5
  go_enter Try.func6, Try.ntmps6
  go_wp2_with fail
  have a1 := HB0.out w (.cells #[.int .u8 2, .int .u8 97] 5)
  refine (D1.out _ _ _ (by simp) (piece_lit w _ _ 2 rfl rfl (by omega))).mono ?_
  rintro e w1 ⟨u1, rfl, ho1, hb1⟩
  have H1 : Hid (Below w.heap.size w w1) := Lib.hid (a1.trans (hb1.mono (by simp)))
  obtain ⟨A1, c1, rfl, _⟩ := own_look ho1
  clear a1 hb1 ho1
  go_wp2_with fail
  have a2 := HB0.out w1 (.cells #[.int .u8 9, .int .u8 1] 5)
  refine (D2.out _ _ _ (by simp) (piece_lit w1 _ _ 2 rfl rfl (by omega))).mono ?_
  rintro e w2 ⟨u2, rfl, ho2, hb2⟩
  have H2 : Hid (Below w1.heap.size w1 w2) := Lib.hid (a2.trans (hb2.mono (by simp)))
  obtain ⟨A2, c2, rfl, _⟩ := own_look ho2
  clear a2 hb2 ho2
  go_wp2_with fail
  have a3 := HB0.out w2 (.cells #[.int .u8 1, .int .u8 97, .int .u8 5] 5)
  refine (D3.out _ _ _ (by simp) (piece_lit w2 _ _ 3 rfl rfl (by omega))).mono ?_
  rintro e w3 ⟨u3, rfl, ho3, hb3⟩
  have H3 : Hid (Below w2.heap.size w2 w3) := Lib.hid (a3.trans (hb3.mono (by simp)))
  have HP3 := Lib.hid (own_piece ho3)
  obtain ⟨A3, c3, rfl, _⟩ := own_look ho3
  clear a3 hb3 ho3
  go_wp2_with fail
  have a4 := HB0.out w3 (.cells #[.int .u8 1, .int .u8 97, .int .u8 0, .int .u8 3] 5)
  refine (D4.out _ _ _ (by simp) (piece_lit w3 _ _ 4 rfl rfl (by omega))).mono ?_
  rintro e w4 ⟨u4, rfl, ho4, hb4⟩
  have H4 : Hid (Below w3.heap.size w3 w4) := Lib.hid (a4.trans (hb4.mono (by simp)))
  obtain ⟨A4, c4, rfl, _⟩ := ho4.bl.shape
  clear a4 hb4 ho4
  have kc := fun (w : World) (C : Array Value) (n c : Nat) => Lib.run_convert_bytes_const (P := Try.prog) w 22 5 C n c Try.underlying22 Try.underlying5
  go_wp2_with fail
  have a5 := HB0.out w4 (.cells #[.int .u8 97] 5 (1, 2))
  refine (D5.out _ _ _ (by simp) (piece_litf w4 _ _ 1 (1, 2) rfl rfl (by omega))).mono ?_
  rintro e w5 ⟨v5, rfl, ho5, hb5⟩
  have H5 : Hid (Below w4.heap.size w4 w5) := Lib.hid (a5.trans (hb5.mono (by simp)))
  have H35 : Hid (Below w3.heap.size w3 w5) := Lib.hid (H4.out.trans (H5.out.mono H4.out.size))
  obtain ⟨A5, c5, rfl, _⟩ := own_look ho5
  have hcv1 : (convert 22 9 (.slice A3 1 c3)).run Try.prog w5 = .ok (.string (strOf [97])) w5 := (HP3.out.kept H35.out).conv
  have hcv2 : (convert 22 9 (.slice A5 2 c5)).run Try.prog w5 = .ok (.string (strOf [1, 97])) w5 := (own_piece ho5).conv
  have he1 : ((strOf [97]).toList == [97]) = true := by decide +kernel
  have he2 : ((strOf [1, 97]).toList == [1, 97]) = true := by decide +kernel
  clear a5 hb5 ho5 kc
  go_wp2_with fail
  go_ret
  exact ⟨rfl, (H1.out.trans (H2.out.mono H1.out.size)).trans ((H3.out.trans (H35.out.mono H3.out.size)).mono (by have := H1.out.size; have := H2.out.size; omega))⟩
end Go.Proofs.Ytocnfibpkpplgaa
