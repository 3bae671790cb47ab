/- Contract of layer 21's law's awake. -/
import Derived.Test.YtlbejddmnflmbaaPw21
import Derived.Lib.SlBytesConst
namespace Go.Proofs.Ytlbejddmnflmbaa
open Go.RowKit
set_option linter.unusedVariables false
set_option maxRecDepth 100000
set_option linter.unusedSimpArgs false

set_option maxHeartbeats 1000000 in
theorem awake21 (w : World) : Calls Try.prog 6 #[] w fun e w' => e = .returned (.bool true) ∧ Below w.heap.size w w' := by
  have HB0 : Hid (∀ W o, Below W.heap.size W (W.alloc o)) := Lib.hid (fun W o => (Below.refl _ _).alloc (Nat.le_refl _) o)
  have N0 := Lib.hid (fun W => pnew21_bad 0 (by omega) (by omega) (.inl (by omega)) W)
  have N2 := Lib.hid (fun W => pnew21_any 2 (by omega) (by omega) W)
  have A0 := Lib.hid (fun W => padd21_nil W)
  have M0 := Lib.hid (fun W => pmissing21_nil W)
  have A1 := Lib.hid (fun (W : World) p (H : Lone21 w p ⟨2, []⟩ W) v B (P : Piece W B v [98]) => padd_lone H (by decide) 1 (by omega) (by omega) P (by decide) (by decide))
  have A2 := Lib.hid (fun (W : World) p (H : Lone21 w p ⟨2, [(1, [98])]⟩ W) v B (P : Piece W B v [99]) => padd_lone H (by decide) 1 (by omega) (by omega) P (by decide) (by decide))
  have A3 := Lib.hid (fun (W : World) p (H : Lone21 w p ⟨2, [(1, [98])]⟩ W) v B (P : Piece W B v [97]) => padd_lone H (by decide) 0 (by omega) (by omega) P (by decide) (by decide))
  have W1 := Lib.hid (fun (W : World) p (H : Lone21 w p ⟨2, [(1, [98])]⟩ W) => pwhole_lone H (by decide))
  have W2 := Lib.hid (fun (W : World) p (H : Lone21 w p ⟨2, [(1, [98]), (0, [97])]⟩ W) => pwhole_lone H (by decide))
  rw [show (⟨2, []⟩ : Pm.S).err 1 = 0 by decide, show (⟨2, []⟩ : Pm.S).put 1 [98] = ⟨2, [(1, [98])]⟩ from rfl] at A1
  rw [show (⟨2, [(1, [98])]⟩ : Pm.S).err 1 = 12 by decide, show (⟨2, [(1, [98])]⟩ : Pm.S).put 1 [99] = ⟨2, [(1, [98])]⟩ from rfl] at A2
  rw [show (⟨2, [(1, [98])]⟩ : Pm.S).err 0 = 0 by decide, show (⟨2, [(1, [98])]⟩ : Pm.S).put 0 [97] = ⟨2, [(1, [98]), (0, [97])]⟩ from rfl] at A3
  rw [show (⟨2, [(1, [98])]⟩ : Pm.S).full = false by decide, show (⟨2, [(1, [98])]⟩ : Pm.S).told = [] from rfl] at W1
  rw [show (⟨2, [(1, [98]), (0, [97])]⟩ : Pm.S).full = true by decide, show (⟨2, [(1, [98]), (0, [97])]⟩ : Pm.S).told = [97, 98] from rfl] at W2
  have kc := fun (w : World) (C : Array Value) (n c : Nat) => Lib.run_convert_bytes_const (P := Try.prog) w 33 5 C n c Try.underlying33 Try.underlying5
  go_enter Try.func6, Try.ntmps6
  go_wp2_with fail
  refine (N2.out _).mono ?_
  rintro e w1 ⟨g, rfl, H1, hb1⟩
  have H0 := Lib.hid (Lone21.new H1 (fun b hb => hb.1) hb1)
  clear hb1 H1
  go_wp2_with fail
  refine (A1.out _ _ (H0.out.stay (HB0.out _ _)) _ _ (piece_litf w1 _ _ 1 (1, 2) rfl rfl (by omega))).mono ?_
  rintro e w2 ⟨rfl, h2⟩
  have H2 := Lib.hid h2
  clear h2
  go_wp2_with fail
  refine (A2.out _ _ (H2.out.stay (HB0.out _ _)) _ _ (piece_litf w2 _ _ 1 (1, 2) rfl rfl (by omega))).mono ?_
  rintro e w3 ⟨rfl, h3⟩
  have H3 := Lib.hid h3
  clear h3
  go_wp2_with fail
  refine (W1.out _ _ H3.out).mono ?_
  rintro e w4 ⟨v4, rfl, p4, h4⟩
  have H4 := Lib.hid h4
  obtain ⟨D4, c4, rfl, _⟩ := p4
  clear h4
  go_wp2_with fail
  refine (A3.out _ _ (H4.out.stay (HB0.out _ _)) _ _ (piece_litf w4 _ _ 1 (1, 2) rfl rfl (by omega))).mono ?_
  rintro e w5 ⟨rfl, h5⟩
  have H5 := Lib.hid h5
  clear h5
  go_wp2_with fail
  refine (W2.out _ _ H5.out).mono ?_
  rintro e w6 ⟨v6, rfl, p6, h6⟩
  have H6 := Lib.hid h6
  have P6 := Lib.hid p6
  obtain ⟨D6, c6, rfl, _⟩ := p6
  clear h6
  go_wp2_with fail
  refine (N0.out _).mono ?_
  rintro e w7 ⟨rfl, h7⟩
  have H7 := Lib.hid (H6.out.stay h7)
  have P7 := Lib.hid (P6.out.kept h7)
  have hcv : (convert 33 9 (.slice D6 2 c6)).run Try.prog w7 = .ok (.string (strOf [97, 98])) w7 := P7.out.conv
  have he : ((strOf [97, 98]).toList == [97, 98]) = true := by decide +kernel
  clear h7
  go_wp2_with fail
  refine (A0.out _).mono ?_
  rintro e w8 ⟨rfl, h8⟩
  have H8 := Lib.hid (H7.out.stay h8)
  clear h8
  go_wp2_with fail
  refine (M0.out _).mono ?_
  rintro e w9 ⟨rfl, h9⟩
  have H9 := Lib.hid (H8.out.stay h9)
  clear h9
  go_wp2_with fail
  go_ret
  exact ⟨rfl, H9.out.below⟩
end Go.Proofs.Ytlbejddmnflmbaa
