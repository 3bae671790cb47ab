/- Contract of layer 22's law's awake. -/
import Derived.Test.YtkpmlhhoijijhaaDe22
import Derived.Lib.SlBytesConst
namespace Go.Proofs.Ytkpmlhhoijijhaa
open Go.RowKit
set_option linter.unusedVariables false
set_option maxRecDepth 100000
set_option linter.unusedSimpArgs false

def aM : Tm.Lim := ⟨1, 100, 2⟩
def aG1 : Gd := ⟨0, 0, 0, 1, 0, 2, [97]⟩
def aG2 : Gd := ⟨0, 0, 0, 2, 0, 2, [99]⟩
def aG3 : Gd := ⟨0, 0, 0, 1, 1, 2, [98]⟩
theorem aM_ok : aM.Ok := ⟨by decide, by decide, by decide, by decide, by decide, by decide⟩
theorem aG1_ok : aG1.Ok := ⟨by decide, by decide, by decide, by decide, by decide, by decide, by decide⟩
theorem aG2_ok : aG2.Ok := ⟨by decide, by decide, by decide, by decide, by decide, by decide, by decide⟩
theorem aG3_ok : aG3.Ok := ⟨by decide, by decide, by decide, by decide, by decide, by decide, by decide⟩
def aR1 : Tm.R := Tm.put aM [] 1 aG1
def aR2 : Tm.R := Tm.put aM aR1.l 1 aG2
def aR3 : Tm.R := Tm.put aM aR2.l 1 aG3
def aR4 : Tm.R := Tm.put aM aR3.l 1 aG1
theorem a1_ok : Tm.Ok aM aR1.l := Tm.put_ok (Tm.ok_nil _) aM_ok aG1_ok (by decide)
theorem a2_ok : Tm.Ok aM aR2.l := Tm.put_ok a1_ok aM_ok aG2_ok (by decide)
theorem a3_ok : Tm.Ok aM aR3.l := Tm.put_ok a2_ok aM_ok aG3_ok (by decide)
theorem a4_ok : Tm.Ok aM aR4.l := Tm.put_ok a3_ok aM_ok aG1_ok (by decide)
set_option maxHeartbeats 1000000 in
theorem awake22 (w : World) : Calls Try.prog 6 #[] w fun e w' => e = .returned (.bool true) ∧ Below w.heap.size w w' := by
  have N1 := Lib.hid (fun W => tnew22_any aM aM_ok W)
  have N0 := Lib.hid (fun W => tnew22_bad 0 0 0 (by omega) (by omega) (by omega) (.inl (by omega)) W)
  have A1 := Lib.hid (fun (W : World) p (H : Lone22 w p aM [] W) fr => tput_new H aM_ok (Tm.ok_nil _) 1 (by decide) aG1 aG1_ok 1 rfl (by decide) #[.int .u8 97] rfl fr)
  have A2 := Lib.hid (fun (W : World) p (H : Lone22 w p aM aR1.l W) fr => tput_new H aM_ok a1_ok 1 (by decide) aG2 aG2_ok 1 rfl (by decide) #[.int .u8 99] rfl fr)
  have A3 := Lib.hid (fun (W : World) p (H : Lone22 w p aM aR2.l W) fr => tput_new H aM_ok a2_ok 1 (by decide) aG3 aG3_ok 1 rfl (by decide) #[.int .u8 98] rfl fr)
  have A4 := Lib.hid (fun (W : World) p (H : Lone22 w p aM aR3.l W) fr => tput_new H aM_ok a3_ok 1 (by decide) aG1 aG1_ok 1 rfl (by decide) #[.int .u8 97] rfl fr)
  have O4 := Lib.hid (fun (W : World) p (H : Lone22 w p aM aR4.l W) => topen_lone H aM_ok a4_ok)
  have D4 := Lib.hid (fun (W : World) p (H : Lone22 w p aM aR4.l W) => theld_lone H aM_ok a4_ok)
  have O0 := Lib.hid (fun W => topen22_nil W)
  rw [show (Tm.put aM [] 1 aG1) = aR1 from rfl, show aR1.ok = false by decide +kernel, show aR1.err = 0 by decide +kernel] at A1
  rw [show (Tm.put aM aR1.l 1 aG2) = aR2 from rfl, show aR2.ok = false by decide +kernel, show aR2.err = 0 by decide +kernel] at A2
  rw [show (Tm.put aM aR2.l 1 aG3) = aR3 from rfl, show aR3.ok = false by decide +kernel, show aR3.err = 0 by decide +kernel] at A3
  rw [show (Tm.put aM aR3.l 1 aG1) = aR4 from rfl, show aR4.ok = true by decide +kernel, show aR4.err = 0 by decide +kernel, show aR4.told = [97, 98] by decide +kernel] at A4
  rw [show aR4.l.length = 0 by decide +kernel] at O4
  rw [show Tm.held aR4.l = 0 by decide +kernel] at D4
  have kc := fun (w : World) (C : Array Value) (n c : Nat) => Lib.run_convert_bytes_const (P := Try.prog) w 36 5 C n c Try.underlying36 Try.underlying5
  go_enter Try.func6, Try.ntmps6
  go_wp2_with fail
  refine (N1.out _).mono ?_
  rintro e w1 ⟨g, rfl, H1, hb1⟩
  have H0 := Lib.hid (Lone22.new H1 (fun b hb => hb.1) hb1)
  clear hb1 H1
  go_wp2_with fail
  refine (A1.out _ _ H0.out (1, 2)).mono ?_
  rintro e w2 ⟨v2, rfl, p2, h2⟩
  have H2 := Lib.hid h2
  clear h2 p2
  go_wp2_with fail
  refine (A2.out _ _ H2.out (1, 2)).mono ?_
  rintro e w3 ⟨v3, rfl, p3, h3⟩
  have H3 := Lib.hid h3
  clear h3 p3
  go_wp2_with fail
  refine (A3.out _ _ H3.out (1, 2)).mono ?_
  rintro e w4 ⟨v4, rfl, p4, h4⟩
  have H4 := Lib.hid h4
  clear h4 p4
  go_wp2_with fail
  refine (A4.out _ _ H4.out (1, 2)).mono ?_
  rintro e w5 ⟨v5, rfl, p5, h5⟩
  have H5 := Lib.hid h5
  have P5 := Lib.hid p5
  clear h5 p5
  go_wp2_with fail
  refine (N0.out _).mono ?_
  rintro e w6 ⟨rfl, h6⟩
  have H6 := Lib.hid (H5.out.stay h6)
  have P6 := Lib.hid (P5.out.kept h6)
  have p6 := P6.out
  obtain ⟨D6, c6, rfl, _⟩ := p6
  have hcv : (convert 36 9 (.slice D6 2 c6)).run Try.prog w6 = .ok (.string (strOf [97, 98])) w6 := P6.out.conv
  have he : ((strOf [97, 98]).toList == [97, 98]) = true := by decide +kernel
  clear h6
  go_wp2_with fail
  refine (O4.out _ _ H6.out).mono ?_
  rintro e w7 ⟨rfl, h7⟩
  have H7 := Lib.hid (H6.out.stay h7)
  clear h7
  go_wp2_with fail
  refine (D4.out _ _ H7.out).mono ?_
  rintro e w8 ⟨rfl, h8⟩
  have H8 := Lib.hid (H7.out.stay h8)
  clear h8
  go_wp2_with fail
  refine (O0.out _).mono ?_
  rintro e w9 ⟨rfl, h9⟩
  have H9 := Lib.hid (H8.out.stay h9)
  clear h9
  go_wp2_with fail
  go_ret
  exact ⟨rfl, H9.out.below⟩
end Go.Proofs.Ytkpmlhhoijijhaa
