/- Contract of layer 22's law's awake. -/
import Derived.Test.YtbhdgfpaoghnbaaDe22
import Derived.Lib.SlBytesConst
namespace Go.Proofs.Ytbhdgfpaoghnbaa
open Go.RowKit
set_option linter.unusedVariables false
set_option maxRecDepth 100000
set_option linter.unusedSimpArgs false

def aM : Tm.Lim := ⟨1, 100, 2⟩
def aG1 : Gd := ⟨0, 0, 0, 1, 0, 2, [97]⟩
def aG2 : Gd := ⟨0, 0, 0, 2, 0, 2, [99]⟩
def aG3 : Gd := ⟨0, 0, 0, 1, 1, 2, [98]⟩
theorem aM_ok : aM.Ok := ⟨by decide, by decide, by decide, by decide, by decide, by decide⟩
theorem aG1_ok : aG1.Ok := ⟨by decide, by decide, by decide, by decide, by decide, by decide, by decide⟩
theorem aG2_ok : aG2.Ok := ⟨by decide, by decide, by decide, by decide, by decide, by decide, by decide⟩
theorem aG3_ok : aG3.Ok := ⟨by decide, by decide, by decide, by decide, by decide, by decide, by decide⟩
def aR1 : Tm.R := Tm.put aM [] 1 aG1
def aR2 : Tm.R := Tm.put aM aR1.l 1 aG2
def aR3 : Tm.R := Tm.put aM aR2.l 1 aG3
def aR4 : Tm.R := Tm.put aM aR3.l 1 aG1
theorem a1_ok : Tm.Ok aM aR1.l := Tm.put_ok (Tm.ok_nil _) aM_ok aG1_ok (by decide)
theorem a2_ok : Tm.Ok aM aR2.l := Tm.put_ok a1_ok aM_ok aG2_ok (by decide)
theorem a3_ok : Tm.Ok aM aR3.l := Tm.put_ok a2_ok aM_ok aG3_ok (by decide)
theorem a4_ok : Tm.Ok aM aR4.l := Tm.put_ok a3_ok aM_ok aG1_ok (by decide)
end Go.Proofs.Ytbhdgfpaoghnbaa
