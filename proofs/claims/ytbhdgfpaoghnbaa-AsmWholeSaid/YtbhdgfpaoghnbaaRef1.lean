/- Contracts of the reference's functions of layer 1. -/
import Derived.Test.YtbhdgfpaoghnbaaPC
namespace Go.Proofs.Ytbhdgfpaoghnbaa
open Go.RowKit
set_option linter.unusedVariables false

theorem zigr_neg (n : Int) (h : n < 0) : 2 * -(n + 1) + 1 = zigI n := by unfold zigI; rw [if_neg (by omega)]; omega
end Go.Proofs.Ytbhdgfpaoghnbaa
