/- Contracts of tree.Depth, isRising, hasOwnFieldsAlone, rightAlone, rightOn and Right. -/
import Derived.Test.YtphanlkobkkgfaaIdx11
import Derived.Test.YtphanlkobkkgfaaRright11
namespace Go.Proofs.Ytphanlkobkkgfaa
open Go.RowKit
set_option linter.unusedVariables false
set_option maxRecDepth 100000
set_option linter.unusedSimpArgs false

end Go.Proofs.Ytphanlkobkkgfaa
