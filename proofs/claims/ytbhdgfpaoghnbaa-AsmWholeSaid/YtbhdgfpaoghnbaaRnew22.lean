/- Contract of layer 22's reference: New. -/
import Derived.Test.YtbhdgfpaoghnbaaRt22b
namespace Go.Proofs.Ytbhdgfpaoghnbaa
open Go.RowKit
set_option linter.unusedVariables false
set_option maxRecDepth 100000
set_option linter.unusedSimpArgs false

end Go.Proofs.Ytbhdgfpaoghnbaa
