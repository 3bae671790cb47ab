/- Contracts of layer 18's code, all of them. -/
import Derived.Test.YtkakeojigndnnaaFc18g
import Derived.Test.YtkakeojigndnnaaRgs18
import Derived.Test.YtkakeojigndnnaaRgb18
import Derived.Test.YtkakeojigndnnaaRgg18
import Derived.Test.YtkakeojigndnnaaPK
namespace Go.Proofs.Ytkakeojigndnnaa
end Go.Proofs.Ytkakeojigndnnaa
