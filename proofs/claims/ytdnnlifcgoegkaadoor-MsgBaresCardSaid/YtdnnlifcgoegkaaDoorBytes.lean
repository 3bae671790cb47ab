/- Facts on the types of bytes. -/
import Derived.Test.YtdnnlifcgoegkaaDoorBase
namespace Go.Proofs.YtdnnlifcgoegkaaDoor
theorem byteSize : (Tryd.prog.info? 5).map (·.size) = some 1 := by kernel_rfl
end Go.Proofs.YtdnnlifcgoegkaaDoor
