/- Facts on the types of bytes. -/
import Derived.Test.YtlelhoghbgbciaaBase
namespace Go.Proofs.Ytlelhoghbgbciaa
theorem byteT : ElemT Try.prog 39 5 (.int .u8 0) 1 := ⟨Try.underlying39, by kernel_rfl, rfl, by decide⟩
theorem byteSize : (Try.prog.info? 5).map (·.size) = some 1 := by kernel_rfl
end Go.Proofs.Ytlelhoghbgbciaa
