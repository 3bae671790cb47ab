/- Facts on the types of bytes. -/
import Derived.Test.YtigkgbknlclpgaaBase
namespace Go.Proofs.Ytigkgbknlclpgaa
theorem byteT : ElemT Try.prog 22 5 (.int .u8 0) 1 := ⟨Try.underlying22, by kernel_rfl, rfl, by decide⟩
theorem byteSize : (Try.prog.info? 5).map (·.size) = some 1 := by kernel_rfl
end Go.Proofs.Ytigkgbknlclpgaa
