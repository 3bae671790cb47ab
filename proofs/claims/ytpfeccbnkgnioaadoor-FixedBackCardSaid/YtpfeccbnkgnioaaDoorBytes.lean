/- Facts on the types of bytes. -/
import Derived.Test.YtpfeccbnkgnioaaDoorBase
namespace Go.Proofs.YtpfeccbnkgnioaaDoor
theorem byteT : ElemT Tryd.prog 33 5 (.int .u8 0) 1 := ⟨Tryd.underlying33, by kernel_rfl, rfl, by decide⟩
theorem byteSize : (Tryd.prog.info? 5).map (·.size) = some 1 := by kernel_rfl
end Go.Proofs.YtpfeccbnkgnioaaDoor
