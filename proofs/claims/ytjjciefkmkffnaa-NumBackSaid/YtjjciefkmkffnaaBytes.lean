/- Facts on the types of bytes. -/
import Derived.Test.YtjjciefkmkffnaaBase
namespace Go.Proofs.Ytjjciefkmkffnaa
theorem byteT : ElemT Try.prog 23 5 (.int .u8 0) 1 := ⟨Try.underlying23, by kernel_rfl, rfl, by decide⟩
theorem byteSize : (Try.prog.info? 5).map (·.size) = some 1 := by kernel_rfl
end Go.Proofs.Ytjjciefkmkffnaa
