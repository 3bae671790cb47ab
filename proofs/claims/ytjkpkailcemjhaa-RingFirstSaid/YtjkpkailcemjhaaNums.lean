/- Facts on the types of numbers of 64 bits. -/
import Derived.Test.YtjkpkailcemjhaaBase
namespace Go.Proofs.Ytjkpkailcemjhaa
theorem u64T : ElemT Try.prog 28 22 (.int .u64 0) 8 := ⟨Try.underlying28, by kernel_rfl, rfl, by decide⟩
theorem u64Size : (Try.prog.info? 22).map (·.size) = some 1 := by kernel_rfl
end Go.Proofs.Ytjkpkailcemjhaa
