/- The evaluator: a piece of a call. -/
import Derived.KernelRfl
import Derived.Test.YtoecekncncbjgaaKhs
set_option linter.unusedSimpArgs false
set_option linter.unusedVariables false
namespace Go.Proofs.Ytoecekncncbjgaa
open Abs
set_option maxRecDepth 100000
theorem khp1 : piece Try.prog 100000 168 (headC (tailC (bodyOf Try.prog 6))) khs1 [20, 10, 1, 767] = some khs2 := by kernel_rfl
theorem khq1 : isSeq (tailC (bodyOf Try.prog 6)) = true := by kernel_rfl
end Go.Proofs.Ytoecekncncbjgaa
