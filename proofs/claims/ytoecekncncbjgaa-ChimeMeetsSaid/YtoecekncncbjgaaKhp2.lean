/- The evaluator: a piece of a call. -/
import Derived.KernelRfl
import Derived.Test.YtoecekncncbjgaaKhs
set_option linter.unusedSimpArgs false
set_option linter.unusedVariables false
namespace Go.Proofs.Ytoecekncncbjgaa
open Abs
set_option maxRecDepth 100000
theorem khp2 : piece Try.prog 100000 168 (headC (tailC (tailC (bodyOf Try.prog 6)))) khs2 [20, 10, 1, 938, 928, 919, 1335, 767] = some khs3 := by kernel_rfl
theorem khq2 : isSeq (tailC (tailC (bodyOf Try.prog 6))) = true := by kernel_rfl
end Go.Proofs.Ytoecekncncbjgaa
