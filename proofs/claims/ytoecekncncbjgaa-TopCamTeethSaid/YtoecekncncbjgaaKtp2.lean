/- The evaluator: a piece of a call. -/
import Derived.KernelRfl
import Derived.Test.YtoecekncncbjgaaKts
set_option linter.unusedSimpArgs false
set_option linter.unusedVariables false
namespace Go.Proofs.Ytoecekncncbjgaa
open Abs
set_option maxRecDepth 100000
theorem ktp2 : piece Try.prog 100000 74 (headC (tailC (tailC (bodyOf Try.prog 11)))) kts2 [16, 0, 111, 109, 114, 17, 15] = some kts3 := by kernel_rfl
theorem ktq2 : isSeq (tailC (tailC (bodyOf Try.prog 11))) = true := by kernel_rfl
end Go.Proofs.Ytoecekncncbjgaa
