/- The evaluator: a piece of a call. -/
import Derived.KernelRfl
import Derived.Test.YtoecekncncbjgaaKhs
set_option linter.unusedSimpArgs false
set_option linter.unusedVariables false
namespace Go.Proofs.Ytoecekncncbjgaa
open Abs
set_option maxRecDepth 100000
theorem khp7 : piece Try.prog 100000 168 (headC (tailC (tailC (tailC (tailC (tailC (tailC (tailC (bodyOf Try.prog 6))))))))) khs7 [2515, 2505, 2496, 20, 10, 1, 1356, 1346, 1337, 2989, 3266, 3279, 1357, 3795, 3796, 3790, 3727, 3713, 3220, 3234, 938, 928, 919, 3278, 2494, 1335, 767] = some khs8 := by kernel_rfl
theorem khq7 : isSeq (tailC (tailC (tailC (tailC (tailC (tailC (tailC (bodyOf Try.prog 6)))))))) = true := by kernel_rfl
end Go.Proofs.Ytoecekncncbjgaa
