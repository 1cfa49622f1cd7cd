/- The evaluator: a piece of a call. -/
import Derived.KernelRfl
import Derived.Test.YtoecekncncbjgaaKhs
set_option linter.unusedSimpArgs false
set_option linter.unusedVariables false
namespace Go.Proofs.Ytoecekncncbjgaa
open Abs
set_option maxRecDepth 100000
theorem khp0 : piece Try.prog 100000 168 (headC (bodyOf Try.prog 6)) khs0 [] = some khs1 := by kernel_rfl
theorem khq0 : isSeq (bodyOf Try.prog 6) = true := by kernel_rfl
end Go.Proofs.Ytoecekncncbjgaa
