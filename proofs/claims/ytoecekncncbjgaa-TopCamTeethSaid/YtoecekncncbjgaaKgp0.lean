/- The evaluator: a piece of a call. -/
import Derived.KernelRfl
import Derived.Test.YtoecekncncbjgaaKgs
set_option linter.unusedSimpArgs false
set_option linter.unusedVariables false
namespace Go.Proofs.Ytoecekncncbjgaa
open Abs
set_option maxRecDepth 100000
theorem kgp0 : piece Try.prog 100000 55 (headC (bodyOf Try.prog 12)) kgs0 [] = some kgs1 := by kernel_rfl
theorem kgq0 : isSeq (bodyOf Try.prog 12) = true := by kernel_rfl
end Go.Proofs.Ytoecekncncbjgaa
