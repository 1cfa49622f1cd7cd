/- The evaluator: a piece of a call. -/
import Derived.KernelRfl
import Derived.Test.YtikmjmaglinpaaaKcs
set_option linter.unusedSimpArgs false
set_option linter.unusedVariables false
namespace Go.Proofs.Ytikmjmaglinpaaa
open Abs
set_option maxRecDepth 100000
theorem kcp1 : piece Try.prog 100000 150 (headC (tailC (bodyOf Try.prog 13))) kcs1 [1, 2, 295] = some kcs2 := by kernel_rfl
theorem kcq1 : isSeq (tailC (bodyOf Try.prog 13)) = true := by kernel_rfl
end Go.Proofs.Ytikmjmaglinpaaa
