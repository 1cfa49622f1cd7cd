/- The evaluator: a piece of a call. -/
import Derived.KernelRfl
import Derived.Test.YtaimphcjjoennaaKbs
set_option linter.unusedSimpArgs false
set_option linter.unusedVariables false
namespace Go.Proofs.Ytaimphcjjoennaa
open Abs
set_option maxRecDepth 100000
theorem kbp1 : piece Try.prog 100000 154 (headC (tailC (bodyOf Try.prog 6))) kbs1 [49] = some kbs2 := by kernel_rfl
theorem kbq1 : isSeq (tailC (bodyOf Try.prog 6)) = true := by kernel_rfl
end Go.Proofs.Ytaimphcjjoennaa
