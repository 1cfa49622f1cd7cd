/- The evaluator: a piece of a call. -/
import Derived.KernelRfl
import Derived.Test.YtaimphcjjoennaaKbs
set_option linter.unusedSimpArgs false
set_option linter.unusedVariables false
namespace Go.Proofs.Ytaimphcjjoennaa
open Abs
set_option maxRecDepth 100000
theorem kbp2 : piece Try.prog 100000 154 (headC (tailC (tailC (bodyOf Try.prog 6)))) kbs2 [247, 442, 49] = some kbs3 := by kernel_rfl
theorem kbq2 : isSeq (tailC (tailC (bodyOf Try.prog 6))) = true := by kernel_rfl
end Go.Proofs.Ytaimphcjjoennaa
