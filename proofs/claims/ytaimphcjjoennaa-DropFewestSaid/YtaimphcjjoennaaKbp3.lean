/- The evaluator: a piece of a call. -/
import Derived.KernelRfl
import Derived.Test.YtaimphcjjoennaaKbs
set_option linter.unusedSimpArgs false
set_option linter.unusedVariables false
namespace Go.Proofs.Ytaimphcjjoennaa
open Abs
set_option maxRecDepth 100000
theorem kbp3 : piece Try.prog 100000 154 (headC (tailC (tailC (tailC (bodyOf Try.prog 6))))) kbs3 [493, 247, 442, 49, 492, 768] = some kbs4 := by kernel_rfl
theorem kbq3 : isSeq (tailC (tailC (tailC (bodyOf Try.prog 6)))) = true := by kernel_rfl
end Go.Proofs.Ytaimphcjjoennaa
