/- The evaluator: a piece of a call. -/
import Derived.KernelRfl
import Derived.Test.YtaimphcjjoennaaKds
set_option linter.unusedSimpArgs false
set_option linter.unusedVariables false
namespace Go.Proofs.Ytaimphcjjoennaa
open Abs
set_option maxRecDepth 100000
theorem kdp4 : piece Try.prog 100000 23 (headC (tailC (tailC (tailC (tailC (bodyOf Try.prog 18)))))) kds4 [246, 50, 51] = some kds5 := by kernel_rfl
theorem kdq4 : isSeq (tailC (tailC (tailC (tailC (bodyOf Try.prog 18))))) = true := by kernel_rfl
end Go.Proofs.Ytaimphcjjoennaa
