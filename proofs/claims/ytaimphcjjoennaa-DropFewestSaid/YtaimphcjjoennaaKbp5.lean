/- The evaluator: a piece of a call. -/
import Derived.KernelRfl
import Derived.Test.YtaimphcjjoennaaKbs
set_option linter.unusedSimpArgs false
set_option linter.unusedVariables false
namespace Go.Proofs.Ytaimphcjjoennaa
open Abs
set_option maxRecDepth 100000
theorem kbp5 : piece Try.prog 100000 154 (headC (tailC (tailC (tailC (tailC (tailC (bodyOf Try.prog 6))))))) kbs5 [1187, 493, 247, 823, 442, 49, 824, 492, 1137, 768, 1188] = some kbs6 := by kernel_rfl
theorem kbq5 : isSeq (tailC (tailC (tailC (tailC (tailC (bodyOf Try.prog 6)))))) = true := by kernel_rfl
end Go.Proofs.Ytaimphcjjoennaa
