/- The evaluator: a piece of a call. -/
import Derived.KernelRfl
import Derived.Test.YtaimphcjjoennaaKbs
set_option linter.unusedSimpArgs false
set_option linter.unusedVariables false
namespace Go.Proofs.Ytaimphcjjoennaa
open Abs
set_option maxRecDepth 100000
theorem kbp9 : piece Try.prog 100000 154 (headC (tailC (tailC (tailC (tailC (tailC (tailC (tailC (tailC (tailC (bodyOf Try.prog 6))))))))))) kbs9 [1187, 2242, 493, 247, 1576, 823, 2677, 442, 1577, 49, 824, 2678, 492, 1137, 2243, 768, 1188] = some kbs10 := by kernel_rfl
theorem kbq9 : isSeq (tailC (tailC (tailC (tailC (tailC (tailC (tailC (tailC (tailC (bodyOf Try.prog 6)))))))))) = true := by kernel_rfl
end Go.Proofs.Ytaimphcjjoennaa
