/- The evaluator: a piece of a call. -/
import Derived.KernelRfl
import Derived.Test.YtgpdodkcfiefjaaKcs
set_option linter.unusedSimpArgs false
set_option linter.unusedVariables false
namespace Go.Proofs.Ytgpdodkcfiefjaa
open Abs
set_option maxRecDepth 100000
theorem kcp5 : piece Try.prog 100000 150 (headC (tailC (tailC (tailC (tailC (tailC (bodyOf Try.prog 11))))))) kcs5 [2597, 2183, 2185, 1, 2347, 462, 2, 2182, 2349, 297, 2181, 1402, 460, 295] = some kcs6 := by kernel_rfl
theorem kcq5 : isSeq (tailC (tailC (tailC (tailC (tailC (bodyOf Try.prog 11)))))) = true := by kernel_rfl
end Go.Proofs.Ytgpdodkcfiefjaa
