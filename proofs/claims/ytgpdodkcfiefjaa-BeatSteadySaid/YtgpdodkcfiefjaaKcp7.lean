/- The evaluator: a piece of a call. -/
import Derived.KernelRfl
import Derived.Test.YtgpdodkcfiefjaaKcs
set_option linter.unusedSimpArgs false
set_option linter.unusedVariables false
namespace Go.Proofs.Ytgpdodkcfiefjaa
open Abs
set_option maxRecDepth 100000
theorem kcp7 : piece Try.prog 100000 150 (headC (tailC (tailC (tailC (tailC (tailC (tailC (tailC (bodyOf Try.prog 11))))))))) kcs7 [2597, 2185, 1, 2347, 462, 2183, 2, 2349, 2602, 297, 2182, 2181, 1402, 460, 295] = some kcs8 := by kernel_rfl
theorem kcq7 : isSeq (tailC (tailC (tailC (tailC (tailC (tailC (tailC (bodyOf Try.prog 11)))))))) = true := by kernel_rfl
end Go.Proofs.Ytgpdodkcfiefjaa
