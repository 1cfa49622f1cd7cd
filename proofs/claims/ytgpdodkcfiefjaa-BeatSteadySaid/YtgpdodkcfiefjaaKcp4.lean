/- The evaluator: a piece of a call. -/
import Derived.KernelRfl
import Derived.Test.YtgpdodkcfiefjaaKcs
set_option linter.unusedSimpArgs false
set_option linter.unusedVariables false
namespace Go.Proofs.Ytgpdodkcfiefjaa
open Abs
set_option maxRecDepth 100000
theorem kcp4 : piece Try.prog 100000 150 (headC (tailC (tailC (tailC (tailC (bodyOf Try.prog 11)))))) kcs4 [2183, 2185, 1, 2347, 462, 2, 2182, 297, 2181, 1402, 460, 295] = some kcs5 := by kernel_rfl
theorem kcq4 : isSeq (tailC (tailC (tailC (tailC (bodyOf Try.prog 11))))) = true := by kernel_rfl
end Go.Proofs.Ytgpdodkcfiefjaa
