/- The evaluator: a piece of a call. -/
import Derived.KernelRfl
import Derived.Test.YtgpdodkcfiefjaaKcs
set_option linter.unusedSimpArgs false
set_option linter.unusedVariables false
namespace Go.Proofs.Ytgpdodkcfiefjaa
open Abs
set_option maxRecDepth 100000
theorem kcp2 : piece Try.prog 100000 150 (headC (tailC (tailC (bodyOf Try.prog 11)))) kcs2 [1, 2, 297, 460, 295] = some kcs3 := by kernel_rfl
theorem kcq2 : isSeq (tailC (tailC (bodyOf Try.prog 11))) = true := by kernel_rfl
end Go.Proofs.Ytgpdodkcfiefjaa
