/- The evaluator: a piece of a call. -/
import Derived.KernelRfl
import Derived.Test.YtgpdodkcfiefjaaKcs
set_option linter.unusedSimpArgs false
set_option linter.unusedVariables false
namespace Go.Proofs.Ytgpdodkcfiefjaa
open Abs
set_option maxRecDepth 100000
theorem kcp1 : piece Try.prog 100000 150 (headC (tailC (bodyOf Try.prog 11))) kcs1 [1, 2, 295] = some kcs2 := by kernel_rfl
theorem kcq1 : isSeq (tailC (bodyOf Try.prog 11)) = true := by kernel_rfl
end Go.Proofs.Ytgpdodkcfiefjaa
