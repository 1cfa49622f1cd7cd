/- The evaluator: a piece of a call. -/
import Derived.KernelRfl
import Derived.Test.YtgpdodkcfiefjaaKcs
set_option linter.unusedSimpArgs false
set_option linter.unusedVariables false
namespace Go.Proofs.Ytgpdodkcfiefjaa
open Abs
set_option maxRecDepth 100000
theorem kcp0 : piece Try.prog 100000 150 (headC (bodyOf Try.prog 11)) kcs0 [] = some kcs1 := by kernel_rfl
theorem kcq0 : isSeq (bodyOf Try.prog 11) = true := by kernel_rfl
end Go.Proofs.Ytgpdodkcfiefjaa
