/- The evaluator: a piece of a call. -/
import Derived.KernelRfl
import Derived.Test.YtikmjmaglinpaaaKcs
set_option linter.unusedSimpArgs false
set_option linter.unusedVariables false
namespace Go.Proofs.Ytikmjmaglinpaaa
open Abs
set_option maxRecDepth 100000
theorem kcp0 : piece Try.prog 100000 150 (headC (bodyOf Try.prog 13)) kcs0 [] = some kcs1 := by kernel_rfl
theorem kcq0 : isSeq (bodyOf Try.prog 13) = true := by kernel_rfl
end Go.Proofs.Ytikmjmaglinpaaa
