/- The evaluator: a piece of a call. -/
import Derived.KernelRfl
import Derived.Test.YtekmmeikkafpmaaGreatKgs
set_option linter.unusedSimpArgs false
set_option linter.unusedVariables false
namespace Go.Proofs.YtekmmeikkafpmaaGreat
open Abs
set_option maxRecDepth 100000
theorem kgp2 : piece Tryz.prog 100000 55 (headC (tailC (tailC (bodyOf Tryz.prog 4)))) kgs2 [2, 64, 65] = some kgs3 := by kernel_rfl
theorem kgq2 : isSeq (tailC (tailC (bodyOf Tryz.prog 4))) = true := by kernel_rfl
end Go.Proofs.YtekmmeikkafpmaaGreat
