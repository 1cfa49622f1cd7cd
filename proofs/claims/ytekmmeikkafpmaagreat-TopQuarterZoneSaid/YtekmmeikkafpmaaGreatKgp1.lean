/- The evaluator: a piece of a call. -/
import Derived.KernelRfl
import Derived.Test.YtekmmeikkafpmaaGreatKgs
set_option linter.unusedSimpArgs false
set_option linter.unusedVariables false
namespace Go.Proofs.YtekmmeikkafpmaaGreat
open Abs
set_option maxRecDepth 100000
theorem kgp1 : piece Tryz.prog 100000 55 (headC (tailC (bodyOf Tryz.prog 4))) kgs1 [2] = some kgs2 := by kernel_rfl
theorem kgq1 : isSeq (tailC (bodyOf Tryz.prog 4)) = true := by kernel_rfl
end Go.Proofs.YtekmmeikkafpmaaGreat
