/- The evaluator: a piece of a call. -/
import Derived.KernelRfl
import Derived.Test.YtekmmeikkafpmaaGreatKgs
set_option linter.unusedSimpArgs false
set_option linter.unusedVariables false
namespace Go.Proofs.YtekmmeikkafpmaaGreat
open Abs
set_option maxRecDepth 100000
theorem kgp3 : piece Tryz.prog 100000 55 (headC (tailC (tailC (tailC (bodyOf Tryz.prog 4))))) kgs3 [2, 296, 310, 64, 65] = some kgs4 := by kernel_rfl
theorem kgq3 : isSeq (tailC (tailC (tailC (bodyOf Tryz.prog 4)))) = true := by kernel_rfl
end Go.Proofs.YtekmmeikkafpmaaGreat
