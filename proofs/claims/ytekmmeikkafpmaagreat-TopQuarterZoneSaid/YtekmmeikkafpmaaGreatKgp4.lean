/- The evaluator: a piece of a call. -/
import Derived.KernelRfl
import Derived.Test.YtekmmeikkafpmaaGreatKgs
set_option linter.unusedSimpArgs false
set_option linter.unusedVariables false
namespace Go.Proofs.YtekmmeikkafpmaaGreat
open Abs
set_option maxRecDepth 100000
theorem kgp4 : piece Tryz.prog 100000 55 (headC (tailC (tailC (tailC (tailC (bodyOf Tryz.prog 4)))))) kgs4 [2, 296, 310, 64, 65] = some kgs5 := by kernel_rfl
theorem kgq4 : isSeq (tailC (tailC (tailC (tailC (bodyOf Tryz.prog 4))))) = true := by kernel_rfl
end Go.Proofs.YtekmmeikkafpmaaGreat
