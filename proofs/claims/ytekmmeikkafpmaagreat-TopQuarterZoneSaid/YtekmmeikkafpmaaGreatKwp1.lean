/- The evaluator: a piece of a call. -/
import Derived.KernelRfl
import Derived.Test.YtekmmeikkafpmaaGreatKws
set_option linter.unusedSimpArgs false
set_option linter.unusedVariables false
namespace Go.Proofs.YtekmmeikkafpmaaGreat
open Abs
set_option maxRecDepth 100000
theorem kwp1 : piece Tryz.prog 100000 54 (headC (tailC (bodyOf Tryz.prog 5))) kws1 [0, 1] = some kws2 := by kernel_rfl
theorem kwq1 : isSeq (tailC (bodyOf Tryz.prog 5)) = true := by kernel_rfl
end Go.Proofs.YtekmmeikkafpmaaGreat
