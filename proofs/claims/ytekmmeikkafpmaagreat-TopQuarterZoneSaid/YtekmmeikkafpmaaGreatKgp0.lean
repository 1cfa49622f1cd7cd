/- The evaluator: a piece of a call. -/
import Derived.KernelRfl
import Derived.Test.YtekmmeikkafpmaaGreatKgs
set_option linter.unusedSimpArgs false
set_option linter.unusedVariables false
namespace Go.Proofs.YtekmmeikkafpmaaGreat
open Abs
set_option maxRecDepth 100000
theorem kgp0 : piece Tryz.prog 100000 55 (headC (bodyOf Tryz.prog 4)) kgs0 [] = some kgs1 := by kernel_rfl
theorem kgq0 : isSeq (bodyOf Tryz.prog 4) = true := by kernel_rfl
end Go.Proofs.YtekmmeikkafpmaaGreat
