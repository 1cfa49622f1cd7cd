/- The evaluator: a piece of a call. -/
import Derived.KernelRfl
import Derived.Test.YtoecekncncbjgaaGreatKts
set_option linter.unusedSimpArgs false
set_option linter.unusedVariables false
namespace Go.Proofs.YtoecekncncbjgaaGreat
open Abs
set_option maxRecDepth 100000
theorem ktp0 : piece Tryz.prog 100000 74 (headC (bodyOf Tryz.prog 6)) kts0 [] = some kts1 := by kernel_rfl
theorem ktq0 : isSeq (bodyOf Tryz.prog 6) = true := by kernel_rfl
end Go.Proofs.YtoecekncncbjgaaGreat
