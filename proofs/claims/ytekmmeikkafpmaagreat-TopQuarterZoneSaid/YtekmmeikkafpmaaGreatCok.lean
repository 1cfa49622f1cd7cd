/- The program is one that the evaluator knows. -/
import Derived.Test.YtekmmeikkafpmaaGreatC2
import Derived.KernelRfl
set_option linter.unusedSimpArgs false
set_option linter.unusedVariables false
namespace Go.Proofs.YtekmmeikkafpmaaGreat
open Abs
set_option maxRecDepth 100000
theorem prog_ok : progOk Tryz.prog = true := by kernel_rfl
end Go.Proofs.YtekmmeikkafpmaaGreat
