/- The evaluator: a piece of a call. -/
import Derived.KernelRfl
import Derived.Test.YtanmiffgmiikfaaGreatKys
set_option linter.unusedSimpArgs false
set_option linter.unusedVariables false
namespace Go.Proofs.YtanmiffgmiikfaaGreat
open Abs
set_option maxRecDepth 100000
theorem kyp3 : piece Tryz.prog 100000 47 (headC (tailC (tailC (tailC (bodyOf Tryz.prog 8))))) kys3 [3, 4, 158, 159, 266, 154] = some kys4 := by kernel_rfl
theorem kyq3 : isSeq (tailC (tailC (tailC (bodyOf Tryz.prog 8)))) = true := by kernel_rfl
end Go.Proofs.YtanmiffgmiikfaaGreat
