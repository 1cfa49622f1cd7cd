/- The evaluator: a piece of a call. -/
import Derived.KernelRfl
import Derived.Test.YtanmiffgmiikfaaGreatKys
set_option linter.unusedSimpArgs false
set_option linter.unusedVariables false
namespace Go.Proofs.YtanmiffgmiikfaaGreat
open Abs
set_option maxRecDepth 100000
theorem kyp1 : piece Tryz.prog 100000 47 (headC (tailC (bodyOf Tryz.prog 8))) kys1 [3, 4, 154] = some kys2 := by kernel_rfl
theorem kyq1 : isSeq (tailC (bodyOf Tryz.prog 8)) = true := by kernel_rfl
end Go.Proofs.YtanmiffgmiikfaaGreat
