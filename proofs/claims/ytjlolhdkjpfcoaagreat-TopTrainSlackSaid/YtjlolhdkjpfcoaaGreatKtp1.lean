/- The evaluator: a piece of a call. -/
import Derived.KernelRfl
import Derived.Test.YtjlolhdkjpfcoaaGreatKts
set_option linter.unusedSimpArgs false
set_option linter.unusedVariables false
namespace Go.Proofs.YtjlolhdkjpfcoaaGreat
open Abs
set_option maxRecDepth 100000
theorem ktp1 : piece Tryz.prog 100000 74 (headC (tailC (bodyOf Tryz.prog 8))) kts1 [0, 15] = some kts2 := by kernel_rfl
theorem ktq1 : isSeq (tailC (bodyOf Tryz.prog 8)) = true := by kernel_rfl
end Go.Proofs.YtjlolhdkjpfcoaaGreat
