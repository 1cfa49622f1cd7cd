/- The evaluator: a piece of a call. -/
import Derived.KernelRfl
import Derived.Test.YtjlolhdkjpfcoaaGreatKts
set_option linter.unusedSimpArgs false
set_option linter.unusedVariables false
namespace Go.Proofs.YtjlolhdkjpfcoaaGreat
open Abs
set_option maxRecDepth 100000
theorem ktp3 : piece Tryz.prog 100000 74 (headC (tailC (tailC (tailC (bodyOf Tryz.prog 8))))) kts3 [16, 0, 111, 109, 114, 17, 15] = some kts4 := by kernel_rfl
theorem ktq3 : isSeq (tailC (tailC (tailC (bodyOf Tryz.prog 8)))) = true := by kernel_rfl
end Go.Proofs.YtjlolhdkjpfcoaaGreat
