/- The evaluator: a piece of a call. -/
import Derived.KernelRfl
import Derived.Test.YtnnamdcpmbhboaaGreatKds
set_option linter.unusedSimpArgs false
set_option linter.unusedVariables false
namespace Go.Proofs.YtnnamdcpmbhboaaGreat
open Abs
set_option maxRecDepth 100000
theorem kdp3 : piece Tryz.prog 100000 23 (headC (tailC (tailC (tailC (bodyOf Tryz.prog 16))))) kds3 [246, 50, 51] = some kds4 := by kernel_rfl
theorem kdq3 : isSeq (tailC (tailC (tailC (bodyOf Tryz.prog 16)))) = true := by kernel_rfl
end Go.Proofs.YtnnamdcpmbhboaaGreat
