/- The evaluator: a piece of a call. -/
import Derived.KernelRfl
import Derived.Test.YtiafbooogggdnaaKas
set_option linter.unusedSimpArgs false
set_option linter.unusedVariables false
namespace Go.Proofs.Ytiafbooogggdnaa
open Abs
set_option maxRecDepth 100000
theorem kap4 : piece Try.prog 100000 124 (headC (tailC (tailC (tailC (tailC (bodyOf Try.prog 10)))))) kas4 [16, 0, 41, 40, 386, 358, 357, 304, 302, 285, 283, 307, 15] = some kas5 := by kernel_rfl
theorem kaq4 : isSeq (tailC (tailC (tailC (tailC (bodyOf Try.prog 10))))) = true := by kernel_rfl
end Go.Proofs.Ytiafbooogggdnaa
