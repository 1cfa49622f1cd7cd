/- The evaluator: a piece of a call. -/
import Derived.KernelRfl
import Derived.Test.YtiafbooogggdnaaKas
set_option linter.unusedSimpArgs false
set_option linter.unusedVariables false
namespace Go.Proofs.Ytiafbooogggdnaa
open Abs
set_option maxRecDepth 100000
theorem kap5 : piece Try.prog 100000 124 (headC (tailC (tailC (tailC (tailC (tailC (bodyOf Try.prog 10))))))) kas5 [16, 0, 41, 40, 386, 389, 388, 358, 357, 304, 302, 285, 283, 307, 15] = some kas6 := by kernel_rfl
theorem kaq5 : isSeq (tailC (tailC (tailC (tailC (tailC (bodyOf Try.prog 10)))))) = true := by kernel_rfl
end Go.Proofs.Ytiafbooogggdnaa
