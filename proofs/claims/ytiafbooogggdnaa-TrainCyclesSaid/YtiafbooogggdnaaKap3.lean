/- The evaluator: a piece of a call. -/
import Derived.KernelRfl
import Derived.Test.YtiafbooogggdnaaKas
set_option linter.unusedSimpArgs false
set_option linter.unusedVariables false
namespace Go.Proofs.Ytiafbooogggdnaa
open Abs
set_option maxRecDepth 100000
theorem kap3 : piece Try.prog 100000 124 (headC (tailC (tailC (tailC (bodyOf Try.prog 10))))) kas3 [16, 0, 41, 40, 304, 302, 285, 283, 307, 15] = some kas4 := by kernel_rfl
theorem kaq3 : isSeq (tailC (tailC (tailC (bodyOf Try.prog 10)))) = true := by kernel_rfl
end Go.Proofs.Ytiafbooogggdnaa
