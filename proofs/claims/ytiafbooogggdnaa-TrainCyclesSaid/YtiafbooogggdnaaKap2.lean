/- The evaluator: a piece of a call. -/
import Derived.KernelRfl
import Derived.Test.YtiafbooogggdnaaKas
set_option linter.unusedSimpArgs false
set_option linter.unusedVariables false
namespace Go.Proofs.Ytiafbooogggdnaa
open Abs
set_option maxRecDepth 100000
theorem kap2 : piece Try.prog 100000 124 (headC (tailC (tailC (bodyOf Try.prog 10)))) kas2 [16, 0, 15] = some kas3 := by kernel_rfl
theorem kaq2 : isSeq (tailC (tailC (bodyOf Try.prog 10))) = true := by kernel_rfl
end Go.Proofs.Ytiafbooogggdnaa
