/- The evaluator: a piece of a call. -/
import Derived.KernelRfl
import Derived.Test.YtiafbooogggdnaaKas
set_option linter.unusedSimpArgs false
set_option linter.unusedVariables false
namespace Go.Proofs.Ytiafbooogggdnaa
open Abs
set_option maxRecDepth 100000
theorem kap1 : piece Try.prog 100000 124 (headC (tailC (bodyOf Try.prog 10))) kas1 [0, 15] = some kas2 := by kernel_rfl
theorem kaq1 : isSeq (tailC (bodyOf Try.prog 10)) = true := by kernel_rfl
end Go.Proofs.Ytiafbooogggdnaa
