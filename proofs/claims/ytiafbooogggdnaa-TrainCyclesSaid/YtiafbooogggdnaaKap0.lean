/- The evaluator: a piece of a call. -/
import Derived.KernelRfl
import Derived.Test.YtiafbooogggdnaaKas
set_option linter.unusedSimpArgs false
set_option linter.unusedVariables false
namespace Go.Proofs.Ytiafbooogggdnaa
open Abs
set_option maxRecDepth 100000
theorem kap0 : piece Try.prog 100000 124 (headC (bodyOf Try.prog 10)) kas0 [] = some kas1 := by kernel_rfl
theorem kaq0 : isSeq (bodyOf Try.prog 10) = true := by kernel_rfl
end Go.Proofs.Ytiafbooogggdnaa
