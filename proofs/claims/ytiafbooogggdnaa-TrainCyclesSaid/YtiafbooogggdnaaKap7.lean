/- The evaluator: a piece of a call. -/
import Derived.KernelRfl
import Derived.Test.YtiafbooogggdnaaKas
set_option linter.unusedSimpArgs false
set_option linter.unusedVariables false
namespace Go.Proofs.Ytiafbooogggdnaa
open Abs
set_option maxRecDepth 100000
theorem kap7 : piece Try.prog 100000 124 (headC (tailC (tailC (tailC (tailC (tailC (tailC (tailC (bodyOf Try.prog 10))))))))) kas7 [2164, 16, 0, 41, 40, 386, 389, 388, 2016, 1986, 358, 357, 1954, 1953, 304, 302, 285, 283, 307, 15] = some kas8 := by kernel_rfl
theorem kaq7 : isSeq (tailC (tailC (tailC (tailC (tailC (tailC (tailC (bodyOf Try.prog 10)))))))) = true := by kernel_rfl
end Go.Proofs.Ytiafbooogggdnaa
