/- The evaluator: a piece of a call. -/
import Derived.KernelRfl
import Derived.Test.YtiafbooogggdnaaKas
set_option linter.unusedSimpArgs false
set_option linter.unusedVariables false
namespace Go.Proofs.Ytiafbooogggdnaa
open Abs
set_option maxRecDepth 100000
theorem kap8 : piece Try.prog 100000 124 (headC (tailC (tailC (tailC (tailC (tailC (tailC (tailC (tailC (bodyOf Try.prog 10)))))))))) kas8 [2164, 16, 2170, 2165, 0, 41, 40, 2175, 2167, 389, 388, 2171, 2016, 1986, 358, 357, 2174, 2166, 1954, 1953, 386, 304, 302, 285, 283, 307, 15] = some kas9 := by kernel_rfl
theorem kaq8 : isSeq (tailC (tailC (tailC (tailC (tailC (tailC (tailC (tailC (bodyOf Try.prog 10))))))))) = true := by kernel_rfl
end Go.Proofs.Ytiafbooogggdnaa
