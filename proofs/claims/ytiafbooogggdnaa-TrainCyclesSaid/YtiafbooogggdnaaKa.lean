/- The evaluator: a call, from its pieces. -/
import Derived.KernelRfl
import Derived.Test.YtiafbooogggdnaaKap0
import Derived.Test.YtiafbooogggdnaaKap1
import Derived.Test.YtiafbooogggdnaaKap2
import Derived.Test.YtiafbooogggdnaaKap3
import Derived.Test.YtiafbooogggdnaaKap4
import Derived.Test.YtiafbooogggdnaaKap5
import Derived.Test.YtiafbooogggdnaaKap6
import Derived.Test.YtiafbooogggdnaaKap7
import Derived.Test.YtiafbooogggdnaaKap8
import Derived.Test.YtiafbooogggdnaaKas
set_option linter.unusedSimpArgs false
set_option linter.unusedVariables false
namespace Go.Proofs.Ytiafbooogggdnaa
open Abs Go.RowKit
set_option maxRecDepth 100000
theorem kalast : lastOk Try.prog 10 100000 124 (tailC (tailC (tailC (tailC (tailC (tailC (tailC (tailC (tailC (bodyOf Try.prog 10)))))))))) kas9 = true := by kernel_rfl
theorem kabody : hasBody Try.prog 10 = true := by kernel_rfl
theorem katmps : tmpsCount Try.prog 10 = 124 := by kernel_rfl
theorem kagood (hp : progOk Try.prog = true) (W : World) : Calls Try.prog 10 #[] W (fun e W' => e = .returned (.bool true) ∧ Below W.heap.size W W') := by
  refine good_call hp kabody ?_ W
  rw [katmps]
  refine good_step hp kaq0 kap0 ?_
  refine good_step hp kaq1 kap1 ?_
  refine good_step hp kaq2 kap2 ?_
  refine good_step hp kaq3 kap3 ?_
  refine good_step hp kaq4 kap4 ?_
  refine good_step hp kaq5 kap5 ?_
  refine good_step hp kaq6 kap6 ?_
  refine good_step hp kaq7 kap7 ?_
  refine good_step hp kaq8 kap8 ?_
  exact good_last hp kalast
end Go.Proofs.Ytiafbooogggdnaa
