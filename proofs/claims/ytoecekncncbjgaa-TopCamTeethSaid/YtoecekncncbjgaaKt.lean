/- The evaluator: a call, from its pieces. -/
import Derived.KernelRfl
import Derived.Test.YtoecekncncbjgaaKtp0
import Derived.Test.YtoecekncncbjgaaKtp1
import Derived.Test.YtoecekncncbjgaaKtp2
import Derived.Test.YtoecekncncbjgaaKtp3
import Derived.Test.YtoecekncncbjgaaKts
set_option linter.unusedSimpArgs false
set_option linter.unusedVariables false
namespace Go.Proofs.Ytoecekncncbjgaa
open Abs Go.RowKit
set_option maxRecDepth 100000
theorem ktlast : lastOk Try.prog 11 100000 74 (tailC (tailC (tailC (tailC (bodyOf Try.prog 11))))) kts4 = true := by kernel_rfl
theorem ktbody : hasBody Try.prog 11 = true := by kernel_rfl
theorem kttmps : tmpsCount Try.prog 11 = 74 := by kernel_rfl
theorem ktgood (hp : progOk Try.prog = true) (W : World) : Calls Try.prog 11 #[] W (fun e W' => e = .returned (.bool true) ∧ Below W.heap.size W W') := by
  refine good_call hp ktbody ?_ W
  rw [kttmps]
  refine good_step hp ktq0 ktp0 ?_
  refine good_step hp ktq1 ktp1 ?_
  refine good_step hp ktq2 ktp2 ?_
  refine good_step hp ktq3 ktp3 ?_
  exact good_last hp ktlast
end Go.Proofs.Ytoecekncncbjgaa
