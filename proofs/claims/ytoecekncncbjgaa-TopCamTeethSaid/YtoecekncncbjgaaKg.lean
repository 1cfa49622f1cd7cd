/- The evaluator: a call, from its pieces. -/
import Derived.KernelRfl
import Derived.Test.YtoecekncncbjgaaKgp0
import Derived.Test.YtoecekncncbjgaaKgp1
import Derived.Test.YtoecekncncbjgaaKgp2
import Derived.Test.YtoecekncncbjgaaKgp3
import Derived.Test.YtoecekncncbjgaaKgp4
import Derived.Test.YtoecekncncbjgaaKgs
set_option linter.unusedSimpArgs false
set_option linter.unusedVariables false
namespace Go.Proofs.Ytoecekncncbjgaa
open Abs Go.RowKit
set_option maxRecDepth 100000
theorem kglast : lastOk Try.prog 12 100000 55 (tailC (tailC (tailC (tailC (tailC (bodyOf Try.prog 12)))))) kgs5 = true := by kernel_rfl
theorem kgbody : hasBody Try.prog 12 = true := by kernel_rfl
theorem kgtmps : tmpsCount Try.prog 12 = 55 := by kernel_rfl
theorem kggood (hp : progOk Try.prog = true) (W : World) : Calls Try.prog 12 #[] W (fun e W' => e = .returned (.bool true) ∧ Below W.heap.size W W') := by
  refine good_callL hp kgbody ?_ W
  rw [kgtmps]
  refine good_step hp kgq0 kgp0 ?_
  refine good_step hp kgq1 kgp1 ?_
  refine good_step hp kgq2 kgp2 ?_
  refine good_step hp kgq3 kgp3 ?_
  refine good_step hp kgq4 kgp4 ?_
  exact good_last hp kglast
end Go.Proofs.Ytoecekncncbjgaa
