/- The evaluator: a call, from its pieces. -/
import Derived.KernelRfl
import Derived.Test.YtoecekncncbjgaaGreatKgp0
import Derived.Test.YtoecekncncbjgaaGreatKgp1
import Derived.Test.YtoecekncncbjgaaGreatKgp2
import Derived.Test.YtoecekncncbjgaaGreatKgp3
import Derived.Test.YtoecekncncbjgaaGreatKgp4
import Derived.Test.YtoecekncncbjgaaGreatKgs
set_option linter.unusedSimpArgs false
set_option linter.unusedVariables false
namespace Go.Proofs.YtoecekncncbjgaaGreat
open Abs Go.RowKit
set_option maxRecDepth 100000
theorem kglast : lastOk Tryz.prog 7 100000 55 (tailC (tailC (tailC (tailC (tailC (bodyOf Tryz.prog 7)))))) kgs5 = true := by kernel_rfl
theorem kgbody : hasBody Tryz.prog 7 = true := by kernel_rfl
theorem kgtmps : tmpsCount Tryz.prog 7 = 55 := by kernel_rfl
theorem kggood (hp : progOk Tryz.prog = true) (W : World) : Calls Tryz.prog 7 #[] W (fun e W' => e = .returned (.bool true) ∧ Below W.heap.size W W') := by
  refine good_callL hp kgbody ?_ W
  rw [kgtmps]
  refine good_step hp kgq0 kgp0 ?_
  refine good_step hp kgq1 kgp1 ?_
  refine good_step hp kgq2 kgp2 ?_
  refine good_step hp kgq3 kgp3 ?_
  refine good_step hp kgq4 kgp4 ?_
  exact good_last hp kglast
end Go.Proofs.YtoecekncncbjgaaGreat
