/- The evaluator: a call, from its pieces. -/
import Derived.KernelRfl
import Derived.Test.YtekmmeikkafpmaaGreatKgp0
import Derived.Test.YtekmmeikkafpmaaGreatKgp1
import Derived.Test.YtekmmeikkafpmaaGreatKgp2
import Derived.Test.YtekmmeikkafpmaaGreatKgp3
import Derived.Test.YtekmmeikkafpmaaGreatKgp4
import Derived.Test.YtekmmeikkafpmaaGreatKgs
set_option linter.unusedSimpArgs false
set_option linter.unusedVariables false
namespace Go.Proofs.YtekmmeikkafpmaaGreat
open Abs Go.RowKit
set_option maxRecDepth 100000
theorem kglast : lastOk Tryz.prog 4 100000 55 (tailC (tailC (tailC (tailC (tailC (bodyOf Tryz.prog 4)))))) kgs5 = true := by kernel_rfl
theorem kgbody : hasBody Tryz.prog 4 = true := by kernel_rfl
theorem kgtmps : tmpsCount Tryz.prog 4 = 55 := by kernel_rfl
theorem kggood (hp : progOk Tryz.prog = true) (W : World) : Calls Tryz.prog 4 #[] W (fun e W' => e = .returned (.bool true) ∧ Below W.heap.size W W') := by
  refine good_callL hp kgbody ?_ W
  rw [kgtmps]
  refine good_step hp kgq0 kgp0 ?_
  refine good_step hp kgq1 kgp1 ?_
  refine good_step hp kgq2 kgp2 ?_
  refine good_step hp kgq3 kgp3 ?_
  refine good_step hp kgq4 kgp4 ?_
  exact good_last hp kglast
end Go.Proofs.YtekmmeikkafpmaaGreat
