/- The evaluator: a call, from its pieces. -/
import Derived.KernelRfl
import Derived.Test.YtoecekncncbjgaaKhp0
import Derived.Test.YtoecekncncbjgaaKhp1
import Derived.Test.YtoecekncncbjgaaKhp2
import Derived.Test.YtoecekncncbjgaaKhp3
import Derived.Test.YtoecekncncbjgaaKhp4
import Derived.Test.YtoecekncncbjgaaKhp5
import Derived.Test.YtoecekncncbjgaaKhp6
import Derived.Test.YtoecekncncbjgaaKhp7
import Derived.Test.YtoecekncncbjgaaKhp8
import Derived.Test.YtoecekncncbjgaaKhp9
import Derived.Test.YtoecekncncbjgaaKhs
set_option linter.unusedSimpArgs false
set_option linter.unusedVariables false
namespace Go.Proofs.Ytoecekncncbjgaa
open Abs Go.RowKit
set_option maxRecDepth 100000
theorem khlast : lastOk Try.prog 6 100000 168 (tailC (tailC (tailC (tailC (tailC (tailC (tailC (tailC (tailC (tailC (bodyOf Try.prog 6))))))))))) khs10 = true := by kernel_rfl
theorem khbody : hasBody Try.prog 6 = true := by kernel_rfl
theorem khtmps : tmpsCount Try.prog 6 = 168 := by kernel_rfl
theorem khgood (hp : progOk Try.prog = true) (W : World) : Calls Try.prog 6 #[] W (fun e W' => e = .returned (.bool true) ∧ Below W.heap.size W W') := by
  refine good_callL hp khbody ?_ W
  rw [khtmps]
  refine good_step hp khq0 khp0 ?_
  refine good_step hp khq1 khp1 ?_
  refine good_step hp khq2 khp2 ?_
  refine good_step hp khq3 khp3 ?_
  refine good_step hp khq4 khp4 ?_
  refine good_step hp khq5 khp5 ?_
  refine good_step hp khq6 khp6 ?_
  refine good_step hp khq7 khp7 ?_
  refine good_step hp khq8 khp8 ?_
  refine good_step hp khq9 khp9 ?_
  exact good_last hp khlast
end Go.Proofs.Ytoecekncncbjgaa
