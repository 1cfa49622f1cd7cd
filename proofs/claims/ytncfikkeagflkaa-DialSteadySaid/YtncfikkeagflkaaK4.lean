/- The evaluator: a call, from its pieces. -/
import Derived.KernelRfl
import Derived.Test.YtncfikkeagflkaaK4p0
import Derived.Test.YtncfikkeagflkaaK4p1
import Derived.Test.YtncfikkeagflkaaK4p2
import Derived.Test.YtncfikkeagflkaaK4s
set_option linter.unusedSimpArgs false
set_option linter.unusedVariables false
namespace Go.Proofs.Ytncfikkeagflkaa
open Abs Go.RowKit
set_option maxRecDepth 100000
theorem k4last : lastOk Try.prog 11 100000 185 (tailC (tailC (tailC (tailC (tailC (tailC (tailC (tailC (tailC (tailC (tailC (tailC (tailC (bodyOf Try.prog 11)))))))))))))) k4s13 = true := by kernel_rfl
theorem k4body : hasBody Try.prog 11 = true := by kernel_rfl
theorem k4tmps : tmpsCount Try.prog 11 = 185 := by kernel_rfl
theorem k4good (hp : progOk Try.prog = true) (W : World) : Calls Try.prog 11 #[] W (fun e W' => e = .returned (.bool true) ∧ Below W.heap.size W W') := by
  refine good_call hp k4body ?_ W
  rw [k4tmps]
  refine good_step hp k4q0 k4p0 ?_
  refine good_step hp k4q1 k4p1 ?_
  refine good_step hp k4q2 k4p2 ?_
  refine good_step hp k4q3 k4p3 ?_
  refine good_step hp k4q4 k4p4 ?_
  refine good_step hp k4q5 k4p5 ?_
  refine good_step hp k4q6 k4p6 ?_
  refine good_step hp k4q7 k4p7 ?_
  refine good_step hp k4q8 k4p8 ?_
  refine good_step hp k4q9 k4p9 ?_
  refine good_step hp k4q10 k4p10 ?_
  refine good_step hp k4q11 k4p11 ?_
  refine good_step hp k4q12 k4p12 ?_
  exact good_last hp k4last
end Go.Proofs.Ytncfikkeagflkaa
