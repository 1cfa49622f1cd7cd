/- The evaluator: a call, from its pieces. -/
import Derived.KernelRfl
import Derived.Test.YtikmjmaglinpaaaKcp0
import Derived.Test.YtikmjmaglinpaaaKcp1
import Derived.Test.YtikmjmaglinpaaaKcp2
import Derived.Test.YtikmjmaglinpaaaKcp3
import Derived.Test.YtikmjmaglinpaaaKcp4
import Derived.Test.YtikmjmaglinpaaaKcp5
import Derived.Test.YtikmjmaglinpaaaKcp6
import Derived.Test.YtikmjmaglinpaaaKcp7
import Derived.Test.YtikmjmaglinpaaaKcp8
import Derived.Test.YtikmjmaglinpaaaKcs
set_option linter.unusedSimpArgs false
set_option linter.unusedVariables false
namespace Go.Proofs.Ytikmjmaglinpaaa
open Abs Go.RowKit
set_option maxRecDepth 100000
theorem kclast : lastOk Try.prog 13 100000 150 (tailC (tailC (tailC (tailC (tailC (tailC (tailC (tailC (tailC (bodyOf Try.prog 13)))))))))) kcs9 = true := by kernel_rfl
theorem kcbody : hasBody Try.prog 13 = true := by kernel_rfl
theorem kctmps : tmpsCount Try.prog 13 = 150 := by kernel_rfl
theorem kcgood (hp : progOk Try.prog = true) (W : World) : Calls Try.prog 13 #[] W (fun e W' => e = .returned (.bool true) ∧ Below W.heap.size W W') := by
  refine good_call hp kcbody ?_ W
  rw [kctmps]
  refine good_step hp kcq0 kcp0 ?_
  refine good_step hp kcq1 kcp1 ?_
  refine good_step hp kcq2 kcp2 ?_
  refine good_step hp kcq3 kcp3 ?_
  refine good_step hp kcq4 kcp4 ?_
  refine good_step hp kcq5 kcp5 ?_
  refine good_step hp kcq6 kcp6 ?_
  refine good_step hp kcq7 kcp7 ?_
  refine good_step hp kcq8 kcp8 ?_
  exact good_last hp kclast
end Go.Proofs.Ytikmjmaglinpaaa
