/- The evaluator: a call, from its pieces. -/
import Derived.KernelRfl
import Derived.Test.YtgpdodkcfiefjaaKcp0
import Derived.Test.YtgpdodkcfiefjaaKcp1
import Derived.Test.YtgpdodkcfiefjaaKcp2
import Derived.Test.YtgpdodkcfiefjaaKcp3
import Derived.Test.YtgpdodkcfiefjaaKcp4
import Derived.Test.YtgpdodkcfiefjaaKcp5
import Derived.Test.YtgpdodkcfiefjaaKcp6
import Derived.Test.YtgpdodkcfiefjaaKcp7
import Derived.Test.YtgpdodkcfiefjaaKcp8
import Derived.Test.YtgpdodkcfiefjaaKcs
set_option linter.unusedSimpArgs false
set_option linter.unusedVariables false
namespace Go.Proofs.Ytgpdodkcfiefjaa
open Abs Go.RowKit
set_option maxRecDepth 100000
theorem kclast : lastOk Try.prog 11 100000 150 (tailC (tailC (tailC (tailC (tailC (tailC (tailC (tailC (tailC (bodyOf Try.prog 11)))))))))) kcs9 = true := by kernel_rfl
theorem kcbody : hasBody Try.prog 11 = true := by kernel_rfl
theorem kctmps : tmpsCount Try.prog 11 = 150 := by kernel_rfl
theorem kcgood (hp : progOk Try.prog = true) (W : World) : Calls Try.prog 11 #[] W (fun e W' => e = .returned (.bool true) ∧ Below W.heap.size W W') := by
  refine good_call hp kcbody ?_ W
  rw [kctmps]
  refine good_step hp kcq0 kcp0 ?_
  refine good_step hp kcq1 kcp1 ?_
  refine good_step hp kcq2 kcp2 ?_
  refine good_step hp kcq3 kcp3 ?_
  refine good_step hp kcq4 kcp4 ?_
  refine good_step hp kcq5 kcp5 ?_
  refine good_step hp kcq6 kcp6 ?_
  refine good_step hp kcq7 kcp7 ?_
  refine good_step hp kcq8 kcp8 ?_
  exact good_last hp kclast
end Go.Proofs.Ytgpdodkcfiefjaa
