/- The evaluator: a call, from its pieces. -/
import Derived.KernelRfl
import Derived.Test.YtaimphcjjoennaaKdp0
import Derived.Test.YtaimphcjjoennaaKdp1
import Derived.Test.YtaimphcjjoennaaKdp2
import Derived.Test.YtaimphcjjoennaaKdp3
import Derived.Test.YtaimphcjjoennaaKdp4
import Derived.Test.YtaimphcjjoennaaKds
set_option linter.unusedSimpArgs false
set_option linter.unusedVariables false
namespace Go.Proofs.Ytaimphcjjoennaa
open Abs Go.RowKit
set_option maxRecDepth 100000
theorem kdlast : lastOk Try.prog 18 100000 23 (tailC (tailC (tailC (tailC (tailC (bodyOf Try.prog 18)))))) kds5 = true := by kernel_rfl
theorem kdbody : hasBody Try.prog 18 = true := by kernel_rfl
theorem kdtmps : tmpsCount Try.prog 18 = 23 := by kernel_rfl
theorem kdgood (hp : progOk Try.prog = true) (W : World) : Calls Try.prog 18 #[] W (fun e W' => e = .returned (.bool true) ∧ Below W.heap.size W W') := by
  refine good_call hp kdbody ?_ W
  rw [kdtmps]
  refine good_step hp kdq0 kdp0 ?_
  refine good_step hp kdq1 kdp1 ?_
  refine good_step hp kdq2 kdp2 ?_
  refine good_step hp kdq3 kdp3 ?_
  refine good_step hp kdq4 kdp4 ?_
  exact good_last hp kdlast
end Go.Proofs.Ytaimphcjjoennaa
