/- The evaluator: a call, from its pieces. -/
import Derived.KernelRfl
import Derived.Test.YtaimphcjjoennaaKtp0
import Derived.Test.YtaimphcjjoennaaKtp1
import Derived.Test.YtaimphcjjoennaaKtp2
import Derived.Test.YtaimphcjjoennaaKtp3
import Derived.Test.YtaimphcjjoennaaKts
set_option linter.unusedSimpArgs false
set_option linter.unusedVariables false
namespace Go.Proofs.Ytaimphcjjoennaa
open Abs Go.RowKit
set_option maxRecDepth 100000
theorem ktlast : lastOk Try.prog 17 100000 74 (tailC (tailC (tailC (tailC (bodyOf Try.prog 17))))) kts4 = true := by kernel_rfl
theorem ktbody : hasBody Try.prog 17 = true := by kernel_rfl
theorem kttmps : tmpsCount Try.prog 17 = 74 := by kernel_rfl
theorem ktgood (hp : progOk Try.prog = true) (W : World) : Calls Try.prog 17 #[] W (fun e W' => e = .returned (.bool true) ∧ Below W.heap.size W W') := by
  refine good_call hp ktbody ?_ W
  rw [kttmps]
  refine good_step hp ktq0 ktp0 ?_
  refine good_step hp ktq1 ktp1 ?_
  refine good_step hp ktq2 ktp2 ?_
  refine good_step hp ktq3 ktp3 ?_
  exact good_last hp ktlast
end Go.Proofs.Ytaimphcjjoennaa
