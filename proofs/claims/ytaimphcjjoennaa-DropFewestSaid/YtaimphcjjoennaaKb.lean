/- The evaluator: a call, from its pieces. -/
import Derived.KernelRfl
import Derived.Test.YtaimphcjjoennaaKbp0
import Derived.Test.YtaimphcjjoennaaKbp1
import Derived.Test.YtaimphcjjoennaaKbp2
import Derived.Test.YtaimphcjjoennaaKbp3
import Derived.Test.YtaimphcjjoennaaKbp4
import Derived.Test.YtaimphcjjoennaaKbp5
import Derived.Test.YtaimphcjjoennaaKbp6
import Derived.Test.YtaimphcjjoennaaKbp7
import Derived.Test.YtaimphcjjoennaaKbp8
import Derived.Test.YtaimphcjjoennaaKbp9
import Derived.Test.YtaimphcjjoennaaKbp10
import Derived.Test.YtaimphcjjoennaaKbs
set_option linter.unusedSimpArgs false
set_option linter.unusedVariables false
namespace Go.Proofs.Ytaimphcjjoennaa
open Abs Go.RowKit
set_option maxRecDepth 100000
theorem kblast : lastOk Try.prog 6 100000 154 (tailC (tailC (tailC (tailC (tailC (tailC (tailC (tailC (tailC (tailC (tailC (bodyOf Try.prog 6)))))))))))) kbs11 = true := by kernel_rfl
theorem kbbody : hasBody Try.prog 6 = true := by kernel_rfl
theorem kbtmps : tmpsCount Try.prog 6 = 154 := by kernel_rfl
theorem kbgood (hp : progOk Try.prog = true) (W : World) : Calls Try.prog 6 #[] W (fun e W' => e = .returned (.bool true) ∧ Below W.heap.size W W') := by
  refine good_call hp kbbody ?_ W
  rw [kbtmps]
  refine good_step hp kbq0 kbp0 ?_
  refine good_step hp kbq1 kbp1 ?_
  refine good_step hp kbq2 kbp2 ?_
  refine good_step hp kbq3 kbp3 ?_
  refine good_step hp kbq4 kbp4 ?_
  refine good_step hp kbq5 kbp5 ?_
  refine good_step hp kbq6 kbp6 ?_
  refine good_step hp kbq7 kbp7 ?_
  refine good_step hp kbq8 kbp8 ?_
  refine good_step hp kbq9 kbp9 ?_
  refine good_step hp kbq10 kbp10 ?_
  exact good_last hp kblast
end Go.Proofs.Ytaimphcjjoennaa
