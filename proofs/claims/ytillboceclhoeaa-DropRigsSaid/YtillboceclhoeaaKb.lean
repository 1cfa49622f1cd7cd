/- The evaluator: a call, from its pieces. -/
import Derived.KernelRfl
import Derived.Test.YtillboceclhoeaaKbp0
import Derived.Test.YtillboceclhoeaaKbp1
import Derived.Test.YtillboceclhoeaaKbp2
import Derived.Test.YtillboceclhoeaaKbp3
import Derived.Test.YtillboceclhoeaaKbp4
import Derived.Test.YtillboceclhoeaaKbp5
import Derived.Test.YtillboceclhoeaaKbp6
import Derived.Test.YtillboceclhoeaaKbp7
import Derived.Test.YtillboceclhoeaaKbp8
import Derived.Test.YtillboceclhoeaaKbp9
import Derived.Test.YtillboceclhoeaaKbp10
import Derived.Test.YtillboceclhoeaaKbs
namespace Go.Proofs.Ytillboceclhoeaa
open Abs Go.RowKit
set_option maxRecDepth 100000
theorem kblast : lastOk Try.prog 14 100000 154 (tailC (tailC (tailC (tailC (tailC (tailC (tailC (tailC (tailC (tailC (tailC (bodyOf Try.prog 14)))))))))))) kbs11 = true := by kernel_rfl
theorem kbbody : hasBody Try.prog 14 = true := by kernel_rfl
theorem kbtmps : tmpsCount Try.prog 14 = 154 := by kernel_rfl
theorem kbgood (hp : progOk Try.prog = true) (W : World) : Calls Try.prog 14 #[] W (fun e W' => e = .returned (.bool true) ∧ Below W.heap.size W W') := by
  refine good_call hp kbbody ?_ W
  rw [kbtmps]
  refine good_step hp kbq0 kbp0 ?_
  refine good_step hp kbq1 kbp1 ?_
  refine good_step hp kbq2 kbp2 ?_
  refine good_step hp kbq3 kbp3 ?_
  refine good_step hp kbq4 kbp4 ?_
  refine good_step hp kbq5 kbp5 ?_
  refine good_step hp kbq6 kbp6 ?_
  refine good_step hp kbq7 kbp7 ?_
  refine good_step hp kbq8 kbp8 ?_
  refine good_step hp kbq9 kbp9 ?_
  refine good_step hp kbq10 kbp10 ?_
  exact good_last hp kblast
end Go.Proofs.Ytillboceclhoeaa
