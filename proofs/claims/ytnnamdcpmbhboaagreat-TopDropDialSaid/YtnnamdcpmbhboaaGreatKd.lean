/- The evaluator: a call, from its pieces. -/
import Derived.KernelRfl
import Derived.Test.YtnnamdcpmbhboaaGreatKdp0
import Derived.Test.YtnnamdcpmbhboaaGreatKdp1
import Derived.Test.YtnnamdcpmbhboaaGreatKdp2
import Derived.Test.YtnnamdcpmbhboaaGreatKdp3
import Derived.Test.YtnnamdcpmbhboaaGreatKdp4
import Derived.Test.YtnnamdcpmbhboaaGreatKds
set_option linter.unusedSimpArgs false
set_option linter.unusedVariables false
namespace Go.Proofs.YtnnamdcpmbhboaaGreat
open Abs Go.RowKit
set_option maxRecDepth 100000
theorem kdlast : lastOk Tryz.prog 16 100000 23 (tailC (tailC (tailC (tailC (tailC (bodyOf Tryz.prog 16)))))) kds5 = true := by kernel_rfl
theorem kdbody : hasBody Tryz.prog 16 = true := by kernel_rfl
theorem kdtmps : tmpsCount Tryz.prog 16 = 23 := by kernel_rfl
theorem kdgood (hp : progOk Tryz.prog = true) (W : World) : Calls Tryz.prog 16 #[] W (fun e W' => e = .returned (.bool true) ∧ Below W.heap.size W W') := by
  refine good_call hp kdbody ?_ W
  rw [kdtmps]
  refine good_step hp kdq0 kdp0 ?_
  refine good_step hp kdq1 kdp1 ?_
  refine good_step hp kdq2 kdp2 ?_
  refine good_step hp kdq3 kdp3 ?_
  refine good_step hp kdq4 kdp4 ?_
  exact good_last hp kdlast
end Go.Proofs.YtnnamdcpmbhboaaGreat
