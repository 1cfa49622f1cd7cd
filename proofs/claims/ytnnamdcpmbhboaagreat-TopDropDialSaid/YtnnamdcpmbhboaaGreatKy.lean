/- The evaluator: a call, from its pieces. -/
import Derived.KernelRfl
import Derived.Test.YtnnamdcpmbhboaaGreatKyp0
import Derived.Test.YtnnamdcpmbhboaaGreatKyp1
import Derived.Test.YtnnamdcpmbhboaaGreatKyp2
import Derived.Test.YtnnamdcpmbhboaaGreatKyp3
import Derived.Test.YtnnamdcpmbhboaaGreatKys
set_option linter.unusedSimpArgs false
set_option linter.unusedVariables false
namespace Go.Proofs.YtnnamdcpmbhboaaGreat
open Abs Go.RowKit
set_option maxRecDepth 100000
theorem kylast : lastOk Tryz.prog 10 100000 47 (tailC (tailC (tailC (tailC (bodyOf Tryz.prog 10))))) kys4 = true := by kernel_rfl
theorem kybody : hasBody Tryz.prog 10 = true := by kernel_rfl
theorem kytmps : tmpsCount Tryz.prog 10 = 47 := by kernel_rfl
theorem kygood (hp : progOk Tryz.prog = true) (W : World) : Calls Tryz.prog 10 #[] W (fun e W' => e = .returned (.bool true) ∧ Below W.heap.size W W') := by
  refine good_call hp kybody ?_ W
  rw [kytmps]
  refine good_step hp kyq0 kyp0 ?_
  refine good_step hp kyq1 kyp1 ?_
  refine good_step hp kyq2 kyp2 ?_
  refine good_step hp kyq3 kyp3 ?_
  exact good_last hp kylast
end Go.Proofs.YtnnamdcpmbhboaaGreat
