/- The evaluator: a call, from its pieces. -/
import Derived.KernelRfl
import Derived.Test.YtanmiffgmiikfaaGreatKyp0
import Derived.Test.YtanmiffgmiikfaaGreatKyp1
import Derived.Test.YtanmiffgmiikfaaGreatKyp2
import Derived.Test.YtanmiffgmiikfaaGreatKyp3
import Derived.Test.YtanmiffgmiikfaaGreatKys
set_option linter.unusedSimpArgs false
set_option linter.unusedVariables false
namespace Go.Proofs.YtanmiffgmiikfaaGreat
open Abs Go.RowKit
set_option maxRecDepth 100000
theorem kylast : lastOk Tryz.prog 8 100000 47 (tailC (tailC (tailC (tailC (bodyOf Tryz.prog 8))))) kys4 = true := by kernel_rfl
theorem kybody : hasBody Tryz.prog 8 = true := by kernel_rfl
theorem kytmps : tmpsCount Tryz.prog 8 = 47 := by kernel_rfl
theorem kygood (hp : progOk Tryz.prog = true) (W : World) : Calls Tryz.prog 8 #[] W (fun e W' => e = .returned (.bool true) ∧ Below W.heap.size W W') := by
  refine good_call hp kybody ?_ W
  rw [kytmps]
  refine good_step hp kyq0 kyp0 ?_
  refine good_step hp kyq1 kyp1 ?_
  refine good_step hp kyq2 kyp2 ?_
  refine good_step hp kyq3 kyp3 ?_
  exact good_last hp kylast
end Go.Proofs.YtanmiffgmiikfaaGreat
