/- The evaluator: a call, from its pieces. -/
import Derived.KernelRfl
import Derived.Test.YtekmmeikkafpmaaGreatKwp0
import Derived.Test.YtekmmeikkafpmaaGreatKwp1
import Derived.Test.YtekmmeikkafpmaaGreatKwp2
import Derived.Test.YtekmmeikkafpmaaGreatKwp3
import Derived.Test.YtekmmeikkafpmaaGreatKwp4
import Derived.Test.YtekmmeikkafpmaaGreatKws
set_option linter.unusedSimpArgs false
set_option linter.unusedVariables false
namespace Go.Proofs.YtekmmeikkafpmaaGreat
open Abs Go.RowKit
set_option maxRecDepth 100000
theorem kwlast : lastOk Tryz.prog 5 100000 54 (tailC (tailC (tailC (tailC (tailC (bodyOf Tryz.prog 5)))))) kws5 = true := by kernel_rfl
theorem kwbody : hasBody Tryz.prog 5 = true := by kernel_rfl
theorem kwtmps : tmpsCount Tryz.prog 5 = 54 := by kernel_rfl
theorem kwgood (hp : progOk Tryz.prog = true) (W : World) : Calls Tryz.prog 5 #[] W (fun e W' => e = .returned (.bool true) ∧ Below W.heap.size W W') := by
  refine good_call hp kwbody ?_ W
  rw [kwtmps]
  refine good_step hp kwq0 kwp0 ?_
  refine good_step hp kwq1 kwp1 ?_
  refine good_step hp kwq2 kwp2 ?_
  refine good_step hp kwq3 kwp3 ?_
  refine good_step hp kwq4 kwp4 ?_
  exact good_last hp kwlast
end Go.Proofs.YtekmmeikkafpmaaGreat
