/- The evaluator: a call, from its pieces. -/
import Derived.KernelRfl
import Derived.Test.YtjlolhdkjpfcoaaGreatKtp0
import Derived.Test.YtjlolhdkjpfcoaaGreatKtp1
import Derived.Test.YtjlolhdkjpfcoaaGreatKtp2
import Derived.Test.YtjlolhdkjpfcoaaGreatKtp3
import Derived.Test.YtjlolhdkjpfcoaaGreatKts
set_option linter.unusedSimpArgs false
set_option linter.unusedVariables false
namespace Go.Proofs.YtjlolhdkjpfcoaaGreat
open Abs Go.RowKit
set_option maxRecDepth 100000
theorem ktlast : lastOk Tryz.prog 8 100000 74 (tailC (tailC (tailC (tailC (bodyOf Tryz.prog 8))))) kts4 = true := by kernel_rfl
theorem ktbody : hasBody Tryz.prog 8 = true := by kernel_rfl
theorem kttmps : tmpsCount Tryz.prog 8 = 74 := by kernel_rfl
theorem ktgood (hp : progOk Tryz.prog = true) (W : World) : Calls Tryz.prog 8 #[] W (fun e W' => e = .returned (.bool true) ∧ Below W.heap.size W W') := by
  refine good_call hp ktbody ?_ W
  rw [kttmps]
  refine good_step hp ktq0 ktp0 ?_
  refine good_step hp ktq1 ktp1 ?_
  refine good_step hp ktq2 ktp2 ?_
  refine good_step hp ktq3 ktp3 ?_
  exact good_last hp ktlast
end Go.Proofs.YtjlolhdkjpfcoaaGreat
