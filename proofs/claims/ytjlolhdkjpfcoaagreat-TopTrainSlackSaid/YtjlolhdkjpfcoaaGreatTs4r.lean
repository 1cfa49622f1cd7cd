/- TopTrainSlack: the run with three pairs. -/
import Derived.Test.YtjlolhdkjpfcoaaGreatTs4
set_option linter.unusedSimpArgs false
set_option linter.unusedVariables false
namespace Go.Proofs.YtjlolhdkjpfcoaaGreat
open Abs Sx Tg
set_option maxRecDepth 100000
namespace Ts
theorem run_3 : tlR Tryz.prog (cnt 3) rwV [facO] = tre 3 := by unfold tlR; kernel_rfl
end Ts
end Go.Proofs.YtjlolhdkjpfcoaaGreat
