/- DropFewest: the runs, no row. -/
import Derived.Test.YtaimphcjjoennaaL3
set_option linter.unusedSimpArgs false
set_option linter.unusedVariables false
namespace Go.Proofs.Ytaimphcjjoennaa
open Abs Sx
set_option maxRecDepth 100000
namespace Dl
theorem run_nnn : RunIs (tF [] cells0 (lit 0)) bPre (dots .nils .nils .nils) [] treeZ := by unfold RunIs; kernel_rfl
theorem run_nns : RunIs (tF [] cells0 (lit 0)) bPre (dots .nils .nils tru) [] treeZ := by unfold RunIs; kernel_rfl
theorem run_nsn : RunIs (tF [] cells0 (lit 0)) bPre (dots .nils vis .nils) [] treeZ := by unfold RunIs; kernel_rfl
theorem run_nss : RunIs (tF [] cells0 (lit 0)) bPre (dots .nils vis tru) [] treeZ := by unfold RunIs; kernel_rfl
end Dl
end Go.Proofs.Ytaimphcjjoennaa
