/- DropFewest: the runs, rows without bytes. -/
import Derived.Test.YtaimphcjjoennaaL3
set_option linter.unusedSimpArgs false
set_option linter.unusedVariables false
namespace Go.Proofs.Ytaimphcjjoennaa
open Abs Sx
set_option maxRecDepth 100000
namespace Dl
theorem run_znn : RunIs (tF [] cells0 (lit 0)) preZ (dots uses .nils .nils) [] treeZ := by unfold RunIs; kernel_rfl
theorem run_zns : RunIs (tF [] cells0 (lit 0)) preZ (dots uses .nils tru) [] treeZ := by unfold RunIs; kernel_rfl
theorem run_zsn : RunIs (tF [] cells0 (lit 0)) preZ (dots uses vis .nils) [] treeZ := by unfold RunIs; kernel_rfl
theorem run_zss : RunIs (tF [] cells0 (lit 0)) preZ (dots uses vis tru) [] treeZ := by unfold RunIs; kernel_rfl
end Dl
end Go.Proofs.Ytaimphcjjoennaa
