/- DropFewest: the runs, rows of bytes. -/
import Derived.Test.YtaimphcjjoennaaL3
set_option linter.unusedSimpArgs false
set_option linter.unusedVariables false
namespace Go.Proofs.Ytaimphcjjoennaa
open Abs Sx
set_option maxRecDepth 100000
namespace Dl
theorem run_rnn : RunIs (tF obR cellsR needR) preR (dots uses .nils .nils) obR treeR := by unfold RunIs; kernel_rfl
theorem run_rns : RunIs (tF obR cellsR needR) preR (dots uses .nils tru) obR treeR := by unfold RunIs; kernel_rfl
theorem run_rsn : RunIs (tF obR cellsR needR) preR (dots uses vis .nils) obR treeR := by unfold RunIs; kernel_rfl
theorem run_rss : RunIs (tF obR cellsR needR) preR (dots uses vis tru) obR treeR := by unfold RunIs; kernel_rfl
end Dl
end Go.Proofs.Ytaimphcjjoennaa
