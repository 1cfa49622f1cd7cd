/- BeatSteady: the law's runs, one to three rods. -/
import Derived.Test.YtgpdodkcfiefjaaY5
set_option linter.unusedSimpArgs false
set_option linter.unusedVariables false
namespace Go.Proofs.Ytgpdodkcfiefjaa
open Abs Sx
set_option maxRecDepth 100000
namespace Be
theorem run_st20 : stRun 2 (zK 2 0) [pClock 2] (rwV 0 0 4) [rodS] (tpN 2 0) = stT 2 0 := by unfold stRun; kernel_rfl
theorem run_st21 : stRun 2 (zK 2 1) [pClock 2] (rwV 0 0 4) [rodS] (tpN 2 1) = stT 2 1 := by unfold stRun; kernel_rfl
theorem run_st30 : stRun 3 (zK 3 0) [pClock 3] (rwV 0 0 4) [rodS] (tpN 3 0) = stT 3 0 := by unfold stRun; kernel_rfl
theorem run_st31 : stRun 3 (zK 3 1) [pClock 3] (rwV 0 0 4) [rodS] (tpN 3 1) = stT 3 1 := by unfold stRun; kernel_rfl
theorem run_st32 : stRun 3 (zK 3 2) [pClock 3] (rwV 0 0 4) [rodS] (tpN 3 2) = stT 3 2 := by unfold stRun; kernel_rfl
theorem run_st40 : stRun 4 (zK 4 0) [pClock 4] (rwV 0 0 4) [rodS] (tpN 4 0) = stT 4 0 := by unfold stRun; kernel_rfl
theorem run_st41 : stRun 4 (zK 4 1) [pClock 4] (rwV 0 0 4) [rodS] (tpN 4 1) = stT 4 1 := by unfold stRun; kernel_rfl
theorem run_st42 : stRun 4 (zK 4 2) [pClock 4] (rwV 0 0 4) [rodS] (tpN 4 2) = stT 4 2 := by unfold stRun; kernel_rfl
theorem run_st43 : stRun 4 (zK 4 3) [pClock 4] (rwV 0 0 4) [rodS] (tpN 4 3) = stT 4 3 := by unfold stRun; kernel_rfl
end Be
end Go.Proofs.Ytgpdodkcfiefjaa
