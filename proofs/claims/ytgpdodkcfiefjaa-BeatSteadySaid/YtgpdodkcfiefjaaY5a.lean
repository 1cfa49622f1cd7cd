/- BeatSteady: the law's runs, no rods. -/
import Derived.Test.YtgpdodkcfiefjaaY5
set_option linter.unusedSimpArgs false
set_option linter.unusedVariables false
namespace Go.Proofs.Ytgpdodkcfiefjaa
open Abs Sx
set_option maxRecDepth 100000
namespace Be
theorem run_st1na : stRun 1 z1a [] .nils [] (tp1 c1a []) = st1a := by unfold stRun; kernel_rfl
theorem run_st1nb : stRun 1 z1b [] .nils [] (tp1 c1b []) = st1b := by unfold stRun; kernel_rfl
theorem run_st1nc : stRun 1 z1c [] .nils [] (tp1 c1c []) = st1c := by unfold stRun; kernel_rfl
theorem run_st1fa : stRun 1 z1a [] (frV 0 4) [] (tp1 c1a []) = st1a := by unfold stRun; kernel_rfl
theorem run_st1fb : stRun 1 z1b [] (frV 0 4) [] (tp1 c1b []) = st1b := by unfold stRun; kernel_rfl
theorem run_st1fc : stRun 1 z1c [] (frV 0 4) [] (tp1 c1c []) = st1c := by unfold stRun; kernel_rfl
theorem run_st1ra : stRun 1 z1a [] (rwV 0 0 4) [rodS] (tp1 c1a [rodS]) = st1a := by unfold stRun; kernel_rfl
theorem run_st1rb : stRun 1 z1b [] (rwV 0 0 4) [rodS] (tp1 c1b [rodS]) = st1b := by unfold stRun; kernel_rfl
theorem run_st1rc : stRun 1 z1c [] (rwV 0 0 4) [rodS] (tp1 c1c [rodS]) = st1c := by unfold stRun; kernel_rfl
end Be
end Go.Proofs.Ytgpdodkcfiefjaa
