/- DialSteady: the law where no face comes in. -/
import Derived.Test.YtncfikkeagflkaaDs1
set_option linter.unusedSimpArgs false
set_option linter.unusedVariables false
namespace Go.Proofs.Ytncfikkeagflkaa
open Abs Sx
set_option maxRecDepth 100000
namespace Dd
def frV : SV := .slice 0 0 (lit 0) (lit 0) (lit 0) 6 true
theorem run_nil (t : SV) : dsR Try.prog [(pOfM [1] 0).toN, pKn4.toN] [] .nils t [] = dsT := by unfold dsR; kernel_rfl
theorem run_free (t : SV) : dsR Try.prog [(pOfM [1] 0).toN, pKn4.toN] [] frV t [] = dsT := by unfold dsR; kernel_rfl
theorem run_zero (t : SV) : dsR Try.prog [(pOfM [1] 0).toN, pKn4.toN] [eq (v 4) (lit 0)] rwV t [facO] = dsT := by unfold dsR; kernel_rfl
end Dd
end Go.Proofs.Ytncfikkeagflkaa
