/- DialSteady: runs of the law, part 4. -/
import Derived.Test.YtncfikkeagflkaaDs1
set_option linter.unusedSimpArgs false
set_option linter.unusedVariables false
namespace Go.Proofs.Ytncfikkeagflkaa
open Abs Sx
set_option maxRecDepth 100000
namespace Dd
theorem n11_1 (t : SV) : dsR Try.prog [(pOfM [1, 1] 1).toN, pKn4.toN] (zF 2 1 [false, false]) rwV t [facO] = dsV 2 1 [false, false] := by unfold dsR; kernel_rfl
theorem n111_1 (t : SV) : dsR Try.prog [(pOfM [1, 1, 1] 1).toN, pKn4.toN] (zF 3 1 [false, false, false]) rwV t [facO] = dsV 3 1 [false, false, false] := by unfold dsR; kernel_rfl
theorem n122_0 (t : SV) : dsR Try.prog [(pOfM [1, 2, 2] 0).toN, pKn4.toN] (zF 3 0 [false, true, true]) rwV t [facO] = dsV 3 0 [false, true, true] := by unfold dsR; kernel_rfl
theorem n212_2 (t : SV) : dsR Try.prog [(pOfM [2, 1, 2] 2).toN, pKn4.toN] (zF 3 2 [true, false, true]) rwV t [facO] = dsV 3 2 [true, false, true] := by unfold dsR; kernel_rfl
end Dd
end Go.Proofs.Ytncfikkeagflkaa
