/- DialSteady: runs of the law, part 3. -/
import Derived.Test.YtncfikkeagflkaaDs1
set_option linter.unusedSimpArgs false
set_option linter.unusedVariables false
namespace Go.Proofs.Ytncfikkeagflkaa
open Abs Sx
set_option maxRecDepth 100000
namespace Dd
theorem n11_0 (t : SV) : dsR Try.prog [(pOfM [1, 1] 0).toN, pKn4.toN] (zF 2 0 [false, false]) rwV t [facO] = dsV 2 0 [false, false] := by unfold dsR; kernel_rfl
theorem n111_0 (t : SV) : dsR Try.prog [(pOfM [1, 1, 1] 0).toN, pKn4.toN] (zF 3 0 [false, false, false]) rwV t [facO] = dsV 3 0 [false, false, false] := by unfold dsR; kernel_rfl
theorem n121_2 (t : SV) : dsR Try.prog [(pOfM [1, 2, 1] 2).toN, pKn4.toN] (zF 3 2 [false, true, false]) rwV t [facO] = dsV 3 2 [false, true, false] := by unfold dsR; kernel_rfl
theorem n212_1 (t : SV) : dsR Try.prog [(pOfM [2, 1, 2] 1).toN, pKn4.toN] (zF 3 1 [true, false, true]) rwV t [facO] = dsV 3 1 [true, false, true] := by unfold dsR; kernel_rfl
end Dd
end Go.Proofs.Ytncfikkeagflkaa
