/- DialSteady: runs of the law, part 6. -/
import Derived.Test.YtncfikkeagflkaaDs1
set_option linter.unusedSimpArgs false
set_option linter.unusedVariables false
namespace Go.Proofs.Ytncfikkeagflkaa
open Abs Sx
set_option maxRecDepth 100000
namespace Dd
theorem n12_1 (t : SV) : dsR Try.prog [(pOfM [1, 2] 1).toN, pKn4.toN] (zF 2 1 [false, true]) rwV t [facO] = dsV 2 1 [false, true] := by unfold dsR; kernel_rfl
theorem n112_0 (t : SV) : dsR Try.prog [(pOfM [1, 1, 2] 0).toN, pKn4.toN] (zF 3 0 [false, false, true]) rwV t [facO] = dsV 3 0 [false, false, true] := by unfold dsR; kernel_rfl
theorem n122_2 (t : SV) : dsR Try.prog [(pOfM [1, 2, 2] 2).toN, pKn4.toN] (zF 3 2 [false, true, true]) rwV t [facO] = dsV 3 2 [false, true, true] := by unfold dsR; kernel_rfl
theorem n221_1 (t : SV) : dsR Try.prog [(pOfM [2, 2, 1] 1).toN, pKn4.toN] (zF 3 1 [true, true, false]) rwV t [facO] = dsV 3 1 [true, true, false] := by unfold dsR; kernel_rfl
end Dd
end Go.Proofs.Ytncfikkeagflkaa
