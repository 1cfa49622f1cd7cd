/- DialSteady: runs of the law, part 2. -/
import Derived.Test.YtncfikkeagflkaaDs1
set_option linter.unusedSimpArgs false
set_option linter.unusedVariables false
namespace Go.Proofs.Ytncfikkeagflkaa
open Abs Sx
set_option maxRecDepth 100000
namespace Dd
theorem n2_0 (t : SV) : dsR Try.prog [(pOfM [2] 0).toN, pKn4.toN] (zF 1 0 [true]) rwV t [facO] = dsV 1 0 [true] := by unfold dsR; kernel_rfl
theorem n22_1 (t : SV) : dsR Try.prog [(pOfM [2, 2] 1).toN, pKn4.toN] (zF 2 1 [true, true]) rwV t [facO] = dsV 2 1 [true, true] := by unfold dsR; kernel_rfl
theorem n121_1 (t : SV) : dsR Try.prog [(pOfM [1, 2, 1] 1).toN, pKn4.toN] (zF 3 1 [false, true, false]) rwV t [facO] = dsV 3 1 [false, true, false] := by unfold dsR; kernel_rfl
theorem n212_0 (t : SV) : dsR Try.prog [(pOfM [2, 1, 2] 0).toN, pKn4.toN] (zF 3 0 [true, false, true]) rwV t [facO] = dsV 3 0 [true, false, true] := by unfold dsR; kernel_rfl
theorem n222_2 (t : SV) : dsR Try.prog [(pOfM [2, 2, 2] 2).toN, pKn4.toN] (zF 3 2 [true, true, true]) rwV t [facO] = dsV 3 2 [true, true, true] := by unfold dsR; kernel_rfl
end Dd
end Go.Proofs.Ytncfikkeagflkaa
