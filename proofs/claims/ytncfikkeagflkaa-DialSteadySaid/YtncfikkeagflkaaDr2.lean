/- Runs of dial.Off, part 2. -/
import Derived.Test.YtncfikkeagflkaaDo1
set_option linter.unusedSimpArgs false
set_option linter.unusedVariables false
namespace Go.Proofs.Ytncfikkeagflkaa
open Abs Sx
set_option maxRecDepth 100000
namespace Dd
theorem ro2_0 (a b : Bool) : runP0 Try.prog R0 [] (pOfM [2] 0) 400 [a, b] = oOf [2] 0 oTree := by kernel_rfl
theorem o2_0 {fn : Nat → List Int → Int} : (pOfM [2] 0).Ok Try.prog fn := pOfM_ok fun es e => match es, e with | [a, b], _ => ro2_0 a b
theorem ro112_0 (a b c d : Bool) : runP0 Try.prog R0 [] (pOfM [1, 1, 2] 0) 400 [a, b, c, d] = oOf [1, 1, 2] 0 oTree := by kernel_rfl
theorem o112_0 {fn : Nat → List Int → Int} : (pOfM [1, 1, 2] 0).Ok Try.prog fn := pOfM_ok fun es e => match es, e with | [a, b, c, d], _ => ro112_0 a b c d
theorem ro212_0 (a b c d : Bool) : runP0 Try.prog R0 [] (pOfM [2, 1, 2] 0) 400 [a, b, c, d] = oOf [2, 1, 2] 0 oTree := by kernel_rfl
theorem o212_0 {fn : Nat → List Int → Int} : (pOfM [2, 1, 2] 0).Ok Try.prog fn := pOfM_ok fun es e => match es, e with | [a, b, c, d], _ => ro212_0 a b c d
end Dd
end Go.Proofs.Ytncfikkeagflkaa
