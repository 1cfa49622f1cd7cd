/- Runs of dial.Off, part 4. -/
import Derived.Test.YtncfikkeagflkaaDo1
set_option linter.unusedSimpArgs false
set_option linter.unusedVariables false
namespace Go.Proofs.Ytncfikkeagflkaa
open Abs Sx
set_option maxRecDepth 100000
namespace Dd
theorem ro11_1 (a b c : Bool) : runP0 Try.prog R0 [] (pOfM [1, 1] 1) 400 [a, b, c] = oOf [1, 1] 1 oTree := by kernel_rfl
theorem o11_1 {fn : Nat → List Int → Int} : (pOfM [1, 1] 1).Ok Try.prog fn := pOfM_ok fun es e => match es, e with | [a, b, c], _ => ro11_1 a b c
theorem ro112_2 (a b c d : Bool) : runP0 Try.prog R0 [] (pOfM [1, 1, 2] 2) 400 [a, b, c, d] = oOf [1, 1, 2] 2 oTree := by kernel_rfl
theorem o112_2 {fn : Nat → List Int → Int} : (pOfM [1, 1, 2] 2).Ok Try.prog fn := pOfM_ok fun es e => match es, e with | [a, b, c, d], _ => ro112_2 a b c d
theorem ro212_2 (a b c d : Bool) : runP0 Try.prog R0 [] (pOfM [2, 1, 2] 2) 400 [a, b, c, d] = oOf [2, 1, 2] 2 oTree := by kernel_rfl
theorem o212_2 {fn : Nat → List Int → Int} : (pOfM [2, 1, 2] 2).Ok Try.prog fn := pOfM_ok fun es e => match es, e with | [a, b, c, d], _ => ro212_2 a b c d
end Dd
end Go.Proofs.Ytncfikkeagflkaa
