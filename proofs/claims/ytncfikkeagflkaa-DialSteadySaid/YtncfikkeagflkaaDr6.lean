/- Runs of dial.Off, part 6. -/
import Derived.Test.YtncfikkeagflkaaDo1
set_option linter.unusedSimpArgs false
set_option linter.unusedVariables false
namespace Go.Proofs.Ytncfikkeagflkaa
open Abs Sx
set_option maxRecDepth 100000
namespace Dd
theorem ro12_1 (a b c : Bool) : runP0 Try.prog R0 [] (pOfM [1, 2] 1) 400 [a, b, c] = oOf [1, 2] 1 oTree := by kernel_rfl
theorem o12_1 {fn : Nat → List Int → Int} : (pOfM [1, 2] 1).Ok Try.prog fn := pOfM_ok fun es e => match es, e with | [a, b, c], _ => ro12_1 a b c
theorem ro121_1 (a b c d : Bool) : runP0 Try.prog R0 [] (pOfM [1, 2, 1] 1) 400 [a, b, c, d] = oOf [1, 2, 1] 1 oTree := by kernel_rfl
theorem o121_1 {fn : Nat → List Int → Int} : (pOfM [1, 2, 1] 1).Ok Try.prog fn := pOfM_ok fun es e => match es, e with | [a, b, c, d], _ => ro121_1 a b c d
theorem ro221_1 (a b c d : Bool) : runP0 Try.prog R0 [] (pOfM [2, 2, 1] 1) 400 [a, b, c, d] = oOf [2, 2, 1] 1 oTree := by kernel_rfl
theorem o221_1 {fn : Nat → List Int → Int} : (pOfM [2, 2, 1] 1).Ok Try.prog fn := pOfM_ok fun es e => match es, e with | [a, b, c, d], _ => ro221_1 a b c d
end Dd
end Go.Proofs.Ytncfikkeagflkaa
