/- Runs of dial.Off, part 5. -/
import Derived.Test.YtncfikkeagflkaaDo1
set_option linter.unusedSimpArgs false
set_option linter.unusedVariables false
namespace Go.Proofs.Ytncfikkeagflkaa
open Abs Sx
set_option maxRecDepth 100000
namespace Dd
theorem ro12_0 (a b c : Bool) : runP0 Try.prog R0 [] (pOfM [1, 2] 0) 400 [a, b, c] = oOf [1, 2] 0 oTree := by kernel_rfl
theorem o12_0 {fn : Nat → List Int → Int} : (pOfM [1, 2] 0).Ok Try.prog fn := pOfM_ok fun es e => match es, e with | [a, b, c], _ => ro12_0 a b c
theorem ro121_0 (a b c d : Bool) : runP0 Try.prog R0 [] (pOfM [1, 2, 1] 0) 400 [a, b, c, d] = oOf [1, 2, 1] 0 oTree := by kernel_rfl
theorem o121_0 {fn : Nat → List Int → Int} : (pOfM [1, 2, 1] 0).Ok Try.prog fn := pOfM_ok fun es e => match es, e with | [a, b, c, d], _ => ro121_0 a b c d
theorem ro221_0 (a b c d : Bool) : runP0 Try.prog R0 [] (pOfM [2, 2, 1] 0) 400 [a, b, c, d] = oOf [2, 2, 1] 0 oTree := by kernel_rfl
theorem o221_0 {fn : Nat → List Int → Int} : (pOfM [2, 2, 1] 0).Ok Try.prog fn := pOfM_ok fun es e => match es, e with | [a, b, c, d], _ => ro221_0 a b c d
end Dd
end Go.Proofs.Ytncfikkeagflkaa
