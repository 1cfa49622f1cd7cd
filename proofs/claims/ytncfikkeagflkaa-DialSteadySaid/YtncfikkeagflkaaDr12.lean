/- Runs of dial.Off, part 12. -/
import Derived.Test.YtncfikkeagflkaaDo1
set_option linter.unusedSimpArgs false
set_option linter.unusedVariables false
namespace Go.Proofs.Ytncfikkeagflkaa
open Abs Sx
set_option maxRecDepth 100000
namespace Dd
theorem ro111_1 (a b c d : Bool) : runP0 Try.prog R0 [] (pOfM [1, 1, 1] 1) 400 [a, b, c, d] = oOf [1, 1, 1] 1 oTree := by kernel_rfl
theorem o111_1 {fn : Nat → List Int → Int} : (pOfM [1, 1, 1] 1).Ok Try.prog fn := pOfM_ok fun es e => match es, e with | [a, b, c, d], _ => ro111_1 a b c d
theorem ro211_1 (a b c d : Bool) : runP0 Try.prog R0 [] (pOfM [2, 1, 1] 1) 400 [a, b, c, d] = oOf [2, 1, 1] 1 oTree := by kernel_rfl
theorem o211_1 {fn : Nat → List Int → Int} : (pOfM [2, 1, 1] 1).Ok Try.prog fn := pOfM_ok fun es e => match es, e with | [a, b, c, d], _ => ro211_1 a b c d
end Dd
end Go.Proofs.Ytncfikkeagflkaa
