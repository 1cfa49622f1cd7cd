/- Runs of dial.Off, part 1. -/
import Derived.Test.YtncfikkeagflkaaDo1
set_option linter.unusedSimpArgs false
set_option linter.unusedVariables false
namespace Go.Proofs.Ytncfikkeagflkaa
open Abs Sx
set_option maxRecDepth 100000
namespace Dd
theorem ro1_0 (a b : Bool) : runP0 Try.prog R0 [] (pOfM [1] 0) 400 [a, b] = oOf [1] 0 oTree := by kernel_rfl
theorem o1_0 {fn : Nat → List Int → Int} : (pOfM [1] 0).Ok Try.prog fn := pOfM_ok fun es e => match es, e with | [a, b], _ => ro1_0 a b
theorem ro111_2 (a b c d : Bool) : runP0 Try.prog R0 [] (pOfM [1, 1, 1] 2) 400 [a, b, c, d] = oOf [1, 1, 1] 2 oTree := by kernel_rfl
theorem o111_2 {fn : Nat → List Int → Int} : (pOfM [1, 1, 1] 2).Ok Try.prog fn := pOfM_ok fun es e => match es, e with | [a, b, c, d], _ => ro111_2 a b c d
theorem ro211_2 (a b c d : Bool) : runP0 Try.prog R0 [] (pOfM [2, 1, 1] 2) 400 [a, b, c, d] = oOf [2, 1, 1] 2 oTree := by kernel_rfl
theorem o211_2 {fn : Nat → List Int → Int} : (pOfM [2, 1, 1] 2).Ok Try.prog fn := pOfM_ok fun es e => match es, e with | [a, b, c, d], _ => ro211_2 a b c d
end Dd
end Go.Proofs.Ytncfikkeagflkaa
