/- Exact of clocks whose rods, and of truths whose growing, are written out. -/
import Derived.Test.YtgpdodkcfiefjaaQ4
set_option linter.unusedSimpArgs false
set_option linter.unusedVariables false
namespace Go.Proofs.Ytgpdodkcfiefjaa
open Abs Sx
set_option maxRecDepth 100000
namespace Be
theorem pExL4_ok (rods : List Rod) (grow : List Int) : (pExL 4).Ok Try.prog (fnB rods grow) := by
  refine un2 (l := [pChkL 4, pSpan, pLow, pLenL 4, pLowest, pPlus1, pTimes1, pScaled1]) (R := RL) (fuel := 400) (fun _ => exLO 4) prog_ok ⟨pChkL4_ok _ _, pSpan_ok _, pLow_ok _, pLenL4_ok _ _, pLowest_ok _ _, pPlus1_ok _, pTimes1_ok _, pScaled1_ok _, trivial⟩ rfl (RL_ok _ _) rfl rfl ?h1 ?h2 ?h3 ?h4 ?_
  case h1 => kernel_rfl
  case h2 => kernel_rfl
  case h3 => kernel_rfl
  case h4 => kernel_rfl
  intro xs es hlen hpre hrw
  exact rfl
end Be
end Go.Proofs.Ytgpdodkcfiefjaa
