/- BeatExacts: the law, for clocks of 1 rods. -/
import Derived.Test.YtocjbjnfpldgcaaBm
import Derived.Test.YtocjbjnfpldgcaaBl1
import Derived.Test.YtocjbjnfpldgcaaBk1
import Derived.Test.YtocjbjnfpldgcaaBl2
import Derived.Test.YtocjbjnfpldgcaaBk2
import Derived.Test.YtocjbjnfpldgcaaBl3
import Derived.Test.YtocjbjnfpldgcaaBk3
import Derived.Test.YtocjbjnfpldgcaaBl4
import Derived.Test.YtocjbjnfpldgcaaBk4
set_option linter.unusedSimpArgs false
set_option linter.unusedVariables false
namespace Go.Proofs.Ytocjbjnfpldgcaa
open Abs Sx
set_option maxRecDepth 100000
namespace Be
theorem lawN1 (rods : List Rod) (grow : List Int) : (lawP (in12 ++ [eq (v 2) (lit 1), eq (v 8) (lit 1), eq errX (lit 0), .not ofX])).Ok Try.prog (fnB rods grow) := by
  refine un2 (l := [pExN 1, pSame, pChk, rChk, rOfb, pKnown]) (R := R0) (fuel := 200) (fun _ => .leaf (.bool (.lit 1))) prog_ok ⟨pExN1_ok _ _, pSame_ok _, pChk_ok _ _, rChk_ok _ _, rOfb_ok _ _, pKnown_ok _, trivial⟩ rfl (R0_ok _) rfl rfl ?h1 ?h2 ?h3 ?h4 ?_
  case h1 => kernel_rfl
  case h2 => kernel_rfl
  case h3 => kernel_rfl
  case h4 => kernel_rfl
  intro xs es hlen hpre hrw
  rfl
theorem lawB1 {rods : List Rod} {grow : List Int} (hall : AllOk rods grow) : (lawP (in12 ++ (preB 1 ++ ((List.range 1).flatMap rodB ++ [ofX])))).Ok Try.prog (fnB rods grow) := by
  refine un2 (l := [pExB 1, pSame, pChk, rChk, rOfb, rLen, rSum, rLow, pKnown]) (R := RV) (fuel := 200) (fun _ => .leaf (.bool (.lit 1))) prog_ok ⟨pExB1_ok hall, pSame_ok _, pChk_ok _ _, rChk_ok _ _, rOfb_ok _ _, rLen_ok _ _, rSum_ok _ _, rLow_ok _ _, pKnown_ok _, trivial⟩ rfl (RV_ok hall) rfl rfl ?h1 ?h2 ?h3 ?h4 ?_
  case h1 => kernel_rfl
  case h2 => kernel_rfl
  case h3 => kernel_rfl
  case h4 => kernel_rfl
  intro xs es hlen hpre hrw
  rfl
end Be
end Go.Proofs.Ytocjbjnfpldgcaa

/- BeatExacts: the law, for clocks of 2 rods. -/
namespace Go.Proofs.Ytocjbjnfpldgcaa
open Abs Sx
set_option maxRecDepth 100000
namespace Be
theorem lawN2 (rods : List Rod) (grow : List Int) : (lawP (in12 ++ [eq (v 2) (lit 2), eq (v 8) (lit 2), eq errX (lit 0), .not ofX])).Ok Try.prog (fnB rods grow) := by
  refine un2 (l := [pExN 2, pSame, pChk, rChk, rOfb, pKnown]) (R := R0) (fuel := 200) (fun _ => .leaf (.bool (.lit 1))) prog_ok ⟨pExN2_ok _ _, pSame_ok _, pChk_ok _ _, rChk_ok _ _, rOfb_ok _ _, pKnown_ok _, trivial⟩ rfl (R0_ok _) rfl rfl ?h1 ?h2 ?h3 ?h4 ?_
  case h1 => kernel_rfl
  case h2 => kernel_rfl
  case h3 => kernel_rfl
  case h4 => kernel_rfl
  intro xs es hlen hpre hrw
  rfl
theorem lawB2 {rods : List Rod} {grow : List Int} (hall : AllOk rods grow) : (lawP (in12 ++ (preB 2 ++ ((List.range 2).flatMap rodB ++ [ofX])))).Ok Try.prog (fnB rods grow) := by
  refine un2 (l := [pExB 2, pSame, pChk, rChk, rOfb, rLen, rSum, rLow, pKnown]) (R := RV) (fuel := 200) (fun _ => .leaf (.bool (.lit 1))) prog_ok ⟨pExB2_ok hall, pSame_ok _, pChk_ok _ _, rChk_ok _ _, rOfb_ok _ _, rLen_ok _ _, rSum_ok _ _, rLow_ok _ _, pKnown_ok _, trivial⟩ rfl (RV_ok hall) rfl rfl ?h1 ?h2 ?h3 ?h4 ?_
  case h1 => kernel_rfl
  case h2 => kernel_rfl
  case h3 => kernel_rfl
  case h4 => kernel_rfl
  intro xs es hlen hpre hrw
  rfl
end Be
end Go.Proofs.Ytocjbjnfpldgcaa

/- BeatExacts: the law, for clocks of 3 rods. -/
namespace Go.Proofs.Ytocjbjnfpldgcaa
open Abs Sx
set_option maxRecDepth 100000
namespace Be
theorem lawN3 (rods : List Rod) (grow : List Int) : (lawP (in12 ++ [eq (v 2) (lit 3), eq (v 8) (lit 3), eq errX (lit 0), .not ofX])).Ok Try.prog (fnB rods grow) := by
  refine un2 (l := [pExN 3, pSame, pChk, rChk, rOfb, pKnown]) (R := R0) (fuel := 200) (fun _ => .leaf (.bool (.lit 1))) prog_ok ⟨pExN3_ok _ _, pSame_ok _, pChk_ok _ _, rChk_ok _ _, rOfb_ok _ _, pKnown_ok _, trivial⟩ rfl (R0_ok _) rfl rfl ?h1 ?h2 ?h3 ?h4 ?_
  case h1 => kernel_rfl
  case h2 => kernel_rfl
  case h3 => kernel_rfl
  case h4 => kernel_rfl
  intro xs es hlen hpre hrw
  rfl
theorem lawB3 {rods : List Rod} {grow : List Int} (hall : AllOk rods grow) : (lawP (in12 ++ (preB 3 ++ ((List.range 3).flatMap rodB ++ [ofX])))).Ok Try.prog (fnB rods grow) := by
  refine un2 (l := [pExB 3, pSame, pChk, rChk, rOfb, rLen, rSum, rLow, pKnown]) (R := RV) (fuel := 200) (fun _ => .leaf (.bool (.lit 1))) prog_ok ⟨pExB3_ok hall, pSame_ok _, pChk_ok _ _, rChk_ok _ _, rOfb_ok _ _, rLen_ok _ _, rSum_ok _ _, rLow_ok _ _, pKnown_ok _, trivial⟩ rfl (RV_ok hall) rfl rfl ?h1 ?h2 ?h3 ?h4 ?_
  case h1 => kernel_rfl
  case h2 => kernel_rfl
  case h3 => kernel_rfl
  case h4 => kernel_rfl
  intro xs es hlen hpre hrw
  rfl
end Be
end Go.Proofs.Ytocjbjnfpldgcaa

/- BeatExacts: the law, for clocks of 4 rods. -/
namespace Go.Proofs.Ytocjbjnfpldgcaa
open Abs Sx
set_option maxRecDepth 100000
namespace Be
theorem lawN4 (rods : List Rod) (grow : List Int) : (lawP (in12 ++ [eq (v 2) (lit 4), eq (v 8) (lit 4), eq errX (lit 0), .not ofX])).Ok Try.prog (fnB rods grow) := by
  refine un2 (l := [pExN 4, pSame, pChk, rChk, rOfb, pKnown]) (R := R0) (fuel := 200) (fun _ => .leaf (.bool (.lit 1))) prog_ok ⟨pExN4_ok _ _, pSame_ok _, pChk_ok _ _, rChk_ok _ _, rOfb_ok _ _, pKnown_ok _, trivial⟩ rfl (R0_ok _) rfl rfl ?h1 ?h2 ?h3 ?h4 ?_
  case h1 => kernel_rfl
  case h2 => kernel_rfl
  case h3 => kernel_rfl
  case h4 => kernel_rfl
  intro xs es hlen hpre hrw
  rfl
theorem lawB4 {rods : List Rod} {grow : List Int} (hall : AllOk rods grow) : (lawP (in12 ++ (preB 4 ++ ((List.range 4).flatMap rodB ++ [ofX])))).Ok Try.prog (fnB rods grow) := by
  refine un2 (l := [pExB 4, pSame, pChk, rChk, rOfb, rLen, rSum, rLow, pKnown]) (R := RV) (fuel := 200) (fun _ => .leaf (.bool (.lit 1))) prog_ok ⟨pExB4_ok hall, pSame_ok _, pChk_ok _ _, rChk_ok _ _, rOfb_ok _ _, rLen_ok _ _, rSum_ok _ _, rLow_ok _ _, pKnown_ok _, trivial⟩ rfl (RV_ok hall) rfl rfl ?h1 ?h2 ?h3 ?h4 ?_
  case h1 => kernel_rfl
  case h2 => kernel_rfl
  case h3 => kernel_rfl
  case h4 => kernel_rfl
  intro xs es hlen hpre hrw
  rfl
end Be
end Go.Proofs.Ytocjbjnfpldgcaa
