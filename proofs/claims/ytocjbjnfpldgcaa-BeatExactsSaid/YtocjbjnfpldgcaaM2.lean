/- BeatExacts: the law, for clocks of 5 rods. -/
import Derived.Test.YtocjbjnfpldgcaaBm
import Derived.Test.YtocjbjnfpldgcaaBl5
import Derived.Test.YtocjbjnfpldgcaaBk5
import Derived.Test.YtocjbjnfpldgcaaBl6
import Derived.Test.YtocjbjnfpldgcaaBk6
import Derived.Test.YtocjbjnfpldgcaaBl7
import Derived.Test.YtocjbjnfpldgcaaBk7
import Derived.Test.YtocjbjnfpldgcaaBl8
import Derived.Test.YtocjbjnfpldgcaaBk8
set_option linter.unusedSimpArgs false
set_option linter.unusedVariables false
namespace Go.Proofs.Ytocjbjnfpldgcaa
open Abs Sx
set_option maxRecDepth 100000
namespace Be
theorem lawN5 (rods : List Rod) (grow : List Int) : (lawP (in12 ++ [eq (v 2) (lit 5), eq (v 8) (lit 5), eq errX (lit 0), .not ofX])).Ok Try.prog (fnB rods grow) := by
  refine un2 (l := [pExN 5, pSame, pChk, rChk, rOfb, pKnown]) (R := R0) (fuel := 200) (fun _ => .leaf (.bool (.lit 1))) prog_ok ⟨pExN5_ok _ _, pSame_ok _, pChk_ok _ _, rChk_ok _ _, rOfb_ok _ _, pKnown_ok _, trivial⟩ rfl (R0_ok _) rfl rfl ?h1 ?h2 ?h3 ?h4 ?_
  case h1 => kernel_rfl
  case h2 => kernel_rfl
  case h3 => kernel_rfl
  case h4 => kernel_rfl
  intro xs es hlen hpre hrw
  rfl
theorem lawB5 {rods : List Rod} {grow : List Int} (hall : AllOk rods grow) : (lawP (in12 ++ (preB 5 ++ ((List.range 5).flatMap rodB ++ [ofX])))).Ok Try.prog (fnB rods grow) := by
  refine un2 (l := [pExB 5, pSame, pChk, rChk, rOfb, rLen, rSum, rLow, pKnown]) (R := RV) (fuel := 200) (fun _ => .leaf (.bool (.lit 1))) prog_ok ⟨pExB5_ok hall, pSame_ok _, pChk_ok _ _, rChk_ok _ _, rOfb_ok _ _, rLen_ok _ _, rSum_ok _ _, rLow_ok _ _, pKnown_ok _, trivial⟩ rfl (RV_ok hall) rfl rfl ?h1 ?h2 ?h3 ?h4 ?_
  case h1 => kernel_rfl
  case h2 => kernel_rfl
  case h3 => kernel_rfl
  case h4 => kernel_rfl
  intro xs es hlen hpre hrw
  rfl
end Be
end Go.Proofs.Ytocjbjnfpldgcaa

/- BeatExacts: the law, for clocks of 6 rods. -/
namespace Go.Proofs.Ytocjbjnfpldgcaa
open Abs Sx
set_option maxRecDepth 100000
namespace Be
theorem lawN6 (rods : List Rod) (grow : List Int) : (lawP (in12 ++ [eq (v 2) (lit 6), eq (v 8) (lit 6), eq errX (lit 0), .not ofX])).Ok Try.prog (fnB rods grow) := by
  refine un2 (l := [pExN 6, pSame, pChk, rChk, rOfb, pKnown]) (R := R0) (fuel := 200) (fun _ => .leaf (.bool (.lit 1))) prog_ok ⟨pExN6_ok _ _, pSame_ok _, pChk_ok _ _, rChk_ok _ _, rOfb_ok _ _, pKnown_ok _, trivial⟩ rfl (R0_ok _) rfl rfl ?h1 ?h2 ?h3 ?h4 ?_
  case h1 => kernel_rfl
  case h2 => kernel_rfl
  case h3 => kernel_rfl
  case h4 => kernel_rfl
  intro xs es hlen hpre hrw
  rfl
theorem lawB6 {rods : List Rod} {grow : List Int} (hall : AllOk rods grow) : (lawP (in12 ++ (preB 6 ++ ((List.range 6).flatMap rodB ++ [ofX])))).Ok Try.prog (fnB rods grow) := by
  refine un2 (l := [pExB 6, pSame, pChk, rChk, rOfb, rLen, rSum, rLow, pKnown]) (R := RV) (fuel := 200) (fun _ => .leaf (.bool (.lit 1))) prog_ok ⟨pExB6_ok hall, pSame_ok _, pChk_ok _ _, rChk_ok _ _, rOfb_ok _ _, rLen_ok _ _, rSum_ok _ _, rLow_ok _ _, pKnown_ok _, trivial⟩ rfl (RV_ok hall) rfl rfl ?h1 ?h2 ?h3 ?h4 ?_
  case h1 => kernel_rfl
  case h2 => kernel_rfl
  case h3 => kernel_rfl
  case h4 => kernel_rfl
  intro xs es hlen hpre hrw
  rfl
end Be
end Go.Proofs.Ytocjbjnfpldgcaa

/- BeatExacts: the law, for clocks of 7 rods. -/
namespace Go.Proofs.Ytocjbjnfpldgcaa
open Abs Sx
set_option maxRecDepth 100000
namespace Be
theorem lawN7 (rods : List Rod) (grow : List Int) : (lawP (in12 ++ [eq (v 2) (lit 7), eq (v 8) (lit 7), eq errX (lit 0), .not ofX])).Ok Try.prog (fnB rods grow) := by
  refine un2 (l := [pExN 7, pSame, pChk, rChk, rOfb, pKnown]) (R := R0) (fuel := 200) (fun _ => .leaf (.bool (.lit 1))) prog_ok ⟨pExN7_ok _ _, pSame_ok _, pChk_ok _ _, rChk_ok _ _, rOfb_ok _ _, pKnown_ok _, trivial⟩ rfl (R0_ok _) rfl rfl ?h1 ?h2 ?h3 ?h4 ?_
  case h1 => kernel_rfl
  case h2 => kernel_rfl
  case h3 => kernel_rfl
  case h4 => kernel_rfl
  intro xs es hlen hpre hrw
  rfl
theorem lawB7 {rods : List Rod} {grow : List Int} (hall : AllOk rods grow) : (lawP (in12 ++ (preB 7 ++ ((List.range 7).flatMap rodB ++ [ofX])))).Ok Try.prog (fnB rods grow) := by
  refine un2 (l := [pExB 7, pSame, pChk, rChk, rOfb, rLen, rSum, rLow, pKnown]) (R := RV) (fuel := 200) (fun _ => .leaf (.bool (.lit 1))) prog_ok ⟨pExB7_ok hall, pSame_ok _, pChk_ok _ _, rChk_ok _ _, rOfb_ok _ _, rLen_ok _ _, rSum_ok _ _, rLow_ok _ _, pKnown_ok _, trivial⟩ rfl (RV_ok hall) rfl rfl ?h1 ?h2 ?h3 ?h4 ?_
  case h1 => kernel_rfl
  case h2 => kernel_rfl
  case h3 => kernel_rfl
  case h4 => kernel_rfl
  intro xs es hlen hpre hrw
  rfl
end Be
end Go.Proofs.Ytocjbjnfpldgcaa

/- BeatExacts: the law, for clocks of 8 rods. -/
namespace Go.Proofs.Ytocjbjnfpldgcaa
open Abs Sx
set_option maxRecDepth 100000
namespace Be
theorem lawN8 (rods : List Rod) (grow : List Int) : (lawP (in12 ++ [eq (v 2) (lit 8), eq (v 8) (lit 8), eq errX (lit 0), .not ofX])).Ok Try.prog (fnB rods grow) := by
  refine un2 (l := [pExN 8, pSame, pChk, rChk, rOfb, pKnown]) (R := R0) (fuel := 200) (fun _ => .leaf (.bool (.lit 1))) prog_ok ⟨pExN8_ok _ _, pSame_ok _, pChk_ok _ _, rChk_ok _ _, rOfb_ok _ _, pKnown_ok _, trivial⟩ rfl (R0_ok _) rfl rfl ?h1 ?h2 ?h3 ?h4 ?_
  case h1 => kernel_rfl
  case h2 => kernel_rfl
  case h3 => kernel_rfl
  case h4 => kernel_rfl
  intro xs es hlen hpre hrw
  rfl
theorem lawB8 {rods : List Rod} {grow : List Int} (hall : AllOk rods grow) : (lawP (in12 ++ (preB 8 ++ ((List.range 8).flatMap rodB ++ [ofX])))).Ok Try.prog (fnB rods grow) := by
  refine un2 (l := [pExB 8, pSame, pChk, rChk, rOfb, rLen, rSum, rLow, pKnown]) (R := RV) (fuel := 200) (fun _ => .leaf (.bool (.lit 1))) prog_ok ⟨pExB8_ok hall, pSame_ok _, pChk_ok _ _, rChk_ok _ _, rOfb_ok _ _, rLen_ok _ _, rSum_ok _ _, rLow_ok _ _, pKnown_ok _, trivial⟩ rfl (RV_ok hall) rfl rfl ?h1 ?h2 ?h3 ?h4 ?_
  case h1 => kernel_rfl
  case h2 => kernel_rfl
  case h3 => kernel_rfl
  case h4 => kernel_rfl
  intro xs es hlen hpre hrw
  rfl
end Be
end Go.Proofs.Ytocjbjnfpldgcaa
