/- Exact of clocks whose rods, and of truths whose growing, are written out. -/
import Derived.Test.YtgpdodkcfiefjaaQ2
set_option linter.unusedSimpArgs false
set_option linter.unusedVariables false
namespace Go.Proofs.Ytgpdodkcfiefjaa
open Abs Sx
set_option maxRecDepth 100000
namespace Be
def lTru (n : Nat) : Sh := .agg [.lst 1 (List.replicate n i64), i64, i64, i64, i64, i64, i64]
def exP (n : Nat) : List X := clkP n ++ (((List.range n).flatMap fun i => [le (v (4 + 4 * i)) (v (8 + 4 * n + i)), le (v (8 + 4 * n + i)) (v (5 + 4 * i))] ++ rg 0 40000 (v (8 + 4 * n + i))) ++ ([le (v (3 + 4 * n)) (v (8 + 5 * n)), le (v (8 + 5 * n)) (v (4 + 4 * n))] ++ rg (-100) 100 (v (8 + 5 * n)) ++ [le (v (5 + 4 * n)) (v (9 + 5 * n)), le (v (9 + 5 * n)) (v (6 + 4 * n))] ++ rg (-1000) 1000 (v (9 + 5 * n)) ++ rg (-1000) 1000 (v (10 + 5 * n)) ++ rg (-1000) 1000 (v (11 + 5 * n)) ++ rg 0 600 (v (12 + 5 * n)) ++ rg (-100) 100 (v (13 + 5 * n))))
def upX (i : Nat) : X := .ite (v (6 + 4 * i)) (sub (lit 0) (v (3 + 4 * i))) (v (3 + 4 * i))
def gsX (m : Nat) : Nat → X
  | 0 => mul (v (8 + 4 * m)) (upX 0)
  | n + 1 => add (gsX m n) (mul (v (8 + 4 * m + (n + 1))) (upX (n + 1)))
def exNm (n : Nat) : X := add (mul (v 1) (unX n)) (add (add (add (mul (mul (gsX n (n - 1)) (v (10 + 5 * n))) (lit (-432))) (mul (mul (v (8 + 5 * n)) (v (11 + 5 * n))) (unX n))) (mul (mul (v (12 + 5 * n)) (v (12 + 5 * n))) (mul (lit (-457)) (.bin .quo (unX n) (lit 1000))))) (mul (mul (v (9 + 5 * n)) (v (13 + 5 * n))) (unX n)))
def exLO (n : Nat) : OT SV := .leaf (.tuple [.agg [.int .i64 (ap2 20 (exNm n) (unX n)), .int .i64 (ap2 21 (exNm n) (unX n))], .int .i64 (lit 0)])
def pExL (n : Nat) : Pr := ⟨8, [lClk n, lTru n], exP n, fun _ => exLO n⟩
theorem pExL1_ok (rods : List Rod) (grow : List Int) : (pExL 1).Ok Try.prog (fnB rods grow) := by
  refine un2 (l := [pChkL 1, pSpan, pLow, pLenL 1, pLowest, pPlus1, pTimes1, pScaled1]) (R := RL) (fuel := 400) (fun _ => exLO 1) prog_ok ⟨pChkL1_ok _ _, pSpan_ok _, pLow_ok _, pLenL1_ok _ _, pLowest_ok _ _, pPlus1_ok _, pTimes1_ok _, pScaled1_ok _, trivial⟩ rfl (RL_ok _ _) rfl rfl ?h1 ?h2 ?h3 ?h4 ?_
  case h1 => kernel_rfl
  case h2 => kernel_rfl
  case h3 => kernel_rfl
  case h4 => kernel_rfl
  intro xs es hlen hpre hrw
  exact rfl
theorem pExL2_ok (rods : List Rod) (grow : List Int) : (pExL 2).Ok Try.prog (fnB rods grow) := by
  refine un2 (l := [pChkL 2, pSpan, pLow, pLenL 2, pLowest, pPlus1, pTimes1, pScaled1]) (R := RL) (fuel := 400) (fun _ => exLO 2) prog_ok ⟨pChkL2_ok _ _, pSpan_ok _, pLow_ok _, pLenL2_ok _ _, pLowest_ok _ _, pPlus1_ok _, pTimes1_ok _, pScaled1_ok _, trivial⟩ rfl (RL_ok _ _) rfl rfl ?h1 ?h2 ?h3 ?h4 ?_
  case h1 => kernel_rfl
  case h2 => kernel_rfl
  case h3 => kernel_rfl
  case h4 => kernel_rfl
  intro xs es hlen hpre hrw
  exact rfl
end Be
end Go.Proofs.Ytgpdodkcfiefjaa
