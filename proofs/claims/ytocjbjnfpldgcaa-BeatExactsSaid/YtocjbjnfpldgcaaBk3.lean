/- beat.Exact: truths of the clock, 3 rods. -/
import Derived.Test.YtocjbjnfpldgcaaB3
set_option linter.unusedSimpArgs false
set_option linter.unusedVariables false
namespace Go.Proofs.Ytocjbjnfpldgcaa
open Abs Sx
set_option maxRecDepth 100000
namespace Be
theorem pExB3_ok {rods : List Rod} {grow : List Int} (hall : AllOk rods grow) : (pExB 3).Ok Try.prog (fnB rods grow) := by
  refine un2 (l := [pChk, pSpan, pLow, pLen, pLowest, pPlus1, pTimes1, pScaled1]) (R := RV) (fuel := 200) (fun _ => (.leaf (.tuple [(.agg [(.int .i64 (.app 20 (.cons (.bin .add (.bin .mul (.var 1) (.bin .mul (.lit 10000) (.app 10 (.cons (.var 2) .nil)))) (.bin .add (.bin .add (.bin .add (.bin .mul (.bin .mul (.bin .add (.bin .add (.bin .mul (.app 4 (.cons (.lit 0) .nil)) (.ite (.ite (.app 3 (.cons (.lit 0) .nil)) (.lit 1) (.lit 0)) (.bin .sub (.lit 0) (.app 0 (.cons (.lit 0) .nil))) (.app 0 (.cons (.lit 0) .nil)))) (.bin .mul (.app 4 (.cons (.lit 1) .nil)) (.ite (.ite (.app 3 (.cons (.lit 1) .nil)) (.lit 1) (.lit 0)) (.bin .sub (.lit 0) (.app 0 (.cons (.lit 1) .nil))) (.app 0 (.cons (.lit 1) .nil))))) (.bin .mul (.app 4 (.cons (.lit 2) .nil)) (.ite (.ite (.app 3 (.cons (.lit 2) .nil)) (.lit 1) (.lit 0)) (.bin .sub (.lit 0) (.app 0 (.cons (.lit 2) .nil))) (.app 0 (.cons (.lit 2) .nil))))) (.var 12)) (.lit (-432))) (.bin .mul (.bin .mul (.var 10) (.var 13)) (.bin .mul (.lit 10000) (.app 10 (.cons (.var 2) .nil))))) (.bin .mul (.bin .mul (.var 14) (.var 14)) (.bin .mul (.lit (-457)) (.bin .quo (.bin .mul (.lit 10000) (.app 10 (.cons (.var 2) .nil))) (.lit 1000))))) (.bin .mul (.bin .mul (.var 11) (.var 15)) (.bin .mul (.lit 10000) (.app 10 (.cons (.var 2) .nil)))))) (.cons (.bin .mul (.lit 10000) (.app 10 (.cons (.var 2) .nil))) .nil)))), (.int .i64 (.app 21 (.cons (.bin .add (.bin .mul (.var 1) (.bin .mul (.lit 10000) (.app 10 (.cons (.var 2) .nil)))) (.bin .add (.bin .add (.bin .add (.bin .mul (.bin .mul (.bin .add (.bin .add (.bin .mul (.app 4 (.cons (.lit 0) .nil)) (.ite (.ite (.app 3 (.cons (.lit 0) .nil)) (.lit 1) (.lit 0)) (.bin .sub (.lit 0) (.app 0 (.cons (.lit 0) .nil))) (.app 0 (.cons (.lit 0) .nil)))) (.bin .mul (.app 4 (.cons (.lit 1) .nil)) (.ite (.ite (.app 3 (.cons (.lit 1) .nil)) (.lit 1) (.lit 0)) (.bin .sub (.lit 0) (.app 0 (.cons (.lit 1) .nil))) (.app 0 (.cons (.lit 1) .nil))))) (.bin .mul (.app 4 (.cons (.lit 2) .nil)) (.ite (.ite (.app 3 (.cons (.lit 2) .nil)) (.lit 1) (.lit 0)) (.bin .sub (.lit 0) (.app 0 (.cons (.lit 2) .nil))) (.app 0 (.cons (.lit 2) .nil))))) (.var 12)) (.lit (-432))) (.bin .mul (.bin .mul (.var 10) (.var 13)) (.bin .mul (.lit 10000) (.app 10 (.cons (.var 2) .nil))))) (.bin .mul (.bin .mul (.var 14) (.var 14)) (.bin .mul (.lit (-457)) (.bin .quo (.bin .mul (.lit 10000) (.app 10 (.cons (.var 2) .nil))) (.lit 1000))))) (.bin .mul (.bin .mul (.var 11) (.var 15)) (.bin .mul (.lit 10000) (.app 10 (.cons (.var 2) .nil)))))) (.cons (.bin .mul (.lit 10000) (.app 10 (.cons (.var 2) .nil))) .nil))))]), (.int .i64 (.lit 0))]))) prog_ok ⟨pChk_ok _ _, pSpan_ok _, pLow_ok _, pLen_ok _ _, pLowest_ok _ _, pPlus1_ok _, pTimes1_ok _, pScaled1_ok _, trivial⟩ rfl (RV_ok hall) rfl rfl ?h1 ?h2 ?h3 ?h4 ?_
  case h1 => kernel_rfl
  case h2 => kernel_rfl
  case h3 => kernel_rfl
  case h4 => kernel_rfl
  intro xs es hlen hpre hrw
  have e2 : (valX (fnB rods grow) xs).v 2 = 3 := by
    have := hpre.1
    simp only [eq, v, lit, X.dB_eq, eqB_t, X.den_var, X.den_lit] at this; exact this
  have hL : 100 ≤ fnB rods grow 10 [3] := by
    have := hpre.2.2.2.2.2.2.2.2.2.2.2.2.2.2.2.2.2.2.2.2.2.2.2.1
    simp only [le, ap, v, lit, X.dB_le, leB_t, X.den_app, X.den_lit, X.sem_cons, X.sem_nil, X.den_var, valX_fn, e2] at this; exact this
  have h0 := rod_mul rods grow 0
  rw [show ((0 : Nat) : Int) = 0 from rfl] at h0
  have h1 := rod_mul rods grow 1
  rw [show ((1 : Nat) : Int) = 1 from rfl] at h1
  have h2 := rod_mul rods grow 2
  rw [show ((2 : Nat) : Int) = 2 from rfl] at h2
  have hS : fnB rods grow 15 [3] = growN rods grow 3 := f15_at rods grow (by omega)
  simp only [growN, sumN, Int.zero_add] at hS
  simp only [OT.vc, OT.is, pExB, exO, PX, DX, ap2, lit, SV.den, SV.dens, X.den_app, X.sem_cons, X.sem_nil, X.den_add, X.den_sub, X.den_mul, X.den_quo, X.den_lit, X.den_var, X.den_ite, X.dB_ite, X.denB_app, X.denB_lit0, X.denB_lit1, cond_tf, valX_fn, e2]
  rw [← parts_eq _ _ _ _ _ _ _ _ _ (by omega), hS]
  simp only [h0, h1, h2]
end Be
end Go.Proofs.Ytocjbjnfpldgcaa
