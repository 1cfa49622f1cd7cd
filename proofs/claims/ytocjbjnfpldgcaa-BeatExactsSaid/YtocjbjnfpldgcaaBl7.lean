/- beat.Exact: truths that aren't of the clock. -/
import Derived.Test.YtocjbjnfpldgcaaB3
set_option linter.unusedSimpArgs false
set_option linter.unusedVariables false
namespace Go.Proofs.Ytocjbjnfpldgcaa
open Abs Sx
set_option maxRecDepth 100000
namespace Be
theorem pExN7_ok (rods : List Rod) (grow : List Int) : (pExN 7).Ok Try.prog (fnB rods grow) := by
  refine un2 (l := [pChk, pSpan, pRate0, pUnit0]) (R := R0) (fuel := 200) (fun _ => (.ask (.bin .lt (.app 4 (.cons (.lit 0) .nil)) (.app 1 (.cons (.lit 0) .nil))) (.leaf (.tuple [(.agg [(.int .i64 (.lit 0)), (.int .i64 (.lit 0))]), (.int .i64 (.lit 2))])) (.ask (.bin .lt (.app 2 (.cons (.lit 0) .nil)) (.app 4 (.cons (.lit 0) .nil))) (.leaf (.tuple [(.agg [(.int .i64 (.lit 0)), (.int .i64 (.lit 0))]), (.int .i64 (.lit 2))])) (.ask (.bin .lt (.app 4 (.cons (.lit 1) .nil)) (.app 1 (.cons (.lit 1) .nil))) (.leaf (.tuple [(.agg [(.int .i64 (.lit 0)), (.int .i64 (.lit 0))]), (.int .i64 (.lit 2))])) (.ask (.bin .lt (.app 2 (.cons (.lit 1) .nil)) (.app 4 (.cons (.lit 1) .nil))) (.leaf (.tuple [(.agg [(.int .i64 (.lit 0)), (.int .i64 (.lit 0))]), (.int .i64 (.lit 2))])) (.ask (.bin .lt (.app 4 (.cons (.lit 2) .nil)) (.app 1 (.cons (.lit 2) .nil))) (.leaf (.tuple [(.agg [(.int .i64 (.lit 0)), (.int .i64 (.lit 0))]), (.int .i64 (.lit 2))])) (.ask (.bin .lt (.app 2 (.cons (.lit 2) .nil)) (.app 4 (.cons (.lit 2) .nil))) (.leaf (.tuple [(.agg [(.int .i64 (.lit 0)), (.int .i64 (.lit 0))]), (.int .i64 (.lit 2))])) (.ask (.bin .lt (.app 4 (.cons (.lit 3) .nil)) (.app 1 (.cons (.lit 3) .nil))) (.leaf (.tuple [(.agg [(.int .i64 (.lit 0)), (.int .i64 (.lit 0))]), (.int .i64 (.lit 2))])) (.ask (.bin .lt (.app 2 (.cons (.lit 3) .nil)) (.app 4 (.cons (.lit 3) .nil))) (.leaf (.tuple [(.agg [(.int .i64 (.lit 0)), (.int .i64 (.lit 0))]), (.int .i64 (.lit 2))])) (.ask (.bin .lt (.app 4 (.cons (.lit 4) .nil)) (.app 1 (.cons (.lit 4) .nil))) (.leaf (.tuple [(.agg [(.int .i64 (.lit 0)), (.int .i64 (.lit 0))]), (.int .i64 (.lit 2))])) (.ask (.bin .lt (.app 2 (.cons (.lit 4) .nil)) (.app 4 (.cons (.lit 4) .nil))) (.leaf (.tuple [(.agg [(.int .i64 (.lit 0)), (.int .i64 (.lit 0))]), (.int .i64 (.lit 2))])) (.ask (.bin .lt (.app 4 (.cons (.lit 5) .nil)) (.app 1 (.cons (.lit 5) .nil))) (.leaf (.tuple [(.agg [(.int .i64 (.lit 0)), (.int .i64 (.lit 0))]), (.int .i64 (.lit 2))])) (.ask (.bin .lt (.app 2 (.cons (.lit 5) .nil)) (.app 4 (.cons (.lit 5) .nil))) (.leaf (.tuple [(.agg [(.int .i64 (.lit 0)), (.int .i64 (.lit 0))]), (.int .i64 (.lit 2))])) (.ask (.bin .lt (.app 4 (.cons (.lit 6) .nil)) (.app 1 (.cons (.lit 6) .nil))) (.leaf (.tuple [(.agg [(.int .i64 (.lit 0)), (.int .i64 (.lit 0))]), (.int .i64 (.lit 2))])) (.ask (.bin .lt (.app 2 (.cons (.lit 6) .nil)) (.app 4 (.cons (.lit 6) .nil))) (.leaf (.tuple [(.agg [(.int .i64 (.lit 0)), (.int .i64 (.lit 0))]), (.int .i64 (.lit 2))])) (.ask (.bin .lt (.var 10) (.var 4)) (.leaf (.tuple [(.agg [(.int .i64 (.lit 0)), (.int .i64 (.lit 0))]), (.int .i64 (.lit 2))])) (.ask (.bin .lt (.var 5) (.var 10)) (.leaf (.tuple [(.agg [(.int .i64 (.lit 0)), (.int .i64 (.lit 0))]), (.int .i64 (.lit 2))])) (.ask (.bin .lt (.var 11) (.var 6)) (.leaf (.tuple [(.agg [(.int .i64 (.lit 0)), (.int .i64 (.lit 0))]), (.int .i64 (.lit 2))])) (.ask (.bin .lt (.var 7) (.var 11)) (.leaf (.tuple [(.agg [(.int .i64 (.lit 0)), (.int .i64 (.lit 0))]), (.int .i64 (.lit 2))])) (.ask (.bin .lt (.var 12) (.lit (-1000))) (.leaf (.tuple [(.agg [(.int .i64 (.lit 0)), (.int .i64 (.lit 0))]), (.int .i64 (.lit 2))])) (.ask (.bin .lt (.lit 1000) (.var 12)) (.leaf (.tuple [(.agg [(.int .i64 (.lit 0)), (.int .i64 (.lit 0))]), (.int .i64 (.lit 2))])) (.ask (.bin .lt (.var 13) (.lit (-1000))) (.leaf (.tuple [(.agg [(.int .i64 (.lit 0)), (.int .i64 (.lit 0))]), (.int .i64 (.lit 2))])) (.ask (.bin .lt (.lit 1000) (.var 13)) (.leaf (.tuple [(.agg [(.int .i64 (.lit 0)), (.int .i64 (.lit 0))]), (.int .i64 (.lit 2))])) (.ask (.bin .lt (.var 14) (.lit 0)) (.leaf (.tuple [(.agg [(.int .i64 (.lit 0)), (.int .i64 (.lit 0))]), (.int .i64 (.lit 2))])) (.ask (.bin .lt (.lit 600) (.var 14)) (.leaf (.tuple [(.agg [(.int .i64 (.lit 0)), (.int .i64 (.lit 0))]), (.int .i64 (.lit 2))])) (.ask (.bin .lt (.var 15) (.lit (-100))) (.leaf (.tuple [(.agg [(.int .i64 (.lit 0)), (.int .i64 (.lit 0))]), (.int .i64 (.lit 2))])) (.ask (.bin .lt (.lit 100) (.var 15)) (.leaf (.tuple [(.agg [(.int .i64 (.lit 0)), (.int .i64 (.lit 0))]), (.int .i64 (.lit 2))])) (.need [(.lit 0)] (.need [(.lit 0)] (.leaf (.tuple [(.agg [(.int .i64 (.lit 0)), (.int .i64 (.lit 1))]), (.int .i64 (.lit 0))]))))))))))))))))))))))))))))))) prog_ok ⟨pChk_ok _ _, pSpan_ok _, empty_ok rfl, empty_ok rfl, trivial⟩ rfl (R0_ok _) rfl rfl ?h1 ?h2 ?h3 ?h4 ?_
  case h1 => kernel_rfl
  case h2 => kernel_rfl
  case h3 => kernel_rfl
  case h4 => kernel_rfl
  intro xs es hlen hpre hrw
  have hno := not_of hpre.2.2.2.1
  have e2 : xs.getD 2 0 = 7 := by
    have := hpre.1
    simp only [eq, v, lit, X.dB_eq, eqB_t, X.den_var, X.den_lit] at this; exact this
  have e8 : xs.getD 8 0 = 7 := by
    have := hpre.2.1
    simp only [eq, v, lit, X.dB_eq, eqB_t, X.den_var, X.den_lit] at this; exact this
  clear hlen hpre hrw
  simp only [OT.vc]
  (repeat' (first | apply And.intro | intro _))
  all_goals first
    | rfl
    | (exfalso
       refine hno ?_
       clear hno
       ( simp only [OT.vc, LT.vc, OT.is, AllB, RgB, inR, nthR, idsF, fsOf, List.drop, List.flatMap_cons, List.flatMap_nil, List.append_nil, List.getElem?_cons_zero, List.getElem?_cons_succ, rwFs, rwF, List.nil_append, List.cons_append, mix_v, mix_fn, upd_fn, upd_nil, upd_cons, X.one, X.isL, cond_false, valX_fn, valX_v, setM_v, List.mem_cons, List.not_mem_nil, or_false, false_or, or_true, true_or, if_true, if_false, ite_true, ite_false, Nat.reduceEqDiff, SV.den, AV.int.injEq, AV.bool.injEq, true_and, and_true, X.dB_lt, X.dB_le, X.dB_eq, X.denB_and, X.denB_or, X.denB_not, X.denB_lit0, X.denB_lit1, X.den_lit, X.den_var, X.den_add, X.den_sub, X.den_mul, X.den_app, X.den_ite, X.den_wrap, X.dB_ite, cond_tf, X.denB_app, X.denB_var, X.sem_cons, X.sem_nil, leB_t, ltB_t, eqB_t, leB_f, ltB_f, eqB_f, Bool.and_eq_true, Bool.or_eq_true, Bool.not_eq_true', Bool.and_eq_false_iff, Bool.or_eq_false_iff, Bool.not_eq_false', of_iff, lit] at *)
       have o0 : outP rods grow 0 = false := out_false rods grow 0 (by omega) (by omega)
       have o1 : outP rods grow 1 = false := out_false rods grow 1 (by omega) (by omega)
       have o2 : outP rods grow 2 = false := out_false rods grow 2 (by omega) (by omega)
       have o3 : outP rods grow 3 = false := out_false rods grow 3 (by omega) (by omega)
       have o4 : outP rods grow 4 = false := out_false rods grow 4 (by omega) (by omega)
       have o5 : outP rods grow 5 = false := out_false rods grow 5 (by omega) (by omega)
       have o6 : outP rods grow 6 = false := out_false rods grow 6 (by omega) (by omega)
       have s0 : firstN (outP rods grow) 0 = -1 := rfl
       have s1 := first_more _ s0 o0
       have s2 := first_more _ s1 o1
       have s3 := first_more _ s2 o2
       have s4 := first_more _ s3 o3
       have s5 := first_more _ s4 o4
       have s6 := first_more _ s5 o5
       have s7 := first_more _ s6 o6
       have hf : fnB rods grow 14 [xs.getD 2 0] = -1 := by rw [e2]; exact s7
       omega)
end Be
end Go.Proofs.Ytocjbjnfpldgcaa
