/- Made clocks and truths: their promises hold. -/
import Derived.Test.YtgpdodkcfiefjaaU1
set_option linter.unusedSimpArgs false
set_option linter.unusedVariables false
namespace Go.Proofs.Ytgpdodkcfiefjaa
open Abs Sx
set_option maxRecDepth 100000
namespace Be
def yC0 : X := (.not (.bin .eq (.bin .add (.lit 1) (.bin .rem (.var 2) (.lit 3))) (.lit 3)))
def yC1 : X := (.bin .eq (.bin .add (.lit 1) (.bin .rem (.var 2) (.lit 3))) (.lit 1))
def yC2 : SV := (.int .i64 (.bin .add (.lit 1) (.bin .rem (.var 2) (.lit 3))))
def yC3 : SV := (.int .i64 (.bin .add (.bin .rem (.var 4) (.lit 100)) (.lit (-50))))
def yC4 : SV := (.int .i64 (.bin .add (.bin .add (.bin .rem (.var 4) (.lit 100)) (.lit (-50))) (.bin .rem (.var 5) (.lit 50))))
def yC5 : SV := (.int .i64 (.bin .add (.lit 1) (.bin .rem (.app 0 (.cons (.lit 0) .nil)) (.lit 4000))))
def yC6 : SV := (.int .i64 (.bin .mul (.lit 20) (.app 1 (.cons (.lit 0) .nil))))
def yC7 : SV := (.int .i64 (.bin .add (.bin .mul (.lit 20) (.app 1 (.cons (.lit 0) .nil))) (.bin .mul (.lit 3) (.app 2 (.cons (.lit 0) .nil)))))
def yC8 : OT (SV × List SO) := (.ask yC0 (.ask yC1 (.leaf ((.agg [yC2, (.int .i64 (.var 3)), (.slice 1 0 (.lit 0) (.lit 2) (.lit 2) 4 false), yC3, yC4, (.int .i64 (.bin .add (.var 6) (.lit (-200)))), (.int .i64 (.bin .add (.var 6) (.var 7)))]) , [(.cells true [(.int .i64 (.lit 9000)), (.int .i64 (.lit 1100)), (.int .i64 (.lit 1150)), (.bool (.lit 0)), yC5, yC6, yC7, (.bool (.app 3 (.cons (.lit 0) .nil)))])])) (.leaf ((.agg [yC2, (.int .i64 (.var 3)), (.slice 1 0 (.lit 0) (.lit 2) (.lit 2) 4 false), yC3, yC4, (.int .i64 (.var 6)), (.int .i64 (.bin .add (.var 6) (.var 7)))]) , [(.cells true [(.int .i64 (.lit 9000)), (.int .i64 (.lit 1100)), (.int .i64 (.lit 1150)), (.bool (.lit 0)), yC5, yC6, yC7, (.bool (.app 3 (.cons (.lit 0) .nil)))])]))) (.leaf ((.agg [yC2, (.int .i64 (.var 3)), (.slice 1 0 (.lit 0) (.lit 2) (.lit 2) 4 false), yC3, yC4, (.int .i64 (.lit 0)), (.int .i64 (.lit 0))]) , [(.cells true [(.int .i64 (.lit 9000)), (.int .i64 (.lit 1100)), (.int .i64 (.lit 1150)), (.bool (.lit 0)), yC5, yC6, yC7, (.bool (.app 3 (.cons (.lit 0) .nil)))])])))
def yC9 : OT (SV × List SO) := (.ask yC0 (.ask yC1 (.leaf ((.agg [yC2, (.int .i64 (.var 3)), (.slice 1 0 (.lit 0) (.lit 3) (.lit 3) 4 false), yC3, yC4, (.int .i64 (.bin .add (.var 6) (.lit (-200)))), (.int .i64 (.bin .add (.var 6) (.var 7)))]) , [(.cells true [(.int .i64 (.lit 9000)), (.int .i64 (.lit 1100)), (.int .i64 (.lit 1150)), (.bool (.lit 0)), yC5, yC6, yC7, (.bool (.app 3 (.cons (.lit 0) .nil))), (.int .i64 (.bin .add (.lit 1) (.bin .rem (.app 0 (.cons (.lit 1) .nil)) (.lit 4000)))), (.int .i64 (.bin .mul (.lit 20) (.app 1 (.cons (.lit 1) .nil)))), (.int .i64 (.bin .add (.bin .mul (.lit 20) (.app 1 (.cons (.lit 1) .nil))) (.bin .mul (.lit 3) (.app 2 (.cons (.lit 1) .nil))))), (.bool (.app 3 (.cons (.lit 1) .nil)))])])) (.leaf ((.agg [yC2, (.int .i64 (.var 3)), (.slice 1 0 (.lit 0) (.lit 3) (.lit 3) 4 false), yC3, yC4, (.int .i64 (.var 6)), (.int .i64 (.bin .add (.var 6) (.var 7)))]) , [(.cells true [(.int .i64 (.lit 9000)), (.int .i64 (.lit 1100)), (.int .i64 (.lit 1150)), (.bool (.lit 0)), yC5, yC6, yC7, (.bool (.app 3 (.cons (.lit 0) .nil))), (.int .i64 (.bin .add (.lit 1) (.bin .rem (.app 0 (.cons (.lit 1) .nil)) (.lit 4000)))), (.int .i64 (.bin .mul (.lit 20) (.app 1 (.cons (.lit 1) .nil)))), (.int .i64 (.bin .add (.bin .mul (.lit 20) (.app 1 (.cons (.lit 1) .nil))) (.bin .mul (.lit 3) (.app 2 (.cons (.lit 1) .nil))))), (.bool (.app 3 (.cons (.lit 1) .nil)))])]))) (.leaf ((.agg [yC2, (.int .i64 (.var 3)), (.slice 1 0 (.lit 0) (.lit 3) (.lit 3) 4 false), yC3, yC4, (.int .i64 (.lit 0)), (.int .i64 (.lit 0))]) , [(.cells true [(.int .i64 (.lit 9000)), (.int .i64 (.lit 1100)), (.int .i64 (.lit 1150)), (.bool (.lit 0)), yC5, yC6, yC7, (.bool (.app 3 (.cons (.lit 0) .nil))), (.int .i64 (.bin .add (.lit 1) (.bin .rem (.app 0 (.cons (.lit 1) .nil)) (.lit 4000)))), (.int .i64 (.bin .mul (.lit 20) (.app 1 (.cons (.lit 1) .nil)))), (.int .i64 (.bin .add (.bin .mul (.lit 20) (.app 1 (.cons (.lit 1) .nil))) (.bin .mul (.lit 3) (.app 2 (.cons (.lit 1) .nil))))), (.bool (.app 3 (.cons (.lit 1) .nil)))])])))
def tC2 : OT (SV × List SO) := (.ask (.app 3 (.cons (.lit 0) .nil)) yC8 yC8)
def tC3 : OT (SV × List SO) := (.ask (.app 3 (.cons (.lit 0) .nil)) (.ask (.app 3 (.cons (.lit 1) .nil)) yC9 yC9) (.ask (.app 3 (.cons (.lit 1) .nil)) yC9 yC9))
section
variable {rods : List Rod} {grow : List Int} (hM : ∀ i l, inR (fnB rods grow i l) (nthR RU.fr i))
include hM
omit hM in
theorem run_tC2 (b : Bool) : runPN Try.prog RU [] (pClock 2) 400 [b] = tC2 := by kernel_rfl
set_option maxHeartbeats 8000000 in
theorem pClock2_E (b : Bool) : (pClock 2).OkE Try.prog (fnB rods grow) [b] := by
  refine unN (l := []) (R := RU) (fuel := 400) tC2 prog_ok trivial rfl hM (run_tC2 b) ?_
  intro xs hlen hpre hrw
  clear hrw hlen
  ( simp only [OT.vc, LT.vc, OT.is, AllB, RgB, inR, nthR, idsF, fsOf, List.drop, List.flatMap_cons, List.flatMap_nil, List.append_nil, List.getElem?_cons_zero, List.getElem?_cons_succ, rwFs, rwF, List.nil_append, List.cons_append, mix_v, mix_fn, upd_fn, upd_nil, upd_cons, X.one, X.isL, cond_false, valX_fn, valX_v, setM_v, List.mem_cons, List.not_mem_nil, or_false, false_or, or_true, true_or, if_true, if_false, ite_true, ite_false, Nat.reduceEqDiff, SV.den, AV.int.injEq, AV.bool.injEq, true_and, and_true, X.dB_lt, X.dB_le, X.dB_eq, X.denB_and, X.denB_or, X.denB_not, X.denB_lit0, X.denB_lit1, X.den_lit, X.den_var, X.den_add, X.den_sub, X.den_mul, X.den_app, X.den_ite, X.den_wrap, X.dB_ite, cond_tf, X.denB_app, X.denB_var, X.sem_cons, X.sem_nil, leB_t, ltB_t, eqB_t, leB_f, ltB_f, eqB_f, Bool.and_eq_true, Bool.or_eq_true, Bool.not_eq_true', Bool.and_eq_false_iff, Bool.or_eq_false_iff, Bool.not_eq_false', tC2, yC0, yC1, yC2, yC3, yC4, yC5, yC6, yC7, yC8, yC9, pClock, cnt, mkP, b8, rgN, clkV, slcV, rodsV, ixs, ck, OT.isN, SO.dens, SO.den, SV.dens, AV.agg.injEq, AV.slice.injEq, AObj.cells.injEq, List.cons.injEq, le, lt, eq, v, lit, i64, ap, ap2, ap3, apl, List.foldr, List.range, List.range.loop, List.flatMap_cons, List.flatMap_nil, List.map_cons, List.map_nil, List.cons_append, List.nil_append, Nat.reduceAdd, Nat.reduceMul, Nat.reduceSub, Nat.mul_zero, Nat.add_zero, X.den_quo, X.den_rem, X.den_min] at *)
  obtain ⟨y0, r0, r1, b0, b1, p0, p1, q0, q1, c0, c1, d0, d1⟩ := hpre
  have ta := Int.tmod_nonneg 3 r0
  have tb := Int.tmod_lt_of_pos (xs.getD 2 0) (show (0 : Int) < 3 by decide)
  simp only [a110 r0, a111 p0, a112 p0 q0, a113 (k := xs.getD 2 0) c0 c1, a114 (k := xs.getD 2 0) c0 c1 d0 d1, a115 hM, a116 hM, a117 hM, a118a hM, a118b hM, a118c hM]
  (repeat' (first | (refine And.intro ?_ ?_) | intro _)) <;> first
    | trivial
    | rfl
    | omega
    | (split <;> first | omega | (split <;> omega))
theorem pClock2_ok : (pClock 2).Ok Try.prog (fnB rods grow) := okN1 rfl (pClock2_E hM true) (pClock2_E hM false)
omit hM in
theorem run_tC3 (b : Bool) : runPN Try.prog RU [] (pClock 3) 400 [b] = tC3 := by kernel_rfl
set_option maxHeartbeats 8000000 in
theorem pClock3_E (b : Bool) : (pClock 3).OkE Try.prog (fnB rods grow) [b] := by
  refine unN (l := []) (R := RU) (fuel := 400) tC3 prog_ok trivial rfl hM (run_tC3 b) ?_
  intro xs hlen hpre hrw
  clear hrw hlen
  ( simp only [OT.vc, LT.vc, OT.is, AllB, RgB, inR, nthR, idsF, fsOf, List.drop, List.flatMap_cons, List.flatMap_nil, List.append_nil, List.getElem?_cons_zero, List.getElem?_cons_succ, rwFs, rwF, List.nil_append, List.cons_append, mix_v, mix_fn, upd_fn, upd_nil, upd_cons, X.one, X.isL, cond_false, valX_fn, valX_v, setM_v, List.mem_cons, List.not_mem_nil, or_false, false_or, or_true, true_or, if_true, if_false, ite_true, ite_false, Nat.reduceEqDiff, SV.den, AV.int.injEq, AV.bool.injEq, true_and, and_true, X.dB_lt, X.dB_le, X.dB_eq, X.denB_and, X.denB_or, X.denB_not, X.denB_lit0, X.denB_lit1, X.den_lit, X.den_var, X.den_add, X.den_sub, X.den_mul, X.den_app, X.den_ite, X.den_wrap, X.dB_ite, cond_tf, X.denB_app, X.denB_var, X.sem_cons, X.sem_nil, leB_t, ltB_t, eqB_t, leB_f, ltB_f, eqB_f, Bool.and_eq_true, Bool.or_eq_true, Bool.not_eq_true', Bool.and_eq_false_iff, Bool.or_eq_false_iff, Bool.not_eq_false', tC3, yC0, yC1, yC2, yC3, yC4, yC5, yC6, yC7, yC8, yC9, pClock, cnt, mkP, b8, rgN, clkV, slcV, rodsV, ixs, ck, OT.isN, SO.dens, SO.den, SV.dens, AV.agg.injEq, AV.slice.injEq, AObj.cells.injEq, List.cons.injEq, le, lt, eq, v, lit, i64, ap, ap2, ap3, apl, List.foldr, List.range, List.range.loop, List.flatMap_cons, List.flatMap_nil, List.map_cons, List.map_nil, List.cons_append, List.nil_append, Nat.reduceAdd, Nat.reduceMul, Nat.reduceSub, Nat.mul_zero, Nat.add_zero, X.den_quo, X.den_rem, X.den_min] at *)
  obtain ⟨y0, r0, r1, b0, b1, p0, p1, q0, q1, c0, c1, d0, d1⟩ := hpre
  have ta := Int.tmod_nonneg 3 r0
  have tb := Int.tmod_lt_of_pos (xs.getD 2 0) (show (0 : Int) < 3 by decide)
  simp only [a110 r0, a111 p0, a112 p0 q0, a113 (k := xs.getD 2 0) c0 c1, a114 (k := xs.getD 2 0) c0 c1 d0 d1, a115 hM, a116 hM, a117 hM, a118a hM, a118b hM, a118c hM]
  (repeat' (first | (refine And.intro ?_ ?_) | intro _)) <;> first
    | trivial
    | rfl
    | omega
    | (split <;> first | omega | (split <;> omega))
theorem pClock3_ok : (pClock 3).Ok Try.prog (fnB rods grow) := okN1 rfl (pClock3_E hM true) (pClock3_E hM false)
end
end Be
end Go.Proofs.Ytgpdodkcfiefjaa
