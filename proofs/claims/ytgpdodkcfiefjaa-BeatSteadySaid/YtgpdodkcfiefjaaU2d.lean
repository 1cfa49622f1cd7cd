/- Made clocks and truths: their promises hold: three rods and more. -/
import Derived.Test.YtgpdodkcfiefjaaU1
set_option linter.unusedSimpArgs false
set_option linter.unusedVariables false
namespace Go.Proofs.Ytgpdodkcfiefjaa
open Abs Sx
set_option maxRecDepth 100000
namespace Be
def yD0 : X := (.bin .add (.lit 1) (.bin .rem (.app 0 (.cons (.lit 0) .nil)) (.lit 4000)))
def yD1 : X := (.bin .add (.lit 1) (.bin .rem (.app 0 (.cons (.lit 1) .nil)) (.lit 4000)))
def yD2 : X := (.bin .add (.lit 1) (.bin .rem (.app 0 (.cons (.lit 2) .nil)) (.lit 4000)))
def yD3 : X := (.not (.bin .eq (.bin .add (.lit 1) (.bin .rem (.var 2) (.lit 3))) (.lit 3)))
def yD4 : X := (.bin .eq (.bin .add (.lit 1) (.bin .rem (.var 2) (.lit 3))) (.lit 1))
def yD5 : SV := (.int .i64 (.bin .add (.lit 1) (.bin .rem (.var 2) (.lit 3))))
def yD6 : SV := (.int .i64 (.bin .add (.bin .rem (.var 4) (.lit 100)) (.lit (-50))))
def yD7 : SV := (.int .i64 (.bin .add (.bin .add (.bin .rem (.var 4) (.lit 100)) (.lit (-50))) (.bin .rem (.var 5) (.lit 50))))
def yD8 : SV := (.agg [yD5, (.int .i64 (.var 3)), (.slice 1 0 (.lit 0) (.lit 4) (.lit 4) 4 false), yD6, yD7, (.int .i64 (.bin .add (.var 6) (.lit (-200)))), (.int .i64 (.bin .add (.var 6) (.var 7)))])
def yD9 : SV := (.int .i64 (.bin .mul (.lit 20) (.app 1 (.cons (.lit 0) .nil))))
def yD10 : SV := (.int .i64 (.bin .add (.bin .mul (.lit 20) (.app 1 (.cons (.lit 0) .nil))) (.bin .mul (.lit 3) (.app 2 (.cons (.lit 0) .nil)))))
def yD11 : SV := (.int .i64 (.bin .mul (.lit 20) (.app 1 (.cons (.lit 1) .nil))))
def yD12 : SV := (.int .i64 (.bin .add (.bin .mul (.lit 20) (.app 1 (.cons (.lit 1) .nil))) (.bin .mul (.lit 3) (.app 2 (.cons (.lit 1) .nil)))))
def yD13 : SV := (.int .i64 (.bin .mul (.lit 20) (.app 1 (.cons (.lit 2) .nil))))
def yD14 : SV := (.int .i64 (.bin .add (.bin .mul (.lit 20) (.app 1 (.cons (.lit 2) .nil))) (.bin .mul (.lit 3) (.app 2 (.cons (.lit 2) .nil)))))
def yD15 : SV := (.agg [yD5, (.int .i64 (.var 3)), (.slice 1 0 (.lit 0) (.lit 4) (.lit 4) 4 false), yD6, yD7, (.int .i64 (.var 6)), (.int .i64 (.bin .add (.var 6) (.var 7)))])
def yD16 : SV := (.agg [yD5, (.int .i64 (.var 3)), (.slice 1 0 (.lit 0) (.lit 4) (.lit 4) 4 false), yD6, yD7, (.int .i64 (.lit 0)), (.int .i64 (.lit 0))])
def yD17 : OT (SV × List SO) := (.ask yD3 (.ask yD4 (.leaf (yD8 , [(.cells true [(.int .i64 (.lit 9000)), (.int .i64 (.lit 1100)), (.int .i64 (.lit 1150)), (.bool (.lit 0)), (.int .i64 yD0), yD9, yD10, (.bool (.app 3 (.cons (.lit 0) .nil))), (.int .i64 yD1), yD11, yD12, (.bool (.app 3 (.cons (.lit 1) .nil))), (.int .i64 yD2), yD13, yD14, (.bool (.lit 0))])])) (.leaf (yD15 , [(.cells true [(.int .i64 (.lit 9000)), (.int .i64 (.lit 1100)), (.int .i64 (.lit 1150)), (.bool (.lit 0)), (.int .i64 yD0), yD9, yD10, (.bool (.app 3 (.cons (.lit 0) .nil))), (.int .i64 yD1), yD11, yD12, (.bool (.app 3 (.cons (.lit 1) .nil))), (.int .i64 yD2), yD13, yD14, (.bool (.lit 0))])]))) (.leaf (yD16 , [(.cells true [(.int .i64 (.lit 9000)), (.int .i64 (.lit 1100)), (.int .i64 (.lit 1150)), (.bool (.lit 0)), (.int .i64 yD0), yD9, yD10, (.bool (.app 3 (.cons (.lit 0) .nil))), (.int .i64 yD1), yD11, yD12, (.bool (.app 3 (.cons (.lit 1) .nil))), (.int .i64 yD2), yD13, yD14, (.bool (.lit 0))])])))
def yD18 : OT (SV × List SO) := (.ask yD3 (.ask yD4 (.leaf (yD8 , [(.cells true [(.int .i64 (.lit 9000)), (.int .i64 (.lit 1100)), (.int .i64 (.lit 1150)), (.bool (.lit 0)), (.int .i64 yD0), yD9, yD10, (.bool (.app 3 (.cons (.lit 0) .nil))), (.int .i64 yD1), yD11, yD12, (.bool (.app 3 (.cons (.lit 1) .nil))), (.int .i64 yD2), yD13, yD14, (.bool (.app 3 (.cons (.lit 2) .nil)))])])) (.leaf (yD15 , [(.cells true [(.int .i64 (.lit 9000)), (.int .i64 (.lit 1100)), (.int .i64 (.lit 1150)), (.bool (.lit 0)), (.int .i64 yD0), yD9, yD10, (.bool (.app 3 (.cons (.lit 0) .nil))), (.int .i64 yD1), yD11, yD12, (.bool (.app 3 (.cons (.lit 1) .nil))), (.int .i64 yD2), yD13, yD14, (.bool (.app 3 (.cons (.lit 2) .nil)))])]))) (.leaf (yD16 , [(.cells true [(.int .i64 (.lit 9000)), (.int .i64 (.lit 1100)), (.int .i64 (.lit 1150)), (.bool (.lit 0)), (.int .i64 yD0), yD9, yD10, (.bool (.app 3 (.cons (.lit 0) .nil))), (.int .i64 yD1), yD11, yD12, (.bool (.app 3 (.cons (.lit 1) .nil))), (.int .i64 yD2), yD13, yD14, (.bool (.app 3 (.cons (.lit 2) .nil)))])])))
def yD19 : OT (SV × List SO) := (.ask (.app 3 (.cons (.lit 2) .nil)) (.ask (.bin .lt (.bin .sub (.bin .sub (.lit 8000) yD0) yD1) yD2) yD17 yD18) yD18)
def yD20 : OT (SV × List SO) := (.ask (.bin .lt (.lit 2) (.var 0)) (.ask (.app 3 (.cons (.lit 2) .nil)) (.ask (.bin .lt (.lit 3) (.var 0)) yD18 yD18) (.ask (.bin .lt (.lit 3) (.var 0)) yD18 yD18)) (.ask (.app 3 (.cons (.lit 2) .nil)) yD18 yD18))
def yD21 : OT (SV × List SO) := (.ask (.app 3 (.cons (.lit 1) .nil)) yD19 (.ask (.app 3 (.cons (.lit 2) .nil)) yD18 yD18))
def yD22 : OT (SV × List SO) := (.ask (.app 3 (.cons (.lit 1) .nil)) (.ask (.app 3 (.cons (.lit 2) .nil)) yD18 yD18) (.ask (.app 3 (.cons (.lit 2) .nil)) yD18 yD18))
def tC4 : OT (SV × List SO) := (.ask (.bin .lt (.lit 0) (.var 0)) (.ask (.app 3 (.cons (.lit 0) .nil)) (.ask (.bin .lt (.lit 1) (.var 0)) (.ask (.app 3 (.cons (.lit 1) .nil)) (.ask (.bin .lt (.lit 2) (.var 0)) (.ask (.app 3 (.cons (.lit 2) .nil)) (.ask (.bin .lt (.bin .sub (.bin .sub (.lit 8000) yD0) yD1) yD2) (.ask (.bin .lt (.lit 3) (.var 0)) yD17 yD17) (.ask (.bin .lt (.lit 3) (.var 0)) yD18 yD18)) (.ask (.bin .lt (.lit 3) (.var 0)) yD18 yD18)) yD19) yD20) yD21) (.ask (.bin .lt (.lit 1) (.var 0)) (.ask (.app 3 (.cons (.lit 1) .nil)) yD20 yD20) yD22)) (.ask (.app 3 (.cons (.lit 0) .nil)) yD21 yD22))
section
variable {rods : List Rod} {grow : List Int} (hM : ∀ i l, inR (fnB rods grow i l) (nthR RU.fr i))
include hM
omit hM in
theorem run_tC4 (b : Bool) : runPN Try.prog RU [] (pClock 4) 400 [b] = tC4 := by kernel_rfl
set_option maxHeartbeats 8000000 in
theorem pClock4_E (b : Bool) : (pClock 4).OkE Try.prog (fnB rods grow) [b] := by
  refine unN (l := []) (R := RU) (fuel := 400) tC4 prog_ok trivial rfl hM (run_tC4 b) ?_
  intro xs hlen hpre hrw
  clear hrw hlen
  ( simp only [OT.vc, LT.vc, OT.is, AllB, RgB, inR, nthR, idsF, fsOf, List.drop, List.flatMap_cons, List.flatMap_nil, List.append_nil, List.getElem?_cons_zero, List.getElem?_cons_succ, rwFs, rwF, List.nil_append, List.cons_append, mix_v, mix_fn, upd_fn, upd_nil, upd_cons, X.one, X.isL, cond_false, valX_fn, valX_v, setM_v, List.mem_cons, List.not_mem_nil, or_false, false_or, or_true, true_or, if_true, if_false, ite_true, ite_false, Nat.reduceEqDiff, SV.den, AV.int.injEq, AV.bool.injEq, true_and, and_true, X.dB_lt, X.dB_le, X.dB_eq, X.denB_and, X.denB_or, X.denB_not, X.denB_lit0, X.denB_lit1, X.den_lit, X.den_var, X.den_add, X.den_sub, X.den_mul, X.den_app, X.den_ite, X.den_wrap, X.dB_ite, cond_tf, X.denB_app, X.denB_var, X.sem_cons, X.sem_nil, leB_t, ltB_t, eqB_t, leB_f, ltB_f, eqB_f, Bool.and_eq_true, Bool.or_eq_true, Bool.not_eq_true', Bool.and_eq_false_iff, Bool.or_eq_false_iff, Bool.not_eq_false', tC4, yD0, yD1, yD2, yD3, yD4, yD5, yD6, yD7, yD8, yD9, yD10, yD11, yD12, yD13, yD14, yD15, yD16, yD17, yD18, yD19, yD20, yD21, yD22, pClock, cnt, mkP, b8, rgN, clkV, slcV, rodsV, ixs, ck, OT.isN, SO.dens, SO.den, SV.dens, AV.agg.injEq, AV.slice.injEq, AObj.cells.injEq, List.cons.injEq, le, lt, eq, v, lit, i64, ap, ap2, ap3, apl, List.foldr, List.range, List.range.loop, List.flatMap_cons, List.flatMap_nil, List.map_cons, List.map_nil, List.cons_append, List.nil_append, Nat.reduceAdd, Nat.reduceMul, Nat.reduceSub, Nat.mul_zero, Nat.add_zero, X.den_quo, X.den_rem, X.den_min] at *)
  obtain ⟨y0, r0, r1, b0, b1, p0, p1, q0, q1, c0, c1, d0, d1⟩ := hpre
  have ta := Int.tmod_nonneg 3 r0
  have tb := Int.tmod_lt_of_pos (xs.getD 2 0) (show (0 : Int) < 3 by decide)
  simp only [a110 r0, a111 p0, a112 p0 q0, a113 (k := xs.getD 2 0) c0 c1, a114 (k := xs.getD 2 0) c0 c1 d0 d1, a115 hM, a116 hM, a117 hM, a118a hM, a118b hM, a118c hM]
  have m0 := Int.tmod_lt_of_pos (fnB rods grow 0 [0]) (show (0 : Int) < 4000 by decide)
  have m1 := Int.tmod_lt_of_pos (fnB rods grow 0 [1]) (show (0 : Int) < 4000 by decide)
  have m2 := Int.tmod_lt_of_pos (fnB rods grow 0 [2]) (show (0 : Int) < 4000 by decide)
  have h0 : 0 ≤ fnB rods grow 0 [0] ∧ fnB rods grow 0 [0] ≤ 65535 := hM 0 [0]
  have h1 : 0 ≤ fnB rods grow 0 [1] ∧ fnB rods grow 0 [1] ≤ 65535 := hM 0 [1]
  have h2 : 0 ≤ fnB rods grow 0 [2] ∧ fnB rods grow 0 [2] ≤ 65535 := hM 0 [2]
  have n0 := Int.tmod_nonneg 4000 h0.1
  have n1 := Int.tmod_nonneg 4000 h1.1
  have n2 := Int.tmod_nonneg 4000 h2.1
  clear hM h0 h1 h2
  (repeat' (first | (refine And.intro ?_ ?_) | intro _)) <;> first
    | trivial
    | rfl
    | omega
    | (exfalso; omega)
    | (split <;> first | omega | (split <;> omega))
    | (simp only [‹i2b (fnB rods grow 3 [0]) = _›, ‹i2b (fnB rods grow 3 [1]) = _›, ‹i2b (fnB rods grow 3 [2]) = _›, if_true, if_false, Bool.true_and, Bool.false_and, Bool.false_eq_true]
       first
         | done
         | rfl
         | (symm; rw [Bool.not_eq_false', decide_eq_true_eq]; omega)
         | (symm; rw [Bool.not_eq_true', decide_eq_false_iff_not]; omega))
theorem pClock4_ok : (pClock 4).Ok Try.prog (fnB rods grow) := okN1 rfl (pClock4_E hM true) (pClock4_E hM false)
end
end Be
end Go.Proofs.Ytgpdodkcfiefjaa
