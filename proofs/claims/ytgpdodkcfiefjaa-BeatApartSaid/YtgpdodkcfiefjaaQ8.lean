/- Made clocks, bounds and truths: small numbers, as apps. -/
import Derived.Test.YtgpdodkcfiefjaaQ7
set_option linter.unusedSimpArgs false
set_option linter.unusedVariables false
namespace Go.Proofs.Ytgpdodkcfiefjaa
open Abs Sx
set_option maxRecDepth 100000
namespace Be
def u8 : Sh := .int .u8
def cmM : List Cmp := [.int .u16 0, .int .u8 1, .int .u8 2, .bool 3]
def madeSh : Sh := .agg [.row cmM, u8, .int .i16, u8, u8, u8, u8]
def weaSh : Sh := .agg (List.replicate 8 u8)
def rgN (a b : Int) (x : X) : List X := [le (lit a) x, le x (lit b)]
def b8 (i : Nat) : List X := rgN 0 255 (v i)
def ap3 (f : Nat) (a b c : X) : X := .app f (.cons a (.cons b (.cons c .nil)))
def pBnds : Pr := ⟨6, [weaSh], (List.range 8).flatMap b8, fun _ => .leaf (.agg ((List.range 4).flatMap fun j => [.int .i64 (ap (101 + 2 * j) (v j)), .int .i64 (ap2 (102 + 2 * j) (v j) (v (4 + j)))]))⟩
def pIns : Pr := ⟨18, [spanSh, i64], rgN (-40000) 40000 (v 0) ++ rgN (-40000) 40000 (v 1) ++ [le (v 0) (v 1)] ++ b8 2, fun _ => .leaf (.int .i64 (ap3 91 (v 0) (v 1) (v 2)))⟩
theorem in_sub {lo hi n : Int} (h : lo ≤ hi) (h1 : 0 ≤ n) (h2 : n ≤ 255) : lo ≤ inI [lo, hi, n] ∧ inI [lo, hi, n] ≤ hi := by
  simp only [inI]
  have a : 0 ≤ n * (hi - lo) := Int.mul_nonneg h1 (by omega)
  have b : n * (hi - lo) ≤ 255 * (hi - lo) := Int.mul_le_mul_of_nonneg_right h2 (by omega)
  rw [Int.tdiv_eq_ediv_of_nonneg a]
  generalize n * (hi - lo) = p at *
  omega
theorem pBnds_ok (rods : List Rod) (grow : List Int) : pBnds.Ok Try.prog (fnB rods grow) := by
  refine un0 (l := []) (R := R0) (fuel := 200) (fun _ => (.leaf (.agg [(.int .i64 (.bin .add (.lit (-400)) (.bin .quo (.bin .mul (.var 0) (.lit 800)) (.lit 255)))), (.int .i64 (.bin .min (.lit 400) (.bin .add (.bin .add (.lit (-400)) (.bin .quo (.bin .mul (.var 0) (.lit 800)) (.lit 255))) (.bin .quo (.bin .mul (.var 4) (.lit 800)) (.lit 600))))), (.int .i64 (.bin .add (.lit (-300)) (.bin .quo (.bin .mul (.var 1) (.lit 600)) (.lit 255)))), (.int .i64 (.bin .min (.lit 300) (.bin .add (.bin .add (.lit (-300)) (.bin .quo (.bin .mul (.var 1) (.lit 600)) (.lit 255))) (.bin .quo (.bin .mul (.var 5) (.lit 600)) (.lit 600))))), (.int .i64 (.bin .quo (.bin .mul (.var 2) (.lit 300)) (.lit 255))), (.int .i64 (.bin .min (.lit 300) (.bin .add (.bin .quo (.bin .mul (.var 2) (.lit 300)) (.lit 255)) (.bin .quo (.bin .mul (.var 6) (.lit 300)) (.lit 600))))), (.int .i64 (.bin .add (.lit (-40)) (.bin .quo (.bin .mul (.var 3) (.lit 80)) (.lit 255)))), (.int .i64 (.bin .min (.lit 40) (.bin .add (.bin .add (.lit (-40)) (.bin .quo (.bin .mul (.var 3) (.lit 80)) (.lit 255))) (.bin .quo (.bin .mul (.var 7) (.lit 80)) (.lit 600)))))]))) prog_ok trivial rfl (R0_ok _) rfl rfl ?h ?_
  case h => kernel_rfl
  intro xs es hlen hpre hrw
  clear hrw hlen
  ( simp only [OT.vc, LT.vc, OT.is, AllB, RgB, inR, nthR, idsF, fsOf, List.drop, List.flatMap_cons, List.flatMap_nil, List.append_nil, List.getElem?_cons_zero, List.getElem?_cons_succ, rwFs, rwF, List.nil_append, List.cons_append, mix_v, mix_fn, upd_fn, upd_nil, upd_cons, X.one, X.isL, cond_false, valX_fn, valX_v, setM_v, List.mem_cons, List.not_mem_nil, or_false, false_or, or_true, true_or, if_true, if_false, ite_true, ite_false, Nat.reduceEqDiff, SV.den, AV.int.injEq, AV.bool.injEq, true_and, and_true, X.dB_lt, X.dB_le, X.dB_eq, X.denB_and, X.denB_or, X.denB_not, X.denB_lit0, X.denB_lit1, X.den_lit, X.den_var, X.den_add, X.den_sub, X.den_mul, X.den_app, X.den_ite, X.den_wrap, X.dB_ite, cond_tf, X.denB_app, X.denB_var, X.sem_cons, X.sem_nil, leB_t, ltB_t, eqB_t, leB_f, ltB_f, eqB_f, Bool.and_eq_true, Bool.or_eq_true, Bool.not_eq_true', Bool.and_eq_false_iff, Bool.or_eq_false_iff, Bool.not_eq_false', pBnds, b8, rgN, ap, ap2, le, v, lit, i64, List.range, List.range.loop, List.flatMap_cons, List.flatMap_nil, List.cons_append, List.nil_append, Nat.reduceAdd, Nat.reduceMul, SV.dens, AV.agg.injEq, List.cons.injEq, X.den_min, X.den_quo] at *)
  simp only [fnB, wLo, wHi, Int.reduceSub, Int.reduceNeg]
  simp (disch := omega) only [Int.tdiv_eq_ediv_of_nonneg] at *
  (repeat' (first | apply And.intro | intro _))
  all_goals omega
theorem pIns_ok (rods : List Rod) (grow : List Int) : pIns.Ok Try.prog (fnB rods grow) := by
  refine un0 (l := []) (R := R0) (fuel := 200) (fun _ => (.leaf (.int .i64 (.bin .add (.var 0) (.bin .quo (.bin .mul (.var 2) (.bin .sub (.var 1) (.var 0))) (.lit 255)))))) prog_ok trivial rfl (R0_ok _) rfl rfl ?h ?_
  case h => kernel_rfl
  intro xs es hlen hpre hrw
  clear hrw hlen
  ( simp only [OT.vc, LT.vc, OT.is, AllB, RgB, inR, nthR, idsF, fsOf, List.drop, List.flatMap_cons, List.flatMap_nil, List.append_nil, List.getElem?_cons_zero, List.getElem?_cons_succ, rwFs, rwF, List.nil_append, List.cons_append, mix_v, mix_fn, upd_fn, upd_nil, upd_cons, X.one, X.isL, cond_false, valX_fn, valX_v, setM_v, List.mem_cons, List.not_mem_nil, or_false, false_or, or_true, true_or, if_true, if_false, ite_true, ite_false, Nat.reduceEqDiff, SV.den, AV.int.injEq, AV.bool.injEq, true_and, and_true, X.dB_lt, X.dB_le, X.dB_eq, X.denB_and, X.denB_or, X.denB_not, X.denB_lit0, X.denB_lit1, X.den_lit, X.den_var, X.den_add, X.den_sub, X.den_mul, X.den_app, X.den_ite, X.den_wrap, X.dB_ite, cond_tf, X.denB_app, X.denB_var, X.sem_cons, X.sem_nil, leB_t, ltB_t, eqB_t, leB_f, ltB_f, eqB_f, Bool.and_eq_true, Bool.or_eq_true, Bool.not_eq_true', Bool.and_eq_false_iff, Bool.or_eq_false_iff, Bool.not_eq_false', pIns, b8, rgN, ap3, le, v, lit, i64, List.cons_append, List.nil_append, X.den_quo] at *)
  have e : fnB rods grow 91 [xs.getD 0 0, xs.getD 1 0, xs.getD 2 0] = clampM 40000 (inI [xs.getD 0 0, xs.getD 1 0, xs.getD 2 0]) := rfl
  have := in_sub (lo := xs.getD 0 0) (hi := xs.getD 1 0) (n := xs.getD 2 0) (by omega) (by omega) (by omega)
  rw [e, clampM_id (by omega) (by omega)]
  rfl
section
variable {rods : List Rod} {grow : List Int}
theorem w_heat (a b : Int) (hb : 0 ≤ b) : -400 ≤ fnB rods grow 101 [a] ∧ fnB rods grow 101 [a] ≤ fnB rods grow 102 [a, b] ∧ fnB rods grow 102 [a, b] ≤ 400 := by
  simp only [fnB, wLo, wHi, Int.reduceSub, Int.reduceNeg]
  simp (disch := omega) only [Int.tdiv_eq_ediv_of_nonneg (a := b * _)]
  omega
theorem w_press (a b : Int) (hb : 0 ≤ b) : -300 ≤ fnB rods grow 103 [a] ∧ fnB rods grow 103 [a] ≤ fnB rods grow 104 [a, b] ∧ fnB rods grow 104 [a, b] ≤ 300 := by
  simp only [fnB, wLo, wHi, Int.reduceSub, Int.reduceNeg]
  simp (disch := omega) only [Int.tdiv_eq_ediv_of_nonneg (a := b * _)]
  omega
theorem w_arc (a b : Int) (hb : 0 ≤ b) : 0 ≤ fnB rods grow 105 [a] ∧ fnB rods grow 105 [a] ≤ fnB rods grow 106 [a, b] ∧ fnB rods grow 106 [a, b] ≤ 300 := by
  simp only [fnB, wLo, wHi, Int.reduceSub, Int.reduceNeg]
  simp (disch := omega) only [Int.tdiv_eq_ediv_of_nonneg (a := b * _)]
  omega
theorem w_force (a b : Int) (hb : 0 ≤ b) : -40 ≤ fnB rods grow 107 [a] ∧ fnB rods grow 107 [a] ≤ fnB rods grow 108 [a, b] ∧ fnB rods grow 108 [a, b] ≤ 40 := by
  simp only [fnB, wLo, wHi, Int.reduceSub, Int.reduceNeg]
  simp (disch := omega) only [Int.tdiv_eq_ediv_of_nonneg (a := b * _)]
  omega
theorem in_in {lo hi n : Int} (h : lo ≤ hi) (h1 : 0 ≤ n) (h2 : n ≤ 255) (h3 : -40000 ≤ lo) (h4 : hi ≤ 40000) : lo ≤ fnB rods grow 91 [lo, hi, n] ∧ fnB rods grow 91 [lo, hi, n] ≤ hi := by
  have := in_sub h h1 h2
  have e : fnB rods grow 91 [lo, hi, n] = clampM 40000 (inI [lo, hi, n]) := rfl
  rw [e, clampM_id (by omega) (by omega)]
  exact this
end
end Be
end Go.Proofs.Ytgpdodkcfiefjaa
