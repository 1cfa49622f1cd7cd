/- BeatSteady: what the law calls besides. -/
import Derived.Test.YtgpdodkcfiefjaaY3
set_option linter.unusedSimpArgs false
set_option linter.unusedVariables false
namespace Go.Proofs.Ytgpdodkcfiefjaa
open Abs Sx
set_option maxRecDepth 100000
namespace Be
def anP (n : Nat) : List X := (List.range n).flatMap fun i => rg 0 100001 (v (3 + 4 * i)) ++ rg2 0 40000 (v (4 + 4 * i)) (v (5 + 4 * i))
def upS (i : Nat) : X := .ite (v (6 + 4 * i)) (sub (lit 0) (v (3 + 4 * i))) (v (3 + 4 * i))
def smX : Nat → X
  | 0 => upS 0
  | n + 1 => add (smX n) (upS (n + 1))
def pEf (n : Nat) : Pr := ⟨13, [lClk n], anP n ++ rg (-400000) 400000 (smX (n - 1)), fun _ => .leaf (.tuple [.int .i64 (.bin .max (apl 72 (ownA n)) (sub (lit 0) (apl 71 (ownA n)))), .int .i64 (lnX 3 n)])⟩
def cxP (n : Nat) : List X := anP n ++ (rg 1 3 (v 0) ++ (rg (-1000000) 1000000 (v 1) ++ (rg2 (-100) 100 (v (3 + 4 * n)) (v (4 + 4 * n)) ++ (rg2 (-1000) 1000 (v (5 + 4 * n)) (v (6 + 4 * n)) ++ [.bin .or (.not (eq (v 0) (lit 2))) (le (lit 0) (v (5 + 4 * n))), .bin .or (.not (eq (v 0) (lit 3))) (an (eq (v (5 + 4 * n)) (lit 0)) (eq (v (6 + 4 * n)) (lit 0)))]))))
def lnB (x : X) : X := an (le (lit 1) x) (le x (lit 100000))
def lnBs (n : Nat) : Nat → X → X
  | 0, x => x
  | m + 1, x => an (lnB (v (3 + 4 * (n - (m + 1))))) (lnBs n m x)
def okX (n : Nat) : X := lnBs n n (an (le (lit 100) (lnX 3 n)) (le (lnX 3 n) (lit 100000)))
def pCx (n : Nat) : Pr := ⟨14, [lClk n], cxP n, fun _ => .ask (okX n) (.leaf (.int .i64 (lit 0))) (.leaf (.int .i64 (lit 2)))⟩
def cxR (n : Nat) : Nat → OT SV → OT SV
  | 0, t => t
  | m + 1, t => .ask (lt (v (3 + 4 * (n - (m + 1)))) (lit 1)) (.leaf (.int .i64 (lit 2))) (.ask (lt (lit 100000) (v (3 + 4 * (n - (m + 1))))) (.leaf (.int .i64 (lit 2))) (cxR n m t))
def cxT (n : Nat) : OT SV :=
  let e : OT SV := .leaf (.int .i64 (lit 2))
  let t : OT SV := .ask (lt (lnX 3 n) (lit 100)) e (.ask (lt (lit 100000) (lnX 3 n)) e (.leaf (.int .i64 (lit 0))))
  cxR n n (.ask (eq (v 0) (lit 3)) (.ask (.not (eq (v (6 + 4 * n)) (lit 0))) e (.ask (lt (v (5 + 4 * n)) (lit 0)) e t))
    (.ask (eq (v 0) (lit 2)) (.ask (lt (v (5 + 4 * n)) (lit 0)) e t) (.ask (eq (v 0) (lit 1)) t e)))
def blO (n k : Nat) : OT SV := .leaf (.tuple [.int .i64 (beX n k), .int .i64 (efO n k (beX n k)), .int .i64 (lit 0)])
def bnO (n : Nat) : Nat → OT SV
  | 0 => .no
  | m + 1 => .ask (eq (v (7 + 4 * n)) (lit ((n - (m + 1) : Nat) : Int))) (blO n (n - (m + 1))) (bnO n m)
def pBn (n : Nat) : Pr := ⟨12, [lClk n, i64], clkP n, fun _ => bnO n n⟩
theorem rod_g {lo hi len : Int} (up : Int) (h : lo ≤ hi) (h0 : 0 ≤ len) (h1 : 0 ≤ lo) : min (lo * lowI len up) (hi * lowI len up) = (bif i2b up then - (len * hi) else len * lo) ∧ max (lo * lowI len up) (hi * lowI len up) = (bif i2b up then - (len * lo) else len * hi) ∧ 0 ≤ len * lo ∧ len * lo ≤ len * hi := by
  have a := Int.mul_le_mul_of_nonneg_left h h0
  have b := Int.mul_nonneg h0 h1
  rw [Int.mul_comm lo, Int.mul_comm hi]
  unfold lowI
  cases i2b up <;> simp only [cond_true, cond_false, Int.zero_sub, Int.neg_mul] <;> omega
theorem pEf1_ok (rods : List Rod) (grow : List Int) : (pEf 1).Ok Try.prog (fnB rods grow) := by
  refine un1 (l := []) (R := RL) (fuel := 400) (fun _ => (.ask (.var 6) (.leaf (.tuple [(.int .i64 (.bin .max (.bin .sub (.lit 0) (.bin .mul (.var 3) (.var 4))) (.bin .sub (.lit 0) (.bin .sub (.lit 0) (.bin .mul (.var 3) (.var 5)))))), (.int .i64 (.bin .sub (.lit 0) (.var 3)))])) (.leaf (.tuple [(.int .i64 (.bin .mul (.var 3) (.var 5))), (.int .i64 (.var 3))])))) prog_ok trivial rfl (RL_ok _ _) rfl rfl ?h ?h' ?_
  case h => kernel_rfl
  case h' => kernel_rfl
  intro xs es hlen hpre hrw
  clear hrw hlen
  ( simp only [OT.vc, LT.vc, OT.is, AllB, RgB, inR, nthR, idsF, fsOf, List.drop, List.flatMap_cons, List.flatMap_nil, List.append_nil, List.getElem?_cons_zero, List.getElem?_cons_succ, rwFs, rwF, List.nil_append, List.cons_append, mix_v, mix_fn, upd_fn, upd_nil, upd_cons, X.one, X.isL, cond_false, valX_fn, valX_v, setM_v, List.mem_cons, List.not_mem_nil, or_false, false_or, or_true, true_or, if_true, if_false, ite_true, ite_false, Nat.reduceEqDiff, SV.den, AV.int.injEq, AV.bool.injEq, true_and, and_true, X.dB_lt, X.dB_le, X.dB_eq, X.denB_and, X.denB_or, X.denB_not, X.denB_lit0, X.denB_lit1, X.den_lit, X.den_var, X.den_add, X.den_sub, X.den_mul, X.den_app, X.den_ite, X.den_wrap, X.dB_ite, cond_tf, X.denB_app, X.denB_var, X.sem_cons, X.sem_nil, leB_t, ltB_t, eqB_t, leB_f, ltB_f, eqB_f, Bool.and_eq_true, Bool.or_eq_true, Bool.not_eq_true', Bool.and_eq_false_iff, Bool.or_eq_false_iff, Bool.not_eq_false', pEf, anP, smX, upS, add, Nat.sub_self, Nat.reduceSub, rg, rg2, an, Nat.beq, cond_true, cond_false, lnX, ownA, apl, le, lt, eq, sub, v, lit, i64, List.range, List.range.loop, List.flatMap_cons, List.flatMap_nil, List.foldr, Nat.reduceMul, Nat.reduceAdd, Nat.mul_zero, Nat.add_zero, X.den_min, X.den_max, SV.dens, AV.tuple.injEq, List.cons.injEq] at *)
  have hl : RdL [xs.getD 4 0, xs.getD 5 0, xs.getD 3 0, xs.getD 6 0] := by simp only [RdL, and_true]; omega
  have g := g_bd hl
  simp only [List.length_cons, List.length_nil] at g
  have e1 : fnB rods grow 71 [xs.getD 4 0, xs.getD 5 0, xs.getD 3 0, xs.getD 6 0] = clampM 20000000000 (gLoL [xs.getD 4 0, xs.getD 5 0, xs.getD 3 0, xs.getD 6 0]) := rfl
  have e2 : fnB rods grow 72 [xs.getD 4 0, xs.getD 5 0, xs.getD 3 0, xs.getD 6 0] = clampM 20000000000 (gHiL [xs.getD 4 0, xs.getD 5 0, xs.getD 3 0, xs.getD 6 0]) := rfl
  rw [e1, e2, f73, clampM_id (by omega) (by omega), clampM_id (by omega) (by omega)]
  obtain ⟨m0, M0, p0, q0⟩ := rod_g (lo := xs.getD 4 0) (hi := xs.getD 5 0) (len := xs.getD 3 0) (xs.getD 6 0) (by omega) (by omega) (by omega)
  simp only [gLoL, gHiL, lnL, clampM, m0, M0]
  simp only [lowI]
  have hs : -400000 ≤ (bif i2b (xs.getD 6 0) then 0 - xs.getD 3 0 else xs.getD 3 0) ∧ (bif i2b (xs.getD 6 0) then 0 - xs.getD 3 0 else xs.getD 3 0) ≤ 400000 := by omega
  revert hs
  clear g e1 e2 hl m0 M0
  cases i2b (xs.getD 6 0) <;> simp only [cond_true, cond_false, true_implies, false_implies, Bool.true_eq_false, Bool.false_eq_true, reduceCtorEq, and_true, true_and, implies_true] <;> (repeat' (first | apply And.intro | intro _)) <;> omega
theorem pEf2_ok (rods : List Rod) (grow : List Int) : (pEf 2).Ok Try.prog (fnB rods grow) := by
  refine un1 (l := []) (R := RL) (fuel := 400) (fun _ => (.ask (.var 6) (.ask (.var 10) (.leaf (.tuple [(.int .i64 (.bin .max (.bin .sub (.bin .sub (.lit 0) (.bin .mul (.var 3) (.var 4))) (.bin .mul (.var 7) (.var 8))) (.bin .sub (.lit 0) (.bin .sub (.bin .sub (.lit 0) (.bin .mul (.var 3) (.var 5))) (.bin .mul (.var 7) (.var 9)))))), (.int .i64 (.bin .sub (.bin .sub (.lit 0) (.var 3)) (.var 7)))])) (.leaf (.tuple [(.int .i64 (.bin .max (.bin .add (.bin .sub (.lit 0) (.bin .mul (.var 3) (.var 4))) (.bin .mul (.var 7) (.var 9))) (.bin .sub (.lit 0) (.bin .add (.bin .sub (.lit 0) (.bin .mul (.var 3) (.var 5))) (.bin .mul (.var 7) (.var 8)))))), (.int .i64 (.bin .add (.bin .sub (.lit 0) (.var 3)) (.var 7)))]))) (.ask (.var 10) (.leaf (.tuple [(.int .i64 (.bin .max (.bin .sub (.bin .mul (.var 3) (.var 5)) (.bin .mul (.var 7) (.var 8))) (.bin .sub (.lit 0) (.bin .sub (.bin .mul (.var 3) (.var 4)) (.bin .mul (.var 7) (.var 9)))))), (.int .i64 (.bin .sub (.var 3) (.var 7)))])) (.leaf (.tuple [(.int .i64 (.bin .add (.bin .mul (.var 3) (.var 5)) (.bin .mul (.var 7) (.var 9)))), (.int .i64 (.bin .add (.var 3) (.var 7)))]))))) prog_ok trivial rfl (RL_ok _ _) rfl rfl ?h ?h' ?_
  case h => kernel_rfl
  case h' => kernel_rfl
  intro xs es hlen hpre hrw
  clear hrw hlen
  ( simp only [OT.vc, LT.vc, OT.is, AllB, RgB, inR, nthR, idsF, fsOf, List.drop, List.flatMap_cons, List.flatMap_nil, List.append_nil, List.getElem?_cons_zero, List.getElem?_cons_succ, rwFs, rwF, List.nil_append, List.cons_append, mix_v, mix_fn, upd_fn, upd_nil, upd_cons, X.one, X.isL, cond_false, valX_fn, valX_v, setM_v, List.mem_cons, List.not_mem_nil, or_false, false_or, or_true, true_or, if_true, if_false, ite_true, ite_false, Nat.reduceEqDiff, SV.den, AV.int.injEq, AV.bool.injEq, true_and, and_true, X.dB_lt, X.dB_le, X.dB_eq, X.denB_and, X.denB_or, X.denB_not, X.denB_lit0, X.denB_lit1, X.den_lit, X.den_var, X.den_add, X.den_sub, X.den_mul, X.den_app, X.den_ite, X.den_wrap, X.dB_ite, cond_tf, X.denB_app, X.denB_var, X.sem_cons, X.sem_nil, leB_t, ltB_t, eqB_t, leB_f, ltB_f, eqB_f, Bool.and_eq_true, Bool.or_eq_true, Bool.not_eq_true', Bool.and_eq_false_iff, Bool.or_eq_false_iff, Bool.not_eq_false', pEf, anP, smX, upS, add, Nat.sub_self, Nat.reduceSub, rg, rg2, an, Nat.beq, cond_true, cond_false, lnX, ownA, apl, le, lt, eq, sub, v, lit, i64, List.range, List.range.loop, List.flatMap_cons, List.flatMap_nil, List.foldr, Nat.reduceMul, Nat.reduceAdd, Nat.mul_zero, Nat.add_zero, X.den_min, X.den_max, SV.dens, AV.tuple.injEq, List.cons.injEq] at *)
  have hl : RdL [xs.getD 4 0, xs.getD 5 0, xs.getD 3 0, xs.getD 6 0, xs.getD 8 0, xs.getD 9 0, xs.getD 7 0, xs.getD 10 0] := by simp only [RdL, and_true]; omega
  have g := g_bd hl
  simp only [List.length_cons, List.length_nil] at g
  have e1 : fnB rods grow 71 [xs.getD 4 0, xs.getD 5 0, xs.getD 3 0, xs.getD 6 0, xs.getD 8 0, xs.getD 9 0, xs.getD 7 0, xs.getD 10 0] = clampM 20000000000 (gLoL [xs.getD 4 0, xs.getD 5 0, xs.getD 3 0, xs.getD 6 0, xs.getD 8 0, xs.getD 9 0, xs.getD 7 0, xs.getD 10 0]) := rfl
  have e2 : fnB rods grow 72 [xs.getD 4 0, xs.getD 5 0, xs.getD 3 0, xs.getD 6 0, xs.getD 8 0, xs.getD 9 0, xs.getD 7 0, xs.getD 10 0] = clampM 20000000000 (gHiL [xs.getD 4 0, xs.getD 5 0, xs.getD 3 0, xs.getD 6 0, xs.getD 8 0, xs.getD 9 0, xs.getD 7 0, xs.getD 10 0]) := rfl
  rw [e1, e2, f73, clampM_id (by omega) (by omega), clampM_id (by omega) (by omega)]
  obtain ⟨m0, M0, p0, q0⟩ := rod_g (lo := xs.getD 4 0) (hi := xs.getD 5 0) (len := xs.getD 3 0) (xs.getD 6 0) (by omega) (by omega) (by omega)
  obtain ⟨m1, M1, p1, q1⟩ := rod_g (lo := xs.getD 8 0) (hi := xs.getD 9 0) (len := xs.getD 7 0) (xs.getD 10 0) (by omega) (by omega) (by omega)
  simp only [gLoL, gHiL, lnL, clampM, m0, M0, m1, M1]
  simp only [lowI]
  have hs : -400000 ≤ (bif i2b (xs.getD 6 0) then 0 - xs.getD 3 0 else xs.getD 3 0) + (bif i2b (xs.getD 10 0) then 0 - xs.getD 7 0 else xs.getD 7 0) ∧ (bif i2b (xs.getD 6 0) then 0 - xs.getD 3 0 else xs.getD 3 0) + (bif i2b (xs.getD 10 0) then 0 - xs.getD 7 0 else xs.getD 7 0) ≤ 400000 := by omega
  revert hs
  clear g e1 e2 hl m0 M0 m1 M1
  cases i2b (xs.getD 6 0) <;> cases i2b (xs.getD 10 0) <;> simp only [cond_true, cond_false, true_implies, false_implies, Bool.true_eq_false, Bool.false_eq_true, reduceCtorEq, and_true, true_and, implies_true] <;> (repeat' (first | apply And.intro | intro _)) <;> omega
theorem pEf3_ok (rods : List Rod) (grow : List Int) : (pEf 3).Ok Try.prog (fnB rods grow) := by
  refine un1 (l := []) (R := RL) (fuel := 400) (fun _ => (.ask (.var 6) (.ask (.var 10) (.ask (.var 14) (.leaf (.tuple [(.int .i64 (.bin .max (.bin .sub (.bin .sub (.bin .sub (.lit 0) (.bin .mul (.var 3) (.var 4))) (.bin .mul (.var 7) (.var 8))) (.bin .mul (.var 11) (.var 12))) (.bin .sub (.lit 0) (.bin .sub (.bin .sub (.bin .sub (.lit 0) (.bin .mul (.var 3) (.var 5))) (.bin .mul (.var 7) (.var 9))) (.bin .mul (.var 11) (.var 13)))))), (.int .i64 (.bin .sub (.bin .sub (.bin .sub (.lit 0) (.var 3)) (.var 7)) (.var 11)))])) (.leaf (.tuple [(.int .i64 (.bin .max (.bin .add (.bin .sub (.bin .sub (.lit 0) (.bin .mul (.var 3) (.var 4))) (.bin .mul (.var 7) (.var 8))) (.bin .mul (.var 11) (.var 13))) (.bin .sub (.lit 0) (.bin .add (.bin .sub (.bin .sub (.lit 0) (.bin .mul (.var 3) (.var 5))) (.bin .mul (.var 7) (.var 9))) (.bin .mul (.var 11) (.var 12)))))), (.int .i64 (.bin .add (.bin .sub (.bin .sub (.lit 0) (.var 3)) (.var 7)) (.var 11)))]))) (.ask (.var 14) (.leaf (.tuple [(.int .i64 (.bin .max (.bin .sub (.bin .add (.bin .sub (.lit 0) (.bin .mul (.var 3) (.var 4))) (.bin .mul (.var 7) (.var 9))) (.bin .mul (.var 11) (.var 12))) (.bin .sub (.lit 0) (.bin .sub (.bin .add (.bin .sub (.lit 0) (.bin .mul (.var 3) (.var 5))) (.bin .mul (.var 7) (.var 8))) (.bin .mul (.var 11) (.var 13)))))), (.int .i64 (.bin .sub (.bin .add (.bin .sub (.lit 0) (.var 3)) (.var 7)) (.var 11)))])) (.leaf (.tuple [(.int .i64 (.bin .max (.bin .add (.bin .add (.bin .sub (.lit 0) (.bin .mul (.var 3) (.var 4))) (.bin .mul (.var 7) (.var 9))) (.bin .mul (.var 11) (.var 13))) (.bin .sub (.lit 0) (.bin .add (.bin .add (.bin .sub (.lit 0) (.bin .mul (.var 3) (.var 5))) (.bin .mul (.var 7) (.var 8))) (.bin .mul (.var 11) (.var 12)))))), (.int .i64 (.bin .add (.bin .add (.bin .sub (.lit 0) (.var 3)) (.var 7)) (.var 11)))])))) (.ask (.var 10) (.ask (.var 14) (.leaf (.tuple [(.int .i64 (.bin .max (.bin .sub (.bin .sub (.bin .mul (.var 3) (.var 5)) (.bin .mul (.var 7) (.var 8))) (.bin .mul (.var 11) (.var 12))) (.bin .sub (.lit 0) (.bin .sub (.bin .sub (.bin .mul (.var 3) (.var 4)) (.bin .mul (.var 7) (.var 9))) (.bin .mul (.var 11) (.var 13)))))), (.int .i64 (.bin .sub (.bin .sub (.var 3) (.var 7)) (.var 11)))])) (.leaf (.tuple [(.int .i64 (.bin .max (.bin .add (.bin .sub (.bin .mul (.var 3) (.var 5)) (.bin .mul (.var 7) (.var 8))) (.bin .mul (.var 11) (.var 13))) (.bin .sub (.lit 0) (.bin .add (.bin .sub (.bin .mul (.var 3) (.var 4)) (.bin .mul (.var 7) (.var 9))) (.bin .mul (.var 11) (.var 12)))))), (.int .i64 (.bin .add (.bin .sub (.var 3) (.var 7)) (.var 11)))]))) (.ask (.var 14) (.leaf (.tuple [(.int .i64 (.bin .max (.bin .sub (.bin .add (.bin .mul (.var 3) (.var 5)) (.bin .mul (.var 7) (.var 9))) (.bin .mul (.var 11) (.var 12))) (.bin .sub (.lit 0) (.bin .sub (.bin .add (.bin .mul (.var 3) (.var 4)) (.bin .mul (.var 7) (.var 8))) (.bin .mul (.var 11) (.var 13)))))), (.int .i64 (.bin .sub (.bin .add (.var 3) (.var 7)) (.var 11)))])) (.leaf (.tuple [(.int .i64 (.bin .add (.bin .add (.bin .mul (.var 3) (.var 5)) (.bin .mul (.var 7) (.var 9))) (.bin .mul (.var 11) (.var 13)))), (.int .i64 (.bin .add (.bin .add (.var 3) (.var 7)) (.var 11)))])))))) prog_ok trivial rfl (RL_ok _ _) rfl rfl ?h ?h' ?_
  case h => kernel_rfl
  case h' => kernel_rfl
  intro xs es hlen hpre hrw
  clear hrw hlen
  ( simp only [OT.vc, LT.vc, OT.is, AllB, RgB, inR, nthR, idsF, fsOf, List.drop, List.flatMap_cons, List.flatMap_nil, List.append_nil, List.getElem?_cons_zero, List.getElem?_cons_succ, rwFs, rwF, List.nil_append, List.cons_append, mix_v, mix_fn, upd_fn, upd_nil, upd_cons, X.one, X.isL, cond_false, valX_fn, valX_v, setM_v, List.mem_cons, List.not_mem_nil, or_false, false_or, or_true, true_or, if_true, if_false, ite_true, ite_false, Nat.reduceEqDiff, SV.den, AV.int.injEq, AV.bool.injEq, true_and, and_true, X.dB_lt, X.dB_le, X.dB_eq, X.denB_and, X.denB_or, X.denB_not, X.denB_lit0, X.denB_lit1, X.den_lit, X.den_var, X.den_add, X.den_sub, X.den_mul, X.den_app, X.den_ite, X.den_wrap, X.dB_ite, cond_tf, X.denB_app, X.denB_var, X.sem_cons, X.sem_nil, leB_t, ltB_t, eqB_t, leB_f, ltB_f, eqB_f, Bool.and_eq_true, Bool.or_eq_true, Bool.not_eq_true', Bool.and_eq_false_iff, Bool.or_eq_false_iff, Bool.not_eq_false', pEf, anP, smX, upS, add, Nat.sub_self, Nat.reduceSub, rg, rg2, an, Nat.beq, cond_true, cond_false, lnX, ownA, apl, le, lt, eq, sub, v, lit, i64, List.range, List.range.loop, List.flatMap_cons, List.flatMap_nil, List.foldr, Nat.reduceMul, Nat.reduceAdd, Nat.mul_zero, Nat.add_zero, X.den_min, X.den_max, SV.dens, AV.tuple.injEq, List.cons.injEq] at *)
  have hl : RdL [xs.getD 4 0, xs.getD 5 0, xs.getD 3 0, xs.getD 6 0, xs.getD 8 0, xs.getD 9 0, xs.getD 7 0, xs.getD 10 0, xs.getD 12 0, xs.getD 13 0, xs.getD 11 0, xs.getD 14 0] := by simp only [RdL, and_true]; omega
  have g := g_bd hl
  simp only [List.length_cons, List.length_nil] at g
  have e1 : fnB rods grow 71 [xs.getD 4 0, xs.getD 5 0, xs.getD 3 0, xs.getD 6 0, xs.getD 8 0, xs.getD 9 0, xs.getD 7 0, xs.getD 10 0, xs.getD 12 0, xs.getD 13 0, xs.getD 11 0, xs.getD 14 0] = clampM 20000000000 (gLoL [xs.getD 4 0, xs.getD 5 0, xs.getD 3 0, xs.getD 6 0, xs.getD 8 0, xs.getD 9 0, xs.getD 7 0, xs.getD 10 0, xs.getD 12 0, xs.getD 13 0, xs.getD 11 0, xs.getD 14 0]) := rfl
  have e2 : fnB rods grow 72 [xs.getD 4 0, xs.getD 5 0, xs.getD 3 0, xs.getD 6 0, xs.getD 8 0, xs.getD 9 0, xs.getD 7 0, xs.getD 10 0, xs.getD 12 0, xs.getD 13 0, xs.getD 11 0, xs.getD 14 0] = clampM 20000000000 (gHiL [xs.getD 4 0, xs.getD 5 0, xs.getD 3 0, xs.getD 6 0, xs.getD 8 0, xs.getD 9 0, xs.getD 7 0, xs.getD 10 0, xs.getD 12 0, xs.getD 13 0, xs.getD 11 0, xs.getD 14 0]) := rfl
  rw [e1, e2, f73, clampM_id (by omega) (by omega), clampM_id (by omega) (by omega)]
  obtain ⟨m0, M0, p0, q0⟩ := rod_g (lo := xs.getD 4 0) (hi := xs.getD 5 0) (len := xs.getD 3 0) (xs.getD 6 0) (by omega) (by omega) (by omega)
  obtain ⟨m1, M1, p1, q1⟩ := rod_g (lo := xs.getD 8 0) (hi := xs.getD 9 0) (len := xs.getD 7 0) (xs.getD 10 0) (by omega) (by omega) (by omega)
  obtain ⟨m2, M2, p2, q2⟩ := rod_g (lo := xs.getD 12 0) (hi := xs.getD 13 0) (len := xs.getD 11 0) (xs.getD 14 0) (by omega) (by omega) (by omega)
  simp only [gLoL, gHiL, lnL, clampM, m0, M0, m1, M1, m2, M2]
  simp only [lowI]
  have hs : -400000 ≤ (bif i2b (xs.getD 6 0) then 0 - xs.getD 3 0 else xs.getD 3 0) + (bif i2b (xs.getD 10 0) then 0 - xs.getD 7 0 else xs.getD 7 0) + (bif i2b (xs.getD 14 0) then 0 - xs.getD 11 0 else xs.getD 11 0) ∧ (bif i2b (xs.getD 6 0) then 0 - xs.getD 3 0 else xs.getD 3 0) + (bif i2b (xs.getD 10 0) then 0 - xs.getD 7 0 else xs.getD 7 0) + (bif i2b (xs.getD 14 0) then 0 - xs.getD 11 0 else xs.getD 11 0) ≤ 400000 := by omega
  revert hs
  clear g e1 e2 hl m0 M0 m1 M1 m2 M2
  cases i2b (xs.getD 6 0) <;> cases i2b (xs.getD 10 0) <;> cases i2b (xs.getD 14 0) <;> simp only [cond_true, cond_false, true_implies, false_implies, Bool.true_eq_false, Bool.false_eq_true, reduceCtorEq, and_true, true_and, implies_true] <;> (repeat' (first | apply And.intro | intro _)) <;> omega
theorem pEf4_ok (rods : List Rod) (grow : List Int) : (pEf 4).Ok Try.prog (fnB rods grow) := by
  refine un1 (l := []) (R := RL) (fuel := 400) (fun _ => (.ask (.var 6) (.ask (.var 10) (.ask (.var 14) (.ask (.var 18) (.leaf (.tuple [(.int .i64 (.bin .max (.bin .sub (.bin .sub (.bin .sub (.bin .sub (.lit 0) (.bin .mul (.var 3) (.var 4))) (.bin .mul (.var 7) (.var 8))) (.bin .mul (.var 11) (.var 12))) (.bin .mul (.var 15) (.var 16))) (.bin .sub (.lit 0) (.bin .sub (.bin .sub (.bin .sub (.bin .sub (.lit 0) (.bin .mul (.var 3) (.var 5))) (.bin .mul (.var 7) (.var 9))) (.bin .mul (.var 11) (.var 13))) (.bin .mul (.var 15) (.var 17)))))), (.int .i64 (.bin .sub (.bin .sub (.bin .sub (.bin .sub (.lit 0) (.var 3)) (.var 7)) (.var 11)) (.var 15)))])) (.leaf (.tuple [(.int .i64 (.bin .max (.bin .add (.bin .sub (.bin .sub (.bin .sub (.lit 0) (.bin .mul (.var 3) (.var 4))) (.bin .mul (.var 7) (.var 8))) (.bin .mul (.var 11) (.var 12))) (.bin .mul (.var 15) (.var 17))) (.bin .sub (.lit 0) (.bin .add (.bin .sub (.bin .sub (.bin .sub (.lit 0) (.bin .mul (.var 3) (.var 5))) (.bin .mul (.var 7) (.var 9))) (.bin .mul (.var 11) (.var 13))) (.bin .mul (.var 15) (.var 16)))))), (.int .i64 (.bin .add (.bin .sub (.bin .sub (.bin .sub (.lit 0) (.var 3)) (.var 7)) (.var 11)) (.var 15)))]))) (.ask (.var 18) (.leaf (.tuple [(.int .i64 (.bin .max (.bin .sub (.bin .add (.bin .sub (.bin .sub (.lit 0) (.bin .mul (.var 3) (.var 4))) (.bin .mul (.var 7) (.var 8))) (.bin .mul (.var 11) (.var 13))) (.bin .mul (.var 15) (.var 16))) (.bin .sub (.lit 0) (.bin .sub (.bin .add (.bin .sub (.bin .sub (.lit 0) (.bin .mul (.var 3) (.var 5))) (.bin .mul (.var 7) (.var 9))) (.bin .mul (.var 11) (.var 12))) (.bin .mul (.var 15) (.var 17)))))), (.int .i64 (.bin .sub (.bin .add (.bin .sub (.bin .sub (.lit 0) (.var 3)) (.var 7)) (.var 11)) (.var 15)))])) (.leaf (.tuple [(.int .i64 (.bin .max (.bin .add (.bin .add (.bin .sub (.bin .sub (.lit 0) (.bin .mul (.var 3) (.var 4))) (.bin .mul (.var 7) (.var 8))) (.bin .mul (.var 11) (.var 13))) (.bin .mul (.var 15) (.var 17))) (.bin .sub (.lit 0) (.bin .add (.bin .add (.bin .sub (.bin .sub (.lit 0) (.bin .mul (.var 3) (.var 5))) (.bin .mul (.var 7) (.var 9))) (.bin .mul (.var 11) (.var 12))) (.bin .mul (.var 15) (.var 16)))))), (.int .i64 (.bin .add (.bin .add (.bin .sub (.bin .sub (.lit 0) (.var 3)) (.var 7)) (.var 11)) (.var 15)))])))) (.ask (.var 14) (.ask (.var 18) (.leaf (.tuple [(.int .i64 (.bin .max (.bin .sub (.bin .sub (.bin .add (.bin .sub (.lit 0) (.bin .mul (.var 3) (.var 4))) (.bin .mul (.var 7) (.var 9))) (.bin .mul (.var 11) (.var 12))) (.bin .mul (.var 15) (.var 16))) (.bin .sub (.lit 0) (.bin .sub (.bin .sub (.bin .add (.bin .sub (.lit 0) (.bin .mul (.var 3) (.var 5))) (.bin .mul (.var 7) (.var 8))) (.bin .mul (.var 11) (.var 13))) (.bin .mul (.var 15) (.var 17)))))), (.int .i64 (.bin .sub (.bin .sub (.bin .add (.bin .sub (.lit 0) (.var 3)) (.var 7)) (.var 11)) (.var 15)))])) (.leaf (.tuple [(.int .i64 (.bin .max (.bin .add (.bin .sub (.bin .add (.bin .sub (.lit 0) (.bin .mul (.var 3) (.var 4))) (.bin .mul (.var 7) (.var 9))) (.bin .mul (.var 11) (.var 12))) (.bin .mul (.var 15) (.var 17))) (.bin .sub (.lit 0) (.bin .add (.bin .sub (.bin .add (.bin .sub (.lit 0) (.bin .mul (.var 3) (.var 5))) (.bin .mul (.var 7) (.var 8))) (.bin .mul (.var 11) (.var 13))) (.bin .mul (.var 15) (.var 16)))))), (.int .i64 (.bin .add (.bin .sub (.bin .add (.bin .sub (.lit 0) (.var 3)) (.var 7)) (.var 11)) (.var 15)))]))) (.ask (.var 18) (.leaf (.tuple [(.int .i64 (.bin .max (.bin .sub (.bin .add (.bin .add (.bin .sub (.lit 0) (.bin .mul (.var 3) (.var 4))) (.bin .mul (.var 7) (.var 9))) (.bin .mul (.var 11) (.var 13))) (.bin .mul (.var 15) (.var 16))) (.bin .sub (.lit 0) (.bin .sub (.bin .add (.bin .add (.bin .sub (.lit 0) (.bin .mul (.var 3) (.var 5))) (.bin .mul (.var 7) (.var 8))) (.bin .mul (.var 11) (.var 12))) (.bin .mul (.var 15) (.var 17)))))), (.int .i64 (.bin .sub (.bin .add (.bin .add (.bin .sub (.lit 0) (.var 3)) (.var 7)) (.var 11)) (.var 15)))])) (.leaf (.tuple [(.int .i64 (.bin .max (.bin .add (.bin .add (.bin .add (.bin .sub (.lit 0) (.bin .mul (.var 3) (.var 4))) (.bin .mul (.var 7) (.var 9))) (.bin .mul (.var 11) (.var 13))) (.bin .mul (.var 15) (.var 17))) (.bin .sub (.lit 0) (.bin .add (.bin .add (.bin .add (.bin .sub (.lit 0) (.bin .mul (.var 3) (.var 5))) (.bin .mul (.var 7) (.var 8))) (.bin .mul (.var 11) (.var 12))) (.bin .mul (.var 15) (.var 16)))))), (.int .i64 (.bin .add (.bin .add (.bin .add (.bin .sub (.lit 0) (.var 3)) (.var 7)) (.var 11)) (.var 15)))]))))) (.ask (.var 10) (.ask (.var 14) (.ask (.var 18) (.leaf (.tuple [(.int .i64 (.bin .max (.bin .sub (.bin .sub (.bin .sub (.bin .mul (.var 3) (.var 5)) (.bin .mul (.var 7) (.var 8))) (.bin .mul (.var 11) (.var 12))) (.bin .mul (.var 15) (.var 16))) (.bin .sub (.lit 0) (.bin .sub (.bin .sub (.bin .sub (.bin .mul (.var 3) (.var 4)) (.bin .mul (.var 7) (.var 9))) (.bin .mul (.var 11) (.var 13))) (.bin .mul (.var 15) (.var 17)))))), (.int .i64 (.bin .sub (.bin .sub (.bin .sub (.var 3) (.var 7)) (.var 11)) (.var 15)))])) (.leaf (.tuple [(.int .i64 (.bin .max (.bin .add (.bin .sub (.bin .sub (.bin .mul (.var 3) (.var 5)) (.bin .mul (.var 7) (.var 8))) (.bin .mul (.var 11) (.var 12))) (.bin .mul (.var 15) (.var 17))) (.bin .sub (.lit 0) (.bin .add (.bin .sub (.bin .sub (.bin .mul (.var 3) (.var 4)) (.bin .mul (.var 7) (.var 9))) (.bin .mul (.var 11) (.var 13))) (.bin .mul (.var 15) (.var 16)))))), (.int .i64 (.bin .add (.bin .sub (.bin .sub (.var 3) (.var 7)) (.var 11)) (.var 15)))]))) (.ask (.var 18) (.leaf (.tuple [(.int .i64 (.bin .max (.bin .sub (.bin .add (.bin .sub (.bin .mul (.var 3) (.var 5)) (.bin .mul (.var 7) (.var 8))) (.bin .mul (.var 11) (.var 13))) (.bin .mul (.var 15) (.var 16))) (.bin .sub (.lit 0) (.bin .sub (.bin .add (.bin .sub (.bin .mul (.var 3) (.var 4)) (.bin .mul (.var 7) (.var 9))) (.bin .mul (.var 11) (.var 12))) (.bin .mul (.var 15) (.var 17)))))), (.int .i64 (.bin .sub (.bin .add (.bin .sub (.var 3) (.var 7)) (.var 11)) (.var 15)))])) (.leaf (.tuple [(.int .i64 (.bin .max (.bin .add (.bin .add (.bin .sub (.bin .mul (.var 3) (.var 5)) (.bin .mul (.var 7) (.var 8))) (.bin .mul (.var 11) (.var 13))) (.bin .mul (.var 15) (.var 17))) (.bin .sub (.lit 0) (.bin .add (.bin .add (.bin .sub (.bin .mul (.var 3) (.var 4)) (.bin .mul (.var 7) (.var 9))) (.bin .mul (.var 11) (.var 12))) (.bin .mul (.var 15) (.var 16)))))), (.int .i64 (.bin .add (.bin .add (.bin .sub (.var 3) (.var 7)) (.var 11)) (.var 15)))])))) (.ask (.var 14) (.ask (.var 18) (.leaf (.tuple [(.int .i64 (.bin .max (.bin .sub (.bin .sub (.bin .add (.bin .mul (.var 3) (.var 5)) (.bin .mul (.var 7) (.var 9))) (.bin .mul (.var 11) (.var 12))) (.bin .mul (.var 15) (.var 16))) (.bin .sub (.lit 0) (.bin .sub (.bin .sub (.bin .add (.bin .mul (.var 3) (.var 4)) (.bin .mul (.var 7) (.var 8))) (.bin .mul (.var 11) (.var 13))) (.bin .mul (.var 15) (.var 17)))))), (.int .i64 (.bin .sub (.bin .sub (.bin .add (.var 3) (.var 7)) (.var 11)) (.var 15)))])) (.leaf (.tuple [(.int .i64 (.bin .max (.bin .add (.bin .sub (.bin .add (.bin .mul (.var 3) (.var 5)) (.bin .mul (.var 7) (.var 9))) (.bin .mul (.var 11) (.var 12))) (.bin .mul (.var 15) (.var 17))) (.bin .sub (.lit 0) (.bin .add (.bin .sub (.bin .add (.bin .mul (.var 3) (.var 4)) (.bin .mul (.var 7) (.var 8))) (.bin .mul (.var 11) (.var 13))) (.bin .mul (.var 15) (.var 16)))))), (.int .i64 (.bin .add (.bin .sub (.bin .add (.var 3) (.var 7)) (.var 11)) (.var 15)))]))) (.ask (.var 18) (.leaf (.tuple [(.int .i64 (.bin .max (.bin .sub (.bin .add (.bin .add (.bin .mul (.var 3) (.var 5)) (.bin .mul (.var 7) (.var 9))) (.bin .mul (.var 11) (.var 13))) (.bin .mul (.var 15) (.var 16))) (.bin .sub (.lit 0) (.bin .sub (.bin .add (.bin .add (.bin .mul (.var 3) (.var 4)) (.bin .mul (.var 7) (.var 8))) (.bin .mul (.var 11) (.var 12))) (.bin .mul (.var 15) (.var 17)))))), (.int .i64 (.bin .sub (.bin .add (.bin .add (.var 3) (.var 7)) (.var 11)) (.var 15)))])) (.leaf (.tuple [(.int .i64 (.bin .add (.bin .add (.bin .add (.bin .mul (.var 3) (.var 5)) (.bin .mul (.var 7) (.var 9))) (.bin .mul (.var 11) (.var 13))) (.bin .mul (.var 15) (.var 17)))), (.int .i64 (.bin .add (.bin .add (.bin .add (.var 3) (.var 7)) (.var 11)) (.var 15)))]))))))) prog_ok trivial rfl (RL_ok _ _) rfl rfl ?h ?h' ?_
  case h => kernel_rfl
  case h' => kernel_rfl
  intro xs es hlen hpre hrw
  clear hrw hlen
  ( simp only [OT.vc, LT.vc, OT.is, AllB, RgB, inR, nthR, idsF, fsOf, List.drop, List.flatMap_cons, List.flatMap_nil, List.append_nil, List.getElem?_cons_zero, List.getElem?_cons_succ, rwFs, rwF, List.nil_append, List.cons_append, mix_v, mix_fn, upd_fn, upd_nil, upd_cons, X.one, X.isL, cond_false, valX_fn, valX_v, setM_v, List.mem_cons, List.not_mem_nil, or_false, false_or, or_true, true_or, if_true, if_false, ite_true, ite_false, Nat.reduceEqDiff, SV.den, AV.int.injEq, AV.bool.injEq, true_and, and_true, X.dB_lt, X.dB_le, X.dB_eq, X.denB_and, X.denB_or, X.denB_not, X.denB_lit0, X.denB_lit1, X.den_lit, X.den_var, X.den_add, X.den_sub, X.den_mul, X.den_app, X.den_ite, X.den_wrap, X.dB_ite, cond_tf, X.denB_app, X.denB_var, X.sem_cons, X.sem_nil, leB_t, ltB_t, eqB_t, leB_f, ltB_f, eqB_f, Bool.and_eq_true, Bool.or_eq_true, Bool.not_eq_true', Bool.and_eq_false_iff, Bool.or_eq_false_iff, Bool.not_eq_false', pEf, anP, smX, upS, add, Nat.sub_self, Nat.reduceSub, rg, rg2, an, Nat.beq, cond_true, cond_false, lnX, ownA, apl, le, lt, eq, sub, v, lit, i64, List.range, List.range.loop, List.flatMap_cons, List.flatMap_nil, List.foldr, Nat.reduceMul, Nat.reduceAdd, Nat.mul_zero, Nat.add_zero, X.den_min, X.den_max, SV.dens, AV.tuple.injEq, List.cons.injEq] at *)
  have hl : RdL [xs.getD 4 0, xs.getD 5 0, xs.getD 3 0, xs.getD 6 0, xs.getD 8 0, xs.getD 9 0, xs.getD 7 0, xs.getD 10 0, xs.getD 12 0, xs.getD 13 0, xs.getD 11 0, xs.getD 14 0, xs.getD 16 0, xs.getD 17 0, xs.getD 15 0, xs.getD 18 0] := by simp only [RdL, and_true]; omega
  have g := g_bd hl
  simp only [List.length_cons, List.length_nil] at g
  have e1 : fnB rods grow 71 [xs.getD 4 0, xs.getD 5 0, xs.getD 3 0, xs.getD 6 0, xs.getD 8 0, xs.getD 9 0, xs.getD 7 0, xs.getD 10 0, xs.getD 12 0, xs.getD 13 0, xs.getD 11 0, xs.getD 14 0, xs.getD 16 0, xs.getD 17 0, xs.getD 15 0, xs.getD 18 0] = clampM 20000000000 (gLoL [xs.getD 4 0, xs.getD 5 0, xs.getD 3 0, xs.getD 6 0, xs.getD 8 0, xs.getD 9 0, xs.getD 7 0, xs.getD 10 0, xs.getD 12 0, xs.getD 13 0, xs.getD 11 0, xs.getD 14 0, xs.getD 16 0, xs.getD 17 0, xs.getD 15 0, xs.getD 18 0]) := rfl
  have e2 : fnB rods grow 72 [xs.getD 4 0, xs.getD 5 0, xs.getD 3 0, xs.getD 6 0, xs.getD 8 0, xs.getD 9 0, xs.getD 7 0, xs.getD 10 0, xs.getD 12 0, xs.getD 13 0, xs.getD 11 0, xs.getD 14 0, xs.getD 16 0, xs.getD 17 0, xs.getD 15 0, xs.getD 18 0] = clampM 20000000000 (gHiL [xs.getD 4 0, xs.getD 5 0, xs.getD 3 0, xs.getD 6 0, xs.getD 8 0, xs.getD 9 0, xs.getD 7 0, xs.getD 10 0, xs.getD 12 0, xs.getD 13 0, xs.getD 11 0, xs.getD 14 0, xs.getD 16 0, xs.getD 17 0, xs.getD 15 0, xs.getD 18 0]) := rfl
  rw [e1, e2, f73, clampM_id (by omega) (by omega), clampM_id (by omega) (by omega)]
  obtain ⟨m0, M0, p0, q0⟩ := rod_g (lo := xs.getD 4 0) (hi := xs.getD 5 0) (len := xs.getD 3 0) (xs.getD 6 0) (by omega) (by omega) (by omega)
  obtain ⟨m1, M1, p1, q1⟩ := rod_g (lo := xs.getD 8 0) (hi := xs.getD 9 0) (len := xs.getD 7 0) (xs.getD 10 0) (by omega) (by omega) (by omega)
  obtain ⟨m2, M2, p2, q2⟩ := rod_g (lo := xs.getD 12 0) (hi := xs.getD 13 0) (len := xs.getD 11 0) (xs.getD 14 0) (by omega) (by omega) (by omega)
  obtain ⟨m3, M3, p3, q3⟩ := rod_g (lo := xs.getD 16 0) (hi := xs.getD 17 0) (len := xs.getD 15 0) (xs.getD 18 0) (by omega) (by omega) (by omega)
  simp only [gLoL, gHiL, lnL, clampM, m0, M0, m1, M1, m2, M2, m3, M3]
  simp only [lowI]
  have hs : -400000 ≤ (bif i2b (xs.getD 6 0) then 0 - xs.getD 3 0 else xs.getD 3 0) + (bif i2b (xs.getD 10 0) then 0 - xs.getD 7 0 else xs.getD 7 0) + (bif i2b (xs.getD 14 0) then 0 - xs.getD 11 0 else xs.getD 11 0) + (bif i2b (xs.getD 18 0) then 0 - xs.getD 15 0 else xs.getD 15 0) ∧ (bif i2b (xs.getD 6 0) then 0 - xs.getD 3 0 else xs.getD 3 0) + (bif i2b (xs.getD 10 0) then 0 - xs.getD 7 0 else xs.getD 7 0) + (bif i2b (xs.getD 14 0) then 0 - xs.getD 11 0 else xs.getD 11 0) + (bif i2b (xs.getD 18 0) then 0 - xs.getD 15 0 else xs.getD 15 0) ≤ 400000 := by omega
  revert hs
  clear g e1 e2 hl m0 M0 m1 M1 m2 M2 m3 M3
  cases i2b (xs.getD 6 0) <;> cases i2b (xs.getD 10 0) <;> cases i2b (xs.getD 14 0) <;> cases i2b (xs.getD 18 0) <;> simp only [cond_true, cond_false, true_implies, false_implies, Bool.true_eq_false, Bool.false_eq_true, reduceCtorEq, and_true, true_and, implies_true] <;> (repeat' (first | apply And.intro | intro _)) <;> omega
theorem pCx1_ok (rods : List Rod) (grow : List Int) : (pCx 1).Ok Try.prog (fnB rods grow) := by
  refine un1 (l := [pLow, pSpan, pLenL 1]) (R := RL) (fuel := 400) (fun _ => cxT 1) prog_ok ⟨pLow_ok _, pSpan_ok _, pLenL1_ok _ _, trivial⟩ rfl (RL_ok _ _) rfl rfl ?h ?h' ?_
  case h => kernel_rfl
  case h' => kernel_rfl
  intro xs es hlen hpre hrw
  clear hrw hlen
  ( simp only [OT.vc, LT.vc, OT.is, AllB, RgB, inR, nthR, idsF, fsOf, List.drop, List.flatMap_cons, List.flatMap_nil, List.append_nil, List.getElem?_cons_zero, List.getElem?_cons_succ, rwFs, rwF, List.nil_append, List.cons_append, mix_v, mix_fn, upd_fn, upd_nil, upd_cons, X.one, X.isL, cond_false, valX_fn, valX_v, setM_v, List.mem_cons, List.not_mem_nil, or_false, false_or, or_true, true_or, if_true, if_false, ite_true, ite_false, Nat.reduceEqDiff, SV.den, AV.int.injEq, AV.bool.injEq, true_and, and_true, X.dB_lt, X.dB_le, X.dB_eq, X.denB_and, X.denB_or, X.denB_not, X.denB_lit0, X.denB_lit1, X.den_lit, X.den_var, X.den_add, X.den_sub, X.den_mul, X.den_app, X.den_ite, X.den_wrap, X.dB_ite, cond_tf, X.denB_app, X.denB_var, X.sem_cons, X.sem_nil, leB_t, ltB_t, eqB_t, leB_f, ltB_f, eqB_f, Bool.and_eq_true, Bool.or_eq_true, Bool.not_eq_true', Bool.and_eq_false_iff, Bool.or_eq_false_iff, Bool.not_eq_false', pCx, cxP, cxT, cxR, okX, lnB, lnBs, anP, Nat.sub_self, Nat.reduceSub, rg, rg2, an, Nat.beq, cond_true, cond_false, lnX, ownA, apl, le, lt, eq, sub, v, lit, i64, List.range, List.range.loop, List.flatMap_cons, List.flatMap_nil, List.foldr, Nat.reduceMul, Nat.reduceAdd, Nat.mul_zero, Nat.add_zero, X.den_min, X.den_max] at *)
  (repeat' (first | apply And.intro | intro _))
  all_goals first | trivial | omega
theorem pCx2_ok (rods : List Rod) (grow : List Int) : (pCx 2).Ok Try.prog (fnB rods grow) := by
  refine un1 (l := [pLow, pSpan, pLenL 2]) (R := RL) (fuel := 400) (fun _ => cxT 2) prog_ok ⟨pLow_ok _, pSpan_ok _, pLenL2_ok _ _, trivial⟩ rfl (RL_ok _ _) rfl rfl ?h ?h' ?_
  case h => kernel_rfl
  case h' => kernel_rfl
  intro xs es hlen hpre hrw
  clear hrw hlen
  ( simp only [OT.vc, LT.vc, OT.is, AllB, RgB, inR, nthR, idsF, fsOf, List.drop, List.flatMap_cons, List.flatMap_nil, List.append_nil, List.getElem?_cons_zero, List.getElem?_cons_succ, rwFs, rwF, List.nil_append, List.cons_append, mix_v, mix_fn, upd_fn, upd_nil, upd_cons, X.one, X.isL, cond_false, valX_fn, valX_v, setM_v, List.mem_cons, List.not_mem_nil, or_false, false_or, or_true, true_or, if_true, if_false, ite_true, ite_false, Nat.reduceEqDiff, SV.den, AV.int.injEq, AV.bool.injEq, true_and, and_true, X.dB_lt, X.dB_le, X.dB_eq, X.denB_and, X.denB_or, X.denB_not, X.denB_lit0, X.denB_lit1, X.den_lit, X.den_var, X.den_add, X.den_sub, X.den_mul, X.den_app, X.den_ite, X.den_wrap, X.dB_ite, cond_tf, X.denB_app, X.denB_var, X.sem_cons, X.sem_nil, leB_t, ltB_t, eqB_t, leB_f, ltB_f, eqB_f, Bool.and_eq_true, Bool.or_eq_true, Bool.not_eq_true', Bool.and_eq_false_iff, Bool.or_eq_false_iff, Bool.not_eq_false', pCx, cxP, cxT, cxR, okX, lnB, lnBs, anP, Nat.sub_self, Nat.reduceSub, rg, rg2, an, Nat.beq, cond_true, cond_false, lnX, ownA, apl, le, lt, eq, sub, v, lit, i64, List.range, List.range.loop, List.flatMap_cons, List.flatMap_nil, List.foldr, Nat.reduceMul, Nat.reduceAdd, Nat.mul_zero, Nat.add_zero, X.den_min, X.den_max] at *)
  (repeat' (first | apply And.intro | intro _))
  all_goals first | trivial | omega
theorem pCx3_ok (rods : List Rod) (grow : List Int) : (pCx 3).Ok Try.prog (fnB rods grow) := by
  refine un1 (l := [pLow, pSpan, pLenL 3]) (R := RL) (fuel := 400) (fun _ => cxT 3) prog_ok ⟨pLow_ok _, pSpan_ok _, pLenL3_ok _ _, trivial⟩ rfl (RL_ok _ _) rfl rfl ?h ?h' ?_
  case h => kernel_rfl
  case h' => kernel_rfl
  intro xs es hlen hpre hrw
  clear hrw hlen
  ( simp only [OT.vc, LT.vc, OT.is, AllB, RgB, inR, nthR, idsF, fsOf, List.drop, List.flatMap_cons, List.flatMap_nil, List.append_nil, List.getElem?_cons_zero, List.getElem?_cons_succ, rwFs, rwF, List.nil_append, List.cons_append, mix_v, mix_fn, upd_fn, upd_nil, upd_cons, X.one, X.isL, cond_false, valX_fn, valX_v, setM_v, List.mem_cons, List.not_mem_nil, or_false, false_or, or_true, true_or, if_true, if_false, ite_true, ite_false, Nat.reduceEqDiff, SV.den, AV.int.injEq, AV.bool.injEq, true_and, and_true, X.dB_lt, X.dB_le, X.dB_eq, X.denB_and, X.denB_or, X.denB_not, X.denB_lit0, X.denB_lit1, X.den_lit, X.den_var, X.den_add, X.den_sub, X.den_mul, X.den_app, X.den_ite, X.den_wrap, X.dB_ite, cond_tf, X.denB_app, X.denB_var, X.sem_cons, X.sem_nil, leB_t, ltB_t, eqB_t, leB_f, ltB_f, eqB_f, Bool.and_eq_true, Bool.or_eq_true, Bool.not_eq_true', Bool.and_eq_false_iff, Bool.or_eq_false_iff, Bool.not_eq_false', pCx, cxP, cxT, cxR, okX, lnB, lnBs, anP, Nat.sub_self, Nat.reduceSub, rg, rg2, an, Nat.beq, cond_true, cond_false, lnX, ownA, apl, le, lt, eq, sub, v, lit, i64, List.range, List.range.loop, List.flatMap_cons, List.flatMap_nil, List.foldr, Nat.reduceMul, Nat.reduceAdd, Nat.mul_zero, Nat.add_zero, X.den_min, X.den_max] at *)
  (repeat' (first | apply And.intro | intro _))
  all_goals first | trivial | omega
theorem pCx4_ok (rods : List Rod) (grow : List Int) : (pCx 4).Ok Try.prog (fnB rods grow) := by
  refine un1 (l := [pLow, pSpan, pLenL 4]) (R := RL) (fuel := 400) (fun _ => cxT 4) prog_ok ⟨pLow_ok _, pSpan_ok _, pLenL4_ok _ _, trivial⟩ rfl (RL_ok _ _) rfl rfl ?h ?h' ?_
  case h => kernel_rfl
  case h' => kernel_rfl
  intro xs es hlen hpre hrw
  clear hrw hlen
  ( simp only [OT.vc, LT.vc, OT.is, AllB, RgB, inR, nthR, idsF, fsOf, List.drop, List.flatMap_cons, List.flatMap_nil, List.append_nil, List.getElem?_cons_zero, List.getElem?_cons_succ, rwFs, rwF, List.nil_append, List.cons_append, mix_v, mix_fn, upd_fn, upd_nil, upd_cons, X.one, X.isL, cond_false, valX_fn, valX_v, setM_v, List.mem_cons, List.not_mem_nil, or_false, false_or, or_true, true_or, if_true, if_false, ite_true, ite_false, Nat.reduceEqDiff, SV.den, AV.int.injEq, AV.bool.injEq, true_and, and_true, X.dB_lt, X.dB_le, X.dB_eq, X.denB_and, X.denB_or, X.denB_not, X.denB_lit0, X.denB_lit1, X.den_lit, X.den_var, X.den_add, X.den_sub, X.den_mul, X.den_app, X.den_ite, X.den_wrap, X.dB_ite, cond_tf, X.denB_app, X.denB_var, X.sem_cons, X.sem_nil, leB_t, ltB_t, eqB_t, leB_f, ltB_f, eqB_f, Bool.and_eq_true, Bool.or_eq_true, Bool.not_eq_true', Bool.and_eq_false_iff, Bool.or_eq_false_iff, Bool.not_eq_false', pCx, cxP, cxT, cxR, okX, lnB, lnBs, anP, Nat.sub_self, Nat.reduceSub, rg, rg2, an, Nat.beq, cond_true, cond_false, lnX, ownA, apl, le, lt, eq, sub, v, lit, i64, List.range, List.range.loop, List.flatMap_cons, List.flatMap_nil, List.foldr, Nat.reduceMul, Nat.reduceAdd, Nat.mul_zero, Nat.add_zero, X.den_min, X.den_max] at *)
  (repeat' (first | apply And.intro | intro _))
  all_goals first | trivial | omega
theorem ask_sem {ρ : Val} {b : X} {t f : OT SV} {w : SV} (h : OT.sem ρ (.ask b t f) = some w) : (b.denB ρ = true ∧ OT.sem ρ t = some w) ∨ OT.sem ρ f = some w := by
  simp only [OT.sem] at h
  cases hb : b.denB ρ <;> rw [hb] at h
  · exact .inr h
  · exact .inl ⟨rfl, h⟩
theorem allB_snoc {ρ : Val} {x : X} : ∀ {l : List X}, AllB ρ l → x.denB ρ = true → AllB ρ (l ++ [x])
  | [], _, h => ⟨h, trivial⟩
  | _ :: _, h, k => ⟨h.1, allB_snoc h.2 k⟩
theorem bnO_ok {n : Nat} {ρ : Val} {w : SV} : ∀ {m : Nat}, OT.sem ρ (bnO n m) = some w → m ≤ n → ∃ k, k < n ∧ (eq (v (7 + 4 * n)) (lit (k : Int))).denB ρ = true ∧ OT.sem ρ (blO n k) = some w
  | 0, h, _ => by cases h
  | m + 1, h, hm => by
    rcases ask_sem h with ⟨h1, h2⟩ | h
    · exact ⟨_, by omega, h1, h2⟩
    · exact bnO_ok h (by omega)
theorem pBn_ok {n : Nat} {rods : List Rod} {grow : List Int} (h : ∀ k, k < n → (pBl n k).Ok Try.prog (fnB rods grow)) : (pBn n).Ok Try.prog (fnB rods grow) := by
  rintro a H nx v ⟨xs, ns, es, w, h1, h2, h3, h4, h5⟩
  obtain ⟨k, hk, g1, g2⟩ := bnO_ok h3 (Nat.le_refl n)
  exact h k hk a H nx v ⟨xs, ns, es, w, h1, allB_snoc h2 g1, g2, h4, h5⟩
theorem pBn1_ok (rods : List Rod) (grow : List Int) : (pBn 1).Ok Try.prog (fnB rods grow) := pBn_ok fun k hk => match k, hk with
  | 0, _ => pBl10_ok _ _
theorem pBn2_ok (rods : List Rod) (grow : List Int) : (pBn 2).Ok Try.prog (fnB rods grow) := pBn_ok fun k hk => match k, hk with
  | 0, _ => pBl20_ok _ _
  | 1, _ => pBl21_ok _ _
theorem pBn3_ok (rods : List Rod) (grow : List Int) : (pBn 3).Ok Try.prog (fnB rods grow) := pBn_ok fun k hk => match k, hk with
  | 0, _ => pBl30_ok _ _
  | 1, _ => pBl31_ok _ _
  | 2, _ => pBl32_ok _ _
theorem pBn4_ok (rods : List Rod) (grow : List Int) : (pBn 4).Ok Try.prog (fnB rods grow) := pBn_ok fun k hk => match k, hk with
  | 0, _ => pBl40_ok _ _
  | 1, _ => pBl41_ok _ _
  | 2, _ => pBl42_ok _ _
  | 3, _ => pBl43_ok _ _
end Be
end Go.Proofs.Ytgpdodkcfiefjaa
