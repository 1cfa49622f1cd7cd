/- TopCamTeeth: the law. -/
import Derived.Test.YtoecekncncbjgaaFl
import Derived.Test.YtoecekncncbjgaaG2
import Derived.Test.YtoecekncncbjgaaKt
import Derived.Test.YtoecekncncbjgaaKg
set_option linter.unusedSimpArgs false
set_option linter.unusedVariables false
namespace Go.Proofs.Ytoecekncncbjgaa
open Abs Sx Go.RowKit
set_option maxRecDepth 100000
namespace Ct
open Ch
variable {cams : List (Int × Int × Int)}
theorem outs2 {w p t : Int} (hw : 1 ≤ w) (hp : 1 ≤ p) (ht : 0 ≤ t) : outs [w, 0, 0, p, 0, 0] t = true ↔ (Int.lcm w p : Int) ∣ t := by
  simp only [outs, Bool.and_true, Bool.and_eq_true, decide_eq_true_eq]
  rw [Int.tmod_eq_emod_of_nonneg ht, Int.tmod_eq_emod_of_nonneg ht]
  have h1 := Int.emod_nonneg t (show w ≠ 0 by omega)
  have h2 := Int.emod_nonneg t (show p ≠ 0 by omega)
  constructor
  · intro h
    exact Tn.lcm_dvd_of (Int.dvd_of_emod_eq_zero (by omega)) (Int.dvd_of_emod_eq_zero (by omega))
  · intro h
    have g1 := Int.emod_eq_zero_of_dvd (Int.dvd_trans (Int.dvd_lcm_left w p) h)
    have g2 := Int.emod_eq_zero_of_dvd (Int.dvd_trans (Int.dvd_lcm_right w p) h)
    omega
theorem up_dvd (a M : Int) : M ∣ a + (-a) % M := by
  rw [Int.emod_def, show a + (-a - M * (-a / M)) = -(M * (-a / M)) by omega]
  exact Int.dvd_neg.2 (Int.dvd_mul_right ..)
theorem meet2 {w p a : Int} (hw : 1 ≤ w) (hp : 1 ≤ p) (ha : 0 ≤ a) : meetI [a, w, 0, 0, p, 0, 0] = a + (-a) % (Int.lcm w p : Int) := by
  have hM := lcm_pos' hw hp
  have h1 := Int.emod_nonneg (-a) (show (Int.lcm w p : Int) ≠ 0 by omega)
  have h2 := Int.emod_lt_of_pos (-a) (show 0 < (Int.lcm w p : Int) by omega)
  refine meet_some (by omega) (by rw [perI2 hw hp]; omega) ((outs2 hw hp (by omega)).2 (up_dvd a _)) (fun t h3 h4 => ?_)
  cases hb : outs [w, 0, 0, p, 0, 0] t with
  | false => rfl
  | true =>
    have h5 := (outs2 hw hp (by omega)).1 hb
    have h6 := Int.le_of_dvd (show 0 < a + (-a) % (Int.lcm w p : Int) - t by omega) (Int.dvd_sub (up_dvd a _) h5)
    omega
theorem meet2_one {w p : Int} (hw : 1 ≤ w) (hp : 1 ≤ p) : meetI [1, w, 0, 0, p, 0, 0] = Int.lcm w p := by
  have hM := lcm_pos' hw hp
  have h1 := Int.emod_nonneg (-1) (show (Int.lcm w p : Int) ≠ 0 by omega)
  have h2 := Int.emod_lt_of_pos (-1) (show 0 < (Int.lcm w p : Int) by omega)
  have h3 := Int.le_of_dvd (by omega) (up_dvd 1 (Int.lcm w p : Int))
  rw [meet2 hw hp (by omega)]; omega
def pTr : Pr := ⟨11, [], [], fun _ => .leaf (.bool (.lit 1))⟩
def pCh : Pr := ⟨12, [], [], fun _ => .leaf (.bool (.lit 1))⟩
theorem pTr_ok (fn : Nat → List Int → Int) : pTr.Ok Try.prog fn := Fl.true_ok ⟨_, _, Try.func11, rfl⟩ (ktgood prog_ok) fn
theorem pCh_ok (fn : Nat → List Int → Int) : pCh.Ok Try.prog fn := Fl.true_ok ⟨_, _, Try.func12, rfl⟩ (kggood prog_ok) fn
def pre : List X := [le (lit 0) (v 0), le (v 0) (lit 255), le (lit 0) (v 1), le (v 1) (lit 255), le (lit 0) (v 2), le (v 2) (lit 65535)]
def law : Pr := ⟨5, [.agg [.int .u8, .int .u8], .int .u16], pre, fun _ => .leaf (.bool (lit 1))⟩
def L : List Pr := [cGcd, cLcm, pGcd, pLst, pLcm, cMeet 2, pTr, pCh]
theorem L_ok : PrsOk Try.prog (fnG cams) L := ⟨cGcd_ok, cLcm_ok, pGcd_ok, pLst_ok, pLcm_ok, cMeet2_ok, pTr_ok _, pCh_ok _, trivial⟩
theorem law_ok : law.Ok Try.prog (fnG cams) := by
  refine un0 (l := L) (R := ⟨[], frG⟩) (fuel := 400) (fun _ => (.need [(.bin .le (.bin .mul (.bin .quo (.app 93 (.cons (.lit 1) (.cons (.lit 1) .nil))) (.app 90 (.cons (.app 93 (.cons (.lit 1) (.cons (.lit 1) .nil))) (.cons (.app 92 (.cons (.bin .add (.lit 6) (.bin .rem (.var 0) (.lit 95))) (.cons (.bin .add (.lit 6) (.bin .rem (.var 1) (.lit 95))) .nil))) .nil)))) (.app 92 (.cons (.bin .add (.lit 6) (.bin .rem (.var 0) (.lit 95))) (.cons (.bin .add (.lit 6) (.bin .rem (.var 1) (.lit 95))) .nil)))) (.lit 100000000))] (.ask (.bin .eq (.app 94 (.cons (.lit 1) (.cons (.bin .add (.lit 6) (.bin .rem (.var 0) (.lit 95))) (.cons (.lit 0) (.cons (.lit 0) (.cons (.bin .add (.lit 6) (.bin .rem (.var 1) (.lit 95))) (.cons (.lit 0) (.cons (.lit 0) .nil)))))))) (.lit (-1))) (.ask (.bin .eq (.app 94 (.cons (.var 2) (.cons (.bin .add (.lit 6) (.bin .rem (.var 0) (.lit 95))) (.cons (.lit 0) (.cons (.lit 0) (.cons (.bin .add (.lit 6) (.bin .rem (.var 1) (.lit 95))) (.cons (.lit 0) (.cons (.lit 0) .nil)))))))) (.lit (-1))) (.leaf (.bool (.lit 0))) (.leaf (.bool (.lit 0)))) (.ask (.bin .eq (.app 94 (.cons (.var 2) (.cons (.bin .add (.lit 6) (.bin .rem (.var 0) (.lit 95))) (.cons (.lit 0) (.cons (.lit 0) (.cons (.bin .add (.lit 6) (.bin .rem (.var 1) (.lit 95))) (.cons (.lit 0) (.cons (.lit 0) .nil)))))))) (.lit (-1))) (.leaf (.bool (.lit 0))) (.ask (.bin .lt (.app 94 (.cons (.lit 1) (.cons (.bin .add (.lit 6) (.bin .rem (.var 0) (.lit 95))) (.cons (.lit 0) (.cons (.lit 0) (.cons (.bin .add (.lit 6) (.bin .rem (.var 1) (.lit 95))) (.cons (.lit 0) (.cons (.lit 0) .nil)))))))) (.lit 1)) (.leaf (.bool (.lit 0))) (.ask (.not (.bin .eq (.app 94 (.cons (.lit 1) (.cons (.bin .add (.lit 6) (.bin .rem (.var 0) (.lit 95))) (.cons (.lit 0) (.cons (.lit 0) (.cons (.bin .add (.lit 6) (.bin .rem (.var 1) (.lit 95))) (.cons (.lit 0) (.cons (.lit 0) .nil)))))))) (.bin .mul (.app 93 (.cons (.app 93 (.cons (.lit 1) (.cons (.lit 1) .nil))) (.cons (.app 92 (.cons (.bin .add (.lit 6) (.bin .rem (.var 0) (.lit 95))) (.cons (.bin .add (.lit 6) (.bin .rem (.var 1) (.lit 95))) .nil))) .nil))) (.bin .add (.lit 6) (.bin .rem (.var 0) (.lit 95)))))) (.leaf (.bool (.lit 0))) (.ask (.not (.bin .eq (.bin .rem (.app 94 (.cons (.lit 1) (.cons (.bin .add (.lit 6) (.bin .rem (.var 0) (.lit 95))) (.cons (.lit 0) (.cons (.lit 0) (.cons (.bin .add (.lit 6) (.bin .rem (.var 1) (.lit 95))) (.cons (.lit 0) (.cons (.lit 0) .nil)))))))) (.bin .add (.lit 6) (.bin .rem (.var 1) (.lit 95)))) (.lit 0))) (.leaf (.bool (.lit 0))) (.ask (.bin .eq (.app 94 (.cons (.var 2) (.cons (.bin .add (.lit 6) (.bin .rem (.var 0) (.lit 95))) (.cons (.lit 0) (.cons (.lit 0) (.cons (.bin .add (.lit 6) (.bin .rem (.var 1) (.lit 95))) (.cons (.lit 0) (.cons (.lit 0) .nil)))))))) (.wrap .i64 (.bin .mul (.app 94 (.cons (.lit 1) (.cons (.bin .add (.lit 6) (.bin .rem (.var 0) (.lit 95))) (.cons (.lit 0) (.cons (.lit 0) (.cons (.bin .add (.lit 6) (.bin .rem (.var 1) (.lit 95))) (.cons (.lit 0) (.cons (.lit 0) .nil)))))))) (.bin .sub (.lit 0) (.bin .quo (.bin .sub (.bin .sub (.lit 0) (.var 2)) (.bin .rem (.bin .add (.bin .rem (.bin .sub (.lit 0) (.var 2)) (.app 94 (.cons (.lit 1) (.cons (.bin .add (.lit 6) (.bin .rem (.var 0) (.lit 95))) (.cons (.lit 0) (.cons (.lit 0) (.cons (.bin .add (.lit 6) (.bin .rem (.var 1) (.lit 95))) (.cons (.lit 0) (.cons (.lit 0) .nil))))))))) (.app 94 (.cons (.lit 1) (.cons (.bin .add (.lit 6) (.bin .rem (.var 0) (.lit 95))) (.cons (.lit 0) (.cons (.lit 0) (.cons (.bin .add (.lit 6) (.bin .rem (.var 1) (.lit 95))) (.cons (.lit 0) (.cons (.lit 0) .nil))))))))) (.app 94 (.cons (.lit 1) (.cons (.bin .add (.lit 6) (.bin .rem (.var 0) (.lit 95))) (.cons (.lit 0) (.cons (.lit 0) (.cons (.bin .add (.lit 6) (.bin .rem (.var 1) (.lit 95))) (.cons (.lit 0) (.cons (.lit 0) .nil)))))))))) (.app 94 (.cons (.lit 1) (.cons (.bin .add (.lit 6) (.bin .rem (.var 0) (.lit 95))) (.cons (.lit 0) (.cons (.lit 0) (.cons (.bin .add (.lit 6) (.bin .rem (.var 1) (.lit 95))) (.cons (.lit 0) (.cons (.lit 0) .nil))))))))))))) (.leaf (.bool (.lit 1))) (.leaf (.bool (.lit 0))))))))))) prog_ok L_ok rfl (frG_ok _ _) rfl rfl ?h ?_
  case h => kernel_rfl
  intro xs es hlen hpre hrw
  ( simp only [OT.vc, LT.vc, OT.is, AllB, RgB, inR, nthR, idsF, fsOf, List.drop, List.flatMap_cons, List.flatMap_nil, List.append_nil, List.getElem?_cons_zero, List.getElem?_cons_succ, rwFs, rwF, List.nil_append, List.cons_append, mix_v, mix_fn, upd_fn, upd_nil, upd_cons, X.one, X.isL, cond_false, valX_fn, valX_v, setM_v, List.mem_cons, List.not_mem_nil, or_false, false_or, or_true, true_or, if_true, if_false, ite_true, ite_false, Nat.reduceEqDiff, SV.den, AV.int.injEq, AV.bool.injEq, true_and, and_true, X.dB_lt, X.dB_le, X.dB_eq, X.denB_and, X.denB_or, X.denB_not, X.denB_lit0, X.denB_lit1, X.den_lit, X.den_var, X.den_add, X.den_sub, X.den_mul, X.den_app, X.den_ite, X.den_wrap, X.dB_ite, cond_tf, X.denB_app, X.denB_var, X.sem_cons, X.sem_nil, leB_t, ltB_t, eqB_t, leB_f, ltB_f, eqB_f, Bool.and_eq_true, Bool.or_eq_true, Bool.not_eq_true', Bool.and_eq_false_iff, Bool.or_eq_false_iff, Bool.not_eq_false', law, pre, le, lt, eq, v, lit, ap2, X.den_rem, X.den_quo, SV.dens] at *)
  generalize xs.getD 0 0 = a at *
  generalize xs.getD 1 0 = b at *
  generalize xs.getD 2 0 = t at *
  obtain ⟨a0, a1, b0, b1, t0, t1⟩ := hpre
  have wa := Int.tmod_nonneg 95 a0
  have wb := Int.tmod_lt_of_pos a (show (0 : Int) < 95 by decide)
  have pa := Int.tmod_nonneg 95 b0
  have pb := Int.tmod_lt_of_pos b (show (0 : Int) < 95 by decide)
  generalize hw : 6 + a.tmod 95 = w at *
  generalize hp : 6 + b.tmod 95 = p at *
  have w6 : 6 ≤ w ∧ w ≤ 100 := by omega
  have p6 : 6 ≤ p ∧ p ≤ 100 := by omega
  clear hw hp wa wb pa pb a0 a1 b0 b1
  have hM := lcm2 (a := w) (b := p) (by omega) w6.2 (by omega) p6.2
  have e1 : fnG cams 94 [1, w, 0, 0, p, 0, 0] = Int.lcm w p := by
    have e := meet2_one (w := w) (p := p) (by omega) (by omega)
    rw [f94_at (by rw [e]; omega) (by rw [e]; omega), e]
  have r0 := Int.emod_nonneg (-t) (show (Int.lcm w p : Int) ≠ 0 by omega)
  have r1 := Int.emod_lt_of_pos (-t) (show 0 < (Int.lcm w p : Int) by omega)
  have e2 : fnG cams 94 [t, w, 0, 0, p, 0, 0] = t + (-t) % (Int.lcm w p : Int) := by
    have e := meet2 (w := w) (p := p) (a := t) (by omega) (by omega) t0
    rw [f94_at (by rw [e]; omega) (by rw [e]; omega), e]
  have e3 : fnG cams 93 [1, 1] = 1 := per1 (by decide) (by decide)
  have k1 := low_at (cams := cams) (a := w) (b := p) (by omega) (by omega) (by omega) (by omega)
  have k2 := Tn.lowR_bd w p 100 100 (by omega) (by omega) (by omega) (by omega)
  have k3 := lcm_at (cams := cams) (a := p) (b := w) (by omega) (by omega) (by unfold bg; omega)
  have k4 : fnG cams 90 [w, p] = fnG cams 90 [p, w] := by
    rw [f90_at (by omega) (by omega) (by unfold bg; omega), f90_at (by omega) (by omega) (by unfold bg; omega), Int.gcd_comm]
  have k5 : fnG cams 92 [w, p] * w = Int.lcm w p := by
    rw [k1.2.1, k4, k3.1, Int.lcm_comm]
  have k6 : 1 ≤ fnG cams 92 [w, p] ∧ fnG cams 92 [w, p] ≤ 100 := by rw [k1.2.2.2]; exact k2.2
  generalize hq : fnG cams 92 [w, p] = q at *
  have e4 : fnG cams 93 [1, q] = q := per1 k6.1 k6.2
  have e5 := (lcm_at (cams := cams) (a := 1) (b := q) (by decide) k6.1 (by unfold bg; omega)).1
  rw [lcm_one_l k6.1] at e5
  have e6 : (p.tdiv (fnG cams 90 [p, w]) : Int) * w = Int.lcm p w := k3.1
  have hdp : (Int.lcm w p : Int).tmod p = 0 := by
    rw [Int.tmod_eq_emod_of_nonneg (by omega)]; exact Int.emod_eq_zero_of_dvd (Int.dvd_lcm_right w p)
  rw [e3, e4, e5, e1, e2, k5]
  generalize hMM : (Int.lcm w p : Int) = M at *
  have hup : IntKind.i64.wrap (M * (0 - (0 - t - ((0 - t).tmod M + M).tmod M).tdiv M)) = t + (-t) % M := by
    have t1' : (0 - t).tmod M = -(t % M) := by rw [Int.zero_sub, Int.neg_tmod, Int.tmod_eq_emod_of_nonneg t0]
    have q0 := Int.emod_nonneg t (show M ≠ 0 by omega)
    have q1 := Int.emod_lt_of_pos t (show 0 < M by omega)
    have q2 := Int.mul_ediv_add_emod t M
    have t2 : ((0 - t).tmod M + M).tmod M = (-t) % M := by
      rw [t1', Int.tmod_eq_emod_of_nonneg (by omega), show -(t % M) + M = -t + M * (t / M + 1) by rw [Int.mul_add, Int.mul_one]; omega, Int.add_mul_emod_self_left]
    have t3 := Int.mul_ediv_add_emod (-t) M
    rw [t2, show 0 - t - (-t) % M = M * ((-t) / M) by omega, Int.mul_tdiv_cancel_left _ (by omega), Int.mul_sub, Int.mul_zero]
    rw [wrap64 (by omega) (by omega)]
    omega
  rw [hup]
  refine ⟨by omega, fun h => by omega, fun _ => ⟨fun h => by omega, fun _ => ⟨fun h => by omega, fun _ => ⟨fun h => absurd rfl h, fun _ => ⟨fun h => absurd hdp h, fun _ => ⟨fun _ => trivial, fun h => absurd rfl h⟩⟩⟩⟩⟩⟩
theorem call_all (x0 x1 x2 : Int) (h0 : 0 ≤ x0 ∧ x0 ≤ 255) (h1 : 0 ≤ x1 ∧ x1 ≤ 255) (h2 : 0 ≤ x2 ∧ x2 ≤ 65535) :
    CallH Try.prog 5 [.agg [.int .u8 x0, .int .u8 x1], .int .u16 x2] ⟨objs [], [], 0⟩ 0 (fun v H' nx' => v = .bool true ∧ H' = ⟨objs [], [], 0⟩ ∧ nx' = 0) := by
  refine Fl.plain_call (p := law) (fn := fnG []) (xs := [x0, x1, x2]) law_ok rfl ?_ ?_
  · exact Fl.fl_agg (x := [x0, x1]) (k := []) (e := []) (Fl.fl_int x0 (Fl.fl_int x1 Fl.fl_nil)) (Fl.fl_int x2 Fl.fl_nil)
  · simp only [law, pre, AllB, le, lit, v, X.dB_le, leB_t, X.den_lit, X.den_var]
    exact ⟨h0.1, h0.2, h1.1, h1.2, h2.1, h2.2, trivial⟩
end Ct
end Go.Proofs.Ytoecekncncbjgaa
