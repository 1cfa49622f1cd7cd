/- BeatNarrows: the law, no rods, small numbers. -/
import Derived.Test.YtikmjmaglinpaaaVn
set_option linter.unusedSimpArgs false
set_option linter.unusedVariables false
namespace Go.Proofs.Ytikmjmaglinpaaa
open Abs Sx
set_option maxRecDepth 100000
namespace Be
attribute [local irreducible] fnB
set_option maxHeartbeats 30000000 in
theorem nc1zr (rods : List Rod) (grow xs : List Int) (hM : ∀ i l, inR (fnB rods grow i l) (nthR RU.fr i)) (hpre : AllB (valX (fnB rods grow) xs) (nwP 1)) : OT.vc (valX (fnB rods grow) xs) (fun v => v.den (valX (fnB rods grow) xs) = .bool true) tnc1zr := by
  have at_ : ∀ i : Int, 0 ≤ fnB rods grow 119 [xs.getD 16 0, i] ∧ fnB rods grow 119 [xs.getD 16 0, i] ≤ 255 := fun i => hM 119 [xs.getD 16 0, i]
  have hL : 100 ≤ fnB rods grow 73 [9000, 0] ∧ fnB rods grow 73 [9000, 0] ≤ 100000 := by rw [ln1]; decide
  clear hM
  ( simp only [OT.vc, LT.vc, OT.is, AllB, RgB, inR, nthR, idsF, fsOf, List.drop, List.flatMap_cons, List.flatMap_nil, List.append_nil, List.getElem?_cons_zero, List.getElem?_cons_succ, rwFs, rwF, List.nil_append, List.cons_append, mix_v, mix_fn, upd_fn, upd_nil, upd_cons, X.one, X.isL, cond_false, valX_fn, valX_v, setM_v, List.mem_cons, List.not_mem_nil, or_false, false_or, or_true, true_or, if_true, if_false, ite_true, ite_false, Nat.reduceEqDiff, SV.den, AV.int.injEq, AV.bool.injEq, true_and, and_true, X.dB_lt, X.dB_le, X.dB_eq, X.denB_and, X.denB_or, X.denB_not, X.denB_lit0, X.denB_lit1, X.den_lit, X.den_var, X.den_add, X.den_sub, X.den_mul, X.den_app, X.den_ite, X.den_wrap, X.dB_ite, cond_tf, X.denB_app, X.denB_var, X.sem_cons, X.sem_nil, leB_t, ltB_t, eqB_t, leB_f, ltB_f, eqB_f, Bool.and_eq_true, Bool.or_eq_true, Bool.not_eq_true', Bool.and_eq_false_iff, Bool.or_eq_false_iff, Bool.not_eq_false', nwP, cnt, b8, rgN, le, lt, eq, v, lit, i64, List.range, List.range.loop, List.flatMap_cons, List.flatMap_nil, List.cons_append, List.nil_append, Nat.reduceAdd, Nat.mul_zero, Nat.add_zero, X.den_quo, X.den_rem, X.den_min, tnc1zr, yB0, yB1, yB2, yB3, yB4, yB5, yB6, yB7, yB8, yB9, yB10, yB11, yB12, yB13, yB14, yB15, yB16, yB17, yB18, yB19, yB20, yB21, yB22, yB23, yB24, yB25, yB26, yB27, yB28, yB29, yB30, yB31, yB32, yB33, yB34, yB35, yB36, yB37, yB38, yB39, yB40, yB41, yB42, yB43, yB44, yB45, yB46, yB47, yB48, yB49, yB50, yB51, yB52, yB53, yB54, yB55, yB56, yB57, yB58, yB59, yB60, yB61, yB62, yB63, yB64, yB65, yB66, yB67, yB68, yB69, yB70, yB71, yB72, yB73, yB74, yB75, yB76, yB77, yB78, yB79, yB80, yB81, yB82, yB83, yB84, yB85, yB86, yB87, yB88, yB89, yB90, yB91, yB92, yB93, yB94, yB95, yB96, yB97, yB98, yB99, yB100, yB101, yB102, yB103, yB104, yB105, yB106, yB107, yB108, yB109, yB110, yB111, yB112, yB113, yB114, yB115, yB116, yB117, yB118, yB119, yB120, yB121, yB122, yB123, yB124, yB125, yB126, yB127, yB128, yB129, yB130, yB131, yB132, yB133, yB134, yB135, yB136, yB137, yB138, yB139, yB140, yB141, yB142, yB143, yB144, yB145, yB146, yB147, yB148, yB149, yB150, yB151, yB152, yB153, yB154, yB155, yB156, yB157, yB158, yB159, yB160, yB161, yB162, yB163, yB164, yB165, yB166, yB167, yB168, yB169, yB170, yB171, yB172, yB173, yB174, yB175, yB176, yB177, yB178, yB179, yB180, yB181, yB182, yB183, yB184, yB185, yB186, yB187, yB188, yB189, yB190, yB191, yB192, yB193, yB194, yB195, yB196, yB197, yB198, yB199, yB200, yB201, yB202, yB203, yB204, yB205, yB206, yB207, yB208, yB209, yB210, yB211, yB212, yB213, yB214, yB215, yB216, yB217, yB218, yB219, yB220, yB221, yB222, yB223, yB224, yB225, yB226, yB227, yB228, yB229, yB230, yB231, yB232, yB233, yB234, yB235, yB236, yB237, yB238, yB239] at *)
  obtain ⟨y0, y1, y2, r0, r1, k0, k1, b0, b1, p0, p1, q0, q1, c0, c1, d0, d1, e0, e1, f0, f1, g0, g1, h0, h1, i0, i1, j0, j1, l0, l1⟩ := hpre
  have w1 := w_heat (rods := rods) (grow := grow) (xs.getD 8 0) (xs.getD 12 0) (by omega)
  have w2 := w_press (rods := rods) (grow := grow) (xs.getD 9 0) (xs.getD 13 0) (by omega)
  have w3 := w_arc (rods := rods) (grow := grow) (xs.getD 10 0) (xs.getD 14 0) (by omega)
  have w4 := w_force (rods := rods) (grow := grow) (xs.getD 11 0) (xs.getD 15 0) (by omega)
  have ta := Int.tmod_nonneg 100 b0
  have tb := Int.tmod_lt_of_pos (xs.getD 4 0) (show (0 : Int) < 100 by decide)
  have tc := Int.tmod_nonneg 50 p0
  have td := Int.tmod_lt_of_pos (xs.getD 5 0) (show (0 : Int) < 50 by decide)
  have te := Int.tmod_nonneg 3 r0
  have tf := Int.tmod_lt_of_pos (xs.getD 2 0) (show (0 : Int) < 3 by decide)
  have sA := nrw_sub (rods := rods) (grow := grow) (n := fnB rods grow 119 [xs.getD 16 0, 0]) (lo := (xs.getD 4 0).tmod 100 + -50) (hi := (xs.getD 4 0).tmod 100 + -50 + (xs.getD 5 0).tmod 50) (by omega) (at_ 0).1 (at_ 0).2 (by omega) (by omega)
  have sD := nrw_sub (rods := rods) (grow := grow) (n := fnB rods grow 119 [xs.getD 16 0, 1]) (lo := xs.getD 6 0 + -200) (hi := xs.getD 6 0 + xs.getD 7 0) (by omega) (at_ 1).1 (at_ 1).2 (by omega) (by omega)
  have sE := nrw_sub (rods := rods) (grow := grow) (n := fnB rods grow 119 [xs.getD 16 0, 1]) (lo := xs.getD 6 0) (hi := xs.getD 6 0 + xs.getD 7 0) (by omega) (at_ 1).1 (at_ 1).2 (by omega) (by omega)
  have sO := nrw_sub (rods := rods) (grow := grow) (n := fnB rods grow 119 [xs.getD 16 0, 1]) (lo := 0) (hi := 0) (by omega) (at_ 1).1 (at_ 1).2 (by omega) (by omega)
  have sG := nrw_sub (rods := rods) (grow := grow) (n := fnB rods grow 119 [xs.getD 16 0, 6]) (lo := 1100) (hi := 1150) (by omega) (at_ 6).1 (at_ 6).2 (by omega) (by omega)
  have sH := nrw_sub (rods := rods) (grow := grow) (n := fnB rods grow 119 [xs.getD 16 0, 2]) (lo := fnB rods grow 101 [xs.getD 8 0]) (hi := fnB rods grow 102 [xs.getD 8 0, xs.getD 12 0]) w1.2.1 (at_ 2).1 (at_ 2).2 (by omega) (by omega)
  have sP := nrw_sub (rods := rods) (grow := grow) (n := fnB rods grow 119 [xs.getD 16 0, 3]) (lo := fnB rods grow 103 [xs.getD 9 0]) (hi := fnB rods grow 104 [xs.getD 9 0, xs.getD 13 0]) w2.2.1 (at_ 3).1 (at_ 3).2 (by omega) (by omega)
  have sR := nrw_sub (rods := rods) (grow := grow) (n := fnB rods grow 119 [xs.getD 16 0, 4]) (lo := fnB rods grow 105 [xs.getD 10 0]) (hi := fnB rods grow 106 [xs.getD 10 0, xs.getD 14 0]) w3.2.1 (at_ 4).1 (at_ 4).2 (by omega) (by omega)
  have sF := nrw_sub (rods := rods) (grow := grow) (n := fnB rods grow 119 [xs.getD 16 0, 5]) (lo := fnB rods grow 107 [xs.getD 11 0]) (hi := fnB rods grow 108 [xs.getD 11 0, xs.getD 15 0]) w4.2.1 (at_ 5).1 (at_ 5).2 (by omega) (by omega)
  have hg : Sub (fnB rods grow 71 [1100, 1150, 9000, 0]) (fnB rods grow 72 [1100, 1150, 9000, 0]) (fnB rods grow 71 [fnB rods grow 92 [1100, fnB rods grow 91 [1100, 1150, fnB rods grow 119 [xs.getD 16 0, 6]]], fnB rods grow 92 [1150, fnB rods grow 91 [1100, 1150, fnB rods grow 119 [xs.getD 16 0, 6]] + 1], 9000, 0]) (fnB rods grow 72 [fnB rods grow 92 [1100, fnB rods grow 91 [1100, 1150, fnB rods grow 119 [xs.getD 16 0, 6]]], fnB rods grow 92 [1150, fnB rods grow 91 [1100, 1150, fnB rods grow 119 [xs.getD 16 0, 6]] + 1], 9000, 0]) := g_outL (gL_cons sG gL_nil)
  have z0 : Sub 0 0 0 0 := ⟨by decide, by decide, by decide⟩
  have ra0 := ra_out (rods := rods) (grow := grow) (b := xs.getD 3 0) hL.1 hg sA sD sH sP sR sF
  have cg0 := cg_out (rods := rods) (grow := grow) hL.1 hg sA sD z0 z0 z0 z0 sH sP sR sF
  obtain ⟨raa0, rab0, rac0⟩ := ra0
  obtain ⟨cga0, cgb0, cgc0⟩ := cg0
  have ra1 := ra_out (rods := rods) (grow := grow) (b := xs.getD 3 0) hL.1 hg sA sE sH sP sR sF
  have cg1 := cg_out (rods := rods) (grow := grow) hL.1 hg sA sE z0 z0 z0 z0 sH sP sR sF
  obtain ⟨raa1, rab1, rac1⟩ := ra1
  obtain ⟨cga1, cgb1, cgc1⟩ := cg1
  have ra2 := ra_out (rods := rods) (grow := grow) (b := xs.getD 3 0) hL.1 hg sA sO sH sP sR sF
  have cg2 := cg_out (rods := rods) (grow := grow) hL.1 hg sA sO z0 z0 z0 z0 sH sP sR sF
  obtain ⟨raa2, rab2, rac2⟩ := ra2
  obtain ⟨cga2, cgb2, cgc2⟩ := cg2
  obtain ⟨sA1, sA2, sA3⟩ := sA
  obtain ⟨sD1, sD2, sD3⟩ := sD
  obtain ⟨sE1, sE2, sE3⟩ := sE
  obtain ⟨sO1, sO2, sO3⟩ := sO
  obtain ⟨sG1, sG2, sG3⟩ := sG
  obtain ⟨sH1, sH2, sH3⟩ := sH
  obtain ⟨sP1, sP2, sP3⟩ := sP
  obtain ⟨sR1, sR2, sR3⟩ := sR
  obtain ⟨sF1, sF2, sF3⟩ := sF
  clear hg z0
  (repeat' (first | (refine And.intro ?_ ?_) | intro _)) <;> first
    | exact trivial
    | rfl
    | assumption
    | omega
    | (exfalso; omega)
theorem run_nw1nr : nwRun (nwL 1 [pTruth 1 4 119]) 1 .nils (rwV 1 16 1) [byO] = tnc1zr := by unfold nwRun; kernel_rfl
theorem nw1nr (rods : List Rod) (grow xs : List Int) (hK : pKn3.Ok Try.prog (fnB rods grow)) (hM : ∀ i l, inR (fnB rods grow i l) (nthR RU.fr i)) : NwGoal 1 .nils (rwV 1 16 1) [byO] rods grow xs := fun hpre =>
  call_lawN (l := nwL 1 [pTruth 1 4 119]) (R := RU) (fuel := 400) (pre := nwP 1) tnc1zr ⟨(pRaL1_ok rods grow).toN, (pCgL1_ok rods grow).toN, hK.toN, (pBnds_ok _ _).toN, (pIns_ok _ _).toN, (pNrw_ok _ _).toN, pTruth1_4_ok hM, (trivial : True)⟩ rfl hM rfl run_nw1nr hpre (nc1zr rods grow xs hM hpre)
theorem run_nw1fr : nwRun (nwL 1 [pTruth 1 4 119]) 1 (frV 0 4) (rwV 1 16 1) [byO] = tnc1zr := by unfold nwRun; kernel_rfl
theorem nw1fr (rods : List Rod) (grow xs : List Int) (hK : pKn3.Ok Try.prog (fnB rods grow)) (hM : ∀ i l, inR (fnB rods grow i l) (nthR RU.fr i)) : NwGoal 1 (frV 0 4) (rwV 1 16 1) [byO] rods grow xs := fun hpre =>
  call_lawN (l := nwL 1 [pTruth 1 4 119]) (R := RU) (fuel := 400) (pre := nwP 1) tnc1zr ⟨(pRaL1_ok rods grow).toN, (pCgL1_ok rods grow).toN, hK.toN, (pBnds_ok _ _).toN, (pIns_ok _ _).toN, (pNrw_ok _ _).toN, pTruth1_4_ok hM, (trivial : True)⟩ rfl hM rfl run_nw1fr hpre (nc1zr rods grow xs hM hpre)
end Be
end Go.Proofs.Ytikmjmaglinpaaa
