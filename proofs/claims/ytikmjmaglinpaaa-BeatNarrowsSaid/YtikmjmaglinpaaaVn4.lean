/- BeatNarrows: the law, three rods and more. -/
import Derived.Test.YtikmjmaglinpaaaVn
set_option linter.unusedSimpArgs false
set_option linter.unusedVariables false
namespace Go.Proofs.Ytikmjmaglinpaaa
open Abs Sx
set_option maxRecDepth 100000
namespace Be
attribute [local irreducible] fnB
set_option maxHeartbeats 30000000 in
theorem nc4rz (rods : List Rod) (grow xs : List Int) (hM : ∀ i l, inR (fnB rods grow i l) (nthR RU.fr i)) (hpre : AllB (valX (fnB rods grow) xs) (nwP 4)) : OT.vc (valX (fnB rods grow) xs) (fun v => v.den (valX (fnB rods grow) xs) = .bool true) tnc4rz := by
  have gb0 : 0 ≤ fnB rods grow 116 [0] ∧ fnB rods grow 116 [0] ≤ 5100 := hM 116 [0]
  have gc0 : 0 ≤ fnB rods grow 117 [0] ∧ fnB rods grow 117 [0] ≤ 5865 := hM 117 [0]
  have ge0 := kg hM [0]
  have gb1 : 0 ≤ fnB rods grow 116 [1] ∧ fnB rods grow 116 [1] ≤ 5100 := hM 116 [1]
  have gc1 : 0 ≤ fnB rods grow 117 [1] ∧ fnB rods grow 117 [1] ≤ 5865 := hM 117 [1]
  have ge1 := kg hM [1]
  have gb2 : 0 ≤ fnB rods grow 116 [2] ∧ fnB rods grow 116 [2] ≤ 5100 := hM 116 [2]
  have gc2 : 0 ≤ fnB rods grow 117 [2] ∧ fnB rods grow 117 [2] ≤ 5865 := hM 117 [2]
  have ge2 := kg hM [2]
  have at_ : ∀ i : Int, (0 : Int) ≤ 0 ∧ (0 : Int) ≤ 255 := fun _ => by decide
  have qa : -50 ≤ fnB rods grow 111 [xs.getD 4 0] ∧ fnB rods grow 111 [xs.getD 4 0] ≤ 49 := hM 111 [xs.getD 4 0]
  have qb : -50 ≤ fnB rods grow 112 [xs.getD 4 0, xs.getD 5 0] ∧ fnB rods grow 112 [xs.getD 4 0, xs.getD 5 0] ≤ 98 := hM 112 [xs.getD 4 0, xs.getD 5 0]
  have qc : -200 ≤ fnB rods grow 113 [xs.getD 2 0, xs.getD 6 0] ∧ fnB rods grow 113 [xs.getD 2 0, xs.getD 6 0] ≤ 255 := hM 113 [xs.getD 2 0, xs.getD 6 0]
  have qd : 0 ≤ fnB rods grow 114 [xs.getD 2 0, xs.getD 6 0, xs.getD 7 0] ∧ fnB rods grow 114 [xs.getD 2 0, xs.getD 6 0, xs.getD 7 0] ≤ 510 := hM 114 [xs.getD 2 0, xs.getD 6 0, xs.getD 7 0]
  have hL := ln4 hM
  clear hM
  ( simp only [OT.vc, LT.vc, OT.is, AllB, RgB, inR, nthR, idsF, fsOf, List.drop, List.flatMap_cons, List.flatMap_nil, List.append_nil, List.getElem?_cons_zero, List.getElem?_cons_succ, rwFs, rwF, List.nil_append, List.cons_append, mix_v, mix_fn, upd_fn, upd_nil, upd_cons, X.one, X.isL, cond_false, valX_fn, valX_v, setM_v, List.mem_cons, List.not_mem_nil, or_false, false_or, or_true, true_or, if_true, if_false, ite_true, ite_false, Nat.reduceEqDiff, SV.den, AV.int.injEq, AV.bool.injEq, true_and, and_true, X.dB_lt, X.dB_le, X.dB_eq, X.denB_and, X.denB_or, X.denB_not, X.denB_lit0, X.denB_lit1, X.den_lit, X.den_var, X.den_add, X.den_sub, X.den_mul, X.den_app, X.den_ite, X.den_wrap, X.dB_ite, cond_tf, X.denB_app, X.denB_var, X.sem_cons, X.sem_nil, leB_t, ltB_t, eqB_t, leB_f, ltB_f, eqB_f, Bool.and_eq_true, Bool.or_eq_true, Bool.not_eq_true', Bool.and_eq_false_iff, Bool.or_eq_false_iff, Bool.not_eq_false', nwP, cnt, b8, rgN, le, lt, eq, v, lit, i64, List.range, List.range.loop, List.flatMap_cons, List.flatMap_nil, List.cons_append, List.nil_append, Nat.reduceAdd, Nat.mul_zero, Nat.add_zero, X.den_quo, X.den_rem, X.den_min, tnc4rz, yB0, yB1, yB2, yB3, yB4, yB5, yB6, yB7, yB8, yB9, yB10, yB11, yB12, yB13, yB14, yB15, yB16, yB17, yB18, yB19, yB20, yB21, yB22, yB23, yB24, yB25, yB26, yB27, yB28, yB29, yB30, yB31, yB32, yB33, yB34, yB35, yB36, yB37, yB38, yB39, yB40, yB41, yB42, yB43, yB44, yB45, yB46, yB47, yB48, yB49, yB50, yB51, yB52, yB53, yB54, yB55, yB56, yB57, yB58, yB59, yB60, yB61, yB62, yB63, yB64, yB65, yB66, yB67, yB68, yB69, yB70, yB71, yB72, yB73, yB74, yB75, yB76, yB77, yB78, yB79, yB80, yB81, yB82, yB83, yB84, yB85, yB86, yB87, yB88, yB89, yB90, yB91, yB92, yB93, yB94, yB95, yB96, yB97, yB98, yB99, yB100, yB101, yB102, yB103, yB104, yB105, yB106, yB107, yB108, yB109, yB110, yB111, yB112, yB113, yB114, yB115, yB116, yB117, yB118, yB119, yB120, yB121, yB122, yB123, yB124, yB125, yB126, yB127, yB128, yB129, yB130, yB131, yB132, yB133, yB134, yB135, yB136, yB137, yB138, yB139, yB140, yB141, yB142, yB143, yB144, yB145, yB146, yB147, yB148, yB149, yB150, yB151, yB152, yB153, yB154, yB155, yB156, yB157, yB158, yB159, yB160, yB161, yB162, yB163, yB164, yB165, yB166, yB167, yB168, yB169, yB170, yB171, yB172, yB173, yB174, yB175, yB176, yB177, yB178, yB179, yB180, yB181, yB182, yB183, yB184, yB185, yB186, yB187, yB188, yB189, yB190, yB191, yB192, yB193, yB194, yB195, yB196, yB197, yB198, yB199, yB200, yB201, yB202, yB203, yB204, yB205, yB206, yB207, yB208, yB209, yB210, yB211, yB212, yB213, yB214, yB215, yB216, yB217, yB218, yB219, yB220, yB221, yB222, yB223, yB224, yB225, yB226, yB227, yB228, yB229, yB230, yB231, yB232, yB233, yB234, yB235, yB236, yB237, yB238, yB239] at *)
  obtain ⟨y0, y1, y2, r0, r1, k0, k1, b0, b1, p0, p1, q0, q1, c0, c1, d0, d1, e0, e1, f0, f1, g0, g1, h0, h1, i0, i1, j0, j1, l0, l1⟩ := hpre
  have w1 := w_heat (rods := rods) (grow := grow) (xs.getD 8 0) (xs.getD 12 0) (by omega)
  have w2 := w_press (rods := rods) (grow := grow) (xs.getD 9 0) (xs.getD 13 0) (by omega)
  have w3 := w_arc (rods := rods) (grow := grow) (xs.getD 10 0) (xs.getD 14 0) (by omega)
  have w4 := w_force (rods := rods) (grow := grow) (xs.getD 11 0) (xs.getD 15 0) (by omega)
  have cA := ka (rods := rods) (grow := grow) b0 p0
  have cD := kd (rods := rods) (grow := grow) (k := xs.getD 2 0) q0 q1 c0 c1
  have c2 := kk2 (rods := rods) (grow := grow) (x := xs.getD 6 0) r0 q0 q1
  have c3 := kk3 (rods := rods) (grow := grow) r0 q0 q1 c0 c1
  have c2o : fnB rods grow 110 [xs.getD 2 0] ≠ 2 ∨ 0 ≤ fnB rods grow 113 [xs.getD 2 0, xs.getD 6 0] := (Decidable.em (fnB rods grow 110 [xs.getD 2 0] = 2)).elim (fun e => .inr (c2 e)) .inl
  have c3o : fnB rods grow 110 [xs.getD 2 0] ≠ 3 ∨ fnB rods grow 113 [xs.getD 2 0, xs.getD 6 0] = 0 ∧ fnB rods grow 114 [xs.getD 2 0, xs.getD 6 0, xs.getD 7 0] = 0 := (Decidable.em (fnB rods grow 110 [xs.getD 2 0] = 3)).elim (fun e => .inr (c3 e)) .inl
  clear c2 c3
  have sA := nrw_sub (rods := rods) (grow := grow) (n := 0) (lo := fnB rods grow 111 [xs.getD 4 0]) (hi := fnB rods grow 112 [xs.getD 4 0, xs.getD 5 0]) cA (at_ 0).1 (at_ 0).2 (by omega) (by omega)
  have sD := nrw_sub (rods := rods) (grow := grow) (n := 0) (lo := fnB rods grow 113 [xs.getD 2 0, xs.getD 6 0]) (hi := fnB rods grow 114 [xs.getD 2 0, xs.getD 6 0, xs.getD 7 0]) cD (at_ 1).1 (at_ 1).2 (by omega) (by omega)
  have sG := nrw_sub (rods := rods) (grow := grow) (n := 0) (lo := 1100) (hi := 1150) (by omega) (at_ 6).1 (at_ 6).2 (by omega) (by omega)
  have sH := nrw_sub (rods := rods) (grow := grow) (n := 0) (lo := fnB rods grow 101 [xs.getD 8 0]) (hi := fnB rods grow 102 [xs.getD 8 0, xs.getD 12 0]) w1.2.1 (at_ 2).1 (at_ 2).2 (by omega) (by omega)
  have sP := nrw_sub (rods := rods) (grow := grow) (n := 0) (lo := fnB rods grow 103 [xs.getD 9 0]) (hi := fnB rods grow 104 [xs.getD 9 0, xs.getD 13 0]) w2.2.1 (at_ 3).1 (at_ 3).2 (by omega) (by omega)
  have sR := nrw_sub (rods := rods) (grow := grow) (n := 0) (lo := fnB rods grow 105 [xs.getD 10 0]) (hi := fnB rods grow 106 [xs.getD 10 0, xs.getD 14 0]) w3.2.1 (at_ 4).1 (at_ 4).2 (by omega) (by omega)
  have sF := nrw_sub (rods := rods) (grow := grow) (n := 0) (lo := fnB rods grow 107 [xs.getD 11 0]) (hi := fnB rods grow 108 [xs.getD 11 0, xs.getD 15 0]) w4.2.1 (at_ 5).1 (at_ 5).2 (by omega) (by omega)
  have sQ0 := nrw_sub (rods := rods) (grow := grow) (n := 0) (lo := fnB rods grow 116 [0]) (hi := fnB rods grow 117 [0]) ge0 (at_ 7).1 (at_ 7).2 (by omega) (by omega)
  have sQ1 := nrw_sub (rods := rods) (grow := grow) (n := 0) (lo := fnB rods grow 116 [1]) (hi := fnB rods grow 117 [1]) ge1 (at_ 8).1 (at_ 8).2 (by omega) (by omega)
  have sQ2 := nrw_sub (rods := rods) (grow := grow) (n := 0) (lo := fnB rods grow 116 [2]) (hi := fnB rods grow 117 [2]) ge2 (at_ 9).1 (at_ 9).2 (by omega) (by omega)
  have hg : Sub (fnB rods grow 71 [1100, 1150, 9000, 0, fnB rods grow 116 [0], fnB rods grow 117 [0], fnB rods grow 115 [0], bif i2b (fnB rods grow 118 [0]) then 1 else 0, fnB rods grow 116 [1], fnB rods grow 117 [1], fnB rods grow 115 [1], bif i2b (fnB rods grow 118 [1]) then 1 else 0, fnB rods grow 116 [2], fnB rods grow 117 [2], fnB rods grow 115 [2], bif i2b (fnB rods grow 118 [2]) then 1 else 0]) (fnB rods grow 72 [1100, 1150, 9000, 0, fnB rods grow 116 [0], fnB rods grow 117 [0], fnB rods grow 115 [0], bif i2b (fnB rods grow 118 [0]) then 1 else 0, fnB rods grow 116 [1], fnB rods grow 117 [1], fnB rods grow 115 [1], bif i2b (fnB rods grow 118 [1]) then 1 else 0, fnB rods grow 116 [2], fnB rods grow 117 [2], fnB rods grow 115 [2], bif i2b (fnB rods grow 118 [2]) then 1 else 0]) (fnB rods grow 71 [fnB rods grow 92 [1100, fnB rods grow 91 [1100, 1150, 0]], fnB rods grow 92 [1150, fnB rods grow 91 [1100, 1150, 0] + 1], 9000, 0, fnB rods grow 92 [fnB rods grow 116 [0], fnB rods grow 91 [fnB rods grow 116 [0], fnB rods grow 117 [0], 0]], fnB rods grow 92 [fnB rods grow 117 [0], fnB rods grow 91 [fnB rods grow 116 [0], fnB rods grow 117 [0], 0] + 1], fnB rods grow 115 [0], bif i2b (fnB rods grow 118 [0]) then 1 else 0, fnB rods grow 92 [fnB rods grow 116 [1], fnB rods grow 91 [fnB rods grow 116 [1], fnB rods grow 117 [1], 0]], fnB rods grow 92 [fnB rods grow 117 [1], fnB rods grow 91 [fnB rods grow 116 [1], fnB rods grow 117 [1], 0] + 1], fnB rods grow 115 [1], bif i2b (fnB rods grow 118 [1]) then 1 else 0, fnB rods grow 92 [fnB rods grow 116 [2], fnB rods grow 91 [fnB rods grow 116 [2], fnB rods grow 117 [2], 0]], fnB rods grow 92 [fnB rods grow 117 [2], fnB rods grow 91 [fnB rods grow 116 [2], fnB rods grow 117 [2], 0] + 1], fnB rods grow 115 [2], bif i2b (fnB rods grow 118 [2]) then 1 else 0]) (fnB rods grow 72 [fnB rods grow 92 [1100, fnB rods grow 91 [1100, 1150, 0]], fnB rods grow 92 [1150, fnB rods grow 91 [1100, 1150, 0] + 1], 9000, 0, fnB rods grow 92 [fnB rods grow 116 [0], fnB rods grow 91 [fnB rods grow 116 [0], fnB rods grow 117 [0], 0]], fnB rods grow 92 [fnB rods grow 117 [0], fnB rods grow 91 [fnB rods grow 116 [0], fnB rods grow 117 [0], 0] + 1], fnB rods grow 115 [0], bif i2b (fnB rods grow 118 [0]) then 1 else 0, fnB rods grow 92 [fnB rods grow 116 [1], fnB rods grow 91 [fnB rods grow 116 [1], fnB rods grow 117 [1], 0]], fnB rods grow 92 [fnB rods grow 117 [1], fnB rods grow 91 [fnB rods grow 116 [1], fnB rods grow 117 [1], 0] + 1], fnB rods grow 115 [1], bif i2b (fnB rods grow 118 [1]) then 1 else 0, fnB rods grow 92 [fnB rods grow 116 [2], fnB rods grow 91 [fnB rods grow 116 [2], fnB rods grow 117 [2], 0]], fnB rods grow 92 [fnB rods grow 117 [2], fnB rods grow 91 [fnB rods grow 116 [2], fnB rods grow 117 [2], 0] + 1], fnB rods grow 115 [2], bif i2b (fnB rods grow 118 [2]) then 1 else 0]) := g_outL (gL_cons sG (gL_cons sQ0 (gL_cons sQ1 (gL_cons sQ2 gL_nil))))
  have z0 : Sub 0 0 0 0 := ⟨by decide, by decide, by decide⟩
  have ra0 := ra_out (rods := rods) (grow := grow) (b := xs.getD 3 0) hL.1 hg sA sD sH sP sR sF
  have cg0 := cg_out (rods := rods) (grow := grow) hL.1 hg sA sD z0 z0 z0 z0 sH sP sR sF
  obtain ⟨raa0, rab0, rac0⟩ := ra0
  obtain ⟨cga0, cgb0, cgc0⟩ := cg0
  obtain ⟨sA1, sA2, sA3⟩ := sA
  obtain ⟨sD1, sD2, sD3⟩ := sD
  obtain ⟨sG1, sG2, sG3⟩ := sG
  obtain ⟨sH1, sH2, sH3⟩ := sH
  obtain ⟨sP1, sP2, sP3⟩ := sP
  obtain ⟨sR1, sR2, sR3⟩ := sR
  obtain ⟨sF1, sF2, sF3⟩ := sF
  obtain ⟨sQ01, sQ02, sQ03⟩ := sQ0
  obtain ⟨sQ11, sQ12, sQ13⟩ := sQ1
  obtain ⟨sQ21, sQ22, sQ23⟩ := sQ2
  clear hg z0
  (repeat' (first | (refine And.intro ?_ ?_) | intro _)) <;> first
    | exact trivial
    | rfl
    | assumption
    | omega
    | (exfalso; omega)
theorem run_nw4rn : nwRun (nwL 4 [pClock 4]) 4 (rwV 0 0 4) .nils [rodO] = tnc4rz := by unfold nwRun; kernel_rfl
theorem nw4rn (rods : List Rod) (grow xs : List Int) (hK : pKn3.Ok Try.prog (fnB rods grow)) (hM : ∀ i l, inR (fnB rods grow i l) (nthR RU.fr i)) : NwGoal 4 (rwV 0 0 4) .nils [rodO] rods grow xs := fun hpre =>
  call_lawN (l := nwL 4 [pClock 4]) (R := RU) (fuel := 400) (pre := nwP 4) tnc4rz ⟨(pRaL4_ok rods grow).toN, (pCgL4_ok rods grow).toN, hK.toN, (pBnds_ok _ _).toN, (pIns_ok _ _).toN, (pNrw_ok _ _).toN, pClock4_ok hM, (trivial : True)⟩ rfl hM rfl run_nw4rn hpre (nc4rz rods grow xs hM hpre)
theorem run_nw4rf : nwRun (nwL 4 [pClock 4]) 4 (rwV 0 0 4) (frV 1 1) [rodO] = tnc4rz := by unfold nwRun; kernel_rfl
theorem nw4rf (rods : List Rod) (grow xs : List Int) (hK : pKn3.Ok Try.prog (fnB rods grow)) (hM : ∀ i l, inR (fnB rods grow i l) (nthR RU.fr i)) : NwGoal 4 (rwV 0 0 4) (frV 1 1) [rodO] rods grow xs := fun hpre =>
  call_lawN (l := nwL 4 [pClock 4]) (R := RU) (fuel := 400) (pre := nwP 4) tnc4rz ⟨(pRaL4_ok rods grow).toN, (pCgL4_ok rods grow).toN, hK.toN, (pBnds_ok _ _).toN, (pIns_ok _ _).toN, (pNrw_ok _ _).toN, pClock4_ok hM, (trivial : True)⟩ rfl hM rfl run_nw4rf hpre (nc4rz rods grow xs hM hpre)
set_option maxHeartbeats 30000000 in
theorem nc4rr (rods : List Rod) (grow xs : List Int) (hM : ∀ i l, inR (fnB rods grow i l) (nthR RU.fr i)) (hpre : AllB (valX (fnB rods grow) xs) (nwP 4)) : OT.vc (valX (fnB rods grow) xs) (fun v => v.den (valX (fnB rods grow) xs) = .bool true) tnc4rr := by
  have gb0 : 0 ≤ fnB rods grow 116 [0] ∧ fnB rods grow 116 [0] ≤ 5100 := hM 116 [0]
  have gc0 : 0 ≤ fnB rods grow 117 [0] ∧ fnB rods grow 117 [0] ≤ 5865 := hM 117 [0]
  have ge0 := kg hM [0]
  have gb1 : 0 ≤ fnB rods grow 116 [1] ∧ fnB rods grow 116 [1] ≤ 5100 := hM 116 [1]
  have gc1 : 0 ≤ fnB rods grow 117 [1] ∧ fnB rods grow 117 [1] ≤ 5865 := hM 117 [1]
  have ge1 := kg hM [1]
  have gb2 : 0 ≤ fnB rods grow 116 [2] ∧ fnB rods grow 116 [2] ≤ 5100 := hM 116 [2]
  have gc2 : 0 ≤ fnB rods grow 117 [2] ∧ fnB rods grow 117 [2] ≤ 5865 := hM 117 [2]
  have ge2 := kg hM [2]
  have at_ : ∀ i : Int, 0 ≤ fnB rods grow 119 [xs.getD 16 0, i] ∧ fnB rods grow 119 [xs.getD 16 0, i] ≤ 255 := fun i => hM 119 [xs.getD 16 0, i]
  have qa : -50 ≤ fnB rods grow 111 [xs.getD 4 0] ∧ fnB rods grow 111 [xs.getD 4 0] ≤ 49 := hM 111 [xs.getD 4 0]
  have qb : -50 ≤ fnB rods grow 112 [xs.getD 4 0, xs.getD 5 0] ∧ fnB rods grow 112 [xs.getD 4 0, xs.getD 5 0] ≤ 98 := hM 112 [xs.getD 4 0, xs.getD 5 0]
  have qc : -200 ≤ fnB rods grow 113 [xs.getD 2 0, xs.getD 6 0] ∧ fnB rods grow 113 [xs.getD 2 0, xs.getD 6 0] ≤ 255 := hM 113 [xs.getD 2 0, xs.getD 6 0]
  have qd : 0 ≤ fnB rods grow 114 [xs.getD 2 0, xs.getD 6 0, xs.getD 7 0] ∧ fnB rods grow 114 [xs.getD 2 0, xs.getD 6 0, xs.getD 7 0] ≤ 510 := hM 114 [xs.getD 2 0, xs.getD 6 0, xs.getD 7 0]
  have hL := ln4 hM
  clear hM
  ( simp only [OT.vc, LT.vc, OT.is, AllB, RgB, inR, nthR, idsF, fsOf, List.drop, List.flatMap_cons, List.flatMap_nil, List.append_nil, List.getElem?_cons_zero, List.getElem?_cons_succ, rwFs, rwF, List.nil_append, List.cons_append, mix_v, mix_fn, upd_fn, upd_nil, upd_cons, X.one, X.isL, cond_false, valX_fn, valX_v, setM_v, List.mem_cons, List.not_mem_nil, or_false, false_or, or_true, true_or, if_true, if_false, ite_true, ite_false, Nat.reduceEqDiff, SV.den, AV.int.injEq, AV.bool.injEq, true_and, and_true, X.dB_lt, X.dB_le, X.dB_eq, X.denB_and, X.denB_or, X.denB_not, X.denB_lit0, X.denB_lit1, X.den_lit, X.den_var, X.den_add, X.den_sub, X.den_mul, X.den_app, X.den_ite, X.den_wrap, X.dB_ite, cond_tf, X.denB_app, X.denB_var, X.sem_cons, X.sem_nil, leB_t, ltB_t, eqB_t, leB_f, ltB_f, eqB_f, Bool.and_eq_true, Bool.or_eq_true, Bool.not_eq_true', Bool.and_eq_false_iff, Bool.or_eq_false_iff, Bool.not_eq_false', nwP, cnt, b8, rgN, le, lt, eq, v, lit, i64, List.range, List.range.loop, List.flatMap_cons, List.flatMap_nil, List.cons_append, List.nil_append, Nat.reduceAdd, Nat.mul_zero, Nat.add_zero, X.den_quo, X.den_rem, X.den_min, tnc4rr, yB0, yB1, yB2, yB3, yB4, yB5, yB6, yB7, yB8, yB9, yB10, yB11, yB12, yB13, yB14, yB15, yB16, yB17, yB18, yB19, yB20, yB21, yB22, yB23, yB24, yB25, yB26, yB27, yB28, yB29, yB30, yB31, yB32, yB33, yB34, yB35, yB36, yB37, yB38, yB39, yB40, yB41, yB42, yB43, yB44, yB45, yB46, yB47, yB48, yB49, yB50, yB51, yB52, yB53, yB54, yB55, yB56, yB57, yB58, yB59, yB60, yB61, yB62, yB63, yB64, yB65, yB66, yB67, yB68, yB69, yB70, yB71, yB72, yB73, yB74, yB75, yB76, yB77, yB78, yB79, yB80, yB81, yB82, yB83, yB84, yB85, yB86, yB87, yB88, yB89, yB90, yB91, yB92, yB93, yB94, yB95, yB96, yB97, yB98, yB99, yB100, yB101, yB102, yB103, yB104, yB105, yB106, yB107, yB108, yB109, yB110, yB111, yB112, yB113, yB114, yB115, yB116, yB117, yB118, yB119, yB120, yB121, yB122, yB123, yB124, yB125, yB126, yB127, yB128, yB129, yB130, yB131, yB132, yB133, yB134, yB135, yB136, yB137, yB138, yB139, yB140, yB141, yB142, yB143, yB144, yB145, yB146, yB147, yB148, yB149, yB150, yB151, yB152, yB153, yB154, yB155, yB156, yB157, yB158, yB159, yB160, yB161, yB162, yB163, yB164, yB165, yB166, yB167, yB168, yB169, yB170, yB171, yB172, yB173, yB174, yB175, yB176, yB177, yB178, yB179, yB180, yB181, yB182, yB183, yB184, yB185, yB186, yB187, yB188, yB189, yB190, yB191, yB192, yB193, yB194, yB195, yB196, yB197, yB198, yB199, yB200, yB201, yB202, yB203, yB204, yB205, yB206, yB207, yB208, yB209, yB210, yB211, yB212, yB213, yB214, yB215, yB216, yB217, yB218, yB219, yB220, yB221, yB222, yB223, yB224, yB225, yB226, yB227, yB228, yB229, yB230, yB231, yB232, yB233, yB234, yB235, yB236, yB237, yB238, yB239] at *)
  obtain ⟨y0, y1, y2, r0, r1, k0, k1, b0, b1, p0, p1, q0, q1, c0, c1, d0, d1, e0, e1, f0, f1, g0, g1, h0, h1, i0, i1, j0, j1, l0, l1⟩ := hpre
  have w1 := w_heat (rods := rods) (grow := grow) (xs.getD 8 0) (xs.getD 12 0) (by omega)
  have w2 := w_press (rods := rods) (grow := grow) (xs.getD 9 0) (xs.getD 13 0) (by omega)
  have w3 := w_arc (rods := rods) (grow := grow) (xs.getD 10 0) (xs.getD 14 0) (by omega)
  have w4 := w_force (rods := rods) (grow := grow) (xs.getD 11 0) (xs.getD 15 0) (by omega)
  have cA := ka (rods := rods) (grow := grow) b0 p0
  have cD := kd (rods := rods) (grow := grow) (k := xs.getD 2 0) q0 q1 c0 c1
  have c2 := kk2 (rods := rods) (grow := grow) (x := xs.getD 6 0) r0 q0 q1
  have c3 := kk3 (rods := rods) (grow := grow) r0 q0 q1 c0 c1
  have c2o : fnB rods grow 110 [xs.getD 2 0] ≠ 2 ∨ 0 ≤ fnB rods grow 113 [xs.getD 2 0, xs.getD 6 0] := (Decidable.em (fnB rods grow 110 [xs.getD 2 0] = 2)).elim (fun e => .inr (c2 e)) .inl
  have c3o : fnB rods grow 110 [xs.getD 2 0] ≠ 3 ∨ fnB rods grow 113 [xs.getD 2 0, xs.getD 6 0] = 0 ∧ fnB rods grow 114 [xs.getD 2 0, xs.getD 6 0, xs.getD 7 0] = 0 := (Decidable.em (fnB rods grow 110 [xs.getD 2 0] = 3)).elim (fun e => .inr (c3 e)) .inl
  clear c2 c3
  have sA := nrw_sub (rods := rods) (grow := grow) (n := fnB rods grow 119 [xs.getD 16 0, 0]) (lo := fnB rods grow 111 [xs.getD 4 0]) (hi := fnB rods grow 112 [xs.getD 4 0, xs.getD 5 0]) cA (at_ 0).1 (at_ 0).2 (by omega) (by omega)
  have sD := nrw_sub (rods := rods) (grow := grow) (n := fnB rods grow 119 [xs.getD 16 0, 1]) (lo := fnB rods grow 113 [xs.getD 2 0, xs.getD 6 0]) (hi := fnB rods grow 114 [xs.getD 2 0, xs.getD 6 0, xs.getD 7 0]) cD (at_ 1).1 (at_ 1).2 (by omega) (by omega)
  have sG := nrw_sub (rods := rods) (grow := grow) (n := fnB rods grow 119 [xs.getD 16 0, 6]) (lo := 1100) (hi := 1150) (by omega) (at_ 6).1 (at_ 6).2 (by omega) (by omega)
  have sH := nrw_sub (rods := rods) (grow := grow) (n := fnB rods grow 119 [xs.getD 16 0, 2]) (lo := fnB rods grow 101 [xs.getD 8 0]) (hi := fnB rods grow 102 [xs.getD 8 0, xs.getD 12 0]) w1.2.1 (at_ 2).1 (at_ 2).2 (by omega) (by omega)
  have sP := nrw_sub (rods := rods) (grow := grow) (n := fnB rods grow 119 [xs.getD 16 0, 3]) (lo := fnB rods grow 103 [xs.getD 9 0]) (hi := fnB rods grow 104 [xs.getD 9 0, xs.getD 13 0]) w2.2.1 (at_ 3).1 (at_ 3).2 (by omega) (by omega)
  have sR := nrw_sub (rods := rods) (grow := grow) (n := fnB rods grow 119 [xs.getD 16 0, 4]) (lo := fnB rods grow 105 [xs.getD 10 0]) (hi := fnB rods grow 106 [xs.getD 10 0, xs.getD 14 0]) w3.2.1 (at_ 4).1 (at_ 4).2 (by omega) (by omega)
  have sF := nrw_sub (rods := rods) (grow := grow) (n := fnB rods grow 119 [xs.getD 16 0, 5]) (lo := fnB rods grow 107 [xs.getD 11 0]) (hi := fnB rods grow 108 [xs.getD 11 0, xs.getD 15 0]) w4.2.1 (at_ 5).1 (at_ 5).2 (by omega) (by omega)
  have sQ0 := nrw_sub (rods := rods) (grow := grow) (n := fnB rods grow 119 [xs.getD 16 0, 7]) (lo := fnB rods grow 116 [0]) (hi := fnB rods grow 117 [0]) ge0 (at_ 7).1 (at_ 7).2 (by omega) (by omega)
  have sQ1 := nrw_sub (rods := rods) (grow := grow) (n := fnB rods grow 119 [xs.getD 16 0, 8]) (lo := fnB rods grow 116 [1]) (hi := fnB rods grow 117 [1]) ge1 (at_ 8).1 (at_ 8).2 (by omega) (by omega)
  have sQ2 := nrw_sub (rods := rods) (grow := grow) (n := fnB rods grow 119 [xs.getD 16 0, 9]) (lo := fnB rods grow 116 [2]) (hi := fnB rods grow 117 [2]) ge2 (at_ 9).1 (at_ 9).2 (by omega) (by omega)
  have hg : Sub (fnB rods grow 71 [1100, 1150, 9000, 0, fnB rods grow 116 [0], fnB rods grow 117 [0], fnB rods grow 115 [0], bif i2b (fnB rods grow 118 [0]) then 1 else 0, fnB rods grow 116 [1], fnB rods grow 117 [1], fnB rods grow 115 [1], bif i2b (fnB rods grow 118 [1]) then 1 else 0, fnB rods grow 116 [2], fnB rods grow 117 [2], fnB rods grow 115 [2], bif i2b (fnB rods grow 118 [2]) then 1 else 0]) (fnB rods grow 72 [1100, 1150, 9000, 0, fnB rods grow 116 [0], fnB rods grow 117 [0], fnB rods grow 115 [0], bif i2b (fnB rods grow 118 [0]) then 1 else 0, fnB rods grow 116 [1], fnB rods grow 117 [1], fnB rods grow 115 [1], bif i2b (fnB rods grow 118 [1]) then 1 else 0, fnB rods grow 116 [2], fnB rods grow 117 [2], fnB rods grow 115 [2], bif i2b (fnB rods grow 118 [2]) then 1 else 0]) (fnB rods grow 71 [fnB rods grow 92 [1100, fnB rods grow 91 [1100, 1150, fnB rods grow 119 [xs.getD 16 0, 6]]], fnB rods grow 92 [1150, fnB rods grow 91 [1100, 1150, fnB rods grow 119 [xs.getD 16 0, 6]] + 1], 9000, 0, fnB rods grow 92 [fnB rods grow 116 [0], fnB rods grow 91 [fnB rods grow 116 [0], fnB rods grow 117 [0], fnB rods grow 119 [xs.getD 16 0, 7]]], fnB rods grow 92 [fnB rods grow 117 [0], fnB rods grow 91 [fnB rods grow 116 [0], fnB rods grow 117 [0], fnB rods grow 119 [xs.getD 16 0, 7]] + 1], fnB rods grow 115 [0], bif i2b (fnB rods grow 118 [0]) then 1 else 0, fnB rods grow 92 [fnB rods grow 116 [1], fnB rods grow 91 [fnB rods grow 116 [1], fnB rods grow 117 [1], fnB rods grow 119 [xs.getD 16 0, 8]]], fnB rods grow 92 [fnB rods grow 117 [1], fnB rods grow 91 [fnB rods grow 116 [1], fnB rods grow 117 [1], fnB rods grow 119 [xs.getD 16 0, 8]] + 1], fnB rods grow 115 [1], bif i2b (fnB rods grow 118 [1]) then 1 else 0, fnB rods grow 92 [fnB rods grow 116 [2], fnB rods grow 91 [fnB rods grow 116 [2], fnB rods grow 117 [2], fnB rods grow 119 [xs.getD 16 0, 9]]], fnB rods grow 92 [fnB rods grow 117 [2], fnB rods grow 91 [fnB rods grow 116 [2], fnB rods grow 117 [2], fnB rods grow 119 [xs.getD 16 0, 9]] + 1], fnB rods grow 115 [2], bif i2b (fnB rods grow 118 [2]) then 1 else 0]) (fnB rods grow 72 [fnB rods grow 92 [1100, fnB rods grow 91 [1100, 1150, fnB rods grow 119 [xs.getD 16 0, 6]]], fnB rods grow 92 [1150, fnB rods grow 91 [1100, 1150, fnB rods grow 119 [xs.getD 16 0, 6]] + 1], 9000, 0, fnB rods grow 92 [fnB rods grow 116 [0], fnB rods grow 91 [fnB rods grow 116 [0], fnB rods grow 117 [0], fnB rods grow 119 [xs.getD 16 0, 7]]], fnB rods grow 92 [fnB rods grow 117 [0], fnB rods grow 91 [fnB rods grow 116 [0], fnB rods grow 117 [0], fnB rods grow 119 [xs.getD 16 0, 7]] + 1], fnB rods grow 115 [0], bif i2b (fnB rods grow 118 [0]) then 1 else 0, fnB rods grow 92 [fnB rods grow 116 [1], fnB rods grow 91 [fnB rods grow 116 [1], fnB rods grow 117 [1], fnB rods grow 119 [xs.getD 16 0, 8]]], fnB rods grow 92 [fnB rods grow 117 [1], fnB rods grow 91 [fnB rods grow 116 [1], fnB rods grow 117 [1], fnB rods grow 119 [xs.getD 16 0, 8]] + 1], fnB rods grow 115 [1], bif i2b (fnB rods grow 118 [1]) then 1 else 0, fnB rods grow 92 [fnB rods grow 116 [2], fnB rods grow 91 [fnB rods grow 116 [2], fnB rods grow 117 [2], fnB rods grow 119 [xs.getD 16 0, 9]]], fnB rods grow 92 [fnB rods grow 117 [2], fnB rods grow 91 [fnB rods grow 116 [2], fnB rods grow 117 [2], fnB rods grow 119 [xs.getD 16 0, 9]] + 1], fnB rods grow 115 [2], bif i2b (fnB rods grow 118 [2]) then 1 else 0]) := g_outL (gL_cons sG (gL_cons sQ0 (gL_cons sQ1 (gL_cons sQ2 gL_nil))))
  have z0 : Sub 0 0 0 0 := ⟨by decide, by decide, by decide⟩
  have ra0 := ra_out (rods := rods) (grow := grow) (b := xs.getD 3 0) hL.1 hg sA sD sH sP sR sF
  have cg0 := cg_out (rods := rods) (grow := grow) hL.1 hg sA sD z0 z0 z0 z0 sH sP sR sF
  obtain ⟨raa0, rab0, rac0⟩ := ra0
  obtain ⟨cga0, cgb0, cgc0⟩ := cg0
  obtain ⟨sA1, sA2, sA3⟩ := sA
  obtain ⟨sD1, sD2, sD3⟩ := sD
  obtain ⟨sG1, sG2, sG3⟩ := sG
  obtain ⟨sH1, sH2, sH3⟩ := sH
  obtain ⟨sP1, sP2, sP3⟩ := sP
  obtain ⟨sR1, sR2, sR3⟩ := sR
  obtain ⟨sF1, sF2, sF3⟩ := sF
  obtain ⟨sQ01, sQ02, sQ03⟩ := sQ0
  obtain ⟨sQ11, sQ12, sQ13⟩ := sQ1
  obtain ⟨sQ21, sQ22, sQ23⟩ := sQ2
  clear hg z0
  (repeat' (first | (refine And.intro ?_ ?_) | intro _)) <;> first
    | exact trivial
    | rfl
    | assumption
    | omega
    | (exfalso; omega)
theorem run_nw4rr : nwRun (nwL 4 [pClock 4, pTruth 4 4 119]) 4 (rwV 0 0 4) (rwV 1 16 1) [rodO, byO] = tnc4rr := by unfold nwRun; kernel_rfl
theorem nw4rr (rods : List Rod) (grow xs : List Int) (hK : pKn3.Ok Try.prog (fnB rods grow)) (hM : ∀ i l, inR (fnB rods grow i l) (nthR RU.fr i)) : NwGoal 4 (rwV 0 0 4) (rwV 1 16 1) [rodO, byO] rods grow xs := fun hpre =>
  call_lawN (l := nwL 4 [pClock 4, pTruth 4 4 119]) (R := RU) (fuel := 400) (pre := nwP 4) tnc4rr ⟨(pRaL4_ok rods grow).toN, (pCgL4_ok rods grow).toN, hK.toN, (pBnds_ok _ _).toN, (pIns_ok _ _).toN, (pNrw_ok _ _).toN, pClock4_ok hM, pTruth4_4_ok hM, (trivial : True)⟩ rfl hM rfl run_nw4rr hpre (nc4rr rods grow xs hM hpre)
end Be
end Go.Proofs.Ytikmjmaglinpaaa
