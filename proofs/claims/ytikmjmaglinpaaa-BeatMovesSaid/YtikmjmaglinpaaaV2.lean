/- BeatMoves: the law, one rod. -/
import Derived.Test.YtikmjmaglinpaaaV
set_option linter.unusedSimpArgs false
set_option linter.unusedVariables false
namespace Go.Proofs.Ytikmjmaglinpaaa
open Abs Sx
set_option maxRecDepth 100000
namespace Be
attribute [local irreducible] fnB
set_option maxHeartbeats 30000000 in
theorem vc2rz (rods : List Rod) (grow xs : List Int) (hM : ∀ i l, inR (fnB rods grow i l) (nthR RU.fr i)) (hpre : AllB (valX (fnB rods grow) xs) (mvP 2)) : OT.vc (valX (fnB rods grow) xs) (fun v => v.den (valX (fnB rods grow) xs) = .bool true) tvc2rz := by
  have gb0 : 0 ≤ fnB rods grow 116 [0] ∧ fnB rods grow 116 [0] ≤ 5100 := hM 116 [0]
  have gc0 : 0 ≤ fnB rods grow 117 [0] ∧ fnB rods grow 117 [0] ≤ 5865 := hM 117 [0]
  have ge0 := kg hM [0]
  have gl0 : 1 ≤ fnB rods grow 115 [0] ∧ fnB rods grow 115 [0] ≤ 4000 := hM 115 [0]
  have at_ : ∀ i : Int, (0 : Int) ≤ 0 ∧ (0 : Int) ≤ 255 := fun _ => by decide
  have qa : -50 ≤ fnB rods grow 111 [xs.getD 4 0] ∧ fnB rods grow 111 [xs.getD 4 0] ≤ 49 := hM 111 [xs.getD 4 0]
  have qb : -50 ≤ fnB rods grow 112 [xs.getD 4 0, xs.getD 5 0] ∧ fnB rods grow 112 [xs.getD 4 0, xs.getD 5 0] ≤ 98 := hM 112 [xs.getD 4 0, xs.getD 5 0]
  have qc : -200 ≤ fnB rods grow 113 [xs.getD 2 0, xs.getD 6 0] ∧ fnB rods grow 113 [xs.getD 2 0, xs.getD 6 0] ≤ 255 := hM 113 [xs.getD 2 0, xs.getD 6 0]
  have qd : 0 ≤ fnB rods grow 114 [xs.getD 2 0, xs.getD 6 0, xs.getD 7 0] ∧ fnB rods grow 114 [xs.getD 2 0, xs.getD 6 0, xs.getD 7 0] ≤ 510 := hM 114 [xs.getD 2 0, xs.getD 6 0, xs.getD 7 0]
  have qk : 1 ≤ fnB rods grow 110 [xs.getD 2 0] ∧ fnB rods grow 110 [xs.getD 2 0] ≤ 3 := hM 110 [xs.getD 2 0]
  have hL := ln2 hM
  clear hM
  ( simp only [OT.vc, LT.vc, OT.is, AllB, RgB, inR, nthR, idsF, fsOf, List.drop, List.flatMap_cons, List.flatMap_nil, List.append_nil, List.getElem?_cons_zero, List.getElem?_cons_succ, rwFs, rwF, List.nil_append, List.cons_append, mix_v, mix_fn, upd_fn, upd_nil, upd_cons, X.one, X.isL, cond_false, valX_fn, valX_v, setM_v, List.mem_cons, List.not_mem_nil, or_false, false_or, or_true, true_or, if_true, if_false, ite_true, ite_false, Nat.reduceEqDiff, SV.den, AV.int.injEq, AV.bool.injEq, true_and, and_true, X.dB_lt, X.dB_le, X.dB_eq, X.denB_and, X.denB_or, X.denB_not, X.denB_lit0, X.denB_lit1, X.den_lit, X.den_var, X.den_add, X.den_sub, X.den_mul, X.den_app, X.den_ite, X.den_wrap, X.dB_ite, cond_tf, X.denB_app, X.denB_var, X.sem_cons, X.sem_nil, leB_t, ltB_t, eqB_t, leB_f, ltB_f, eqB_f, Bool.and_eq_true, Bool.or_eq_true, Bool.not_eq_true', Bool.and_eq_false_iff, Bool.or_eq_false_iff, Bool.not_eq_false', mvP, cnt, b8, rgN, le, lt, eq, v, lit, i64, List.range, List.range.loop, List.flatMap_cons, List.flatMap_nil, List.cons_append, List.nil_append, Nat.reduceAdd, Nat.mul_zero, Nat.add_zero, X.den_quo, X.den_rem, X.den_min, tvc2rz, yA0, yA1, yA2, yA3, yA4, yA5, yA6, yA7, yA8, yA9, yA10, yA11, yA12, yA13, yA14, yA15, yA16, yA17, yA18, yA19, yA20, yA21, yA22, yA23, yA24, yA25, yA26, yA27, yA28, yA29, yA30, yA31, yA32, yA33, yA34, yA35, yA36, yA37, yA38, yA39, yA40, yA41, yA42, yA43, yA44, yA45, yA46, yA47, yA48, yA49, yA50, yA51, yA52, yA53, yA54, yA55, yA56, yA57, yA58, yA59, yA60, yA61, yA62, yA63, yA64, yA65, yA66, yA67, yA68, yA69, yA70, yA71, yA72, yA73, yA74, yA75, yA76, yA77, yA78, yA79, yA80, yA81, yA82, yA83, yA84, yA85, yA86, yA87, yA88, yA89, yA90, yA91, yA92, yA93, yA94, yA95, yA96, yA97, yA98, yA99, yA100, yA101, yA102, yA103, yA104, yA105, yA106, yA107, yA108, yA109, yA110, yA111, yA112, yA113, yA114, yA115, yA116, yA117, yA118, yA119, yA120, yA121, yA122, yA123, yA124, yA125, yA126, yA127, yA128, yA129, yA130, yA131, yA132, yA133, yA134, yA135, yA136, yA137, yA138, yA139, yA140, yA141, yA142, yA143, yA144, yA145, yA146, yA147, yA148, yA149, yA150, yA151, yA152, yA153, yA154, yA155, yA156, yA157, yA158, yA159, yA160, yA161, yA162, yA163, yA164, yA165, yA166, yA167, yA168, yA169, yA170, yA171, yA172, yA173, yA174, yA175, yA176, yA177, yA178, yA179, yA180, yA181, yA182, yA183, yA184, yA185, yA186, yA187, yA188, yA189, yA190, yA191, yA192, yA193] at *)
  obtain ⟨y0, y1, y2, r0, r1, k0, k1, b0, b1, p0, p1, q0, q1, c0, c1, d0, d1, e0, e1, f0, f1, g0, g1, h0, h1, i0, i1, j0, j1, l0, l1, m0, m1⟩ := hpre
  have w1 := w_heat (rods := rods) (grow := grow) (xs.getD 8 0) (xs.getD 12 0) (by omega)
  have w2 := w_press (rods := rods) (grow := grow) (xs.getD 9 0) (xs.getD 13 0) (by omega)
  have w3 := w_arc (rods := rods) (grow := grow) (xs.getD 10 0) (xs.getD 14 0) (by omega)
  have w4 := w_force (rods := rods) (grow := grow) (xs.getD 11 0) (xs.getD 15 0) (by omega)
  have cA := ka (rods := rods) (grow := grow) b0 p0
  have cD := kd (rods := rods) (grow := grow) (k := xs.getD 2 0) q0 q1 c0 c1
  have c2 := kk2 (rods := rods) (grow := grow) (x := xs.getD 6 0) r0 q0 q1
  have c3 := kk3 (rods := rods) (grow := grow) r0 q0 q1 c0 c1
  have c2o : fnB rods grow 110 [xs.getD 2 0] ≠ 2 ∨ 0 ≤ fnB rods grow 113 [xs.getD 2 0, xs.getD 6 0] := (Decidable.em (fnB rods grow 110 [xs.getD 2 0] = 2)).elim (fun e => .inr (c2 e)) .inl
  have c3o : fnB rods grow 110 [xs.getD 2 0] ≠ 3 ∨ fnB rods grow 113 [xs.getD 2 0, xs.getD 6 0] = 0 ∧ fnB rods grow 114 [xs.getD 2 0, xs.getD 6 0, xs.getD 7 0] = 0 := (Decidable.em (fnB rods grow 110 [xs.getD 2 0] = 3)).elim (fun e => .inr (c3 e)) .inl
  have iA := in_in (rods := rods) (grow := grow) (n := 0) (lo := fnB rods grow 111 [xs.getD 4 0]) (hi := fnB rods grow 112 [xs.getD 4 0, xs.getD 5 0]) cA (at_ 0).1 (at_ 0).2 (by omega) (by omega)
  have iD := in_in (rods := rods) (grow := grow) (n := 0) (lo := fnB rods grow 113 [xs.getD 2 0, xs.getD 6 0]) (hi := fnB rods grow 114 [xs.getD 2 0, xs.getD 6 0, xs.getD 7 0]) cD (at_ 1).1 (at_ 1).2 (by omega) (by omega)
  have iG := in_in (rods := rods) (grow := grow) (n := 0) (lo := 1100) (hi := 1150) (by omega) (at_ 6).1 (at_ 6).2 (by omega) (by omega)
  have iH := in_in (rods := rods) (grow := grow) (n := 0) (lo := fnB rods grow 101 [xs.getD 8 0]) (hi := fnB rods grow 102 [xs.getD 8 0, xs.getD 12 0]) w1.2.1 (at_ 2).1 (at_ 2).2 (by omega) (by omega)
  have iP := in_in (rods := rods) (grow := grow) (n := 0) (lo := fnB rods grow 103 [xs.getD 9 0]) (hi := fnB rods grow 104 [xs.getD 9 0, xs.getD 13 0]) w2.2.1 (at_ 3).1 (at_ 3).2 (by omega) (by omega)
  have iR := in_in (rods := rods) (grow := grow) (n := 0) (lo := fnB rods grow 105 [xs.getD 10 0]) (hi := fnB rods grow 106 [xs.getD 10 0, xs.getD 14 0]) w3.2.1 (at_ 4).1 (at_ 4).2 (by omega) (by omega)
  have iF := in_in (rods := rods) (grow := grow) (n := 0) (lo := fnB rods grow 107 [xs.getD 11 0]) (hi := fnB rods grow 108 [xs.getD 11 0, xs.getD 15 0]) w4.2.1 (at_ 5).1 (at_ 5).2 (by omega) (by omega)
  have iQ0 := in_in (rods := rods) (grow := grow) (n := 0) (lo := fnB rods grow 116 [0]) (hi := fnB rods grow 117 [0]) ge0 (at_ 7).1 (at_ 7).2 (by omega) (by omega)
  have gq0 := gq_bd (i2b (bif i2b (fnB rods grow 118 [0]) then 1 else 0)) gl0.1 gl0.2 (show 0 ≤ fnB rods grow 91 [fnB rods grow 116 [0], fnB rods grow 117 [0], 0] by omega) (by omega)
  have gr0 := gq_bd (i2b (fnB rods grow 118 [0])) gl0.1 gl0.2 (show 0 ≤ fnB rods grow 91 [fnB rods grow 116 [0], fnB rods grow 117 [0], 0] by omega) (by omega)
  (repeat' (first | (refine And.intro ?_ ?_) | intro _)) <;> first
    | exact trivial
    | rfl
    | assumption
    | (refine absurd (ra_move (rods := rods) (grow := grow) ?_ ?_ ?_ ?_ ?_ ?_ ?_ ?_ ?_ ?_ ?_ ?_ ?_ ?_ ?_ ?_ ?_ ?_).1 (by assumption) <;> first | omega | exact g71 _ | exact g72 _)
    | (refine absurd (ra_move (rods := rods) (grow := grow) ?_ ?_ ?_ ?_ ?_ ?_ ?_ ?_ ?_ ?_ ?_ ?_ ?_ ?_ ?_ ?_ ?_ ?_).2 (by assumption) <;> first | omega | exact g71 _ | exact g72 _)
    | (refine absurd (by assumption) (Int.not_lt.2 (cg_self (rods := rods) (grow := grow) ?_ ?_ ?_ ?_).1) <;> first | omega | exact g71 _ | exact g72 _)
    | (refine absurd (by assumption) (Int.not_lt.2 (cg_self (rods := rods) (grow := grow) ?_ ?_ ?_ ?_).2) <;> first | omega | exact g71 _ | exact g72 _)
    | (refine absurd (ex_move (rods := rods) (grow := grow) ?_ ?_ ?_ ?_ (ex_rest ?_ ?_ ?_ ?_ ?_ ?_ ?_ ?_ ?_)).1 (by assumption) <;> first | omega | exact g71 _ | exact g72 _)
    | (refine absurd (ex_move (rods := rods) (grow := grow) ?_ ?_ ?_ ?_ (ex_rest ?_ ?_ ?_ ?_ ?_ ?_ ?_ ?_ ?_)).2 (by assumption) <;> first | omega | exact g71 _ | exact g72 _)
    | (rcases (by assumption : _ ∨ _) with h | h
       · exact absurd (st_lo' (rods := rods) (grow := grow) (c3 (by assumption)).1 (c3 (by assumption)).2) h
       · exact absurd (st_hi' (rods := rods) (grow := grow) (c3 (by assumption)).1 (c3 (by assumption)).2) h)
    | omega
    | (exfalso; omega)
theorem run_mv2rn : mvRun (mvL 2 [pClock 2]) 2 (rwV 0 0 4) .nils [rodO] = tvc2rz := by unfold mvRun; kernel_rfl
theorem mv2rn (rods : List Rod) (grow xs : List Int) (hK : pKn3.Ok Try.prog (fnB rods grow)) (hM : ∀ i l, inR (fnB rods grow i l) (nthR RU.fr i)) : MvGoal 2 (rwV 0 0 4) .nils [rodO] rods grow xs := fun hpre =>
  call_lawN (l := mvL 2 [pClock 2]) (R := RU) (fuel := 400) (pre := mvP 2) tvc2rz ⟨(pRaL2_ok rods grow).toN, (pCgL2_ok rods grow).toN, (pExL2_ok rods grow).toN, hK.toN, (pBnds_ok _ _).toN, (pIns_ok _ _).toN, pClock2_ok hM, (trivial : True)⟩ rfl hM rfl run_mv2rn hpre (vc2rz rods grow xs hM hpre)
theorem run_mv2rf : mvRun (mvL 2 [pClock 2]) 2 (rwV 0 0 4) (frV 1 1) [rodO] = tvc2rz := by unfold mvRun; kernel_rfl
theorem mv2rf (rods : List Rod) (grow xs : List Int) (hK : pKn3.Ok Try.prog (fnB rods grow)) (hM : ∀ i l, inR (fnB rods grow i l) (nthR RU.fr i)) : MvGoal 2 (rwV 0 0 4) (frV 1 1) [rodO] rods grow xs := fun hpre =>
  call_lawN (l := mvL 2 [pClock 2]) (R := RU) (fuel := 400) (pre := mvP 2) tvc2rz ⟨(pRaL2_ok rods grow).toN, (pCgL2_ok rods grow).toN, (pExL2_ok rods grow).toN, hK.toN, (pBnds_ok _ _).toN, (pIns_ok _ _).toN, pClock2_ok hM, (trivial : True)⟩ rfl hM rfl run_mv2rf hpre (vc2rz rods grow xs hM hpre)
set_option maxHeartbeats 30000000 in
theorem vc2rr (rods : List Rod) (grow xs : List Int) (hM : ∀ i l, inR (fnB rods grow i l) (nthR RU.fr i)) (hpre : AllB (valX (fnB rods grow) xs) (mvP 2)) : OT.vc (valX (fnB rods grow) xs) (fun v => v.den (valX (fnB rods grow) xs) = .bool true) tvc2rr := by
  have gb0 : 0 ≤ fnB rods grow 116 [0] ∧ fnB rods grow 116 [0] ≤ 5100 := hM 116 [0]
  have gc0 : 0 ≤ fnB rods grow 117 [0] ∧ fnB rods grow 117 [0] ≤ 5865 := hM 117 [0]
  have ge0 := kg hM [0]
  have gl0 : 1 ≤ fnB rods grow 115 [0] ∧ fnB rods grow 115 [0] ≤ 4000 := hM 115 [0]
  have at_ : ∀ i : Int, 0 ≤ fnB rods grow 119 [xs.getD 16 0, i] ∧ fnB rods grow 119 [xs.getD 16 0, i] ≤ 255 := fun i => hM 119 [xs.getD 16 0, i]
  have qa : -50 ≤ fnB rods grow 111 [xs.getD 4 0] ∧ fnB rods grow 111 [xs.getD 4 0] ≤ 49 := hM 111 [xs.getD 4 0]
  have qb : -50 ≤ fnB rods grow 112 [xs.getD 4 0, xs.getD 5 0] ∧ fnB rods grow 112 [xs.getD 4 0, xs.getD 5 0] ≤ 98 := hM 112 [xs.getD 4 0, xs.getD 5 0]
  have qc : -200 ≤ fnB rods grow 113 [xs.getD 2 0, xs.getD 6 0] ∧ fnB rods grow 113 [xs.getD 2 0, xs.getD 6 0] ≤ 255 := hM 113 [xs.getD 2 0, xs.getD 6 0]
  have qd : 0 ≤ fnB rods grow 114 [xs.getD 2 0, xs.getD 6 0, xs.getD 7 0] ∧ fnB rods grow 114 [xs.getD 2 0, xs.getD 6 0, xs.getD 7 0] ≤ 510 := hM 114 [xs.getD 2 0, xs.getD 6 0, xs.getD 7 0]
  have qk : 1 ≤ fnB rods grow 110 [xs.getD 2 0] ∧ fnB rods grow 110 [xs.getD 2 0] ≤ 3 := hM 110 [xs.getD 2 0]
  have hL := ln2 hM
  clear hM
  ( simp only [OT.vc, LT.vc, OT.is, AllB, RgB, inR, nthR, idsF, fsOf, List.drop, List.flatMap_cons, List.flatMap_nil, List.append_nil, List.getElem?_cons_zero, List.getElem?_cons_succ, rwFs, rwF, List.nil_append, List.cons_append, mix_v, mix_fn, upd_fn, upd_nil, upd_cons, X.one, X.isL, cond_false, valX_fn, valX_v, setM_v, List.mem_cons, List.not_mem_nil, or_false, false_or, or_true, true_or, if_true, if_false, ite_true, ite_false, Nat.reduceEqDiff, SV.den, AV.int.injEq, AV.bool.injEq, true_and, and_true, X.dB_lt, X.dB_le, X.dB_eq, X.denB_and, X.denB_or, X.denB_not, X.denB_lit0, X.denB_lit1, X.den_lit, X.den_var, X.den_add, X.den_sub, X.den_mul, X.den_app, X.den_ite, X.den_wrap, X.dB_ite, cond_tf, X.denB_app, X.denB_var, X.sem_cons, X.sem_nil, leB_t, ltB_t, eqB_t, leB_f, ltB_f, eqB_f, Bool.and_eq_true, Bool.or_eq_true, Bool.not_eq_true', Bool.and_eq_false_iff, Bool.or_eq_false_iff, Bool.not_eq_false', mvP, cnt, b8, rgN, le, lt, eq, v, lit, i64, List.range, List.range.loop, List.flatMap_cons, List.flatMap_nil, List.cons_append, List.nil_append, Nat.reduceAdd, Nat.mul_zero, Nat.add_zero, X.den_quo, X.den_rem, X.den_min, tvc2rr, yA0, yA1, yA2, yA3, yA4, yA5, yA6, yA7, yA8, yA9, yA10, yA11, yA12, yA13, yA14, yA15, yA16, yA17, yA18, yA19, yA20, yA21, yA22, yA23, yA24, yA25, yA26, yA27, yA28, yA29, yA30, yA31, yA32, yA33, yA34, yA35, yA36, yA37, yA38, yA39, yA40, yA41, yA42, yA43, yA44, yA45, yA46, yA47, yA48, yA49, yA50, yA51, yA52, yA53, yA54, yA55, yA56, yA57, yA58, yA59, yA60, yA61, yA62, yA63, yA64, yA65, yA66, yA67, yA68, yA69, yA70, yA71, yA72, yA73, yA74, yA75, yA76, yA77, yA78, yA79, yA80, yA81, yA82, yA83, yA84, yA85, yA86, yA87, yA88, yA89, yA90, yA91, yA92, yA93, yA94, yA95, yA96, yA97, yA98, yA99, yA100, yA101, yA102, yA103, yA104, yA105, yA106, yA107, yA108, yA109, yA110, yA111, yA112, yA113, yA114, yA115, yA116, yA117, yA118, yA119, yA120, yA121, yA122, yA123, yA124, yA125, yA126, yA127, yA128, yA129, yA130, yA131, yA132, yA133, yA134, yA135, yA136, yA137, yA138, yA139, yA140, yA141, yA142, yA143, yA144, yA145, yA146, yA147, yA148, yA149, yA150, yA151, yA152, yA153, yA154, yA155, yA156, yA157, yA158, yA159, yA160, yA161, yA162, yA163, yA164, yA165, yA166, yA167, yA168, yA169, yA170, yA171, yA172, yA173, yA174, yA175, yA176, yA177, yA178, yA179, yA180, yA181, yA182, yA183, yA184, yA185, yA186, yA187, yA188, yA189, yA190, yA191, yA192, yA193] at *)
  obtain ⟨y0, y1, y2, r0, r1, k0, k1, b0, b1, p0, p1, q0, q1, c0, c1, d0, d1, e0, e1, f0, f1, g0, g1, h0, h1, i0, i1, j0, j1, l0, l1, m0, m1⟩ := hpre
  have w1 := w_heat (rods := rods) (grow := grow) (xs.getD 8 0) (xs.getD 12 0) (by omega)
  have w2 := w_press (rods := rods) (grow := grow) (xs.getD 9 0) (xs.getD 13 0) (by omega)
  have w3 := w_arc (rods := rods) (grow := grow) (xs.getD 10 0) (xs.getD 14 0) (by omega)
  have w4 := w_force (rods := rods) (grow := grow) (xs.getD 11 0) (xs.getD 15 0) (by omega)
  have cA := ka (rods := rods) (grow := grow) b0 p0
  have cD := kd (rods := rods) (grow := grow) (k := xs.getD 2 0) q0 q1 c0 c1
  have c2 := kk2 (rods := rods) (grow := grow) (x := xs.getD 6 0) r0 q0 q1
  have c3 := kk3 (rods := rods) (grow := grow) r0 q0 q1 c0 c1
  have c2o : fnB rods grow 110 [xs.getD 2 0] ≠ 2 ∨ 0 ≤ fnB rods grow 113 [xs.getD 2 0, xs.getD 6 0] := (Decidable.em (fnB rods grow 110 [xs.getD 2 0] = 2)).elim (fun e => .inr (c2 e)) .inl
  have c3o : fnB rods grow 110 [xs.getD 2 0] ≠ 3 ∨ fnB rods grow 113 [xs.getD 2 0, xs.getD 6 0] = 0 ∧ fnB rods grow 114 [xs.getD 2 0, xs.getD 6 0, xs.getD 7 0] = 0 := (Decidable.em (fnB rods grow 110 [xs.getD 2 0] = 3)).elim (fun e => .inr (c3 e)) .inl
  have iA := in_in (rods := rods) (grow := grow) (n := fnB rods grow 119 [xs.getD 16 0, 0]) (lo := fnB rods grow 111 [xs.getD 4 0]) (hi := fnB rods grow 112 [xs.getD 4 0, xs.getD 5 0]) cA (at_ 0).1 (at_ 0).2 (by omega) (by omega)
  have iD := in_in (rods := rods) (grow := grow) (n := fnB rods grow 119 [xs.getD 16 0, 1]) (lo := fnB rods grow 113 [xs.getD 2 0, xs.getD 6 0]) (hi := fnB rods grow 114 [xs.getD 2 0, xs.getD 6 0, xs.getD 7 0]) cD (at_ 1).1 (at_ 1).2 (by omega) (by omega)
  have iG := in_in (rods := rods) (grow := grow) (n := fnB rods grow 119 [xs.getD 16 0, 6]) (lo := 1100) (hi := 1150) (by omega) (at_ 6).1 (at_ 6).2 (by omega) (by omega)
  have iH := in_in (rods := rods) (grow := grow) (n := fnB rods grow 119 [xs.getD 16 0, 2]) (lo := fnB rods grow 101 [xs.getD 8 0]) (hi := fnB rods grow 102 [xs.getD 8 0, xs.getD 12 0]) w1.2.1 (at_ 2).1 (at_ 2).2 (by omega) (by omega)
  have iP := in_in (rods := rods) (grow := grow) (n := fnB rods grow 119 [xs.getD 16 0, 3]) (lo := fnB rods grow 103 [xs.getD 9 0]) (hi := fnB rods grow 104 [xs.getD 9 0, xs.getD 13 0]) w2.2.1 (at_ 3).1 (at_ 3).2 (by omega) (by omega)
  have iR := in_in (rods := rods) (grow := grow) (n := fnB rods grow 119 [xs.getD 16 0, 4]) (lo := fnB rods grow 105 [xs.getD 10 0]) (hi := fnB rods grow 106 [xs.getD 10 0, xs.getD 14 0]) w3.2.1 (at_ 4).1 (at_ 4).2 (by omega) (by omega)
  have iF := in_in (rods := rods) (grow := grow) (n := fnB rods grow 119 [xs.getD 16 0, 5]) (lo := fnB rods grow 107 [xs.getD 11 0]) (hi := fnB rods grow 108 [xs.getD 11 0, xs.getD 15 0]) w4.2.1 (at_ 5).1 (at_ 5).2 (by omega) (by omega)
  have iQ0 := in_in (rods := rods) (grow := grow) (n := fnB rods grow 119 [xs.getD 16 0, 7]) (lo := fnB rods grow 116 [0]) (hi := fnB rods grow 117 [0]) ge0 (at_ 7).1 (at_ 7).2 (by omega) (by omega)
  have gq0 := gq_bd (i2b (bif i2b (fnB rods grow 118 [0]) then 1 else 0)) gl0.1 gl0.2 (show 0 ≤ fnB rods grow 91 [fnB rods grow 116 [0], fnB rods grow 117 [0], fnB rods grow 119 [xs.getD 16 0, 7]] by omega) (by omega)
  have gr0 := gq_bd (i2b (fnB rods grow 118 [0])) gl0.1 gl0.2 (show 0 ≤ fnB rods grow 91 [fnB rods grow 116 [0], fnB rods grow 117 [0], fnB rods grow 119 [xs.getD 16 0, 7]] by omega) (by omega)
  (repeat' (first | (refine And.intro ?_ ?_) | intro _)) <;> first
    | exact trivial
    | rfl
    | assumption
    | (refine absurd (ra_move (rods := rods) (grow := grow) ?_ ?_ ?_ ?_ ?_ ?_ ?_ ?_ ?_ ?_ ?_ ?_ ?_ ?_ ?_ ?_ ?_ ?_).1 (by assumption) <;> first | omega | exact g71 _ | exact g72 _)
    | (refine absurd (ra_move (rods := rods) (grow := grow) ?_ ?_ ?_ ?_ ?_ ?_ ?_ ?_ ?_ ?_ ?_ ?_ ?_ ?_ ?_ ?_ ?_ ?_).2 (by assumption) <;> first | omega | exact g71 _ | exact g72 _)
    | (refine absurd (by assumption) (Int.not_lt.2 (cg_self (rods := rods) (grow := grow) ?_ ?_ ?_ ?_).1) <;> first | omega | exact g71 _ | exact g72 _)
    | (refine absurd (by assumption) (Int.not_lt.2 (cg_self (rods := rods) (grow := grow) ?_ ?_ ?_ ?_).2) <;> first | omega | exact g71 _ | exact g72 _)
    | (refine absurd (ex_move (rods := rods) (grow := grow) ?_ ?_ ?_ ?_ (ex_rest ?_ ?_ ?_ ?_ ?_ ?_ ?_ ?_ ?_)).1 (by assumption) <;> first | omega | exact g71 _ | exact g72 _)
    | (refine absurd (ex_move (rods := rods) (grow := grow) ?_ ?_ ?_ ?_ (ex_rest ?_ ?_ ?_ ?_ ?_ ?_ ?_ ?_ ?_)).2 (by assumption) <;> first | omega | exact g71 _ | exact g72 _)
    | (rcases (by assumption : _ ∨ _) with h | h
       · exact absurd (st_lo' (rods := rods) (grow := grow) (c3 (by assumption)).1 (c3 (by assumption)).2) h
       · exact absurd (st_hi' (rods := rods) (grow := grow) (c3 (by assumption)).1 (c3 (by assumption)).2) h)
    | omega
    | (exfalso; omega)
theorem run_mv2rr : mvRun (mvL 2 [pClock 2, pTruth 2 4 119]) 2 (rwV 0 0 4) (rwV 1 16 1) [rodO, byO] = tvc2rr := by unfold mvRun; kernel_rfl
theorem mv2rr (rods : List Rod) (grow xs : List Int) (hK : pKn3.Ok Try.prog (fnB rods grow)) (hM : ∀ i l, inR (fnB rods grow i l) (nthR RU.fr i)) : MvGoal 2 (rwV 0 0 4) (rwV 1 16 1) [rodO, byO] rods grow xs := fun hpre =>
  call_lawN (l := mvL 2 [pClock 2, pTruth 2 4 119]) (R := RU) (fuel := 400) (pre := mvP 2) tvc2rr ⟨(pRaL2_ok rods grow).toN, (pCgL2_ok rods grow).toN, (pExL2_ok rods grow).toN, hK.toN, (pBnds_ok _ _).toN, (pIns_ok _ _).toN, pClock2_ok hM, pTruth2_4_ok hM, (trivial : True)⟩ rfl hM rfl run_mv2rr hpre (vc2rr rods grow xs hM hpre)
end Be
end Go.Proofs.Ytikmjmaglinpaaa
