/- BeatApart: the law, one rod. -/
import Derived.Test.YtgpdodkcfiefjaaVp
set_option linter.unusedSimpArgs false
set_option linter.unusedVariables false
namespace Go.Proofs.Ytgpdodkcfiefjaa
open Abs Sx
set_option maxRecDepth 100000
namespace Be
attribute [local irreducible] fnB
set_option maxHeartbeats 60000000 in
theorem vco2r (rods : List Rod) (grow xs : List Int) (hM : ∀ i l, inR (fnB rods grow i l) (nthR RU.fr i)) (hpre : AllB (valX (fnB rods grow) xs) (apB 2)) (A B : Int → X) (s_ : ∀ i, 0 ≤ X.den (valX (fnB rods grow) xs) (A i) ∧ X.den (valX (fnB rods grow) xs) (A i) ≤ 255) (t_ : ∀ i, 0 ≤ X.den (valX (fnB rods grow) xs) (B i) ∧ X.den (valX (fnB rods grow) xs) (B i) ≤ 255) :
    OT.vc (valX (fnB rods grow) xs) (fun v => v.den (valX (fnB rods grow) xs) = .bool true) (co2r A B) := by
  have gb0 : 0 ≤ fnB rods grow 116 [0] ∧ fnB rods grow 116 [0] ≤ 5100 := hM 116 [0]
  have gc0 : 0 ≤ fnB rods grow 117 [0] ∧ fnB rods grow 117 [0] ≤ 5865 := hM 117 [0]
  have ge0 := kg hM [0]
  have gl0 : 1 ≤ fnB rods grow 115 [0] ∧ fnB rods grow 115 [0] ≤ 4000 := hM 115 [0]
  have qa : -50 ≤ fnB rods grow 111 [xs.getD 4 0] ∧ fnB rods grow 111 [xs.getD 4 0] ≤ 49 := hM 111 [xs.getD 4 0]
  have qb : -50 ≤ fnB rods grow 112 [xs.getD 4 0, xs.getD 5 0] ∧ fnB rods grow 112 [xs.getD 4 0, xs.getD 5 0] ≤ 98 := hM 112 [xs.getD 4 0, xs.getD 5 0]
  have qc : -200 ≤ fnB rods grow 113 [xs.getD 2 0, xs.getD 6 0] ∧ fnB rods grow 113 [xs.getD 2 0, xs.getD 6 0] ≤ 255 := hM 113 [xs.getD 2 0, xs.getD 6 0]
  have qd : 0 ≤ fnB rods grow 114 [xs.getD 2 0, xs.getD 6 0, xs.getD 7 0] ∧ fnB rods grow 114 [xs.getD 2 0, xs.getD 6 0, xs.getD 7 0] ≤ 510 := hM 114 [xs.getD 2 0, xs.getD 6 0, xs.getD 7 0]
  have hL := ln2 hM
  have hw := lw2 hM
  clear hM
  ( simp only [OT.vc, LT.vc, OT.is, AllB, RgB, inR, nthR, idsF, fsOf, List.drop, List.flatMap_cons, List.flatMap_nil, List.append_nil, List.getElem?_cons_zero, List.getElem?_cons_succ, rwFs, rwF, List.nil_append, List.cons_append, mix_v, mix_fn, upd_fn, upd_nil, upd_cons, X.one, X.isL, cond_false, valX_fn, valX_v, setM_v, List.mem_cons, List.not_mem_nil, or_false, false_or, or_true, true_or, if_true, if_false, ite_true, ite_false, Nat.reduceEqDiff, SV.den, AV.int.injEq, AV.bool.injEq, true_and, and_true, X.dB_lt, X.dB_le, X.dB_eq, X.denB_and, X.denB_or, X.denB_not, X.denB_lit0, X.denB_lit1, X.den_lit, X.den_var, X.den_add, X.den_sub, X.den_mul, X.den_app, X.den_ite, X.den_wrap, X.dB_ite, cond_tf, X.denB_app, X.denB_var, X.sem_cons, X.sem_nil, leB_t, ltB_t, eqB_t, leB_f, ltB_f, eqB_f, Bool.and_eq_true, Bool.or_eq_true, Bool.not_eq_true', Bool.and_eq_false_iff, Bool.or_eq_false_iff, Bool.not_eq_false', apB, cnt, b8, rgN, le, lt, eq, v, lit, i64, List.range, List.range.loop, List.flatMap_cons, List.flatMap_nil, List.cons_append, List.nil_append, Nat.reduceAdd, Nat.mul_zero, Nat.add_zero, X.den_quo, X.den_rem, X.den_min, co2r, yP0, yP1, yP2, yP3, yP4, yP5, yP6, yP7, yP8, yP9, yP10, yP11, yP12, yP13, yP14, yP15, yP16, yP17, yP18, yP19, yP20, yP21, yP22, yP23, yP24, yP25, yP26, yP27, yP28, yP29, yP30, yP31, yP32, yP33, yP34, yP35, yP36, yP37, yP38, yP39, yP40, yP41, yP42, yP43, yP44, yP45, yP46, yP47, yP48, yP49, yP50, yP51, yP52, yP53, yP54, yP55, yP56, yP57, yP58, yP59, yP60, yP61, yP62, yP63, yP64, yP65, yP66, yP67, yP68, yP69, yP70, yP71, yP72, yP73, yP74, yP75, yP76, yP77, yP78, yP79, yP80, yP81, yP82, yP83, yP84, yP85, yP86, yP87, yP88, yP89, yP90, yP91, yP92, yP93, yP94, yP95, yP96, yP97, yP98, yP99, yP100, yP101, yP102, yP103, yP104, yP105, yP106, yP107, yP108, yP109, yP110, yP111, yP112, yP113, yP114, yP115, yP116, yP117, yP118, yP119, yP120, yP121, yP122] at *)
  obtain ⟨y0, y1, y2, y3, r0, r1, k0, k1, n4, m4, n5, m5, n6, m6, n7, m7, n8, m8, n9, m9, n10, m10, n11, m11, n12, m12, n13, m13, n14, m14, n15, m15, n16, m16, n17, m17, n18, m18, n19, m19, n20, m20, n21, m21, n22, m22, n23, m23⟩ := hpre
  have w1 := w_heat (rods := rods) (grow := grow) (xs.getD 8 0) (xs.getD 12 0) (by omega)
  have w2 := w_press (rods := rods) (grow := grow) (xs.getD 9 0) (xs.getD 13 0) (by omega)
  have w3 := w_arc (rods := rods) (grow := grow) (xs.getD 10 0) (xs.getD 14 0) (by omega)
  have w4 := w_force (rods := rods) (grow := grow) (xs.getD 11 0) (xs.getD 15 0) (by omega)
  have u1 := w_heat (rods := rods) (grow := grow) (xs.getD 16 0) (xs.getD 20 0) (by omega)
  have u2 := w_press (rods := rods) (grow := grow) (xs.getD 17 0) (xs.getD 21 0) (by omega)
  have u3 := w_arc (rods := rods) (grow := grow) (xs.getD 18 0) (xs.getD 22 0) (by omega)
  have u4 := w_force (rods := rods) (grow := grow) (xs.getD 19 0) (xs.getD 23 0) (by omega)
  have cA := ka (rods := rods) (grow := grow) n4 n5
  have cD := kd (rods := rods) (grow := grow) (k := xs.getD 2 0) n6 m6 n7 m7
  have c2 := kk2 (rods := rods) (grow := grow) (x := xs.getD 6 0) r0 n6 m6
  have c3 := kk3 (rods := rods) (grow := grow) r0 n6 m6 n7 m7
  have c2o : fnB rods grow 110 [xs.getD 2 0] ≠ 2 ∨ 0 ≤ fnB rods grow 113 [xs.getD 2 0, xs.getD 6 0] := (Decidable.em (fnB rods grow 110 [xs.getD 2 0] = 2)).elim (fun e => .inr (c2 e)) .inl
  have c3o : fnB rods grow 110 [xs.getD 2 0] ≠ 3 ∨ fnB rods grow 113 [xs.getD 2 0, xs.getD 6 0] = 0 ∧ fnB rods grow 114 [xs.getD 2 0, xs.getD 6 0, xs.getD 7 0] = 0 := (Decidable.em (fnB rods grow 110 [xs.getD 2 0] = 3)).elim (fun e => .inr (c3 e)) .inl
  clear c2 c3
  have iA := in_in (rods := rods) (grow := grow) (n := X.den (valX (fnB rods grow) xs) (A 0)) (lo := fnB rods grow 111 [xs.getD 4 0]) (hi := fnB rods grow 112 [xs.getD 4 0, xs.getD 5 0]) cA (s_ 0).1 (s_ 0).2 (by omega) (by omega)
  have iD := in_in (rods := rods) (grow := grow) (n := X.den (valX (fnB rods grow) xs) (A 1)) (lo := fnB rods grow 113 [xs.getD 2 0, xs.getD 6 0]) (hi := fnB rods grow 114 [xs.getD 2 0, xs.getD 6 0, xs.getD 7 0]) cD (s_ 1).1 (s_ 1).2 (by omega) (by omega)
  have iG := in_in (rods := rods) (grow := grow) (n := X.den (valX (fnB rods grow) xs) (A 6)) (lo := 1100) (hi := 1150) (by omega) (s_ 6).1 (s_ 6).2 (by omega) (by omega)
  have iH := in_in (rods := rods) (grow := grow) (n := X.den (valX (fnB rods grow) xs) (A 2)) (lo := fnB rods grow 101 [xs.getD 8 0]) (hi := fnB rods grow 102 [xs.getD 8 0, xs.getD 12 0]) w1.2.1 (s_ 2).1 (s_ 2).2 (by omega) (by omega)
  have iP := in_in (rods := rods) (grow := grow) (n := X.den (valX (fnB rods grow) xs) (A 3)) (lo := fnB rods grow 103 [xs.getD 9 0]) (hi := fnB rods grow 104 [xs.getD 9 0, xs.getD 13 0]) w2.2.1 (s_ 3).1 (s_ 3).2 (by omega) (by omega)
  have iR := in_in (rods := rods) (grow := grow) (n := X.den (valX (fnB rods grow) xs) (A 4)) (lo := fnB rods grow 105 [xs.getD 10 0]) (hi := fnB rods grow 106 [xs.getD 10 0, xs.getD 14 0]) w3.2.1 (s_ 4).1 (s_ 4).2 (by omega) (by omega)
  have iF := in_in (rods := rods) (grow := grow) (n := X.den (valX (fnB rods grow) xs) (A 5)) (lo := fnB rods grow 107 [xs.getD 11 0]) (hi := fnB rods grow 108 [xs.getD 11 0, xs.getD 15 0]) w4.2.1 (s_ 5).1 (s_ 5).2 (by omega) (by omega)
  have jH := in_in (rods := rods) (grow := grow) (n := X.den (valX (fnB rods grow) xs) (B 2)) (lo := fnB rods grow 101 [xs.getD 16 0]) (hi := fnB rods grow 102 [xs.getD 16 0, xs.getD 20 0]) u1.2.1 (t_ 2).1 (t_ 2).2 (by omega) (by omega)
  have jP := in_in (rods := rods) (grow := grow) (n := X.den (valX (fnB rods grow) xs) (B 3)) (lo := fnB rods grow 103 [xs.getD 17 0]) (hi := fnB rods grow 104 [xs.getD 17 0, xs.getD 21 0]) u2.2.1 (t_ 3).1 (t_ 3).2 (by omega) (by omega)
  have jR := in_in (rods := rods) (grow := grow) (n := X.den (valX (fnB rods grow) xs) (B 4)) (lo := fnB rods grow 105 [xs.getD 18 0]) (hi := fnB rods grow 106 [xs.getD 18 0, xs.getD 22 0]) u3.2.1 (t_ 4).1 (t_ 4).2 (by omega) (by omega)
  have jF := in_in (rods := rods) (grow := grow) (n := X.den (valX (fnB rods grow) xs) (B 5)) (lo := fnB rods grow 107 [xs.getD 19 0]) (hi := fnB rods grow 108 [xs.getD 19 0, xs.getD 23 0]) u4.2.1 (t_ 5).1 (t_ 5).2 (by omega) (by omega)
  have iQ0 := in_in (rods := rods) (grow := grow) (n := X.den (valX (fnB rods grow) xs) (A 7)) (lo := fnB rods grow 116 [0]) (hi := fnB rods grow 117 [0]) ge0 (s_ 7).1 (s_ 7).2 (by omega) (by omega)
  have gr0 := gq_bd (i2b (fnB rods grow 118 [0])) gl0.1 gl0.2 (show 0 ≤ fnB rods grow 91 [fnB rods grow 116 [0], fnB rods grow 117 [0], X.den (valX (fnB rods grow) xs) (A 7)] by omega) (by omega)
  have sg := g_one (rods := rods) (grow := grow) (G := fnB rods grow 91 [1100, 1150, X.den (valX (fnB rods grow) xs) (A 6)] * 9000 + fnB rods grow 91 [fnB rods grow 116 [0], fnB rods grow 117 [0], X.den (valX (fnB rods grow) xs) (A 7)] * (bif i2b (fnB rods grow 118 [0]) then 0 - fnB rods grow 115 [0] else fnB rods grow 115 [0])) (gL_cons (len := 9000) (up := 0) (sub_one iG.1 iG.2) (gL_cons (len := fnB rods grow 115 [0]) (up := bif i2b (fnB rods grow 118 [0]) then 1 else 0) (sub_one iQ0.1 iQ0.2) gL_nil)) (by simp only [gLoL, lowI_b, lowI_0, Int.min_self]; omega) (by simp only [gHiL, lowI_b, lowI_0, Int.max_self]; omega) (by omega) (by omega)
  have F := fun (W : Int) (hW : W = _) => ap_all (rods := rods) (grow := grow) (W := W) (b := xs.getD 3 0) hW hL.1 hL.2 (by omega) (by omega) (g71 _) (g72 _) sg (sub_one iA.1 iA.2) (sub_one iD.1 iD.2) (sub_one iH.1 iH.2) (sub_one iP.1 iP.2) (sub_one iR.1 iR.2) (sub_one iF.1 iF.2) (sub_one jH.1 jH.2) (sub_one jP.1 jP.2) (sub_one jR.1 jR.2) (sub_one jF.1 jF.2) (by omega) (by omega) (by omega) (by omega) (by omega) (by omega) (by omega) (by omega) (by omega) (by omega) (by omega) (by omega) (by omega) (by omega) (by omega) (by omega) (by omega) (by omega) (by omega) (by omega)
  have D := (F _ rfl).1
  have E := (F _ rfl).2.1
  have G0 : i2b (fnB rods grow 118 [0]) = true → _ := fun g0 => (F (10000 * (9000 - fnB rods grow 115 [0])) (by rw [hw]; simp only [g0, cond_true, cond_false] <;> omega)).2.2
  have G1 : i2b (fnB rods grow 118 [0]) = false → _ := fun g0 => (F (10000 * (9000 + fnB rods grow 115 [0])) (by rw [hw]; simp only [g0, cond_true, cond_false] <;> omega)).2.2
  clear sg hw F s_ t_
  (repeat' (first | (refine And.intro ?_ ?_) | intro _)) <;> first
    | exact trivial
    | rfl
    | assumption
    | omega
    | exact (ap_opp2 (by assumption)).elim
    | exact (ap_opp (by assumption)).elim
    | (have g := G0 (by assumption); omega)
    | (have g := G1 (by assumption); omega)
    | (exfalso; omega)
def pf2r (bA bB : Bool) (T : OT SV) : OT SV := nd bA (modN 0 24) (.need [(.bin .le (.app 111 (.cons (.var 4) .nil)) (.app 112 (.cons (.var 4) (.cons (.var 5) .nil))))] (nd bA (modN 1 24) (.need [(.bin .le (.app 113 (.cons (.var 2) (.cons (.var 6) .nil))) (.app 114 (.cons (.var 2) (.cons (.var 6) (.cons (.var 7) .nil)))))] (nd bA (modN 2 24) (.need [(.bin .le (.app 101 (.cons (.var 8) .nil)) (.app 102 (.cons (.var 8) (.cons (.var 12) .nil))))] (nd bA (modN 3 24) (.need [(.bin .le (.app 103 (.cons (.var 9) .nil)) (.app 104 (.cons (.var 9) (.cons (.var 13) .nil))))] (nd bA (modN 4 24) (.need [(.bin .le (.app 105 (.cons (.var 10) .nil)) (.app 106 (.cons (.var 10) (.cons (.var 14) .nil))))] (nd bA (modN 5 24) (.need [(.bin .le (.app 107 (.cons (.var 11) .nil)) (.app 108 (.cons (.var 11) (.cons (.var 15) .nil))))] (nd bA (modN 6 24) (nd bA (modN 7 24) (.need [(.bin .le (.app 116 (.cons (.lit 0) .nil)) (.app 117 (.cons (.lit 0) .nil)))] (nd bB (modN 0 26) (nd bB (modN 1 26) (nd bB (modN 2 26) (.need [(.bin .le (.app 101 (.cons (.var 16) .nil)) (.app 102 (.cons (.var 16) (.cons (.var 20) .nil))))] (nd bB (modN 3 26) (.need [(.bin .le (.app 103 (.cons (.var 17) .nil)) (.app 104 (.cons (.var 17) (.cons (.var 21) .nil))))] (nd bB (modN 4 26) (.need [(.bin .le (.app 105 (.cons (.var 18) .nil)) (.app 106 (.cons (.var 18) (.cons (.var 22) .nil))))] (nd bB (modN 5 26) (.need [(.bin .le (.app 107 (.cons (.var 19) .nil)) (.app 108 (.cons (.var 19) (.cons (.var 23) .nil))))] (nd bB (modN 6 26) (nd bB (modN 7 26) (T)))))))))))))))))))))))))))
set_option maxHeartbeats 8000000 in
theorem vpf2r (rods : List Rod) (grow xs : List Int) (hM : ∀ i l, inR (fnB rods grow i l) (nthR RU.fr i)) (hpre : AllB (valX (fnB rods grow) xs) (apB 2)) (bA bB : Bool) (hA : bA = true → xs.getD 24 0 ≠ 0) (hB : bB = true → xs.getD 26 0 ≠ 0) (T : OT SV) (h0 : OT.vc (valX (fnB rods grow) xs) (fun v => v.den (valX (fnB rods grow) xs) = .bool true) T) :
    OT.vc (valX (fnB rods grow) xs) (fun v => v.den (valX (fnB rods grow) xs) = .bool true) (pf2r bA bB T) := by
  have ge0 := kg hM [0]
  have hA2 : (cond bA (xs.getD 24 0) 1) ≠ 0 := by cases bA with | false => exact (show (1 : Int) ≠ 0 by decide) | true => exact hA rfl
  have hB2 : (cond bB (xs.getD 26 0) 1) ≠ 0 := by cases bB with | false => exact (show (1 : Int) ≠ 0 by decide) | true => exact hB rfl
  clear hM hA hB
  cases bA <;> cases bB <;> simp only [pf2r, nd, cond_true, cond_false] at hA2 hB2 ⊢
  all_goals
    ( simp only [OT.vc, LT.vc, OT.is, AllB, RgB, inR, nthR, idsF, fsOf, List.drop, List.flatMap_cons, List.flatMap_nil, List.append_nil, List.getElem?_cons_zero, List.getElem?_cons_succ, rwFs, rwF, List.nil_append, List.cons_append, mix_v, mix_fn, upd_fn, upd_nil, upd_cons, X.one, X.isL, cond_false, valX_fn, valX_v, setM_v, List.mem_cons, List.not_mem_nil, or_false, false_or, or_true, true_or, if_true, if_false, ite_true, ite_false, Nat.reduceEqDiff, SV.den, AV.int.injEq, AV.bool.injEq, true_and, and_true, X.dB_lt, X.dB_le, X.dB_eq, X.denB_and, X.denB_or, X.denB_not, X.denB_lit0, X.denB_lit1, X.den_lit, X.den_var, X.den_add, X.den_sub, X.den_mul, X.den_app, X.den_ite, X.den_wrap, X.dB_ite, cond_tf, X.denB_app, X.denB_var, X.sem_cons, X.sem_nil, leB_t, ltB_t, eqB_t, leB_f, ltB_f, eqB_f, Bool.and_eq_true, Bool.or_eq_true, Bool.not_eq_true', Bool.and_eq_false_iff, Bool.or_eq_false_iff, Bool.not_eq_false', apB, modN, cnt, b8, rgN, le, lt, eq, v, lit, i64, List.range, List.range.loop, List.flatMap_cons, List.flatMap_nil, List.cons_append, List.nil_append, Nat.reduceAdd, Nat.mul_zero, Nat.add_zero, X.den_quo, X.den_rem, X.den_min] at *)
    obtain ⟨y0, y1, y2, y3, r0, r1, k0, k1, n4, m4, n5, m5, n6, m6, n7, m7, n8, m8, n9, m9, n10, m10, n11, m11, n12, m12, n13, m13, n14, m14, n15, m15, n16, m16, n17, m17, n18, m18, n19, m19, n20, m20, n21, m21, n22, m22, n23, m23⟩ := hpre
    have w1 := w_heat (rods := rods) (grow := grow) (xs.getD 8 0) (xs.getD 12 0) (by omega)
    have w2 := w_press (rods := rods) (grow := grow) (xs.getD 9 0) (xs.getD 13 0) (by omega)
    have w3 := w_arc (rods := rods) (grow := grow) (xs.getD 10 0) (xs.getD 14 0) (by omega)
    have w4 := w_force (rods := rods) (grow := grow) (xs.getD 11 0) (xs.getD 15 0) (by omega)
    have u1 := w_heat (rods := rods) (grow := grow) (xs.getD 16 0) (xs.getD 20 0) (by omega)
    have u2 := w_press (rods := rods) (grow := grow) (xs.getD 17 0) (xs.getD 21 0) (by omega)
    have u3 := w_arc (rods := rods) (grow := grow) (xs.getD 18 0) (xs.getD 22 0) (by omega)
    have u4 := w_force (rods := rods) (grow := grow) (xs.getD 19 0) (xs.getD 23 0) (by omega)
    have cA := ka (rods := rods) (grow := grow) n4 n5
    have cD := kd (rods := rods) (grow := grow) (k := xs.getD 2 0) n6 m6 n7 m7
    (repeat' (first | (refine And.intro ?_ ?_) | intro _)) <;> first
      | exact trivial
      | assumption
      | exact Int.tmod_nonneg _ (by decide)
      | exact Int.tmod_lt_of_pos _ (by omega)
      | omega
theorem cls2r (rods : List Rod) (grow xs : List Int) (hM : ∀ i l, inR (fnB rods grow i l) (nthR RU.fr i)) (hpre : AllB (valX (fnB rods grow) xs) (apB 2)) (bA bB : Bool) (hA : bA = true → xs.getD 24 0 ≠ 0) (hB : bB = true → xs.getD 26 0 ≠ 0) :
    OT.vc (valX (fnB rods grow) xs) (fun v => v.den (valX (fnB rods grow) xs) = .bool true) (pf2r bA bB (co2r (atX bA 5 24) (atX bB 6 26))) :=
  vpf2r rods grow xs hM hpre bA bB hA hB _ (vco2r rods grow xs hM hpre _ _ (at_ok hM bA 5 24 rfl) (at_ok hM bB 6 26 rfl))
end Be
namespace Be
theorem g2ff {z0 z1 : X} {r b d : SV} {ob : List (Nat × SO)} (h : apRun 2 z0 z1 [pClock 2] r b d ob = (pf2r false false (co2r (atX false 5 24) (atX false 6 26)))) : ApG 2 z0 z1 r b d ob := fun rods grow xs hK hM =>
  ap_law (e := [pClock 2]) (pCgL2_ok _ _) (pExL2_ok _ _) hK ⟨pClock2_ok hM, trivial⟩ hM rfl h fun h => cls2r rods grow xs hM h.2.2 false false (fun e => nomatch e) (fun e => nomatch e)
theorem g2ft {z0 : X} {r b d : SV} {ob : List (Nat × SO)} (h : apRun 2 z0 (nzX 26) [pClock 2] r b d ob = (pf2r false true (co2r (atX false 5 24) (atX true 6 26)))) : ApG 2 z0 (nzX 26) r b d ob := fun rods grow xs hK hM =>
  ap_law (e := [pClock 2]) (pCgL2_ok _ _) (pExL2_ok _ _) hK ⟨pClock2_ok hM, trivial⟩ hM rfl h fun h => cls2r rods grow xs hM h.2.2 false true (fun e => nomatch e) (fun _ => nz_ne h.2.1)
theorem g2tf {z1 : X} {r b d : SV} {ob : List (Nat × SO)} (h : apRun 2 (nzX 24) z1 [pClock 2] r b d ob = (pf2r true false (co2r (atX true 5 24) (atX false 6 26)))) : ApG 2 (nzX 24) z1 r b d ob := fun rods grow xs hK hM =>
  ap_law (e := [pClock 2]) (pCgL2_ok _ _) (pExL2_ok _ _) hK ⟨pClock2_ok hM, trivial⟩ hM rfl h fun h => cls2r rods grow xs hM h.2.2 true false (fun _ => nz_ne h.1) (fun e => nomatch e)
theorem g2tt {r b d : SV} {ob : List (Nat × SO)} (h : apRun 2 (nzX 24) (nzX 26) [pClock 2] r b d ob = (pf2r true true (co2r (atX true 5 24) (atX true 6 26)))) : ApG 2 (nzX 24) (nzX 26) r b d ob := fun rods grow xs hK hM =>
  ap_law (e := [pClock 2]) (pCgL2_ok _ _) (pExL2_ok _ _) hK ⟨pClock2_ok hM, trivial⟩ hM rfl h fun h => cls2r rods grow xs hM h.2.2 true true (fun _ => nz_ne h.1) (fun _ => nz_ne h.2.1)
theorem run_ap2rnn : apRun 2 (zzX 24) (zzX 26) [pClock 2] (rwV 0 0 4) .nils .nils [rodO] = (pf2r false false (co2r (atX false 5 24) (atX false 6 26))) := by unfold apRun; kernel_rfl
theorem ap2rnn : ApG 2 (zzX 24) (zzX 26) (rwV 0 0 4) .nils .nils [rodO] := g2ff run_ap2rnn
theorem run_ap2rnf : apRun 2 (zzX 24) (zzX 26) [pClock 2] (rwV 0 0 4) .nils (frV 2 1) [rodO] = (pf2r false false (co2r (atX false 5 24) (atX false 6 26))) := by unfold apRun; kernel_rfl
theorem ap2rnf : ApG 2 (zzX 24) (zzX 26) (rwV 0 0 4) .nils (frV 2 1) [rodO] := g2ff run_ap2rnf
theorem run_ap2rne : apRun 2 (zzX 24) (zzX 26) [pClock 2] (rwV 0 0 4) .nils (rwV 2 26 1) [rodO, byO6] = (pf2r false false (co2r (atX false 5 24) (atX false 6 26))) := by unfold apRun; kernel_rfl
theorem ap2rne : ApG 2 (zzX 24) (zzX 26) (rwV 0 0 4) .nils (rwV 2 26 1) [rodO, byO6] := g2ff run_ap2rne
theorem run_ap2rnr : apRun 2 (zzX 24) (nzX 26) [pClock 2] (rwV 0 0 4) .nils (rwV 2 26 1) [rodO, byO6] = (pf2r false true (co2r (atX false 5 24) (atX true 6 26))) := by unfold apRun; kernel_rfl
theorem ap2rnr : ApG 2 (zzX 24) (nzX 26) (rwV 0 0 4) .nils (rwV 2 26 1) [rodO, byO6] := g2ft run_ap2rnr
theorem run_ap2rfn : apRun 2 (zzX 24) (zzX 26) [pClock 2] (rwV 0 0 4) (frV 1 1) .nils [rodO] = (pf2r false false (co2r (atX false 5 24) (atX false 6 26))) := by unfold apRun; kernel_rfl
theorem ap2rfn : ApG 2 (zzX 24) (zzX 26) (rwV 0 0 4) (frV 1 1) .nils [rodO] := g2ff run_ap2rfn
theorem run_ap2rff : apRun 2 (zzX 24) (zzX 26) [pClock 2] (rwV 0 0 4) (frV 1 1) (frV 2 1) [rodO] = (pf2r false false (co2r (atX false 5 24) (atX false 6 26))) := by unfold apRun; kernel_rfl
theorem ap2rff : ApG 2 (zzX 24) (zzX 26) (rwV 0 0 4) (frV 1 1) (frV 2 1) [rodO] := g2ff run_ap2rff
theorem run_ap2rfe : apRun 2 (zzX 24) (zzX 26) [pClock 2] (rwV 0 0 4) (frV 1 1) (rwV 2 26 1) [rodO, byO6] = (pf2r false false (co2r (atX false 5 24) (atX false 6 26))) := by unfold apRun; kernel_rfl
theorem ap2rfe : ApG 2 (zzX 24) (zzX 26) (rwV 0 0 4) (frV 1 1) (rwV 2 26 1) [rodO, byO6] := g2ff run_ap2rfe
theorem run_ap2rfr : apRun 2 (zzX 24) (nzX 26) [pClock 2] (rwV 0 0 4) (frV 1 1) (rwV 2 26 1) [rodO, byO6] = (pf2r false true (co2r (atX false 5 24) (atX true 6 26))) := by unfold apRun; kernel_rfl
theorem ap2rfr : ApG 2 (zzX 24) (nzX 26) (rwV 0 0 4) (frV 1 1) (rwV 2 26 1) [rodO, byO6] := g2ft run_ap2rfr
theorem run_ap2ren : apRun 2 (zzX 24) (zzX 26) [pClock 2] (rwV 0 0 4) (rwV 1 24 1) .nils [rodO, byO5] = (pf2r false false (co2r (atX false 5 24) (atX false 6 26))) := by unfold apRun; kernel_rfl
theorem ap2ren : ApG 2 (zzX 24) (zzX 26) (rwV 0 0 4) (rwV 1 24 1) .nils [rodO, byO5] := g2ff run_ap2ren
theorem run_ap2ref : apRun 2 (zzX 24) (zzX 26) [pClock 2] (rwV 0 0 4) (rwV 1 24 1) (frV 2 1) [rodO, byO5] = (pf2r false false (co2r (atX false 5 24) (atX false 6 26))) := by unfold apRun; kernel_rfl
theorem ap2ref : ApG 2 (zzX 24) (zzX 26) (rwV 0 0 4) (rwV 1 24 1) (frV 2 1) [rodO, byO5] := g2ff run_ap2ref
theorem run_ap2ree : apRun 2 (zzX 24) (zzX 26) [pClock 2] (rwV 0 0 4) (rwV 1 24 1) (rwV 2 26 1) [rodO, byO5, byO6] = (pf2r false false (co2r (atX false 5 24) (atX false 6 26))) := by unfold apRun; kernel_rfl
theorem ap2ree : ApG 2 (zzX 24) (zzX 26) (rwV 0 0 4) (rwV 1 24 1) (rwV 2 26 1) [rodO, byO5, byO6] := g2ff run_ap2ree
theorem run_ap2rer : apRun 2 (zzX 24) (nzX 26) [pClock 2] (rwV 0 0 4) (rwV 1 24 1) (rwV 2 26 1) [rodO, byO5, byO6] = (pf2r false true (co2r (atX false 5 24) (atX true 6 26))) := by unfold apRun; kernel_rfl
theorem ap2rer : ApG 2 (zzX 24) (nzX 26) (rwV 0 0 4) (rwV 1 24 1) (rwV 2 26 1) [rodO, byO5, byO6] := g2ft run_ap2rer
theorem run_ap2rrn : apRun 2 (nzX 24) (zzX 26) [pClock 2] (rwV 0 0 4) (rwV 1 24 1) .nils [rodO, byO5] = (pf2r true false (co2r (atX true 5 24) (atX false 6 26))) := by unfold apRun; kernel_rfl
theorem ap2rrn : ApG 2 (nzX 24) (zzX 26) (rwV 0 0 4) (rwV 1 24 1) .nils [rodO, byO5] := g2tf run_ap2rrn
theorem run_ap2rrf : apRun 2 (nzX 24) (zzX 26) [pClock 2] (rwV 0 0 4) (rwV 1 24 1) (frV 2 1) [rodO, byO5] = (pf2r true false (co2r (atX true 5 24) (atX false 6 26))) := by unfold apRun; kernel_rfl
theorem ap2rrf : ApG 2 (nzX 24) (zzX 26) (rwV 0 0 4) (rwV 1 24 1) (frV 2 1) [rodO, byO5] := g2tf run_ap2rrf
theorem run_ap2rre : apRun 2 (nzX 24) (zzX 26) [pClock 2] (rwV 0 0 4) (rwV 1 24 1) (rwV 2 26 1) [rodO, byO5, byO6] = (pf2r true false (co2r (atX true 5 24) (atX false 6 26))) := by unfold apRun; kernel_rfl
theorem ap2rre : ApG 2 (nzX 24) (zzX 26) (rwV 0 0 4) (rwV 1 24 1) (rwV 2 26 1) [rodO, byO5, byO6] := g2tf run_ap2rre
theorem run_ap2rrr : apRun 2 (nzX 24) (nzX 26) [pClock 2] (rwV 0 0 4) (rwV 1 24 1) (rwV 2 26 1) [rodO, byO5, byO6] = (pf2r true true (co2r (atX true 5 24) (atX true 6 26))) := by unfold apRun; kernel_rfl
theorem ap2rrr : ApG 2 (nzX 24) (nzX 26) (rwV 0 0 4) (rwV 1 24 1) (rwV 2 26 1) [rodO, byO5, byO6] := g2tt run_ap2rrr
end Be
end Go.Proofs.Ytgpdodkcfiefjaa
