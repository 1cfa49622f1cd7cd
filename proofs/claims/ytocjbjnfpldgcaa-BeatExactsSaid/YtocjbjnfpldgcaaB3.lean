/- The same with the error as a number. -/
import Derived.Test.YtocjbjnfpldgcaaB2
set_option linter.unusedSimpArgs false
set_option linter.unusedVariables false
namespace Go.Proofs.Ytocjbjnfpldgcaa
open Abs Sx
set_option maxRecDepth 100000
namespace Be
def apl (f : Nat) (l : List X) : X := .app f (l.foldr .cons .nil)
def errX : X := apl 30 [v 0, v 1, v 2, v 4, v 5, v 6, v 7]
def ofX : X := apl 31 [v 2, v 4, v 5, v 6, v 7, v 8, v 10, v 11, v 12, v 13, v 14, v 15]
def errO : OT SV := .leaf (.int .i64 errX)
def ofO : OT SV := .leaf (.bool ofX)
theorem good_at (rods : List Rod) (grow xs : List Int) : Good (valX (fnB rods grow) xs) ↔ GoodP rods (xs.getD 0 0) (xs.getD 1 0) (xs.getD 2 0) (xs.getD 4 0) (xs.getD 5 0) (xs.getD 6 0) (xs.getD 7 0) := by
  rw [good_iff]; exact ⟨fun h => ⟨h⟩, fun h => h.all⟩
instance (rods : List Rod) (grow xs : List Int) : Decidable (Good (valX (fnB rods grow) xs)) := decidable_of_iff _ (good_at rods grow xs).symm
theorem of_at (rods : List Rod) (grow xs : List Int) : OfP (valX (fnB rods grow) xs) ↔ OfL rods grow [xs.getD 2 0, xs.getD 4 0, xs.getD 5 0, xs.getD 6 0, xs.getD 7 0, xs.getD 8 0, xs.getD 10 0, xs.getD 11 0, xs.getD 12 0, xs.getD 13 0, xs.getD 14 0, xs.getD 15 0] := by
  rw [of_iff]; exact ⟨fun h => ⟨h⟩, fun h => h.all⟩
theorem err_at (rods : List Rod) (grow xs : List Int) : errX.den (valX (fnB rods grow) xs) = if 8 < xs.getD 2 0 then 5 else if Good (valX (fnB rods grow) xs) then 0 else 2 := by
  show errB rods _ = _
  simp only [good_at]; rfl
theorem is_err {rods : List Rod} {grow xs : List Int} {w : AV} (h5 : 8 < (valX (fnB rods grow) xs).v 2 → OT.is (valX (fnB rods grow) xs) w (E 5)) (h2 : (valX (fnB rods grow) xs).v 2 ≤ 8 → ¬ Good (valX (fnB rods grow) xs) → OT.is (valX (fnB rods grow) xs) w (E 2)) (hok : (valX (fnB rods grow) xs).v 2 ≤ 8 → Good (valX (fnB rods grow) xs) → OT.is (valX (fnB rods grow) xs) w (E 0)) : OT.is (valX (fnB rods grow) xs) w errO := by
  show w = .int .i64 (errX.den _)
  rw [err_at]
  by_cases h : 8 < xs.getD 2 0
  · rw [if_pos h]; exact h5 h
  · rw [if_neg h]
    by_cases hg : Good (valX (fnB rods grow) xs)
    · rw [if_pos hg]; exact hok (Int.not_lt.1 h) hg
    · rw [if_neg hg]; exact h2 (Int.not_lt.1 h) hg
theorem is_ofb {rods : List Rod} {grow xs : List Int} {w : AV} (h1 : ¬ OfP (valX (fnB rods grow) xs) → OT.is (valX (fnB rods grow) xs) w (Bl 0)) (h2 : OfP (valX (fnB rods grow) xs) → OT.is (valX (fnB rods grow) xs) w (Bl 1)) : OT.is (valX (fnB rods grow) xs) w ofO := by
  show w = .bool (i2b (b2i (decide (OfL rods grow [xs.getD 2 0, xs.getD 4 0, xs.getD 5 0, xs.getD 6 0, xs.getD 7 0, xs.getD 8 0, xs.getD 10 0, xs.getD 11 0, xs.getD 12 0, xs.getD 13 0, xs.getD 14 0, xs.getD 15 0]))))
  rw [i2b_b2i]
  by_cases h : OfP (valX (fnB rods grow) xs)
  · rw [decide_eq_true ((of_at rods grow xs).1 h)]; exact h2 h
  · rw [decide_eq_false fun k => h ((of_at rods grow xs).2 k)]; exact h1 h
attribute [irreducible] errO ofO
def pChk : Pr := ⟨17, [clkSh], [le (v 2) (lit 12)], fun _ => errO⟩
theorem pChk_ok (rods : List Rod) (grow : List Int) : pChk.Ok Try.prog (fnB rods grow) := by
  refine un1 (l := [pSpan, pIdx, pLen]) (R := R0) (fuel := 200) (fun _ => (.ask (.bin .lt (.lit 8) (.var 2)) (.leaf (.int .i64 (.lit 5))) (.ask (.bin .eq (.var 2) (.lit 0)) (.leaf (.int .i64 (.lit 2))) (.ask (.bin .le (.lit 0) (.app 12 (.cons (.var 2) .nil))) (.leaf (.int .i64 (.lit 2))) (.ask (.bin .lt (.var 1) (.lit (-1000000))) (.leaf (.int .i64 (.lit 2))) (.ask (.bin .lt (.lit 1000000) (.var 1)) (.leaf (.int .i64 (.lit 2))) (.ask (.bin .and (.bin .le (.var 4) (.var 5)) (.bin .and (.bin .and (.bin .le (.lit (-100)) (.var 4)) (.bin .le (.var 4) (.lit 100))) (.bin .and (.bin .le (.lit (-100)) (.var 5)) (.bin .le (.var 5) (.lit 100))))) (.ask (.bin .eq (.var 0) (.lit 3)) (.ask (.not (.bin .eq (.var 7) (.lit 0))) (.leaf (.int .i64 (.lit 2))) (.ask (.bin .lt (.var 6) (.lit 0)) (.leaf (.int .i64 (.lit 2))) (.ask (.bin .and (.bin .le (.var 6) (.var 7)) (.bin .and (.bin .and (.bin .le (.lit (-1000)) (.var 6)) (.bin .le (.var 6) (.lit 1000))) (.bin .and (.bin .le (.lit (-1000)) (.var 7)) (.bin .le (.var 7) (.lit 1000))))) (.ask (.bin .lt (.app 10 (.cons (.var 2) .nil)) (.lit 100)) (.leaf (.int .i64 (.lit 2))) (.ask (.bin .lt (.lit 100000) (.app 10 (.cons (.var 2) .nil))) (.leaf (.int .i64 (.lit 2))) (.leaf (.int .i64 (.lit 0))))) (.leaf (.int .i64 (.lit 2)))))) (.ask (.bin .eq (.var 0) (.lit 2)) (.ask (.bin .lt (.var 6) (.lit 0)) (.leaf (.int .i64 (.lit 2))) (.ask (.bin .and (.bin .le (.var 6) (.var 7)) (.bin .and (.bin .and (.bin .le (.lit (-1000)) (.var 6)) (.bin .le (.var 6) (.lit 1000))) (.bin .and (.bin .le (.lit (-1000)) (.var 7)) (.bin .le (.var 7) (.lit 1000))))) (.ask (.bin .lt (.app 10 (.cons (.var 2) .nil)) (.lit 100)) (.leaf (.int .i64 (.lit 2))) (.ask (.bin .lt (.lit 100000) (.app 10 (.cons (.var 2) .nil))) (.leaf (.int .i64 (.lit 2))) (.leaf (.int .i64 (.lit 0))))) (.leaf (.int .i64 (.lit 2))))) (.ask (.bin .eq (.var 0) (.lit 1)) (.ask (.bin .and (.bin .le (.var 6) (.var 7)) (.bin .and (.bin .and (.bin .le (.lit (-1000)) (.var 6)) (.bin .le (.var 6) (.lit 1000))) (.bin .and (.bin .le (.lit (-1000)) (.var 7)) (.bin .le (.var 7) (.lit 1000))))) (.ask (.bin .lt (.app 10 (.cons (.var 2) .nil)) (.lit 100)) (.leaf (.int .i64 (.lit 2))) (.ask (.bin .lt (.lit 100000) (.app 10 (.cons (.var 2) .nil))) (.leaf (.int .i64 (.lit 2))) (.leaf (.int .i64 (.lit 0))))) (.leaf (.int .i64 (.lit 2)))) (.leaf (.int .i64 (.lit 2)))))) (.leaf (.int .i64 (.lit 2)))))))))) prog_ok ⟨pSpan_ok _, pIdx_ok _ _, pLen_ok _ _, trivial⟩ rfl (R0_ok _) rfl rfl ?h ?h' ?_
  case h => kernel_rfl
  case h' => kernel_rfl
  intro xs es hlen hpre hrw
  clear hpre hrw hlen
  ( simp only [OT.vc, LT.vc, OT.is, AllB, RgB, inR, nthR, idsF, fsOf, List.drop, List.flatMap_cons, List.flatMap_nil, List.append_nil, List.getElem?_cons_zero, List.getElem?_cons_succ, rwFs, rwF, List.nil_append, List.cons_append, mix_v, mix_fn, upd_fn, upd_nil, upd_cons, X.one, X.isL, cond_false, valX_fn, valX_v, setM_v, List.mem_cons, List.not_mem_nil, or_false, false_or, or_true, true_or, if_true, if_false, ite_true, ite_false, Nat.reduceEqDiff, SV.den, AV.int.injEq, AV.bool.injEq, true_and, and_true, X.dB_lt, X.dB_le, X.dB_eq, X.denB_and, X.denB_or, X.denB_not, X.denB_lit0, X.denB_lit1, X.den_lit, X.den_var, X.den_add, X.den_sub, X.den_mul, X.den_app, X.den_ite, X.den_wrap, X.dB_ite, cond_tf, X.denB_app, X.denB_var, X.sem_cons, X.sem_nil, leB_t, ltB_t, eqB_t, leB_f, ltB_f, eqB_f, Bool.and_eq_true, Bool.or_eq_true, Bool.not_eq_true', Bool.and_eq_false_iff, Bool.or_eq_false_iff, Bool.not_eq_false', pChk, an, le, inB, v, lit, ap] at *)
  (repeat' (first | apply And.intro | intro _))
  all_goals (
    refine is_err (fun h5 => ?_) (fun h5 h2 => ?_) (fun h5 hk => ?_)
    · first | exact is_E _ _ | (exfalso; ( simp only [OT.vc, LT.vc, OT.is, AllB, RgB, inR, nthR, idsF, fsOf, List.drop, List.flatMap_cons, List.flatMap_nil, List.append_nil, List.getElem?_cons_zero, List.getElem?_cons_succ, rwFs, rwF, List.nil_append, List.cons_append, mix_v, mix_fn, upd_fn, upd_nil, upd_cons, X.one, X.isL, cond_false, valX_fn, valX_v, setM_v, List.mem_cons, List.not_mem_nil, or_false, false_or, or_true, true_or, if_true, if_false, ite_true, ite_false, Nat.reduceEqDiff, SV.den, AV.int.injEq, AV.bool.injEq, true_and, and_true, X.dB_lt, X.dB_le, X.dB_eq, X.denB_and, X.denB_or, X.denB_not, X.denB_lit0, X.denB_lit1, X.den_lit, X.den_var, X.den_add, X.den_sub, X.den_mul, X.den_app, X.den_ite, X.den_wrap, X.dB_ite, cond_tf, X.denB_app, X.denB_var, X.sem_cons, X.sem_nil, leB_t, ltB_t, eqB_t, leB_f, ltB_f, eqB_f, Bool.and_eq_true, Bool.or_eq_true, Bool.not_eq_true', Bool.and_eq_false_iff, Bool.or_eq_false_iff, Bool.not_eq_false', good_iff] at *); omega)
    · first | exact is_E _ _ | (exfalso; ( simp only [OT.vc, LT.vc, OT.is, AllB, RgB, inR, nthR, idsF, fsOf, List.drop, List.flatMap_cons, List.flatMap_nil, List.append_nil, List.getElem?_cons_zero, List.getElem?_cons_succ, rwFs, rwF, List.nil_append, List.cons_append, mix_v, mix_fn, upd_fn, upd_nil, upd_cons, X.one, X.isL, cond_false, valX_fn, valX_v, setM_v, List.mem_cons, List.not_mem_nil, or_false, false_or, or_true, true_or, if_true, if_false, ite_true, ite_false, Nat.reduceEqDiff, SV.den, AV.int.injEq, AV.bool.injEq, true_and, and_true, X.dB_lt, X.dB_le, X.dB_eq, X.denB_and, X.denB_or, X.denB_not, X.denB_lit0, X.denB_lit1, X.den_lit, X.den_var, X.den_add, X.den_sub, X.den_mul, X.den_app, X.den_ite, X.den_wrap, X.dB_ite, cond_tf, X.denB_app, X.denB_var, X.sem_cons, X.sem_nil, leB_t, ltB_t, eqB_t, leB_f, ltB_f, eqB_f, Bool.and_eq_true, Bool.or_eq_true, Bool.not_eq_true', Bool.and_eq_false_iff, Bool.or_eq_false_iff, Bool.not_eq_false', good_iff] at *); omega)
    · first | exact is_E _ _ | (exfalso; ( simp only [OT.vc, LT.vc, OT.is, AllB, RgB, inR, nthR, idsF, fsOf, List.drop, List.flatMap_cons, List.flatMap_nil, List.append_nil, List.getElem?_cons_zero, List.getElem?_cons_succ, rwFs, rwF, List.nil_append, List.cons_append, mix_v, mix_fn, upd_fn, upd_nil, upd_cons, X.one, X.isL, cond_false, valX_fn, valX_v, setM_v, List.mem_cons, List.not_mem_nil, or_false, false_or, or_true, true_or, if_true, if_false, ite_true, ite_false, Nat.reduceEqDiff, SV.den, AV.int.injEq, AV.bool.injEq, true_and, and_true, X.dB_lt, X.dB_le, X.dB_eq, X.denB_and, X.denB_or, X.denB_not, X.denB_lit0, X.denB_lit1, X.den_lit, X.den_var, X.den_add, X.den_sub, X.den_mul, X.den_app, X.den_ite, X.den_wrap, X.dB_ite, cond_tf, X.denB_app, X.denB_var, X.sem_cons, X.sem_nil, leB_t, ltB_t, eqB_t, leB_f, ltB_f, eqB_f, Bool.and_eq_true, Bool.or_eq_true, Bool.not_eq_true', Bool.and_eq_false_iff, Bool.or_eq_false_iff, Bool.not_eq_false', good_iff] at *); omega))
def rChk : Pr := ⟨15, [clkSh], [le (v 2) (lit 12)], fun _ => errO⟩
def tRChk (es : List Bool) : List Tpl := [⟨[8], [(1, .ptr 1 0), (2, .int .i64 (lit 0)), (3, .int .i64 (v 8))], [(0, .row false (v 2) .nil cmR), (1, boxC es)], [], 2, [le (lit 0) (v 8), le (v 8) (v 2)]⟩]
theorem rChk_ok (rods : List Rod) (grow : List Int) : rChk.Ok Try.prog (fnB rods grow) := by
  refine lp1 (l := [pIn, rLen]) (R := R2) (tps := tRChk) (f := Try.f15) (fuel := 400) (Inv := fun xs _ ρ => xs.getD 2 0 ≤ 8 ∧ badN rods (ρ.v 8).toNat = -1) (mu := fun xs _ ρ => (12 - ρ.v 8).toNat) (fun _ => (.ask (.bin .lt (.lit 8) (.var 2)) (.leaf (.int .i64 (.lit 5))) (.loop 0 [(8, (.lit 0))] (.ask (.bin .lt (.var 8) (.var 2)) (.ask (.bin .lt (.app 0 (.cons (.var 8) .nil)) (.lit 1)) (.leaf (.int .i64 (.lit 2))) (.ask (.bin .lt (.lit 100000) (.app 0 (.cons (.var 8) .nil))) (.leaf (.int .i64 (.lit 2))) (.ask (.not (.bin .and (.bin .le (.lit 0) (.app 1 (.cons (.var 8) .nil))) (.bin .and (.bin .le (.app 1 (.cons (.var 8) .nil)) (.app 2 (.cons (.var 8) .nil))) (.bin .le (.app 2 (.cons (.var 8) .nil)) (.lit 40000))))) (.leaf (.int .i64 (.lit 2))) (.need [(.bin .le (.bin .add (.var 8) (.lit 1)) (.lit 12)), (.bin .le (.bin .add (.var 8) (.lit 1)) (.var 2))] (.back 0 [(8, (.bin .add (.var 8) (.lit 1)))]))))) (.ask (.bin .eq (.var 2) (.lit 0)) (.leaf (.int .i64 (.lit 2))) (.ask (.bin .lt (.var 1) (.lit (-1000000))) (.leaf (.int .i64 (.lit 2))) (.ask (.bin .lt (.lit 1000000) (.var 1)) (.leaf (.int .i64 (.lit 2))) (.ask (.not (.bin .and (.bin .le (.lit (-100)) (.var 4)) (.bin .and (.bin .le (.var 4) (.var 5)) (.bin .le (.var 5) (.lit 100))))) (.leaf (.int .i64 (.lit 2))) (.ask (.not (.bin .and (.bin .le (.lit (-1000)) (.var 6)) (.bin .and (.bin .le (.var 6) (.var 7)) (.bin .le (.var 7) (.lit 1000))))) (.leaf (.int .i64 (.lit 2))) (.need [(.bin .lt (.app 12 (.cons (.var 2) .nil)) (.lit 0))] (.ask (.bin .lt (.app 10 (.cons (.var 2) .nil)) (.lit 100)) (.leaf (.int .i64 (.lit 2))) (.ask (.bin .lt (.lit 100000) (.app 10 (.cons (.var 2) .nil))) (.leaf (.int .i64 (.lit 2))) (.ask (.bin .lt (.var 0) (.lit 1)) (.leaf (.int .i64 (.lit 2))) (.ask (.bin .lt (.lit 3) (.var 0)) (.leaf (.int .i64 (.lit 2))) (.ask (.bin .eq (.var 0) (.lit 2)) (.ask (.bin .lt (.var 6) (.lit 0)) (.leaf (.int .i64 (.lit 2))) (.leaf (.int .i64 (.lit 0)))) (.ask (.bin .eq (.var 0) (.lit 3)) (.ask (.not (.bin .and (.bin .eq (.var 6) (.lit 0)) (.bin .eq (.var 7) (.lit 0)))) (.leaf (.int .i64 (.lit 2))) (.leaf (.int .i64 (.lit 0)))) (.leaf (.int .i64 (.lit 0)))))))))))))))))))
    prog_ok Try.func15 rfl ⟨pIn_ok _, rLen_ok _ _, trivial⟩ rfl (R2_ok _) rfl ?h ?h' ?_
  case h => kernel_rfl
  case h' => kernel_rfl
  intro xs es hlen hpre hrw
  ( simp only [OT.vc, LT.vc, OT.is, AllB, RgB, inR, nthR, idsF, fsOf, List.drop, List.flatMap_cons, List.flatMap_nil, List.append_nil, List.getElem?_cons_zero, List.getElem?_cons_succ, rwFs, rwF, List.nil_append, List.cons_append, mix_v, mix_fn, upd_fn, upd_nil, upd_cons, X.one, X.isL, cond_false, valX_fn, valX_v, setM_v, List.mem_cons, List.not_mem_nil, or_false, false_or, or_true, true_or, if_true, if_false, ite_true, ite_false, Nat.reduceEqDiff, SV.den, AV.int.injEq, AV.bool.injEq, true_and, and_true, X.dB_lt, X.dB_le, X.dB_eq, X.denB_and, X.denB_or, X.denB_not, X.denB_lit0, X.denB_lit1, X.den_lit, X.den_var, X.den_add, X.den_sub, X.den_mul, X.den_app, X.den_ite, X.den_wrap, X.dB_ite, cond_tf, X.denB_app, X.denB_var, X.sem_cons, X.sem_nil, leB_t, ltB_t, eqB_t, leB_f, ltB_f, eqB_f, Bool.and_eq_true, Bool.or_eq_true, Bool.not_eq_true', Bool.and_eq_false_iff, Bool.or_eq_false_iff, Bool.not_eq_false', rChk, an, le, lt, inB, v, lit, ap, tRChk, R2, cmR, clkSh, i64] at *)
  clear hlen
  refine ⟨fun h8 => is_err (fun _ => is_E _ _) (fun h => by ( simp only [OT.vc, LT.vc, OT.is, AllB, RgB, inR, nthR, idsF, fsOf, List.drop, List.flatMap_cons, List.flatMap_nil, List.append_nil, List.getElem?_cons_zero, List.getElem?_cons_succ, rwFs, rwF, List.nil_append, List.cons_append, mix_v, mix_fn, upd_fn, upd_nil, upd_cons, X.one, X.isL, cond_false, valX_fn, valX_v, setM_v, List.mem_cons, List.not_mem_nil, or_false, false_or, or_true, true_or, if_true, if_false, ite_true, ite_false, Nat.reduceEqDiff, SV.den, AV.int.injEq, AV.bool.injEq, true_and, and_true, X.dB_lt, X.dB_le, X.dB_eq, X.denB_and, X.denB_or, X.denB_not, X.denB_lit0, X.denB_lit1, X.den_lit, X.den_var, X.den_add, X.den_sub, X.den_mul, X.den_app, X.den_ite, X.den_wrap, X.dB_ite, cond_tf, X.denB_app, X.denB_var, X.sem_cons, X.sem_nil, leB_t, ltB_t, eqB_t, leB_f, ltB_f, eqB_f, Bool.and_eq_true, Bool.or_eq_true, Bool.not_eq_true', Bool.and_eq_false_iff, Bool.or_eq_false_iff, Bool.not_eq_false'] at *); omega) (fun h => by ( simp only [OT.vc, LT.vc, OT.is, AllB, RgB, inR, nthR, idsF, fsOf, List.drop, List.flatMap_cons, List.flatMap_nil, List.append_nil, List.getElem?_cons_zero, List.getElem?_cons_succ, rwFs, rwF, List.nil_append, List.cons_append, mix_v, mix_fn, upd_fn, upd_nil, upd_cons, X.one, X.isL, cond_false, valX_fn, valX_v, setM_v, List.mem_cons, List.not_mem_nil, or_false, false_or, or_true, true_or, if_true, if_false, ite_true, ite_false, Nat.reduceEqDiff, SV.den, AV.int.injEq, AV.bool.injEq, true_and, and_true, X.dB_lt, X.dB_le, X.dB_eq, X.denB_and, X.denB_or, X.denB_not, X.denB_lit0, X.denB_lit1, X.den_lit, X.den_var, X.den_add, X.den_sub, X.den_mul, X.den_app, X.den_ite, X.den_wrap, X.dB_ite, cond_tf, X.denB_app, X.denB_var, X.sem_cons, X.sem_nil, leB_t, ltB_t, eqB_t, leB_f, ltB_f, eqB_f, Bool.and_eq_true, Bool.or_eq_true, Bool.not_eq_true', Bool.and_eq_false_iff, Bool.or_eq_false_iff, Bool.not_eq_false'] at *); omega), fun h8 => ⟨⟨h8, rfl⟩, fun w h0 h1 hb => ⟨fun h3 => ?_, fun h3 => ?_⟩⟩⟩
  · have hk := rod_step rods grow (i := w 8) (n := xs.getD 2 0) (by omega) h3 hpre hb.2
    have hno : ¬ (1 ≤ fnB rods grow 0 [w 8] ∧ fnB rods grow 0 [w 8] ≤ 100000 ∧ 0 ≤ fnB rods grow 1 [w 8] ∧ fnB rods grow 1 [w 8] ≤ fnB rods grow 2 [w 8] ∧ fnB rods grow 2 [w 8] ≤ 40000) → OT.is (valX (fnB rods grow) xs) (AV.int IntKind.i64 2) errO := fun hn =>
      is_err (fun h => by ( simp only [OT.vc, LT.vc, OT.is, AllB, RgB, inR, nthR, idsF, fsOf, List.drop, List.flatMap_cons, List.flatMap_nil, List.append_nil, List.getElem?_cons_zero, List.getElem?_cons_succ, rwFs, rwF, List.nil_append, List.cons_append, mix_v, mix_fn, upd_fn, upd_nil, upd_cons, X.one, X.isL, cond_false, valX_fn, valX_v, setM_v, List.mem_cons, List.not_mem_nil, or_false, false_or, or_true, true_or, if_true, if_false, ite_true, ite_false, Nat.reduceEqDiff, SV.den, AV.int.injEq, AV.bool.injEq, true_and, and_true, X.dB_lt, X.dB_le, X.dB_eq, X.denB_and, X.denB_or, X.denB_not, X.denB_lit0, X.denB_lit1, X.den_lit, X.den_var, X.den_add, X.den_sub, X.den_mul, X.den_app, X.den_ite, X.den_wrap, X.dB_ite, cond_tf, X.denB_app, X.denB_var, X.sem_cons, X.sem_nil, leB_t, ltB_t, eqB_t, leB_f, ltB_f, eqB_f, Bool.and_eq_true, Bool.or_eq_true, Bool.not_eq_true', Bool.and_eq_false_iff, Bool.or_eq_false_iff, Bool.not_eq_false'] at *); omega) (fun _ _ => is_E _ _) (fun _ hg => by
        have := hk.2 hn
        ( simp only [OT.vc, LT.vc, OT.is, AllB, RgB, inR, nthR, idsF, fsOf, List.drop, List.flatMap_cons, List.flatMap_nil, List.append_nil, List.getElem?_cons_zero, List.getElem?_cons_succ, rwFs, rwF, List.nil_append, List.cons_append, mix_v, mix_fn, upd_fn, upd_nil, upd_cons, X.one, X.isL, cond_false, valX_fn, valX_v, setM_v, List.mem_cons, List.not_mem_nil, or_false, false_or, or_true, true_or, if_true, if_false, ite_true, ite_false, Nat.reduceEqDiff, SV.den, AV.int.injEq, AV.bool.injEq, true_and, and_true, X.dB_lt, X.dB_le, X.dB_eq, X.denB_and, X.denB_or, X.denB_not, X.denB_lit0, X.denB_lit1, X.den_lit, X.den_var, X.den_add, X.den_sub, X.den_mul, X.den_app, X.den_ite, X.den_wrap, X.dB_ite, cond_tf, X.denB_app, X.denB_var, X.sem_cons, X.sem_nil, leB_t, ltB_t, eqB_t, leB_f, ltB_f, eqB_f, Bool.and_eq_true, Bool.or_eq_true, Bool.not_eq_true', Bool.and_eq_false_iff, Bool.or_eq_false_iff, Bool.not_eq_false', good_iff] at *); omega)
    refine ⟨fun h4 => hno (by omega), fun h4 => ⟨fun h5 => hno (by omega), fun h5 => ⟨fun h6 => hno (by omega), fun h6 => ⟨by omega, ⟨h8, hk.1 (by omega)⟩, by omega⟩⟩⟩⟩
  · have : w 8 = xs.getD 2 0 := by omega
    have hf : fnB rods grow 12 [xs.getD 2 0] = -1 := by rw [f12_at rods grow hpre, ← this]; exact hb.2
    clear hb h3 h1 h0 hrw
    (repeat' (first | apply And.intro | intro _))
    all_goals first | omega | (
      refine is_err (fun h5 => ?_) (fun h5 h2 => ?_) (fun h5 hk => ?_)
      · first | exact is_E _ _ | (exfalso; ( simp only [OT.vc, LT.vc, OT.is, AllB, RgB, inR, nthR, idsF, fsOf, List.drop, List.flatMap_cons, List.flatMap_nil, List.append_nil, List.getElem?_cons_zero, List.getElem?_cons_succ, rwFs, rwF, List.nil_append, List.cons_append, mix_v, mix_fn, upd_fn, upd_nil, upd_cons, X.one, X.isL, cond_false, valX_fn, valX_v, setM_v, List.mem_cons, List.not_mem_nil, or_false, false_or, or_true, true_or, if_true, if_false, ite_true, ite_false, Nat.reduceEqDiff, SV.den, AV.int.injEq, AV.bool.injEq, true_and, and_true, X.dB_lt, X.dB_le, X.dB_eq, X.denB_and, X.denB_or, X.denB_not, X.denB_lit0, X.denB_lit1, X.den_lit, X.den_var, X.den_add, X.den_sub, X.den_mul, X.den_app, X.den_ite, X.den_wrap, X.dB_ite, cond_tf, X.denB_app, X.denB_var, X.sem_cons, X.sem_nil, leB_t, ltB_t, eqB_t, leB_f, ltB_f, eqB_f, Bool.and_eq_true, Bool.or_eq_true, Bool.not_eq_true', Bool.and_eq_false_iff, Bool.or_eq_false_iff, Bool.not_eq_false', good_iff] at *); omega)
      · first | exact is_E _ _ | (exfalso; ( simp only [OT.vc, LT.vc, OT.is, AllB, RgB, inR, nthR, idsF, fsOf, List.drop, List.flatMap_cons, List.flatMap_nil, List.append_nil, List.getElem?_cons_zero, List.getElem?_cons_succ, rwFs, rwF, List.nil_append, List.cons_append, mix_v, mix_fn, upd_fn, upd_nil, upd_cons, X.one, X.isL, cond_false, valX_fn, valX_v, setM_v, List.mem_cons, List.not_mem_nil, or_false, false_or, or_true, true_or, if_true, if_false, ite_true, ite_false, Nat.reduceEqDiff, SV.den, AV.int.injEq, AV.bool.injEq, true_and, and_true, X.dB_lt, X.dB_le, X.dB_eq, X.denB_and, X.denB_or, X.denB_not, X.denB_lit0, X.denB_lit1, X.den_lit, X.den_var, X.den_add, X.den_sub, X.den_mul, X.den_app, X.den_ite, X.den_wrap, X.dB_ite, cond_tf, X.denB_app, X.denB_var, X.sem_cons, X.sem_nil, leB_t, ltB_t, eqB_t, leB_f, ltB_f, eqB_f, Bool.and_eq_true, Bool.or_eq_true, Bool.not_eq_true', Bool.and_eq_false_iff, Bool.or_eq_false_iff, Bool.not_eq_false', good_iff] at *); omega)
      · first | exact is_E _ _ | (exfalso; ( simp only [OT.vc, LT.vc, OT.is, AllB, RgB, inR, nthR, idsF, fsOf, List.drop, List.flatMap_cons, List.flatMap_nil, List.append_nil, List.getElem?_cons_zero, List.getElem?_cons_succ, rwFs, rwF, List.nil_append, List.cons_append, mix_v, mix_fn, upd_fn, upd_nil, upd_cons, X.one, X.isL, cond_false, valX_fn, valX_v, setM_v, List.mem_cons, List.not_mem_nil, or_false, false_or, or_true, true_or, if_true, if_false, ite_true, ite_false, Nat.reduceEqDiff, SV.den, AV.int.injEq, AV.bool.injEq, true_and, and_true, X.dB_lt, X.dB_le, X.dB_eq, X.denB_and, X.denB_or, X.denB_not, X.denB_lit0, X.denB_lit1, X.den_lit, X.den_var, X.den_add, X.den_sub, X.den_mul, X.den_app, X.den_ite, X.den_wrap, X.dB_ite, cond_tf, X.denB_app, X.denB_var, X.sem_cons, X.sem_nil, leB_t, ltB_t, eqB_t, leB_f, ltB_f, eqB_f, Bool.and_eq_true, Bool.or_eq_true, Bool.not_eq_true', Bool.and_eq_false_iff, Bool.or_eq_false_iff, Bool.not_eq_false', good_iff] at *); omega))
def rOfb : Pr := ⟨18, [clkSh, truSh], [le (v 2) (lit 12)], fun _ => ofO⟩
def tOfb (es : List Bool) : List Tpl := [⟨[16], [(2, .ptr 2 0), (3, .ptr 3 0), (4, .bool (lit 0)), (5, .int .i64 (v 16))], [(0, .row false (v 2) .nil cmR), (1, .row false (v 8) .nil cmG), (2, boxC es), (3, boxT es)], [], 4, [le (lit 0) (v 16), le (v 16) (v 2)]⟩]
theorem rOfb_ok (rods : List Rod) (grow : List Int) : rOfb.Ok Try.prog (fnB rods grow) := by
  refine lp2 (l := []) (R := Rn 16) (tps := tOfb) (f := Try.f18) (fuel := 400) (Inv := fun xs _ ρ => xs.getD 8 0 = xs.getD 2 0 ∧ firstN (outP rods grow) (ρ.v 16).toNat = -1) (mu := fun xs _ ρ => (12 - ρ.v 16).toNat) (fun _ => (.ask (.not (.bin .eq (.var 8) (.var 2))) (.leaf (.bool (.lit 0))) (.loop 0 [(16, (.lit 0))] (.ask (.bin .lt (.var 16) (.var 8)) (.need [(.bin .lt (.var 16) (.var 2))] (.ask (.bin .lt (.app 4 (.cons (.var 16) .nil)) (.app 1 (.cons (.var 16) .nil))) (.leaf (.bool (.lit 0))) (.ask (.bin .lt (.app 2 (.cons (.var 16) .nil)) (.app 4 (.cons (.var 16) .nil))) (.leaf (.bool (.lit 0))) (.need [(.bin .le (.bin .add (.var 16) (.lit 1)) (.lit 12)), (.bin .le (.bin .add (.var 16) (.lit 1)) (.var 2))] (.back 0 [(16, (.bin .add (.var 16) (.lit 1)))]))))) (.ask (.bin .le (.var 4) (.var 10)) (.ask (.bin .le (.var 10) (.var 5)) (.ask (.bin .le (.var 6) (.var 11)) (.ask (.bin .le (.var 11) (.var 7)) (.ask (.bin .le (.lit (-1000)) (.var 12)) (.ask (.bin .le (.var 12) (.lit 1000)) (.ask (.bin .le (.lit (-1000)) (.var 13)) (.ask (.bin .le (.var 13) (.lit 1000)) (.ask (.bin .le (.lit 0) (.var 14)) (.ask (.bin .le (.var 14) (.lit 600)) (.ask (.bin .le (.lit (-100)) (.var 15)) (.leaf (.bool (.bin .le (.var 15) (.lit 100)))) (.leaf (.bool (.lit 0)))) (.leaf (.bool (.lit 0)))) (.leaf (.bool (.lit 0)))) (.leaf (.bool (.lit 0)))) (.leaf (.bool (.lit 0)))) (.leaf (.bool (.lit 0)))) (.leaf (.bool (.lit 0)))) (.leaf (.bool (.lit 0)))) (.leaf (.bool (.lit 0)))) (.leaf (.bool (.lit 0)))) (.leaf (.bool (.lit 0))))))))
    prog_ok Try.func18 rfl trivial rfl (Rn_ok _ _) rfl ?h1 ?h2 ?h3 ?h4 ?_
  case h1 => kernel_rfl
  case h2 => kernel_rfl
  case h3 => kernel_rfl
  case h4 => kernel_rfl
  intro xs es hlen hpre hrw
  ( simp only [OT.vc, LT.vc, OT.is, AllB, RgB, inR, nthR, idsF, fsOf, List.drop, List.flatMap_cons, List.flatMap_nil, List.append_nil, List.getElem?_cons_zero, List.getElem?_cons_succ, rwFs, rwF, List.nil_append, List.cons_append, mix_v, mix_fn, upd_fn, upd_nil, upd_cons, X.one, X.isL, cond_false, valX_fn, valX_v, setM_v, List.mem_cons, List.not_mem_nil, or_false, false_or, or_true, true_or, if_true, if_false, ite_true, ite_false, Nat.reduceEqDiff, SV.den, AV.int.injEq, AV.bool.injEq, true_and, and_true, X.dB_lt, X.dB_le, X.dB_eq, X.denB_and, X.denB_or, X.denB_not, X.denB_lit0, X.denB_lit1, X.den_lit, X.den_var, X.den_add, X.den_sub, X.den_mul, X.den_app, X.den_ite, X.den_wrap, X.dB_ite, cond_tf, X.denB_app, X.denB_var, X.sem_cons, X.sem_nil, leB_t, ltB_t, eqB_t, leB_f, ltB_f, eqB_f, Bool.and_eq_true, Bool.or_eq_true, Bool.not_eq_true', Bool.and_eq_false_iff, Bool.or_eq_false_iff, Bool.not_eq_false', rOfb, an, le, lt, inB, v, lit, ap, eq, tOfb, cmR, cmG, clkSh, truSh, i64] at *)
  simp only [Rn, nthR, inR, List.replicate, List.cons_append, List.nil_append] at *
  clear hlen hrw
  refine ⟨fun h8 => is_ofb (fun _ => rfl) (fun h => by ( simp only [OT.vc, LT.vc, OT.is, AllB, RgB, inR, nthR, idsF, fsOf, List.drop, List.flatMap_cons, List.flatMap_nil, List.append_nil, List.getElem?_cons_zero, List.getElem?_cons_succ, rwFs, rwF, List.nil_append, List.cons_append, mix_v, mix_fn, upd_fn, upd_nil, upd_cons, X.one, X.isL, cond_false, valX_fn, valX_v, setM_v, List.mem_cons, List.not_mem_nil, or_false, false_or, or_true, true_or, if_true, if_false, ite_true, ite_false, Nat.reduceEqDiff, SV.den, AV.int.injEq, AV.bool.injEq, true_and, and_true, X.dB_lt, X.dB_le, X.dB_eq, X.denB_and, X.denB_or, X.denB_not, X.denB_lit0, X.denB_lit1, X.den_lit, X.den_var, X.den_add, X.den_sub, X.den_mul, X.den_app, X.den_ite, X.den_wrap, X.dB_ite, cond_tf, X.denB_app, X.denB_var, X.sem_cons, X.sem_nil, leB_t, ltB_t, eqB_t, leB_f, ltB_f, eqB_f, Bool.and_eq_true, Bool.or_eq_true, Bool.not_eq_true', Bool.and_eq_false_iff, Bool.or_eq_false_iff, Bool.not_eq_false', of_iff] at *); omega), fun h8 => ⟨⟨h8, rfl⟩, fun w h0 h1 hb => ⟨fun h3 => ?_, fun h3 => ?_⟩⟩⟩
  · have hk := out_step rods grow (i := w 16) (n := xs.getD 2 0) (by omega) (by omega) hpre hb.2
    have hno : ¬ (fnB rods grow 1 [w 16] ≤ fnB rods grow 4 [w 16] ∧ fnB rods grow 4 [w 16] ≤ fnB rods grow 2 [w 16]) → OT.is (valX (fnB rods grow) xs) (AV.bool false) ofO := fun hn =>
      is_ofb (fun _ => rfl) (fun hg => by
        have := hk.2 hn
        ( simp only [OT.vc, LT.vc, OT.is, AllB, RgB, inR, nthR, idsF, fsOf, List.drop, List.flatMap_cons, List.flatMap_nil, List.append_nil, List.getElem?_cons_zero, List.getElem?_cons_succ, rwFs, rwF, List.nil_append, List.cons_append, mix_v, mix_fn, upd_fn, upd_nil, upd_cons, X.one, X.isL, cond_false, valX_fn, valX_v, setM_v, List.mem_cons, List.not_mem_nil, or_false, false_or, or_true, true_or, if_true, if_false, ite_true, ite_false, Nat.reduceEqDiff, SV.den, AV.int.injEq, AV.bool.injEq, true_and, and_true, X.dB_lt, X.dB_le, X.dB_eq, X.denB_and, X.denB_or, X.denB_not, X.denB_lit0, X.denB_lit1, X.den_lit, X.den_var, X.den_add, X.den_sub, X.den_mul, X.den_app, X.den_ite, X.den_wrap, X.dB_ite, cond_tf, X.denB_app, X.denB_var, X.sem_cons, X.sem_nil, leB_t, ltB_t, eqB_t, leB_f, ltB_f, eqB_f, Bool.and_eq_true, Bool.or_eq_true, Bool.not_eq_true', Bool.and_eq_false_iff, Bool.or_eq_false_iff, Bool.not_eq_false', of_iff] at *); omega)
    refine ⟨by omega, fun h4 => hno (by omega), fun h4 => ⟨fun h5 => hno (by omega), fun h5 => ⟨by omega, ⟨h8, hk.1 (by omega)⟩, by omega⟩⟩⟩
  · have : w 16 = xs.getD 2 0 := by omega
    have hf : fnB rods grow 14 [xs.getD 2 0] = -1 := by rw [f14_at rods grow hpre, ← this]; exact hb.2
    clear hb h3 h1 h0
    (repeat' (first | apply And.intro | intro _))
    all_goals first
      | (refine is_ofb (fun _ => rfl) (fun hg => ?_); exfalso; ( simp only [OT.vc, LT.vc, OT.is, AllB, RgB, inR, nthR, idsF, fsOf, List.drop, List.flatMap_cons, List.flatMap_nil, List.append_nil, List.getElem?_cons_zero, List.getElem?_cons_succ, rwFs, rwF, List.nil_append, List.cons_append, mix_v, mix_fn, upd_fn, upd_nil, upd_cons, X.one, X.isL, cond_false, valX_fn, valX_v, setM_v, List.mem_cons, List.not_mem_nil, or_false, false_or, or_true, true_or, if_true, if_false, ite_true, ite_false, Nat.reduceEqDiff, SV.den, AV.int.injEq, AV.bool.injEq, true_and, and_true, X.dB_lt, X.dB_le, X.dB_eq, X.denB_and, X.denB_or, X.denB_not, X.denB_lit0, X.denB_lit1, X.den_lit, X.den_var, X.den_add, X.den_sub, X.den_mul, X.den_app, X.den_ite, X.den_wrap, X.dB_ite, cond_tf, X.denB_app, X.denB_var, X.sem_cons, X.sem_nil, leB_t, ltB_t, eqB_t, leB_f, ltB_f, eqB_f, Bool.and_eq_true, Bool.or_eq_true, Bool.not_eq_true', Bool.and_eq_false_iff, Bool.or_eq_false_iff, Bool.not_eq_false', of_iff] at *); omega)
      | (cases hc : leB (xs.getD 15 0) 100
         · refine is_ofb (fun _ => rfl) (fun hg => ?_); exfalso; ( simp only [OT.vc, LT.vc, OT.is, AllB, RgB, inR, nthR, idsF, fsOf, List.drop, List.flatMap_cons, List.flatMap_nil, List.append_nil, List.getElem?_cons_zero, List.getElem?_cons_succ, rwFs, rwF, List.nil_append, List.cons_append, mix_v, mix_fn, upd_fn, upd_nil, upd_cons, X.one, X.isL, cond_false, valX_fn, valX_v, setM_v, List.mem_cons, List.not_mem_nil, or_false, false_or, or_true, true_or, if_true, if_false, ite_true, ite_false, Nat.reduceEqDiff, SV.den, AV.int.injEq, AV.bool.injEq, true_and, and_true, X.dB_lt, X.dB_le, X.dB_eq, X.denB_and, X.denB_or, X.denB_not, X.denB_lit0, X.denB_lit1, X.den_lit, X.den_var, X.den_add, X.den_sub, X.den_mul, X.den_app, X.den_ite, X.den_wrap, X.dB_ite, cond_tf, X.denB_app, X.denB_var, X.sem_cons, X.sem_nil, leB_t, ltB_t, eqB_t, leB_f, ltB_f, eqB_f, Bool.and_eq_true, Bool.or_eq_true, Bool.not_eq_true', Bool.and_eq_false_iff, Bool.or_eq_false_iff, Bool.not_eq_false', of_iff] at *); omega
         · refine is_ofb (fun hg => ?_) (fun _ => rfl); exfalso; ( simp only [OT.vc, LT.vc, OT.is, AllB, RgB, inR, nthR, idsF, fsOf, List.drop, List.flatMap_cons, List.flatMap_nil, List.append_nil, List.getElem?_cons_zero, List.getElem?_cons_succ, rwFs, rwF, List.nil_append, List.cons_append, mix_v, mix_fn, upd_fn, upd_nil, upd_cons, X.one, X.isL, cond_false, valX_fn, valX_v, setM_v, List.mem_cons, List.not_mem_nil, or_false, false_or, or_true, true_or, if_true, if_false, ite_true, ite_false, Nat.reduceEqDiff, SV.den, AV.int.injEq, AV.bool.injEq, true_and, and_true, X.dB_lt, X.dB_le, X.dB_eq, X.denB_and, X.denB_or, X.denB_not, X.denB_lit0, X.denB_lit1, X.den_lit, X.den_var, X.den_add, X.den_sub, X.den_mul, X.den_app, X.den_ite, X.den_wrap, X.dB_ite, cond_tf, X.denB_app, X.denB_var, X.sem_cons, X.sem_nil, leB_t, ltB_t, eqB_t, leB_f, ltB_f, eqB_f, Bool.and_eq_true, Bool.or_eq_true, Bool.not_eq_true', Bool.and_eq_false_iff, Bool.or_eq_false_iff, Bool.not_eq_false', of_iff] at *); omega)
end Be
end Go.Proofs.Ytocjbjnfpldgcaa

/- beat.Exact: clocks that aren't valid, truths that have another number of rods. -/
namespace Go.Proofs.Ytocjbjnfpldgcaa
open Abs Sx
set_option maxRecDepth 100000
namespace Be
def no0 : OT SV := .leaf (.tuple [.agg [.int .i64 (lit 0), .int .i64 (lit 0)], .int .i64 (lit 2)])
def noE : OT SV := .leaf (.tuple [.agg [.int .i64 (lit 0), .int .i64 (lit 0)], .int .i64 errX])
def pExE : Pr := ⟨14, [clkSh, truSh], [le (v 2) (lit 12), .not (eq errX (lit 0))], fun _ => noE⟩
theorem pExE_ok (rods : List Rod) (grow : List Int) : pExE.Ok Try.prog (fnB rods grow) := by
  refine un2 (l := [pChk, pSpan]) (R := R0) (fuel := 200) (fun _ => (.leaf (.tuple [(.agg [(.int .i64 (.lit 0)), (.int .i64 (.lit 0))]), (.int .i64 (.app 30 (.cons (.var 0) (.cons (.var 1) (.cons (.var 2) (.cons (.var 4) (.cons (.var 5) (.cons (.var 6) (.cons (.var 7) .nil)))))))))]))) prog_ok ⟨pChk_ok _ _, pSpan_ok _, trivial⟩ rfl (R0_ok _) rfl rfl ?h1 ?h2 ?h3 ?h4 ?_
  case h1 => kernel_rfl
  case h2 => kernel_rfl
  case h3 => kernel_rfl
  case h4 => kernel_rfl
  intro xs es hlen hpre hrw
  rfl
def pExM : Pr := ⟨14, [clkSh, truSh], [le (lit 1) (v 2), le (v 2) (lit 8), eq errX (lit 0), .not (eq (v 8) (v 2))], fun _ => no0⟩
theorem pExM_ok (rods : List Rod) (grow : List Int) : pExM.Ok Try.prog (fnB rods grow) := by
  refine un2 (l := [pChk, pSpan]) (R := R0) (fuel := 200) (fun _ => (.ask (.bin .lt (.lit 1) (.var 2)) (.ask (.bin .lt (.lit 2) (.var 2)) (.ask (.bin .lt (.lit 3) (.var 2)) (.ask (.bin .lt (.lit 4) (.var 2)) (.ask (.bin .lt (.lit 5) (.var 2)) (.ask (.bin .lt (.lit 6) (.var 2)) (.ask (.bin .lt (.lit 7) (.var 2)) (.leaf (.tuple [(.agg [(.int .i64 (.lit 0)), (.int .i64 (.lit 0))]), (.int .i64 (.lit 2))])) (.leaf (.tuple [(.agg [(.int .i64 (.lit 0)), (.int .i64 (.lit 0))]), (.int .i64 (.lit 2))]))) (.leaf (.tuple [(.agg [(.int .i64 (.lit 0)), (.int .i64 (.lit 0))]), (.int .i64 (.lit 2))]))) (.leaf (.tuple [(.agg [(.int .i64 (.lit 0)), (.int .i64 (.lit 0))]), (.int .i64 (.lit 2))]))) (.leaf (.tuple [(.agg [(.int .i64 (.lit 0)), (.int .i64 (.lit 0))]), (.int .i64 (.lit 2))]))) (.leaf (.tuple [(.agg [(.int .i64 (.lit 0)), (.int .i64 (.lit 0))]), (.int .i64 (.lit 2))]))) (.leaf (.tuple [(.agg [(.int .i64 (.lit 0)), (.int .i64 (.lit 0))]), (.int .i64 (.lit 2))]))) (.leaf (.tuple [(.agg [(.int .i64 (.lit 0)), (.int .i64 (.lit 0))]), (.int .i64 (.lit 2))])))) prog_ok ⟨pChk_ok _ _, pSpan_ok _, trivial⟩ rfl (R0_ok _) rfl rfl ?h1 ?h2 ?h3 ?h4 ?_
  case h1 => kernel_rfl
  case h2 => kernel_rfl
  case h3 => kernel_rfl
  case h4 => kernel_rfl
  intro xs es hlen hpre hrw
  simp only [OT.vc]
  (repeat' (first | apply And.intro | intro _))
  all_goals rfl
end Be
end Go.Proofs.Ytocjbjnfpldgcaa

/- beat.Exact: truths of the clock. -/
namespace Go.Proofs.Ytocjbjnfpldgcaa
open Abs Sx
set_option maxRecDepth 100000
namespace Be
def RV : Rgs := ⟨[], [some (1, 100000), some (0, 40000), some (0, 40000), some (0, 1), some (0, 40000), none, none, none, none, none, some (-1200000, 1200000), none, none, none, none, some (-50000000000, 50000000000)]⟩
/-- All rods are valid, and no number of how they grow is out of bounds. -/
def AllOk (rods : List Rod) (grow : List Int) : Prop := (∀ i, okRod (rods.getD i d0) = true) ∧ ∀ i, outP rods grow i = false
theorem g_bd {rods : List Rod} {grow : List Int} (h : AllOk rods grow) (i : Nat) : 0 ≤ grow.getD i 0 ∧ grow.getD i 0 ≤ 40000 := by
  have h1 := ok_parts (h.1 i)
  have h2 := h.2 i
  simp only [outP, Bool.or_eq_false_iff, decide_eq_false_iff_not] at h2
  omega
theorem RV_ok {rods : List Rod} {grow : List Int} (h : AllOk rods grow) : ∀ i l, inR (fnB rods grow i l) (nthR RV.fr i) := by
  intro i l
  match i with
  | 0 => have := ok_parts (h.1 (hdI l).toNat); exact ⟨this.1, this.2.1⟩
  | 1 => have := ok_parts (h.1 (hdI l).toNat); exact ⟨this.2.2.1, by show (rods.getD (hdI l).toNat d0).2.1 ≤ 40000; omega⟩
  | 2 => have := ok_parts (h.1 (hdI l).toNat); exact ⟨by show 0 ≤ (rods.getD (hdI l).toNat d0).2.2.1; omega, this.2.2.2.2⟩
  | 3 => exact b2i_in _
  | 4 => exact g_bd h _
  | 5 => trivial
  | 6 => trivial
  | 7 => trivial
  | 8 => trivial
  | 9 => trivial
  | 10 =>
    have := lenN_bd rods (n := min (hdI l).toNat 12) fun i _ => h.1 i
    show -1200000 ≤ lenN rods (min (hdI l).toNat 12) ∧ lenN rods (min (hdI l).toNat 12) ≤ 1200000
    omega
  | 11 => trivial
  | 12 => trivial
  | 13 => trivial
  | 14 => trivial
  | 15 =>
    have := grow_bd rods grow (n := min (hdI l).toNat 12) (fun i _ => h.1 i) fun i _ => h.2 i
    show -50000000000 ≤ growN rods grow (min (hdI l).toNat 12) ∧ growN rods grow (min (hdI l).toNat 12) ≤ 50000000000
    omega
  | _ + 16 => trivial
def rodB (i : Nat) : List X := [le (ap 1 (lit i)) (ap 4 (lit i)), le (ap 4 (lit i)) (ap 2 (lit i))]
def preB (n : Nat) : List X := [eq (v 2) (lit n), eq (v 8) (lit n), eq errX (lit 0), lt (ap 12 (v 2)) (lit 0), lt (ap 14 (v 2)) (lit 0), le (lit (-1000000)) (v 1), le (v 1) (lit 1000000), le (v 4) (v 10), le (v 10) (v 5), le (v 6) (v 11), le (v 11) (v 7), le (lit (-100)) (v 10), le (v 10) (lit 100), le (lit (-1000)) (v 11), le (v 11) (lit 1000), le (lit (-1000)) (v 12), le (v 12) (lit 1000), le (lit (-1000)) (v 13), le (v 13) (lit 1000), le (lit 0) (v 14), le (v 14) (lit 600), le (lit (-100)) (v 15), le (v 15) (lit 100), le (lit 100) (ap 10 (v 2)), le (ap 10 (v 2)) (lit 100000)]
def DX : X := .bin .mul (.lit 10000) (.app 10 (.cons (.var 2) .nil))
/-- The rate in parts, as the reference has it. -/
def PX : X := (.bin .sub (.bin .sub (.bin .mul (.bin .mul (.lit 10000) (.app 10 (.cons (.var 2) .nil))) (.bin .add (.bin .add (.var 1) (.bin .mul (.var 10) (.var 13))) (.bin .mul (.var 11) (.var 15)))) (.bin .mul (.bin .mul (.lit 432) (.app 15 (.cons (.var 2) .nil))) (.var 12))) (.bin .mul (.bin .mul (.bin .mul (.lit 4570) (.app 10 (.cons (.var 2) .nil))) (.var 14)) (.var 14)))
def exO : OT SV := .leaf (.tuple [.agg [.int .i64 (ap2 20 PX DX), .int .i64 (ap2 21 PX DX)], .int .i64 (lit 0)])
def pExB (n : Nat) : Pr := ⟨14, [clkSh, truSh], preB n ++ (List.range n).flatMap rodB, fun _ => exO⟩
theorem parts_eq (b L S a p d f h r : Int) (hL : 0 ≤ L) : b * (10000 * L) + (((S * h) * -432 + (a * p) * (10000 * L)) + (r * r) * (-457 * (10000 * L).tdiv 1000) + (d * f) * (10000 * L)) = ((10000 * L) * ((b + a * p) + d * f) - (432 * S) * h) - ((4570 * L) * r) * r := by
  have : (10000 * L).tdiv 1000 = 10 * L := by rw [Int.tdiv_eq_ediv_of_nonneg (by omega)]; omega
  rw [this]
  grind
/-- What a rod grows by. -/
theorem rod_mul (rods : List Rod) (grow : List Int) (i : Nat) : fnB rods grow 4 [(i : Int)] * cond (i2b (fnB rods grow 3 [(i : Int)])) (0 - fnB rods grow 0 [(i : Int)]) (fnB rods grow 0 [(i : Int)]) = low (rods.getD i d0) * grow.getD i 0 := by
  show grow.getD i 0 * cond (i2b (b2i (rods.getD i d0).2.2.2)) (0 - (rods.getD i d0).1) (rods.getD i d0).1 = _
  rw [i2b_b2i]; unfold low
  cases (rods.getD i d0).2.2.2 <;> simp only [cond_true, cond_false, Int.zero_sub] <;> exact Int.mul_comm _ _
end Be
end Go.Proofs.Ytocjbjnfpldgcaa

/- Spans of a single number: their arithmetic. -/
namespace Go.Proofs.Ytocjbjnfpldgcaa
open Abs Sx
set_option maxRecDepth 100000
namespace Be
def bd (x : X) : List X := [le (lit (-4611686018427387904)) x, le x (lit 4611686018427387904)]
def one2 : List X := [eq (v 0) (v 1), eq (v 2) (v 3)]
def two (x : X) : OT SV := .leaf (.agg [.int .i64 x, .int .i64 x])
def pPlus1 : Pr := ⟨78, [spanSh, spanSh], one2 ++ bd (.bin .add (v 0) (v 2)), fun _ => two (.bin .add (v 0) (v 2))⟩
theorem pPlus1_ok (fn : Nat → List Int → Int) : pPlus1.Ok Try.prog fn := by
  refine un0 (l := []) (R := R0) (fuel := 200) (fun _ => (.leaf (.agg [(.int .i64 (.bin .min (.bin .add (.var 0) (.var 2)) (.wrap .i64 (.bin .add (.var 1) (.var 3))))), (.int .i64 (.bin .max (.bin .add (.var 0) (.var 2)) (.wrap .i64 (.bin .add (.var 1) (.var 3)))))]))) prog_ok trivial rfl (R0_ok fn) rfl rfl ?h ?_
  case h => kernel_rfl
  intro xs es hlen hpre hrw
  ( simp only [OT.vc, LT.vc, OT.is, AllB, RgB, inR, nthR, idsF, fsOf, List.drop, List.flatMap_cons, List.flatMap_nil, List.append_nil, List.getElem?_cons_zero, List.getElem?_cons_succ, rwFs, rwF, List.nil_append, List.cons_append, mix_v, mix_fn, upd_fn, upd_nil, upd_cons, X.one, X.isL, cond_false, valX_fn, valX_v, setM_v, List.mem_cons, List.not_mem_nil, or_false, false_or, or_true, true_or, if_true, if_false, ite_true, ite_false, Nat.reduceEqDiff, SV.den, AV.int.injEq, AV.bool.injEq, true_and, and_true, X.dB_lt, X.dB_le, X.dB_eq, X.denB_and, X.denB_or, X.denB_not, X.denB_lit0, X.denB_lit1, X.den_lit, X.den_var, X.den_add, X.den_sub, X.den_mul, X.den_app, X.den_ite, X.den_wrap, X.dB_ite, cond_tf, X.denB_app, X.denB_var, X.sem_cons, X.sem_nil, leB_t, ltB_t, eqB_t, leB_f, ltB_f, eqB_f, Bool.and_eq_true, Bool.or_eq_true, Bool.not_eq_true', Bool.and_eq_false_iff, Bool.or_eq_false_iff, Bool.not_eq_false', pPlus1, one2, bd, two, le, eq, v, lit, SV.dens, AV.agg.injEq, List.cons.injEq, X.den_max, X.den_min] at *)
  rw [← hpre.1, ← hpre.2.1, wrap64 (by omega) (by omega)]
  omega
def pTimes1 : Pr := ⟨87, [spanSh, spanSh], one2 ++ bd (.bin .mul (v 0) (v 2)), fun _ => two (.bin .mul (v 0) (v 2))⟩
theorem pTimes1_ok (fn : Nat → List Int → Int) : pTimes1.Ok Try.prog fn := by
  refine un0 (l := []) (R := R0) (fuel := 200) (fun _ => (.leaf (.agg [(.int .i64 (.bin .min (.bin .min (.bin .min (.bin .mul (.var 0) (.var 2)) (.wrap .i64 (.bin .mul (.var 0) (.var 3)))) (.wrap .i64 (.bin .mul (.var 1) (.var 2)))) (.wrap .i64 (.bin .mul (.var 1) (.var 3))))), (.int .i64 (.bin .max (.bin .max (.bin .max (.bin .mul (.var 0) (.var 2)) (.wrap .i64 (.bin .mul (.var 0) (.var 3)))) (.wrap .i64 (.bin .mul (.var 1) (.var 2)))) (.wrap .i64 (.bin .mul (.var 1) (.var 3)))))]))) prog_ok trivial rfl (R0_ok fn) rfl rfl ?h ?_
  case h => kernel_rfl
  intro xs es hlen hpre hrw
  ( simp only [OT.vc, LT.vc, OT.is, AllB, RgB, inR, nthR, idsF, fsOf, List.drop, List.flatMap_cons, List.flatMap_nil, List.append_nil, List.getElem?_cons_zero, List.getElem?_cons_succ, rwFs, rwF, List.nil_append, List.cons_append, mix_v, mix_fn, upd_fn, upd_nil, upd_cons, X.one, X.isL, cond_false, valX_fn, valX_v, setM_v, List.mem_cons, List.not_mem_nil, or_false, false_or, or_true, true_or, if_true, if_false, ite_true, ite_false, Nat.reduceEqDiff, SV.den, AV.int.injEq, AV.bool.injEq, true_and, and_true, X.dB_lt, X.dB_le, X.dB_eq, X.denB_and, X.denB_or, X.denB_not, X.denB_lit0, X.denB_lit1, X.den_lit, X.den_var, X.den_add, X.den_sub, X.den_mul, X.den_app, X.den_ite, X.den_wrap, X.dB_ite, cond_tf, X.denB_app, X.denB_var, X.sem_cons, X.sem_nil, leB_t, ltB_t, eqB_t, leB_f, ltB_f, eqB_f, Bool.and_eq_true, Bool.or_eq_true, Bool.not_eq_true', Bool.and_eq_false_iff, Bool.or_eq_false_iff, Bool.not_eq_false', pTimes1, one2, bd, two, le, eq, v, lit, SV.dens, AV.agg.injEq, List.cons.injEq, X.den_max, X.den_min] at *)
  rw [← hpre.1, ← hpre.2.1, wrap64 (by omega) (by omega)]
  omega
def pScaled1 : Pr := ⟨88, [spanSh, i64], eq (v 0) (v 1) :: bd (.bin .mul (v 0) (v 2)), fun _ => two (.bin .mul (v 0) (v 2))⟩
theorem pScaled1_ok (fn : Nat → List Int → Int) : pScaled1.Ok Try.prog fn := by
  refine un0 (l := []) (R := R0) (fuel := 200) (fun _ => (.leaf (.agg [(.int .i64 (.bin .min (.bin .mul (.var 0) (.var 2)) (.wrap .i64 (.bin .mul (.var 1) (.var 2))))), (.int .i64 (.bin .max (.bin .mul (.var 0) (.var 2)) (.wrap .i64 (.bin .mul (.var 1) (.var 2)))))]))) prog_ok trivial rfl (R0_ok fn) rfl rfl ?h ?_
  case h => kernel_rfl
  intro xs es hlen hpre hrw
  ( simp only [OT.vc, LT.vc, OT.is, AllB, RgB, inR, nthR, idsF, fsOf, List.drop, List.flatMap_cons, List.flatMap_nil, List.append_nil, List.getElem?_cons_zero, List.getElem?_cons_succ, rwFs, rwF, List.nil_append, List.cons_append, mix_v, mix_fn, upd_fn, upd_nil, upd_cons, X.one, X.isL, cond_false, valX_fn, valX_v, setM_v, List.mem_cons, List.not_mem_nil, or_false, false_or, or_true, true_or, if_true, if_false, ite_true, ite_false, Nat.reduceEqDiff, SV.den, AV.int.injEq, AV.bool.injEq, true_and, and_true, X.dB_lt, X.dB_le, X.dB_eq, X.denB_and, X.denB_or, X.denB_not, X.denB_lit0, X.denB_lit1, X.den_lit, X.den_var, X.den_add, X.den_sub, X.den_mul, X.den_app, X.den_ite, X.den_wrap, X.dB_ite, cond_tf, X.denB_app, X.denB_var, X.sem_cons, X.sem_nil, leB_t, ltB_t, eqB_t, leB_f, ltB_f, eqB_f, Bool.and_eq_true, Bool.or_eq_true, Bool.not_eq_true', Bool.and_eq_false_iff, Bool.or_eq_false_iff, Bool.not_eq_false', pScaled1, one2, bd, two, le, eq, v, lit, SV.dens, AV.agg.injEq, List.cons.injEq, X.den_max, X.den_min] at *)
  rw [← hpre.1, wrap64 (by omega) (by omega)]
  omega
end Be
end Go.Proofs.Ytocjbjnfpldgcaa

/- beat.Exact: truths that aren't of the clock. -/
namespace Go.Proofs.Ytocjbjnfpldgcaa
open Abs Sx
set_option maxRecDepth 100000
namespace Be
def kSh : Sh := .agg ([i64, i64, .row cmR, i64, i64, i64, i64] ++ List.replicate 28 i64)
/-- Calls that don't come. -/
def pRate0 : Pr := ⟨47, [kSh], [lit 0], fun _ => .leaf (.agg [.int .i64 (lit 0), .int .i64 (lit 0)])⟩
def pUnit0 : Pr := ⟨48, [kSh], [lit 0], fun _ => .leaf (.int .i64 (lit 1))⟩
theorem empty_ok {P : Program} {fn : Nat → List Int → Int} {p : Pr} (h : p.pre = [lit 0]) : p.Ok P fn := by
  intro a H nx v hs
  obtain ⟨xs, ns, es, w, _, hpre, _⟩ := hs
  rw [h] at hpre
  exact absurd hpre.1 (by simp [lit])
theorem out_false (rods : List Rod) (grow : List Int) (i : Int) (h1 : fnB rods grow 1 [i] ≤ fnB rods grow 4 [i]) (h2 : fnB rods grow 4 [i] ≤ fnB rods grow 2 [i]) : outP rods grow i.toNat = false := by
  have f4 : fnB rods grow 4 [i] = grow.getD i.toNat 0 := rfl
  have f1 : fnB rods grow 1 [i] = (rods.getD i.toNat d0).2.1 := rfl
  have f2 : fnB rods grow 2 [i] = (rods.getD i.toNat d0).2.2.1 := rfl
  simp only [outP, Bool.or_eq_false_iff, decide_eq_false_iff_not]; omega
theorem first_more (p : Nat → Bool) {k : Nat} (h : firstN p k = -1) (h2 : p k = false) : firstN p (k + 1) = -1 := by rw [first_next p h, h2]; rfl
theorem not_of {rods : List Rod} {grow xs : List Int} (h : X.denB (valX (fnB rods grow) xs) (.not ofX) = true) : ¬ OfP (valX (fnB rods grow) xs) := by
  intro hg
  rw [X.denB_not] at h
  have : X.denB (valX (fnB rods grow) xs) ofX = true := by
    show i2b (b2i (decide (OfL rods grow [xs.getD 2 0, xs.getD 4 0, xs.getD 5 0, xs.getD 6 0, xs.getD 7 0, xs.getD 8 0, xs.getD 10 0, xs.getD 11 0, xs.getD 12 0, xs.getD 13 0, xs.getD 14 0, xs.getD 15 0]))) = true
    rw [i2b_b2i]; exact decide_eq_true ((of_at rods grow xs).1 hg)
  rw [this] at h; cases h
def pExN (n : Nat) : Pr := ⟨14, [clkSh, truSh], [eq (v 2) (lit n), eq (v 8) (lit n), eq errX (lit 0), .not ofX], fun _ => no0⟩
end Be
end Go.Proofs.Ytocjbjnfpldgcaa
