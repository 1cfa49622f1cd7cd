/- The error of a clock, by the reference. -/
import Derived.Test.YtocjbjnfpldgcaaB1
set_option linter.unusedSimpArgs false
set_option linter.unusedVariables false
namespace Go.Proofs.Ytocjbjnfpldgcaa
open Abs Sx
set_option maxRecDepth 100000
namespace Be
def pIn : Pr := ⟨49, [spanSh, i64, i64], [], fun _ => .leaf (.bool (an (le (v 2) (v 0)) (an (le (v 0) (v 1)) (le (v 1) (v 3)))))⟩
theorem pIn_ok (fn : Nat → List Int → Int) : pIn.Ok Try.prog fn := by
  refine un0 (l := []) (R := R0) (fuel := 60) (fun _ => (.ask (.bin .le (.var 2) (.var 0)) (.ask (.bin .le (.var 0) (.var 1)) (.leaf (.bool (.bin .le (.var 1) (.var 3)))) (.leaf (.bool (.lit 0)))) (.leaf (.bool (.lit 0))))) prog_ok trivial rfl (R0_ok fn) rfl rfl ?h ?_
  case h => kernel_rfl
  intro xs es hlen hpre hrw
  simp only [OT.vc, OT.is, pIn, an, le, inB, v, SV.den, AV.bool.injEq]
  clear hlen hpre hrw
  (repeat' (first | apply And.intro | intro _))
  all_goals (refine bool_iff ?_; ( simp only [X.dB_lt, X.dB_le, X.dB_eq, X.denB_and, X.denB_or, X.denB_not, X.denB_lit0, X.denB_lit1, X.den_lit, X.den_var, X.den_add, X.den_sub, X.den_mul, X.den_app, X.sem_cons, X.sem_nil, leB_t, ltB_t, eqB_t, leB_f, ltB_f, eqB_f, Bool.and_eq_true, Bool.or_eq_true, Bool.not_eq_true', Bool.and_eq_false_iff, Bool.or_eq_false_iff, Bool.not_eq_false', Bool.false_eq_true, false_iff, iff_false, true_iff, iff_true, not_false_eq_true, not_true_eq_false] at *); omega)
/-- Whether the rods go on to be valid. -/
theorem rod_step (rods : List Rod) (grow : List Int) {i n : Int} (h0 : 0 ≤ i) (h1 : i < n) (h2 : n ≤ 12) (h : badN rods i.toNat = -1) :
    (1 ≤ fnB rods grow 0 [i] ∧ fnB rods grow 0 [i] ≤ 100000 ∧ 0 ≤ fnB rods grow 1 [i] ∧ fnB rods grow 1 [i] ≤ fnB rods grow 2 [i] ∧ fnB rods grow 2 [i] ≤ 40000 → badN rods (i + 1).toNat = -1) ∧
    (¬ (1 ≤ fnB rods grow 0 [i] ∧ fnB rods grow 0 [i] ≤ 100000 ∧ 0 ≤ fnB rods grow 1 [i] ∧ fnB rods grow 1 [i] ≤ fnB rods grow 2 [i] ∧ fnB rods grow 2 [i] ≤ 40000) → i = fnB rods grow 12 [n]) := by
  have f0 : fnB rods grow 0 [i] = (rods.getD i.toNat d0).1 := rfl
  have f1 : fnB rods grow 1 [i] = (rods.getD i.toNat d0).2.1 := rfl
  have f2 : fnB rods grow 2 [i] = (rods.getD i.toNat d0).2.2.1 := rfl
  rw [f0, f1, f2]
  refine ⟨fun hok => ?_, fun hno => badN_here rods grow h0 h1 h2 h (Bool.eq_false_iff.2 fun e => hno (ok_parts e))⟩
  have : okRod (rods.getD i.toNat d0) = true := by simp only [okRod, Bool.and_eq_true, decide_eq_true_eq]; exact hok
  rw [show (i + 1).toNat = i.toNat + 1 by omega, badN_next rods h, this]; rfl
def rCheck : Pr := ⟨15, [clkSh], [le (v 2) (lit 12)], fun _ => chkT (E 5) (E 2) (E 0)⟩
def tRCheck (es : List Bool) : List Tpl := [⟨[8], [(1, .ptr 1 0), (2, .int .i64 (lit 0)), (3, .int .i64 (v 8))], [(0, .row false (v 2) .nil cmR), (1, boxC es)], [], 2, [le (lit 0) (v 8), le (v 8) (v 2)]⟩]
theorem rCheck_ok (rods : List Rod) (grow : List Int) : rCheck.Ok Try.prog (fnB rods grow) := by
  refine lp1 (l := [pIn, rLen]) (R := R2) (tps := tRCheck) (f := Try.f15) (fuel := 400) (Inv := fun xs _ ρ => xs.getD 2 0 ≤ 8 ∧ badN rods (ρ.v 8).toNat = -1) (mu := fun xs _ ρ => (12 - ρ.v 8).toNat) (fun _ => (.ask (.bin .lt (.lit 8) (.var 2)) (.leaf (.int .i64 (.lit 5))) (.loop 0 [(8, (.lit 0))] (.ask (.bin .lt (.var 8) (.var 2)) (.ask (.bin .lt (.app 0 (.cons (.var 8) .nil)) (.lit 1)) (.leaf (.int .i64 (.lit 2))) (.ask (.bin .lt (.lit 100000) (.app 0 (.cons (.var 8) .nil))) (.leaf (.int .i64 (.lit 2))) (.ask (.not (.bin .and (.bin .le (.lit 0) (.app 1 (.cons (.var 8) .nil))) (.bin .and (.bin .le (.app 1 (.cons (.var 8) .nil)) (.app 2 (.cons (.var 8) .nil))) (.bin .le (.app 2 (.cons (.var 8) .nil)) (.lit 40000))))) (.leaf (.int .i64 (.lit 2))) (.need [(.bin .le (.bin .add (.var 8) (.lit 1)) (.lit 12)), (.bin .le (.bin .add (.var 8) (.lit 1)) (.var 2))] (.back 0 [(8, (.bin .add (.var 8) (.lit 1)))]))))) (.ask (.bin .eq (.var 2) (.lit 0)) (.leaf (.int .i64 (.lit 2))) (.ask (.bin .lt (.var 1) (.lit (-1000000))) (.leaf (.int .i64 (.lit 2))) (.ask (.bin .lt (.lit 1000000) (.var 1)) (.leaf (.int .i64 (.lit 2))) (.ask (.not (.bin .and (.bin .le (.lit (-100)) (.var 4)) (.bin .and (.bin .le (.var 4) (.var 5)) (.bin .le (.var 5) (.lit 100))))) (.leaf (.int .i64 (.lit 2))) (.ask (.not (.bin .and (.bin .le (.lit (-1000)) (.var 6)) (.bin .and (.bin .le (.var 6) (.var 7)) (.bin .le (.var 7) (.lit 1000))))) (.leaf (.int .i64 (.lit 2))) (.need [(.bin .lt (.app 12 (.cons (.var 2) .nil)) (.lit 0))] (.ask (.bin .lt (.app 10 (.cons (.var 2) .nil)) (.lit 100)) (.leaf (.int .i64 (.lit 2))) (.ask (.bin .lt (.lit 100000) (.app 10 (.cons (.var 2) .nil))) (.leaf (.int .i64 (.lit 2))) (.ask (.bin .lt (.var 0) (.lit 1)) (.leaf (.int .i64 (.lit 2))) (.ask (.bin .lt (.lit 3) (.var 0)) (.leaf (.int .i64 (.lit 2))) (.ask (.bin .eq (.var 0) (.lit 2)) (.ask (.bin .lt (.var 6) (.lit 0)) (.leaf (.int .i64 (.lit 2))) (.leaf (.int .i64 (.lit 0)))) (.ask (.bin .eq (.var 0) (.lit 3)) (.ask (.not (.bin .and (.bin .eq (.var 6) (.lit 0)) (.bin .eq (.var 7) (.lit 0)))) (.leaf (.int .i64 (.lit 2))) (.leaf (.int .i64 (.lit 0)))) (.leaf (.int .i64 (.lit 0)))))))))))))))))))
    prog_ok Try.func15 rfl ⟨pIn_ok _, rLen_ok _ _, trivial⟩ rfl (R2_ok _) rfl ?h ?h' ?_
  case h => kernel_rfl
  case h' => kernel_rfl
  intro xs es hlen hpre hrw
  ( simp only [OT.vc, LT.vc, OT.is, AllB, RgB, inR, nthR, idsF, fsOf, List.drop, List.flatMap_cons, List.flatMap_nil, List.append_nil, List.getElem?_cons_zero, List.getElem?_cons_succ, rwFs, rwF, List.nil_append, List.cons_append, mix_v, mix_fn, upd_fn, upd_nil, upd_cons, X.one, X.isL, cond_false, valX_fn, valX_v, setM_v, List.mem_cons, List.not_mem_nil, or_false, false_or, or_true, true_or, if_true, if_false, ite_true, ite_false, Nat.reduceEqDiff, SV.den, AV.int.injEq, AV.bool.injEq, true_and, and_true, X.dB_lt, X.dB_le, X.dB_eq, X.denB_and, X.denB_or, X.denB_not, X.denB_lit0, X.denB_lit1, X.den_lit, X.den_var, X.den_add, X.den_sub, X.den_mul, X.den_app, X.den_ite, X.den_wrap, X.dB_ite, cond_tf, X.denB_app, X.denB_var, X.sem_cons, X.sem_nil, leB_t, ltB_t, eqB_t, leB_f, ltB_f, eqB_f, Bool.and_eq_true, Bool.or_eq_true, Bool.not_eq_true', Bool.and_eq_false_iff, Bool.or_eq_false_iff, Bool.not_eq_false', rCheck, an, le, lt, inB, v, lit, ap, tRCheck, R2, cmR, clkSh, i64] at *)
  clear hlen
  refine ⟨fun h8 => is_chk (fun _ => is_E _ _) (fun h => by ( simp only [OT.vc, LT.vc, OT.is, AllB, RgB, inR, nthR, idsF, fsOf, List.drop, List.flatMap_cons, List.flatMap_nil, List.append_nil, List.getElem?_cons_zero, List.getElem?_cons_succ, rwFs, rwF, List.nil_append, List.cons_append, mix_v, mix_fn, upd_fn, upd_nil, upd_cons, X.one, X.isL, cond_false, valX_fn, valX_v, setM_v, List.mem_cons, List.not_mem_nil, or_false, false_or, or_true, true_or, if_true, if_false, ite_true, ite_false, Nat.reduceEqDiff, SV.den, AV.int.injEq, AV.bool.injEq, true_and, and_true, X.dB_lt, X.dB_le, X.dB_eq, X.denB_and, X.denB_or, X.denB_not, X.denB_lit0, X.denB_lit1, X.den_lit, X.den_var, X.den_add, X.den_sub, X.den_mul, X.den_app, X.den_ite, X.den_wrap, X.dB_ite, cond_tf, X.denB_app, X.denB_var, X.sem_cons, X.sem_nil, leB_t, ltB_t, eqB_t, leB_f, ltB_f, eqB_f, Bool.and_eq_true, Bool.or_eq_true, Bool.not_eq_true', Bool.and_eq_false_iff, Bool.or_eq_false_iff, Bool.not_eq_false'] at *); omega) (fun h => by ( simp only [OT.vc, LT.vc, OT.is, AllB, RgB, inR, nthR, idsF, fsOf, List.drop, List.flatMap_cons, List.flatMap_nil, List.append_nil, List.getElem?_cons_zero, List.getElem?_cons_succ, rwFs, rwF, List.nil_append, List.cons_append, mix_v, mix_fn, upd_fn, upd_nil, upd_cons, X.one, X.isL, cond_false, valX_fn, valX_v, setM_v, List.mem_cons, List.not_mem_nil, or_false, false_or, or_true, true_or, if_true, if_false, ite_true, ite_false, Nat.reduceEqDiff, SV.den, AV.int.injEq, AV.bool.injEq, true_and, and_true, X.dB_lt, X.dB_le, X.dB_eq, X.denB_and, X.denB_or, X.denB_not, X.denB_lit0, X.denB_lit1, X.den_lit, X.den_var, X.den_add, X.den_sub, X.den_mul, X.den_app, X.den_ite, X.den_wrap, X.dB_ite, cond_tf, X.denB_app, X.denB_var, X.sem_cons, X.sem_nil, leB_t, ltB_t, eqB_t, leB_f, ltB_f, eqB_f, Bool.and_eq_true, Bool.or_eq_true, Bool.not_eq_true', Bool.and_eq_false_iff, Bool.or_eq_false_iff, Bool.not_eq_false'] at *); omega), fun h8 => ⟨⟨h8, rfl⟩, fun w h0 h1 hb => ⟨fun h3 => ?_, fun h3 => ?_⟩⟩⟩
  · have hk := rod_step rods grow (i := w 8) (n := xs.getD 2 0) (by omega) h3 hpre hb.2
    have hno : ¬ (1 ≤ fnB rods grow 0 [w 8] ∧ fnB rods grow 0 [w 8] ≤ 100000 ∧ 0 ≤ fnB rods grow 1 [w 8] ∧ fnB rods grow 1 [w 8] ≤ fnB rods grow 2 [w 8] ∧ fnB rods grow 2 [w 8] ≤ 40000) → OT.is (valX (fnB rods grow) xs) (AV.int IntKind.i64 2) (chkT (E 5) (E 2) (E 0)) := fun hn =>
      is_chk (fun h => by ( simp only [OT.vc, LT.vc, OT.is, AllB, RgB, inR, nthR, idsF, fsOf, List.drop, List.flatMap_cons, List.flatMap_nil, List.append_nil, List.getElem?_cons_zero, List.getElem?_cons_succ, rwFs, rwF, List.nil_append, List.cons_append, mix_v, mix_fn, upd_fn, upd_nil, upd_cons, X.one, X.isL, cond_false, valX_fn, valX_v, setM_v, List.mem_cons, List.not_mem_nil, or_false, false_or, or_true, true_or, if_true, if_false, ite_true, ite_false, Nat.reduceEqDiff, SV.den, AV.int.injEq, AV.bool.injEq, true_and, and_true, X.dB_lt, X.dB_le, X.dB_eq, X.denB_and, X.denB_or, X.denB_not, X.denB_lit0, X.denB_lit1, X.den_lit, X.den_var, X.den_add, X.den_sub, X.den_mul, X.den_app, X.den_ite, X.den_wrap, X.dB_ite, cond_tf, X.denB_app, X.denB_var, X.sem_cons, X.sem_nil, leB_t, ltB_t, eqB_t, leB_f, ltB_f, eqB_f, Bool.and_eq_true, Bool.or_eq_true, Bool.not_eq_true', Bool.and_eq_false_iff, Bool.or_eq_false_iff, Bool.not_eq_false'] at *); omega) (fun _ _ => is_E _ _) (fun _ hg => by
        have := hk.2 hn
        ( simp only [OT.vc, LT.vc, OT.is, AllB, RgB, inR, nthR, idsF, fsOf, List.drop, List.flatMap_cons, List.flatMap_nil, List.append_nil, List.getElem?_cons_zero, List.getElem?_cons_succ, rwFs, rwF, List.nil_append, List.cons_append, mix_v, mix_fn, upd_fn, upd_nil, upd_cons, X.one, X.isL, cond_false, valX_fn, valX_v, setM_v, List.mem_cons, List.not_mem_nil, or_false, false_or, or_true, true_or, if_true, if_false, ite_true, ite_false, Nat.reduceEqDiff, SV.den, AV.int.injEq, AV.bool.injEq, true_and, and_true, X.dB_lt, X.dB_le, X.dB_eq, X.denB_and, X.denB_or, X.denB_not, X.denB_lit0, X.denB_lit1, X.den_lit, X.den_var, X.den_add, X.den_sub, X.den_mul, X.den_app, X.den_ite, X.den_wrap, X.dB_ite, cond_tf, X.denB_app, X.denB_var, X.sem_cons, X.sem_nil, leB_t, ltB_t, eqB_t, leB_f, ltB_f, eqB_f, Bool.and_eq_true, Bool.or_eq_true, Bool.not_eq_true', Bool.and_eq_false_iff, Bool.or_eq_false_iff, Bool.not_eq_false', good_iff] at *); omega)
    refine ⟨fun h4 => hno (by omega), fun h4 => ⟨fun h5 => hno (by omega), fun h5 => ⟨fun h6 => hno (by omega), fun h6 => ⟨by omega, ⟨h8, hk.1 (by omega)⟩, by omega⟩⟩⟩⟩
  · have : w 8 = xs.getD 2 0 := by omega
    have hf : fnB rods grow 12 [xs.getD 2 0] = -1 := by rw [f12_at rods grow hpre, ← this]; exact hb.2
    clear hb h3 h1 h0 hrw
    (repeat' (first | apply And.intro | intro _))
    all_goals first | omega | (
      refine is_chk (fun h5 => ?_) (fun h5 h2 => ?_) (fun h5 hk => ?_)
      · first | exact is_E _ _ | (exfalso; ( simp only [OT.vc, LT.vc, OT.is, AllB, RgB, inR, nthR, idsF, fsOf, List.drop, List.flatMap_cons, List.flatMap_nil, List.append_nil, List.getElem?_cons_zero, List.getElem?_cons_succ, rwFs, rwF, List.nil_append, List.cons_append, mix_v, mix_fn, upd_fn, upd_nil, upd_cons, X.one, X.isL, cond_false, valX_fn, valX_v, setM_v, List.mem_cons, List.not_mem_nil, or_false, false_or, or_true, true_or, if_true, if_false, ite_true, ite_false, Nat.reduceEqDiff, SV.den, AV.int.injEq, AV.bool.injEq, true_and, and_true, X.dB_lt, X.dB_le, X.dB_eq, X.denB_and, X.denB_or, X.denB_not, X.denB_lit0, X.denB_lit1, X.den_lit, X.den_var, X.den_add, X.den_sub, X.den_mul, X.den_app, X.den_ite, X.den_wrap, X.dB_ite, cond_tf, X.denB_app, X.denB_var, X.sem_cons, X.sem_nil, leB_t, ltB_t, eqB_t, leB_f, ltB_f, eqB_f, Bool.and_eq_true, Bool.or_eq_true, Bool.not_eq_true', Bool.and_eq_false_iff, Bool.or_eq_false_iff, Bool.not_eq_false', good_iff] at *); omega)
      · first | exact is_E _ _ | (exfalso; ( simp only [OT.vc, LT.vc, OT.is, AllB, RgB, inR, nthR, idsF, fsOf, List.drop, List.flatMap_cons, List.flatMap_nil, List.append_nil, List.getElem?_cons_zero, List.getElem?_cons_succ, rwFs, rwF, List.nil_append, List.cons_append, mix_v, mix_fn, upd_fn, upd_nil, upd_cons, X.one, X.isL, cond_false, valX_fn, valX_v, setM_v, List.mem_cons, List.not_mem_nil, or_false, false_or, or_true, true_or, if_true, if_false, ite_true, ite_false, Nat.reduceEqDiff, SV.den, AV.int.injEq, AV.bool.injEq, true_and, and_true, X.dB_lt, X.dB_le, X.dB_eq, X.denB_and, X.denB_or, X.denB_not, X.denB_lit0, X.denB_lit1, X.den_lit, X.den_var, X.den_add, X.den_sub, X.den_mul, X.den_app, X.den_ite, X.den_wrap, X.dB_ite, cond_tf, X.denB_app, X.denB_var, X.sem_cons, X.sem_nil, leB_t, ltB_t, eqB_t, leB_f, ltB_f, eqB_f, Bool.and_eq_true, Bool.or_eq_true, Bool.not_eq_true', Bool.and_eq_false_iff, Bool.or_eq_false_iff, Bool.not_eq_false', good_iff] at *); omega)
      · first | exact is_E _ _ | (exfalso; ( simp only [OT.vc, LT.vc, OT.is, AllB, RgB, inR, nthR, idsF, fsOf, List.drop, List.flatMap_cons, List.flatMap_nil, List.append_nil, List.getElem?_cons_zero, List.getElem?_cons_succ, rwFs, rwF, List.nil_append, List.cons_append, mix_v, mix_fn, upd_fn, upd_nil, upd_cons, X.one, X.isL, cond_false, valX_fn, valX_v, setM_v, List.mem_cons, List.not_mem_nil, or_false, false_or, or_true, true_or, if_true, if_false, ite_true, ite_false, Nat.reduceEqDiff, SV.den, AV.int.injEq, AV.bool.injEq, true_and, and_true, X.dB_lt, X.dB_le, X.dB_eq, X.denB_and, X.denB_or, X.denB_not, X.denB_lit0, X.denB_lit1, X.den_lit, X.den_var, X.den_add, X.den_sub, X.den_mul, X.den_app, X.den_ite, X.den_wrap, X.dB_ite, cond_tf, X.denB_app, X.denB_var, X.sem_cons, X.sem_nil, leB_t, ltB_t, eqB_t, leB_f, ltB_f, eqB_f, Bool.and_eq_true, Bool.or_eq_true, Bool.not_eq_true', Bool.and_eq_false_iff, Bool.or_eq_false_iff, Bool.not_eq_false', good_iff] at *); omega))
end Be
end Go.Proofs.Ytocjbjnfpldgcaa

/- Clocks that are the same; lowest terms; sums; truths of a clock: loops with forms. -/
namespace Go.Proofs.Ytocjbjnfpldgcaa
open Abs Sx
set_option maxRecDepth 100000
namespace Be
def eq (a b : X) : X := .bin .eq a b
def ap2 (f : Nat) (x y : X) : X := .app f (.cons x (.cons y .nil))
def cmG : List Cmp := [.int .i64 4]
def truSh : Sh := .agg [.row cmG, i64, i64, i64, i64, i64, i64]
def boxO (es : List Bool) : SO := .cells true [.int .i64 (v 0), .int .i64 (v 1), .slice 0 0 (lit 0) (v 2) (v 3) 4 (hdB es), .int .i64 (v 4), .int .i64 (v 5), .int .i64 (v 6), .int .i64 (v 7)]
def boxS (es : List Bool) : SO := .cells true [.int .i64 (v 8), .int .i64 (v 9), .slice 1 0 (lit 0) (v 10) (v 11) 4 (hdB es.tail), .int .i64 (v 12), .int .i64 (v 13), .int .i64 (v 14), .int .i64 (v 15)]
def boxT (es : List Bool) : SO := .cells true [.slice 1 0 (lit 0) (v 8) (v 9) 1 (hdB es.tail), .int .i64 (v 10), .int .i64 (v 11), .int .i64 (v 12), .int .i64 (v 13), .int .i64 (v 14), .int .i64 (v 15)]
def Rn (n : Nat) : Rgs := ⟨List.replicate n none ++ [some (0, 12)], []⟩
theorem Rn_ok (n : Nat) (fn : Nat → List Int → Int) : ∀ i l, inR (fn i l) (nthR (Rn n).fr i) := fun i l => by cases i <;> trivial
def pSame : Pr := ⟨16, [clkSh, clkSh], [le (v 2) (lit 12), eq (v 0) (v 8), eq (v 1) (v 9), eq (v 2) (v 10), eq (v 4) (v 12), eq (v 5) (v 13), eq (v 6) (v 14), eq (v 7) (v 15)], fun _ => .leaf (.bool (lit 1))⟩
def tSame (es : List Bool) : List Tpl := [⟨[16], [(2, .ptr 2 0), (3, .ptr 3 0), (4, .bool (lit 0)), (5, .int .i64 (v 16))], [(0, .row false (v 2) .nil cmR), (1, .row false (v 10) .nil cmR), (2, boxC es), (3, boxS es)], [], 4, [le (lit 0) (v 16), le (v 16) (v 2)]⟩]
theorem pSame_ok (fn : Nat → List Int → Int) : pSame.Ok Try.prog fn := by
  refine lp2 (l := []) (R := Rn 16) (tps := tSame) (f := Try.f16) (fuel := 400) (Inv := fun xs _ ρ => True) (mu := fun xs _ ρ => (12 - ρ.v 16).toNat) (fun _ => (.loop 0 [(16, (.lit 0))] (.ask (.bin .lt (.var 16) (.var 2)) (.need [(.bin .lt (.var 16) (.var 10))] (.need [(.bin .le (.bin .add (.var 16) (.lit 1)) (.lit 12)), (.bin .le (.bin .add (.var 16) (.lit 1)) (.var 2))] (.back 0 [(16, (.bin .add (.var 16) (.lit 1)))]))) (.leaf (.bool (.lit 1))))))
    prog_ok Try.func16 rfl trivial rfl (Rn_ok _ _) rfl ?h1 ?h2 ?h3 ?h4 ?_
  case h1 => kernel_rfl
  case h2 => kernel_rfl
  case h3 => kernel_rfl
  case h4 => kernel_rfl
  intro xs es hlen hpre hrw
  ( simp only [OT.vc, LT.vc, OT.is, AllB, RgB, inR, nthR, idsF, fsOf, List.drop, List.flatMap_cons, List.flatMap_nil, List.append_nil, List.getElem?_cons_zero, List.getElem?_cons_succ, rwFs, rwF, List.nil_append, List.cons_append, mix_v, mix_fn, upd_fn, upd_nil, upd_cons, X.one, X.isL, cond_false, valX_fn, valX_v, setM_v, List.mem_cons, List.not_mem_nil, or_false, false_or, or_true, true_or, if_true, if_false, ite_true, ite_false, Nat.reduceEqDiff, SV.den, AV.int.injEq, AV.bool.injEq, true_and, and_true, X.dB_lt, X.dB_le, X.dB_eq, X.denB_and, X.denB_or, X.denB_not, X.denB_lit0, X.denB_lit1, X.den_lit, X.den_var, X.den_add, X.den_sub, X.den_mul, X.den_app, X.den_ite, X.den_wrap, X.dB_ite, cond_tf, X.denB_app, X.denB_var, X.sem_cons, X.sem_nil, leB_t, ltB_t, eqB_t, leB_f, ltB_f, eqB_f, Bool.and_eq_true, Bool.or_eq_true, Bool.not_eq_true', Bool.and_eq_false_iff, Bool.or_eq_false_iff, Bool.not_eq_false', pSame, an, le, lt, inB, v, lit, ap, eq, tSame, cmR, clkSh, i64] at *)
  simp only [Rn, nthR, inR, List.replicate, List.cons_append, List.nil_append] at *
  refine fun w h0 h1 _ => ⟨fun h3 => ?_, fun h3 => trivial⟩
  omega
def R3 : Rgs := ⟨[none, none, some (0, 4611686018427387904), some (0, 4611686018427387904)], []⟩
theorem R3_ok (fn : Nat → List Int → Int) : ∀ i l, inR (fn i l) (nthR R3.fr i) := fun i l => by cases i <;> trivial
def bg : Int := 4611686018427387904
def tLow (es : List Bool) : List Tpl := [⟨[2, 3], [(0, .int .i64 (v 0)), (1, .int .i64 (v 1)), (4, .ptr 0 0), (5, .int .i64 (v 2)), (6, .int .i64 (v 3))], [(0, .cells true [.int .i64 (lit 0), .int .i64 (lit 0)])], [], 1, [le (lit 1) (.bin .add (v 2) (v 3))]⟩]
def lowSh : List Sh := [i64, i64]
def lowPre : List X := [le (lit 1) (v 1), le (v 1) (lit bg), le (lit (-bg)) (v 0), le (v 0) (lit bg)]
def lowOut : OT SV := .leaf (.agg [.int .i64 (ap2 20 (v 0) (v 1)), .int .i64 (ap2 21 (v 0) (v 1))])
def rLow : Pr := ⟨19, lowSh, lowPre, fun _ => lowOut⟩
def pLowest : Pr := ⟨45, lowSh, lowPre, fun _ => lowOut⟩
theorem gcd_step {a b : Int} (h0 : 0 ≤ a) (h1 : 0 < b) : Int.gcd b (a.tmod b) = Int.gcd a b ∧ 0 ≤ a.tmod b ∧ a.tmod b < b := by
  refine ⟨?_, Int.tmod_nonneg _ h0, Int.tmod_lt_of_pos _ h1⟩
  obtain ⟨m, rfl⟩ := Int.eq_ofNat_of_zero_le h0
  obtain ⟨n, rfl⟩ := Int.eq_ofNat_of_zero_le (Int.le_of_lt h1)
  rw [← Int.ofNat_tmod]
  simp only [Int.gcd, Int.natAbs_natCast]
  rw [Nat.gcd_comm, ← Nat.gcd_rec, Nat.gcd_comm]
theorem gcd_max (a b : Int) : Int.gcd (max a (0 - a)) b = Int.gcd a b := by
  simp only [Int.gcd]; congr 1; omega
theorem low_end (rods : List Rod) (grow : List Int) {x0 x1 a : Int} (h1 : 1 ≤ x1) (h2 : -bg ≤ x0) (h3 : x0 ≤ bg) (h0 : 0 ≤ a) (hg : Int.gcd a 0 = Int.gcd x0 x1) :
    a ≠ 0 ∧ IntKind.i64.wrap (x0.tdiv a) = fnB rods grow 20 [x0, x1] ∧ x1.tdiv a = fnB rods grow 21 [x0, x1] := by
  have e : a = (Int.gcd x0 x1 : Int) := by rw [← hg, Int.gcd_zero_right]; omega
  have hne : Int.gcd x0 x1 ≠ 0 := fun h => by have := (Int.gcd_eq_zero_iff.1 h).2; omega
  refine ⟨by omega, ?_, by rw [e]; rfl⟩
  have : x0.tdiv a = fnB rods grow 20 [x0, x1] := by rw [e]; rfl
  rw [← this]
  have hb := Int.natAbs_tdiv_le_natAbs x0 a
  unfold bg at h2 h3
  exact wrap64 (by omega) (by omega)
theorem rLow_ok (rods : List Rod) (grow : List Int) : rLow.Ok Try.prog (fnB rods grow) := by
  refine lp0 (l := []) (R := R3) (tps := tLow) (f := Try.f19) (fuel := 400) (Inv := fun xs _ ρ => Int.gcd (ρ.v 2) (ρ.v 3) = Int.gcd (xs.getD 0 0) (xs.getD 1 0)) (mu := fun xs _ ρ => (ρ.v 3).toNat) (fun _ => (.need [(.bin .le (.lit 0) (.bin .max (.var 0) (.bin .sub (.lit 0) (.var 0)))), (.bin .le (.lit 1) (.bin .add (.bin .max (.var 0) (.bin .sub (.lit 0) (.var 0))) (.var 1)))] (.loop 0 [(2, (.bin .max (.var 0) (.bin .sub (.lit 0) (.var 0)))), (3, (.var 1))] (.ask (.bin .lt (.lit 0) (.var 3)) (.back 0 [(2, (.var 3)), (3, (.bin .rem (.var 2) (.var 3)))]) (.need [(.not (.bin .eq (.var 2) (.lit 0)))] (.leaf (.agg [(.int .i64 (.wrap .i64 (.bin .quo (.var 0) (.var 2)))), (.int .i64 (.bin .quo (.var 1) (.var 2)))])))))))
    prog_ok Try.func19 rfl trivial rfl (R3_ok _) rfl ?h ?_
  case h => kernel_rfl
  intro xs es hlen hpre hrw
  ( simp only [OT.vc, LT.vc, OT.is, AllB, RgB, inR, nthR, idsF, fsOf, List.drop, List.flatMap_cons, List.flatMap_nil, List.append_nil, List.getElem?_cons_zero, List.getElem?_cons_succ, rwFs, rwF, List.nil_append, List.cons_append, mix_v, mix_fn, upd_fn, upd_nil, upd_cons, X.one, X.isL, cond_false, valX_fn, valX_v, setM_v, List.mem_cons, List.not_mem_nil, or_false, false_or, or_true, true_or, if_true, if_false, ite_true, ite_false, Nat.reduceEqDiff, SV.den, AV.int.injEq, AV.bool.injEq, true_and, and_true, X.dB_lt, X.dB_le, X.dB_eq, X.denB_and, X.denB_or, X.denB_not, X.denB_lit0, X.denB_lit1, X.den_lit, X.den_var, X.den_add, X.den_sub, X.den_mul, X.den_app, X.den_ite, X.den_wrap, X.dB_ite, cond_tf, X.denB_app, X.denB_var, X.sem_cons, X.sem_nil, leB_t, ltB_t, eqB_t, leB_f, ltB_f, eqB_f, Bool.and_eq_true, Bool.or_eq_true, Bool.not_eq_true', Bool.and_eq_false_iff, Bool.or_eq_false_iff, Bool.not_eq_false', rLow, lowSh, lowPre, lowOut, an, le, lt, inB, v, lit, ap2, eq, tLow, R3, i64, X.den_max, X.den_quo, X.den_rem, SV.dens, AV.agg.injEq, List.cons.injEq] at *)
  refine ⟨⟨by omega, by omega⟩, gcd_max _ _, fun w h0 h1 hg => ⟨fun h3 => ?_, fun h3 => ?_⟩⟩
  · have := gcd_step h0.1.1 h3
    exact ⟨this.1.trans hg, by omega⟩
  · have e0 : w 3 = 0 := by omega
    rw [e0] at hg
    exact low_end rods grow hpre.1 hpre.2.2.1 hpre.2.2.2 h0.1.1 hg
theorem pLowest_ok (rods : List Rod) (grow : List Int) : pLowest.Ok Try.prog (fnB rods grow) := by
  refine lp0 (l := []) (R := R3) (tps := tLow) (f := Try.f45) (fuel := 400) (Inv := fun xs _ ρ => Int.gcd (ρ.v 2) (ρ.v 3) = Int.gcd (xs.getD 0 0) (xs.getD 1 0)) (mu := fun xs _ ρ => (ρ.v 3).toNat) (fun _ => (.need [(.bin .le (.lit 0) (.bin .max (.var 0) (.bin .sub (.lit 0) (.var 0)))), (.bin .le (.lit 1) (.bin .add (.var 1) (.bin .max (.var 0) (.bin .sub (.lit 0) (.var 0)))))] (.loop 0 [(2, (.var 1)), (3, (.bin .max (.var 0) (.bin .sub (.lit 0) (.var 0))))] (.ask (.not (.bin .eq (.var 3) (.lit 0))) (.back 0 [(2, (.var 3)), (3, (.bin .rem (.var 2) (.var 3)))]) (.need [(.not (.bin .eq (.var 2) (.lit 0)))] (.leaf (.agg [(.int .i64 (.wrap .i64 (.bin .quo (.var 0) (.var 2)))), (.int .i64 (.bin .quo (.var 1) (.var 2)))])))))))
    prog_ok Try.func45 rfl trivial rfl (R3_ok _) rfl ?h ?_
  case h => kernel_rfl
  intro xs es hlen hpre hrw
  ( simp only [OT.vc, LT.vc, OT.is, AllB, RgB, inR, nthR, idsF, fsOf, List.drop, List.flatMap_cons, List.flatMap_nil, List.append_nil, List.getElem?_cons_zero, List.getElem?_cons_succ, rwFs, rwF, List.nil_append, List.cons_append, mix_v, mix_fn, upd_fn, upd_nil, upd_cons, X.one, X.isL, cond_false, valX_fn, valX_v, setM_v, List.mem_cons, List.not_mem_nil, or_false, false_or, or_true, true_or, if_true, if_false, ite_true, ite_false, Nat.reduceEqDiff, SV.den, AV.int.injEq, AV.bool.injEq, true_and, and_true, X.dB_lt, X.dB_le, X.dB_eq, X.denB_and, X.denB_or, X.denB_not, X.denB_lit0, X.denB_lit1, X.den_lit, X.den_var, X.den_add, X.den_sub, X.den_mul, X.den_app, X.den_ite, X.den_wrap, X.dB_ite, cond_tf, X.denB_app, X.denB_var, X.sem_cons, X.sem_nil, leB_t, ltB_t, eqB_t, leB_f, ltB_f, eqB_f, Bool.and_eq_true, Bool.or_eq_true, Bool.not_eq_true', Bool.and_eq_false_iff, Bool.or_eq_false_iff, Bool.not_eq_false', pLowest, lowSh, lowPre, lowOut, an, le, lt, inB, v, lit, ap2, eq, tLow, R3, i64, X.den_max, X.den_quo, X.den_rem, SV.dens, AV.agg.injEq, List.cons.injEq] at *)
  refine ⟨⟨by omega, by omega⟩, by rw [Int.gcd_comm, gcd_max], fun w h0 h1 hg => ⟨fun h3 => ?_, fun h3 => ?_⟩⟩
  · have := gcd_step (a := w 2) (b := w 3) h0.1.1 (by omega)
    exact ⟨this.1.trans hg, by omega⟩
  · have e0 : w 3 = 0 := by omega
    rw [e0] at hg
    exact low_end rods grow hpre.1 hpre.2.2.1 hpre.2.2.2 h0.1.1 hg
end Be
end Go.Proofs.Ytocjbjnfpldgcaa

/- Sums; truths of a clock, by the reference. -/
namespace Go.Proofs.Ytocjbjnfpldgcaa
open Abs Sx
set_option maxRecDepth 100000
namespace Be
theorem first_stop (p : Nat → Bool) {k : Nat} (h : 0 ≤ firstN p k) : ∀ {m : Nat}, k ≤ m → firstN p m = firstN p k := by
  intro m hm
  induction hm with
  | refl => rfl
  | step _ ih => simp only [firstN, ih, h, if_true]
theorem first_next (p : Nat → Bool) {k : Nat} (h : firstN p k = -1) : firstN p (k + 1) = cond (p k) (k : Int) (-1) := by
  simp only [firstN, h]; rfl
theorem first_neg (p : Nat → Bool) : ∀ {n : Nat}, firstN p n < 0 → firstN p n = -1 ∧ ∀ i < n, p i = false
  | 0, _ => ⟨rfl, fun i h => absurd h (Nat.not_lt_zero i)⟩
  | n + 1, h => by
    by_cases h0 : 0 ≤ firstN p n
    · simp only [firstN, h0, if_true] at h; omega
    · have ih := first_neg p (n := n) (by omega)
      have e := first_next p ih.1
      rw [e] at h ⊢
      cases hk : p n with
      | true => rw [hk, cond_true] at h; omega
      | false =>
        refine ⟨rfl, fun i hi => ?_⟩
        rcases Nat.lt_succ_iff_lt_or_eq.1 hi with hi | rfl
        · exact ih.2 i hi
        · exact hk
theorem f14_at (rods : List Rod) (grow : List Int) {n : Int} (h : n ≤ 12) : fnB rods grow 14 [n] = firstN (outP rods grow) n.toNat := by
  show firstN _ (min n.toNat 12) = _
  rw [show min n.toNat 12 = n.toNat by omega]
theorem f15_at (rods : List Rod) (grow : List Int) {n : Int} (h : n ≤ 12) : fnB rods grow 15 [n] = growN rods grow n.toNat := by
  show growN _ _ (min n.toNat 12) = _
  rw [show min n.toNat 12 = n.toNat by omega]
/-- Whether a truth goes on to be one of the clock. -/
theorem out_step (rods : List Rod) (grow : List Int) {i n : Int} (h0 : 0 ≤ i) (h1 : i < n) (h2 : n ≤ 12) (h : firstN (outP rods grow) i.toNat = -1) :
    (fnB rods grow 1 [i] ≤ fnB rods grow 4 [i] ∧ fnB rods grow 4 [i] ≤ fnB rods grow 2 [i] → firstN (outP rods grow) (i + 1).toNat = -1) ∧
    (¬ (fnB rods grow 1 [i] ≤ fnB rods grow 4 [i] ∧ fnB rods grow 4 [i] ≤ fnB rods grow 2 [i]) → i = fnB rods grow 14 [n]) := by
  have f4 : fnB rods grow 4 [i] = grow.getD i.toNat 0 := rfl
  have f1 : fnB rods grow 1 [i] = (rods.getD i.toNat d0).2.1 := rfl
  have f2 : fnB rods grow 2 [i] = (rods.getD i.toNat d0).2.2.1 := rfl
  rw [f4, f1, f2]
  have e := first_next _ h
  refine ⟨fun hok => ?_, fun hno => ?_⟩
  · rw [show (i + 1).toNat = i.toNat + 1 by omega, e]
    have : outP rods grow i.toNat = false := by simp only [outP, Bool.or_eq_false_iff, decide_eq_false_iff_not]; omega
    rw [this]; rfl
  · have : outP rods grow i.toNat = true := by simp only [outP, Bool.or_eq_true, decide_eq_true_eq]; omega
    rw [this, cond_true] at e
    have e2 := first_stop (outP rods grow) (k := i.toNat + 1) (by rw [e]; omega) (m := min n.toNat 12) (by omega)
    show i = firstN (outP rods grow) (min n.toNat 12)
    rw [e2, e]; omega
theorem mul_bd {a b : Int} (h1 : -100000 ≤ a) (h2 : a ≤ 100000) (h3 : 0 ≤ b) (h4 : b ≤ 40000) : -4000000000 ≤ a * b ∧ a * b ≤ 4000000000 := by
  have e1 := Int.mul_le_mul_of_nonneg_right h2 h3
  have e2 := Int.mul_le_mul_of_nonneg_right h1 h3
  constructor <;> omega
theorem grow_bd (rods : List Rod) (grow : List Int) : ∀ {n : Nat}, (∀ i < n, okRod (rods.getD i d0) = true) → (∀ i < n, outP rods grow i = false) → -4000000000 * (n : Int) ≤ growN rods grow n ∧ growN rods grow n ≤ 4000000000 * (n : Int)
  | 0, _, _ => by simp [growN, sumN]
  | n + 1, h, k => by
    have ih := grow_bd rods grow (n := n) (fun i hi => h i (by omega)) (fun i hi => k i (by omega))
    have h1 := low_bd (h n (by omega))
    have h2 := ok_parts (h n (by omega))
    have h3 := k n (by omega)
    simp only [outP, Bool.or_eq_false_iff, decide_eq_false_iff_not] at h3
    have := mul_bd h1.1 h1.2 (b := grow.getD n 0) (by omega) (by omega)
    simp only [growN, sumN] at ih ⊢
    omega
theorem grow_step (rods : List Rod) (grow : List Int) {i n : Int} (h0 : 0 ≤ i) (h1 : i < n) (h2 : n ≤ 12) (hb : fnB rods grow 12 [n] < 0) (hc : fnB rods grow 14 [n] < 0) :
    fnB rods grow 15 [i + 1] = fnB rods grow 15 [i] + low (rods.getD i.toNat d0) * fnB rods grow 4 [i] ∧ -200000000000 ≤ fnB rods grow 15 [i + 1] ∧ fnB rods grow 15 [i + 1] ≤ 200000000000 ∧
    okRod (rods.getD i.toNat d0) = true ∧ fnB rods grow 1 [i] ≤ fnB rods grow 4 [i] ∧ fnB rods grow 4 [i] ≤ fnB rods grow 2 [i] := by
  rw [f12_at rods grow h2] at hb
  rw [f14_at rods grow h2] at hc
  have hv := (badN_neg rods hb).2
  have hw := (first_neg _ hc).2
  rw [f15_at rods grow (by omega : i + 1 ≤ 12), f15_at rods grow (by omega : i ≤ 12), show (i + 1).toNat = i.toNat + 1 by omega]
  have := grow_bd rods grow (n := i.toNat + 1) (fun j hj => hv j (by omega)) (fun j hj => hw j (by omega))
  have h3 := hw i.toNat (by omega)
  simp only [outP, Bool.or_eq_false_iff, decide_eq_false_iff_not] at h3
  exact ⟨rfl, by omega, by omega, hv _ (by omega), by show (rods.getD i.toNat d0).2.1 ≤ grow.getD i.toNat 0; omega, by show grow.getD i.toNat 0 ≤ (rods.getD i.toNat d0).2.2.1; omega⟩
def rSum : Pr := ⟨51, [clkSh, .row cmG], [le (v 2) (lit 12), le (v 2) (v 8), lt (ap 12 (v 2)) (lit 0), lt (ap 14 (v 2)) (lit 0)], fun _ => .leaf (.int .i64 (ap 15 (v 2)))⟩
def tSum (es : List Bool) : List Tpl := [⟨[10], [(1, .slice 1 0 (lit 0) (v 8) (v 9) 1 (hdB es.tail)), (2, .ptr 2 0), (4, .int .i64 (lit 0)), (5, .int .i64 (ap 15 (v 10))), (6, .int .i64 (v 10))], [(0, .row false (v 2) .nil cmR), (1, .row false (v 8) .nil cmG), (2, boxC es)], [], 3, [le (lit 0) (v 10), le (v 10) (v 2)]⟩]
theorem rSum_ok (rods : List Rod) (grow : List Int) : rSum.Ok Try.prog (fnB rods grow) := by
  refine lp2 (l := []) (R := Rn 10) (tps := tSum) (f := Try.f51) (fuel := 400) (Inv := fun xs _ ρ => True) (mu := fun xs _ ρ => (12 - ρ.v 10).toNat) (fun _ => (.need [(.bin .eq (.app 15 (.cons (.lit 0) .nil)) (.lit 0))] (.loop 0 [(10, (.lit 0))] (.ask (.bin .lt (.var 10) (.var 2)) (.ask (.app 3 (.cons (.var 10) .nil)) (.need [(.bin .lt (.var 10) (.var 8))] (.need [(.bin .eq (.app 15 (.cons (.bin .add (.var 10) (.lit 1)) .nil)) (.wrap .i64 (.bin .sub (.app 15 (.cons (.var 10) .nil)) (.wrap .i64 (.bin .mul (.app 0 (.cons (.var 10) .nil)) (.app 4 (.cons (.var 10) .nil))))))), (.bin .le (.bin .add (.var 10) (.lit 1)) (.lit 12)), (.bin .le (.bin .add (.var 10) (.lit 1)) (.var 2))] (.back 0 [(10, (.bin .add (.var 10) (.lit 1)))]))) (.need [(.bin .lt (.var 10) (.var 8))] (.need [(.bin .eq (.app 15 (.cons (.bin .add (.var 10) (.lit 1)) .nil)) (.wrap .i64 (.bin .add (.app 15 (.cons (.var 10) .nil)) (.wrap .i64 (.bin .mul (.app 0 (.cons (.var 10) .nil)) (.app 4 (.cons (.var 10) .nil))))))), (.bin .le (.bin .add (.var 10) (.lit 1)) (.lit 12)), (.bin .le (.bin .add (.var 10) (.lit 1)) (.var 2))] (.back 0 [(10, (.bin .add (.var 10) (.lit 1)))])))) (.leaf (.int .i64 (.app 15 (.cons (.var 10) .nil))))))))
    prog_ok Try.func51 rfl trivial rfl (Rn_ok _ _) rfl ?h1 ?h2 ?h3 ?h4 ?_
  case h1 => kernel_rfl
  case h2 => kernel_rfl
  case h3 => kernel_rfl
  case h4 => kernel_rfl
  intro xs es hlen hpre hrw
  ( simp only [OT.vc, LT.vc, OT.is, AllB, RgB, inR, nthR, idsF, fsOf, List.drop, List.flatMap_cons, List.flatMap_nil, List.append_nil, List.getElem?_cons_zero, List.getElem?_cons_succ, rwFs, rwF, List.nil_append, List.cons_append, mix_v, mix_fn, upd_fn, upd_nil, upd_cons, X.one, X.isL, cond_false, valX_fn, valX_v, setM_v, List.mem_cons, List.not_mem_nil, or_false, false_or, or_true, true_or, if_true, if_false, ite_true, ite_false, Nat.reduceEqDiff, SV.den, AV.int.injEq, AV.bool.injEq, true_and, and_true, X.dB_lt, X.dB_le, X.dB_eq, X.denB_and, X.denB_or, X.denB_not, X.denB_lit0, X.denB_lit1, X.den_lit, X.den_var, X.den_add, X.den_sub, X.den_mul, X.den_app, X.den_ite, X.den_wrap, X.dB_ite, cond_tf, X.denB_app, X.denB_var, X.sem_cons, X.sem_nil, leB_t, ltB_t, eqB_t, leB_f, ltB_f, eqB_f, Bool.and_eq_true, Bool.or_eq_true, Bool.not_eq_true', Bool.and_eq_false_iff, Bool.or_eq_false_iff, Bool.not_eq_false', rSum, an, le, lt, inB, v, lit, ap, eq, tSum, cmR, cmG, clkSh, i64] at *)
  simp only [Rn, nthR, inR, List.replicate, List.cons_append, List.nil_append] at *
  refine ⟨rfl, fun w h0 h1 _ => ⟨fun h3 => ?_, fun h3 => ?_⟩⟩
  · have hs := grow_step rods grow (i := w 10) (n := xs.getD 2 0) (by omega) h3 hpre.1 hpre.2.2.1 hpre.2.2.2
    have hp := ok_parts hs.2.2.2.1
    have f0 : fnB rods grow 0 [w 10] = (rods.getD (w 10).toNat d0).1 := rfl
    have f1 : fnB rods grow 1 [w 10] = (rods.getD (w 10).toNat d0).2.1 := rfl
    have f2 : fnB rods grow 2 [w 10] = (rods.getD (w 10).toNat d0).2.2.1 := rfl
    have f3 : i2b (fnB rods grow 3 [w 10]) = (rods.getD (w 10).toNat d0).2.2.2 := i2b_b2i _
    have hm := mul_bd (a := fnB rods grow 0 [w 10]) (b := fnB rods grow 4 [w 10]) (by omega) (by omega) (by omega) (by omega)
    have e : low (rods.getD (w 10).toNat d0) = cond (i2b (fnB rods grow 3 [w 10])) (- fnB rods grow 0 [w 10]) (fnB rods grow 0 [w 10]) := by
      rw [f3, f0]; rfl
    refine ⟨fun h4 => ⟨by omega, ⟨?_, by omega, by omega⟩, by omega⟩, fun h4 => ⟨by omega, ⟨?_, by omega, by omega⟩, by omega⟩⟩
    · rw [h4, cond_true] at e
      have hr := hs.1
      rw [e, Int.neg_mul] at hr
      rw [wrap64 (n := fnB rods grow 0 [w 10] * fnB rods grow 4 [w 10]) (by omega) (by omega), wrap64 (by omega) (by omega)]; omega
    · rw [h4, cond_false] at e
      have hr := hs.1
      rw [e] at hr
      rw [wrap64 (n := fnB rods grow 0 [w 10] * fnB rods grow 4 [w 10]) (by omega) (by omega), wrap64 (by omega) (by omega)]; omega
  · have : w 10 = xs.getD 2 0 := by omega
    rw [this]
/-- What a truth is asked for. -/
def ofT (nn yes : OT SV) : OT SV :=
  .ask (eq (v 8) (v 2)) (.ask (le (lit 0) (ap 14 (v 2))) nn
  (.ask (lt (v 10) (v 4)) nn (.ask (lt (v 5) (v 10)) nn (.ask (lt (v 11) (v 6)) nn (.ask (lt (v 7) (v 11)) nn
  (.ask (lt (v 12) (lit (-1000))) nn (.ask (lt (lit 1000) (v 12)) nn (.ask (lt (v 13) (lit (-1000))) nn (.ask (lt (lit 1000) (v 13)) nn
  (.ask (lt (v 14) (lit 0)) nn (.ask (lt (lit 600) (v 14)) nn (.ask (lt (v 15) (lit (-100))) nn (.ask (lt (lit 100) (v 15)) nn yes))))))))))))) nn
structure OfP (ρ : Val) : Prop where
  all : ρ.v 8 = ρ.v 2 ∧ ρ.fn 14 [ρ.v 2] < 0 ∧ (ρ.v 4 ≤ ρ.v 10 ∧ ρ.v 10 ≤ ρ.v 5) ∧ (ρ.v 6 ≤ ρ.v 11 ∧ ρ.v 11 ≤ ρ.v 7) ∧ (-1000 ≤ ρ.v 12 ∧ ρ.v 12 ≤ 1000) ∧ (-1000 ≤ ρ.v 13 ∧ ρ.v 13 ≤ 1000) ∧ (0 ≤ ρ.v 14 ∧ ρ.v 14 ≤ 600) ∧ (-100 ≤ ρ.v 15 ∧ ρ.v 15 ≤ 100)
theorem of_iff (ρ : Val) : OfP ρ ↔ ρ.v 8 = ρ.v 2 ∧ ρ.fn 14 [ρ.v 2] < 0 ∧ (ρ.v 4 ≤ ρ.v 10 ∧ ρ.v 10 ≤ ρ.v 5) ∧ (ρ.v 6 ≤ ρ.v 11 ∧ ρ.v 11 ≤ ρ.v 7) ∧ (-1000 ≤ ρ.v 12 ∧ ρ.v 12 ≤ 1000) ∧ (-1000 ≤ ρ.v 13 ∧ ρ.v 13 ≤ 1000) ∧ (0 ≤ ρ.v 14 ∧ ρ.v 14 ≤ 600) ∧ (-100 ≤ ρ.v 15 ∧ ρ.v 15 ≤ 100) := ⟨fun h => h.all, fun h => ⟨h⟩⟩
theorem is_of {ρ : Val} {w : AV} {nn yes : OT SV} (h1 : ¬ OfP ρ → OT.is ρ w nn) (h2 : OfP ρ → OT.is ρ w yes) : OT.is ρ w (ofT nn yes) := by
  simp only [of_iff] at h1 h2
  simp only [ofT, OT.is, le, lt, eq, lit, v, ap, X.dB_lt, X.dB_le, X.dB_eq, X.den_lit, X.den_var, X.den_app, X.sem_cons, X.sem_nil, leB_t, ltB_t, eqB_t, leB_f, ltB_f, eqB_f]
  generalize OT.is ρ w nn = p1 at *
  generalize OT.is ρ w yes = p2 at *
  (repeat' (first | apply And.intro | intro _))
  all_goals first | exact h1 (by omega) | exact h2 (by omega)
attribute [irreducible] ofT
def Bl (n : Int) : OT SV := .leaf (.bool (.lit n))
def rOf : Pr := ⟨18, [clkSh, truSh], [le (v 2) (lit 12)], fun _ => ofT (Bl 0) (Bl 1)⟩
def tOf (es : List Bool) : List Tpl := [⟨[16], [(2, .ptr 2 0), (3, .ptr 3 0), (4, .bool (lit 0)), (5, .int .i64 (v 16))], [(0, .row false (v 2) .nil cmR), (1, .row false (v 8) .nil cmG), (2, boxC es), (3, boxT es)], [], 4, [le (lit 0) (v 16), le (v 16) (v 2)]⟩]
theorem rOf_ok (rods : List Rod) (grow : List Int) : rOf.Ok Try.prog (fnB rods grow) := by
  refine lp2 (l := []) (R := Rn 16) (tps := tOf) (f := Try.f18) (fuel := 400) (Inv := fun xs _ ρ => xs.getD 8 0 = xs.getD 2 0 ∧ firstN (outP rods grow) (ρ.v 16).toNat = -1) (mu := fun xs _ ρ => (12 - ρ.v 16).toNat) (fun _ => (.ask (.not (.bin .eq (.var 8) (.var 2))) (.leaf (.bool (.lit 0))) (.loop 0 [(16, (.lit 0))] (.ask (.bin .lt (.var 16) (.var 8)) (.need [(.bin .lt (.var 16) (.var 2))] (.ask (.bin .lt (.app 4 (.cons (.var 16) .nil)) (.app 1 (.cons (.var 16) .nil))) (.leaf (.bool (.lit 0))) (.ask (.bin .lt (.app 2 (.cons (.var 16) .nil)) (.app 4 (.cons (.var 16) .nil))) (.leaf (.bool (.lit 0))) (.need [(.bin .le (.bin .add (.var 16) (.lit 1)) (.lit 12)), (.bin .le (.bin .add (.var 16) (.lit 1)) (.var 2))] (.back 0 [(16, (.bin .add (.var 16) (.lit 1)))]))))) (.ask (.bin .le (.var 4) (.var 10)) (.ask (.bin .le (.var 10) (.var 5)) (.ask (.bin .le (.var 6) (.var 11)) (.ask (.bin .le (.var 11) (.var 7)) (.ask (.bin .le (.lit (-1000)) (.var 12)) (.ask (.bin .le (.var 12) (.lit 1000)) (.ask (.bin .le (.lit (-1000)) (.var 13)) (.ask (.bin .le (.var 13) (.lit 1000)) (.ask (.bin .le (.lit 0) (.var 14)) (.ask (.bin .le (.var 14) (.lit 600)) (.ask (.bin .le (.lit (-100)) (.var 15)) (.leaf (.bool (.bin .le (.var 15) (.lit 100)))) (.leaf (.bool (.lit 0)))) (.leaf (.bool (.lit 0)))) (.leaf (.bool (.lit 0)))) (.leaf (.bool (.lit 0)))) (.leaf (.bool (.lit 0)))) (.leaf (.bool (.lit 0)))) (.leaf (.bool (.lit 0)))) (.leaf (.bool (.lit 0)))) (.leaf (.bool (.lit 0)))) (.leaf (.bool (.lit 0)))) (.leaf (.bool (.lit 0))))))))
    prog_ok Try.func18 rfl trivial rfl (Rn_ok _ _) rfl ?h1 ?h2 ?h3 ?h4 ?_
  case h1 => kernel_rfl
  case h2 => kernel_rfl
  case h3 => kernel_rfl
  case h4 => kernel_rfl
  intro xs es hlen hpre hrw
  ( simp only [OT.vc, LT.vc, OT.is, AllB, RgB, inR, nthR, idsF, fsOf, List.drop, List.flatMap_cons, List.flatMap_nil, List.append_nil, List.getElem?_cons_zero, List.getElem?_cons_succ, rwFs, rwF, List.nil_append, List.cons_append, mix_v, mix_fn, upd_fn, upd_nil, upd_cons, X.one, X.isL, cond_false, valX_fn, valX_v, setM_v, List.mem_cons, List.not_mem_nil, or_false, false_or, or_true, true_or, if_true, if_false, ite_true, ite_false, Nat.reduceEqDiff, SV.den, AV.int.injEq, AV.bool.injEq, true_and, and_true, X.dB_lt, X.dB_le, X.dB_eq, X.denB_and, X.denB_or, X.denB_not, X.denB_lit0, X.denB_lit1, X.den_lit, X.den_var, X.den_add, X.den_sub, X.den_mul, X.den_app, X.den_ite, X.den_wrap, X.dB_ite, cond_tf, X.denB_app, X.denB_var, X.sem_cons, X.sem_nil, leB_t, ltB_t, eqB_t, leB_f, ltB_f, eqB_f, Bool.and_eq_true, Bool.or_eq_true, Bool.not_eq_true', Bool.and_eq_false_iff, Bool.or_eq_false_iff, Bool.not_eq_false', rOf, an, le, lt, inB, v, lit, ap, eq, tOf, cmR, cmG, clkSh, truSh, i64] at *)
  simp only [Rn, nthR, inR, List.replicate, List.cons_append, List.nil_append] at *
  clear hlen hrw
  refine ⟨fun h8 => is_of (fun _ => rfl) (fun h => by ( simp only [OT.vc, LT.vc, OT.is, AllB, RgB, inR, nthR, idsF, fsOf, List.drop, List.flatMap_cons, List.flatMap_nil, List.append_nil, List.getElem?_cons_zero, List.getElem?_cons_succ, rwFs, rwF, List.nil_append, List.cons_append, mix_v, mix_fn, upd_fn, upd_nil, upd_cons, X.one, X.isL, cond_false, valX_fn, valX_v, setM_v, List.mem_cons, List.not_mem_nil, or_false, false_or, or_true, true_or, if_true, if_false, ite_true, ite_false, Nat.reduceEqDiff, SV.den, AV.int.injEq, AV.bool.injEq, true_and, and_true, X.dB_lt, X.dB_le, X.dB_eq, X.denB_and, X.denB_or, X.denB_not, X.denB_lit0, X.denB_lit1, X.den_lit, X.den_var, X.den_add, X.den_sub, X.den_mul, X.den_app, X.den_ite, X.den_wrap, X.dB_ite, cond_tf, X.denB_app, X.denB_var, X.sem_cons, X.sem_nil, leB_t, ltB_t, eqB_t, leB_f, ltB_f, eqB_f, Bool.and_eq_true, Bool.or_eq_true, Bool.not_eq_true', Bool.and_eq_false_iff, Bool.or_eq_false_iff, Bool.not_eq_false', of_iff] at *); omega), fun h8 => ⟨⟨h8, rfl⟩, fun w h0 h1 hb => ⟨fun h3 => ?_, fun h3 => ?_⟩⟩⟩
  · have hk := out_step rods grow (i := w 16) (n := xs.getD 2 0) (by omega) (by omega) hpre hb.2
    have hno : ¬ (fnB rods grow 1 [w 16] ≤ fnB rods grow 4 [w 16] ∧ fnB rods grow 4 [w 16] ≤ fnB rods grow 2 [w 16]) → OT.is (valX (fnB rods grow) xs) (AV.bool false) (ofT (Bl 0) (Bl 1)) := fun hn =>
      is_of (fun _ => rfl) (fun hg => by
        have := hk.2 hn
        ( simp only [OT.vc, LT.vc, OT.is, AllB, RgB, inR, nthR, idsF, fsOf, List.drop, List.flatMap_cons, List.flatMap_nil, List.append_nil, List.getElem?_cons_zero, List.getElem?_cons_succ, rwFs, rwF, List.nil_append, List.cons_append, mix_v, mix_fn, upd_fn, upd_nil, upd_cons, X.one, X.isL, cond_false, valX_fn, valX_v, setM_v, List.mem_cons, List.not_mem_nil, or_false, false_or, or_true, true_or, if_true, if_false, ite_true, ite_false, Nat.reduceEqDiff, SV.den, AV.int.injEq, AV.bool.injEq, true_and, and_true, X.dB_lt, X.dB_le, X.dB_eq, X.denB_and, X.denB_or, X.denB_not, X.denB_lit0, X.denB_lit1, X.den_lit, X.den_var, X.den_add, X.den_sub, X.den_mul, X.den_app, X.den_ite, X.den_wrap, X.dB_ite, cond_tf, X.denB_app, X.denB_var, X.sem_cons, X.sem_nil, leB_t, ltB_t, eqB_t, leB_f, ltB_f, eqB_f, Bool.and_eq_true, Bool.or_eq_true, Bool.not_eq_true', Bool.and_eq_false_iff, Bool.or_eq_false_iff, Bool.not_eq_false', of_iff] at *); omega)
    refine ⟨by omega, fun h4 => hno (by omega), fun h4 => ⟨fun h5 => hno (by omega), fun h5 => ⟨by omega, ⟨h8, hk.1 (by omega)⟩, by omega⟩⟩⟩
  · have : w 16 = xs.getD 2 0 := by omega
    have hf : fnB rods grow 14 [xs.getD 2 0] = -1 := by rw [f14_at rods grow hpre, ← this]; exact hb.2
    clear hb h3 h1 h0
    (repeat' (first | apply And.intro | intro _))
    all_goals first
      | (refine is_of (fun _ => rfl) (fun hg => ?_); exfalso; ( simp only [OT.vc, LT.vc, OT.is, AllB, RgB, inR, nthR, idsF, fsOf, List.drop, List.flatMap_cons, List.flatMap_nil, List.append_nil, List.getElem?_cons_zero, List.getElem?_cons_succ, rwFs, rwF, List.nil_append, List.cons_append, mix_v, mix_fn, upd_fn, upd_nil, upd_cons, X.one, X.isL, cond_false, valX_fn, valX_v, setM_v, List.mem_cons, List.not_mem_nil, or_false, false_or, or_true, true_or, if_true, if_false, ite_true, ite_false, Nat.reduceEqDiff, SV.den, AV.int.injEq, AV.bool.injEq, true_and, and_true, X.dB_lt, X.dB_le, X.dB_eq, X.denB_and, X.denB_or, X.denB_not, X.denB_lit0, X.denB_lit1, X.den_lit, X.den_var, X.den_add, X.den_sub, X.den_mul, X.den_app, X.den_ite, X.den_wrap, X.dB_ite, cond_tf, X.denB_app, X.denB_var, X.sem_cons, X.sem_nil, leB_t, ltB_t, eqB_t, leB_f, ltB_f, eqB_f, Bool.and_eq_true, Bool.or_eq_true, Bool.not_eq_true', Bool.and_eq_false_iff, Bool.or_eq_false_iff, Bool.not_eq_false', of_iff] at *); omega)
      | (cases hc : leB (xs.getD 15 0) 100
         · refine is_of (fun _ => rfl) (fun hg => ?_); exfalso; ( simp only [OT.vc, LT.vc, OT.is, AllB, RgB, inR, nthR, idsF, fsOf, List.drop, List.flatMap_cons, List.flatMap_nil, List.append_nil, List.getElem?_cons_zero, List.getElem?_cons_succ, rwFs, rwF, List.nil_append, List.cons_append, mix_v, mix_fn, upd_fn, upd_nil, upd_cons, X.one, X.isL, cond_false, valX_fn, valX_v, setM_v, List.mem_cons, List.not_mem_nil, or_false, false_or, or_true, true_or, if_true, if_false, ite_true, ite_false, Nat.reduceEqDiff, SV.den, AV.int.injEq, AV.bool.injEq, true_and, and_true, X.dB_lt, X.dB_le, X.dB_eq, X.denB_and, X.denB_or, X.denB_not, X.denB_lit0, X.denB_lit1, X.den_lit, X.den_var, X.den_add, X.den_sub, X.den_mul, X.den_app, X.den_ite, X.den_wrap, X.dB_ite, cond_tf, X.denB_app, X.denB_var, X.sem_cons, X.sem_nil, leB_t, ltB_t, eqB_t, leB_f, ltB_f, eqB_f, Bool.and_eq_true, Bool.or_eq_true, Bool.not_eq_true', Bool.and_eq_false_iff, Bool.or_eq_false_iff, Bool.not_eq_false', of_iff] at *); omega
         · refine is_of (fun hg => ?_) (fun _ => rfl); exfalso; ( simp only [OT.vc, LT.vc, OT.is, AllB, RgB, inR, nthR, idsF, fsOf, List.drop, List.flatMap_cons, List.flatMap_nil, List.append_nil, List.getElem?_cons_zero, List.getElem?_cons_succ, rwFs, rwF, List.nil_append, List.cons_append, mix_v, mix_fn, upd_fn, upd_nil, upd_cons, X.one, X.isL, cond_false, valX_fn, valX_v, setM_v, List.mem_cons, List.not_mem_nil, or_false, false_or, or_true, true_or, if_true, if_false, ite_true, ite_false, Nat.reduceEqDiff, SV.den, AV.int.injEq, AV.bool.injEq, true_and, and_true, X.dB_lt, X.dB_le, X.dB_eq, X.denB_and, X.denB_or, X.denB_not, X.denB_lit0, X.denB_lit1, X.den_lit, X.den_var, X.den_add, X.den_sub, X.den_mul, X.den_app, X.den_ite, X.den_wrap, X.dB_ite, cond_tf, X.denB_app, X.denB_var, X.sem_cons, X.sem_nil, leB_t, ltB_t, eqB_t, leB_f, ltB_f, eqB_f, Bool.and_eq_true, Bool.or_eq_true, Bool.not_eq_true', Bool.and_eq_false_iff, Bool.or_eq_false_iff, Bool.not_eq_false', of_iff] at *); omega)
end Be
end Go.Proofs.Ytocjbjnfpldgcaa
