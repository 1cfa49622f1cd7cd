/- ChimeMeets: the law. -/
import Derived.Test.YtoecekncncbjgaaFl
import Derived.Test.YtoecekncncbjgaaG5
import Derived.Test.YtoecekncncbjgaaKh
set_option linter.unusedSimpArgs false
set_option linter.unusedVariables false
namespace Go.Proofs.Ytoecekncncbjgaa
open Abs Sx Go.RowKit
set_option maxRecDepth 100000
namespace Cm
open Ch
variable {cams : List (Int × Int × Int)}
def pKn : Pr := ⟨6, [], [], fun _ => .leaf (.bool (.lit 1))⟩
theorem pKn_ok (fn : Nat → List Int → Int) : pKn.Ok Try.prog fn := Fl.true_ok ⟨_, _, Try.func6, rfl⟩ (khgood prog_ok) fn
abbrev g6 : FuncId := 3
def law (n : Nat) : Pr := ⟨g6, [camSh n, i64], [], fun _ => .leaf (.bool (lit 1))⟩
def cmC : List Cmp := [.int .i64 0, .int .i64 1, .int .i64 2]
def lawR : Pr := ⟨g6, [.row cmC, i64], [lt (lit 10) (v 0)], fun _ => .leaf (.bool (lit 1))⟩
def R0 : Rgs := ⟨[], frG⟩
def Ln (n : Nat) : List Pr := [mA n, rA n, pKn]
def tT : OT SV := .leaf (.bool (.lit 1))
theorem law0_ok : (law 0).Ok Try.prog (fnG cams) := by
  refine un1 (l := (Ln 0)) (R := R0) (fuel := 600) (fun _ => tT) prog_ok ⟨mA0_ok, rA0_ok, pKn_ok _, trivial⟩ rfl (frG_ok _ _) rfl rfl ?h1 ?h2 ?_
  case h1 => kernel_rfl
  case h2 => kernel_rfl
  intro xs es hlen hpre hrw
  ( simp only [OT.vc, LT.vc, OT.is, AllB, RgB, inR, nthR, idsF, fsOf, List.drop, List.flatMap_cons, List.flatMap_nil, List.append_nil, List.getElem?_cons_zero, List.getElem?_cons_succ, rwFs, rwF, List.nil_append, List.cons_append, mix_v, mix_fn, upd_fn, upd_nil, upd_cons, X.one, X.isL, cond_false, valX_fn, valX_v, setM_v, List.mem_cons, List.not_mem_nil, or_false, false_or, or_true, true_or, if_true, if_false, ite_true, ite_false, Nat.reduceEqDiff, SV.den, AV.int.injEq, AV.bool.injEq, true_and, and_true, X.dB_lt, X.dB_le, X.dB_eq, X.denB_and, X.denB_or, X.denB_not, X.denB_lit0, X.denB_lit1, X.den_lit, X.den_var, X.den_add, X.den_sub, X.den_mul, X.den_app, X.den_ite, X.den_wrap, X.dB_ite, cond_tf, X.denB_app, X.denB_var, X.sem_cons, X.sem_nil, leB_t, ltB_t, eqB_t, leB_f, ltB_f, eqB_f, Bool.and_eq_true, Bool.or_eq_true, Bool.not_eq_true', Bool.and_eq_false_iff, Bool.or_eq_false_iff, Bool.not_eq_false', tT, law, lit] at *)
theorem law1_ok : (law 1).Ok Try.prog (fnG cams) := by
  refine un1 (l := (Ln 1)) (R := R0) (fuel := 600) (fun _ => tT) prog_ok ⟨mA1_ok, rA1_ok, pKn_ok _, trivial⟩ rfl (frG_ok _ _) rfl rfl ?h1 ?h2 ?_
  case h1 => kernel_rfl
  case h2 => kernel_rfl
  intro xs es hlen hpre hrw
  ( simp only [OT.vc, LT.vc, OT.is, AllB, RgB, inR, nthR, idsF, fsOf, List.drop, List.flatMap_cons, List.flatMap_nil, List.append_nil, List.getElem?_cons_zero, List.getElem?_cons_succ, rwFs, rwF, List.nil_append, List.cons_append, mix_v, mix_fn, upd_fn, upd_nil, upd_cons, X.one, X.isL, cond_false, valX_fn, valX_v, setM_v, List.mem_cons, List.not_mem_nil, or_false, false_or, or_true, true_or, if_true, if_false, ite_true, ite_false, Nat.reduceEqDiff, SV.den, AV.int.injEq, AV.bool.injEq, true_and, and_true, X.dB_lt, X.dB_le, X.dB_eq, X.denB_and, X.denB_or, X.denB_not, X.denB_lit0, X.denB_lit1, X.den_lit, X.den_var, X.den_add, X.den_sub, X.den_mul, X.den_app, X.den_ite, X.den_wrap, X.dB_ite, cond_tf, X.denB_app, X.denB_var, X.sem_cons, X.sem_nil, leB_t, ltB_t, eqB_t, leB_f, ltB_f, eqB_f, Bool.and_eq_true, Bool.or_eq_true, Bool.not_eq_true', Bool.and_eq_false_iff, Bool.or_eq_false_iff, Bool.not_eq_false', tT, law, lit] at *)
theorem law2_ok : (law 2).Ok Try.prog (fnG cams) := by
  refine un1 (l := (Ln 2)) (R := R0) (fuel := 600) (fun _ => tT) prog_ok ⟨mA2_ok, rA2_ok, pKn_ok _, trivial⟩ rfl (frG_ok _ _) rfl rfl ?h1 ?h2 ?_
  case h1 => kernel_rfl
  case h2 => kernel_rfl
  intro xs es hlen hpre hrw
  ( simp only [OT.vc, LT.vc, OT.is, AllB, RgB, inR, nthR, idsF, fsOf, List.drop, List.flatMap_cons, List.flatMap_nil, List.append_nil, List.getElem?_cons_zero, List.getElem?_cons_succ, rwFs, rwF, List.nil_append, List.cons_append, mix_v, mix_fn, upd_fn, upd_nil, upd_cons, X.one, X.isL, cond_false, valX_fn, valX_v, setM_v, List.mem_cons, List.not_mem_nil, or_false, false_or, or_true, true_or, if_true, if_false, ite_true, ite_false, Nat.reduceEqDiff, SV.den, AV.int.injEq, AV.bool.injEq, true_and, and_true, X.dB_lt, X.dB_le, X.dB_eq, X.denB_and, X.denB_or, X.denB_not, X.denB_lit0, X.denB_lit1, X.den_lit, X.den_var, X.den_add, X.den_sub, X.den_mul, X.den_app, X.den_ite, X.den_wrap, X.dB_ite, cond_tf, X.denB_app, X.denB_var, X.sem_cons, X.sem_nil, leB_t, ltB_t, eqB_t, leB_f, ltB_f, eqB_f, Bool.and_eq_true, Bool.or_eq_true, Bool.not_eq_true', Bool.and_eq_false_iff, Bool.or_eq_false_iff, Bool.not_eq_false', tT, law, lit] at *)
theorem law3_ok : (law 3).Ok Try.prog (fnG cams) := by
  refine un1 (l := (Ln 3)) (R := R0) (fuel := 600) (fun _ => tT) prog_ok ⟨mA3_ok, rA3_ok, pKn_ok _, trivial⟩ rfl (frG_ok _ _) rfl rfl ?h1 ?h2 ?_
  case h1 => kernel_rfl
  case h2 => kernel_rfl
  intro xs es hlen hpre hrw
  ( simp only [OT.vc, LT.vc, OT.is, AllB, RgB, inR, nthR, idsF, fsOf, List.drop, List.flatMap_cons, List.flatMap_nil, List.append_nil, List.getElem?_cons_zero, List.getElem?_cons_succ, rwFs, rwF, List.nil_append, List.cons_append, mix_v, mix_fn, upd_fn, upd_nil, upd_cons, X.one, X.isL, cond_false, valX_fn, valX_v, setM_v, List.mem_cons, List.not_mem_nil, or_false, false_or, or_true, true_or, if_true, if_false, ite_true, ite_false, Nat.reduceEqDiff, SV.den, AV.int.injEq, AV.bool.injEq, true_and, and_true, X.dB_lt, X.dB_le, X.dB_eq, X.denB_and, X.denB_or, X.denB_not, X.denB_lit0, X.denB_lit1, X.den_lit, X.den_var, X.den_add, X.den_sub, X.den_mul, X.den_app, X.den_ite, X.den_wrap, X.dB_ite, cond_tf, X.denB_app, X.denB_var, X.sem_cons, X.sem_nil, leB_t, ltB_t, eqB_t, leB_f, ltB_f, eqB_f, Bool.and_eq_true, Bool.or_eq_true, Bool.not_eq_true', Bool.and_eq_false_iff, Bool.or_eq_false_iff, Bool.not_eq_false', tT, law, lit] at *)
theorem law4_ok : (law 4).Ok Try.prog (fnG cams) := by
  refine un1 (l := [pKn]) (R := R0) (fuel := 600) (fun _ => tT) prog_ok ⟨pKn_ok _, trivial⟩ rfl (frG_ok _ _) rfl rfl ?h1 ?h2 ?_
  case h1 => kernel_rfl
  case h2 => kernel_rfl
  intro xs es hlen hpre hrw
  ( simp only [OT.vc, LT.vc, OT.is, AllB, RgB, inR, nthR, idsF, fsOf, List.drop, List.flatMap_cons, List.flatMap_nil, List.append_nil, List.getElem?_cons_zero, List.getElem?_cons_succ, rwFs, rwF, List.nil_append, List.cons_append, mix_v, mix_fn, upd_fn, upd_nil, upd_cons, X.one, X.isL, cond_false, valX_fn, valX_v, setM_v, List.mem_cons, List.not_mem_nil, or_false, false_or, or_true, true_or, if_true, if_false, ite_true, ite_false, Nat.reduceEqDiff, SV.den, AV.int.injEq, AV.bool.injEq, true_and, and_true, X.dB_lt, X.dB_le, X.dB_eq, X.denB_and, X.denB_or, X.denB_not, X.denB_lit0, X.denB_lit1, X.den_lit, X.den_var, X.den_add, X.den_sub, X.den_mul, X.den_app, X.den_ite, X.den_wrap, X.dB_ite, cond_tf, X.denB_app, X.denB_var, X.sem_cons, X.sem_nil, leB_t, ltB_t, eqB_t, leB_f, ltB_f, eqB_f, Bool.and_eq_true, Bool.or_eq_true, Bool.not_eq_true', Bool.and_eq_false_iff, Bool.or_eq_false_iff, Bool.not_eq_false', tT, law, lit] at *)
theorem law5_ok : (law 5).Ok Try.prog (fnG cams) := by
  refine un1 (l := [pKn]) (R := R0) (fuel := 600) (fun _ => tT) prog_ok ⟨pKn_ok _, trivial⟩ rfl (frG_ok _ _) rfl rfl ?h1 ?h2 ?_
  case h1 => kernel_rfl
  case h2 => kernel_rfl
  intro xs es hlen hpre hrw
  ( simp only [OT.vc, LT.vc, OT.is, AllB, RgB, inR, nthR, idsF, fsOf, List.drop, List.flatMap_cons, List.flatMap_nil, List.append_nil, List.getElem?_cons_zero, List.getElem?_cons_succ, rwFs, rwF, List.nil_append, List.cons_append, mix_v, mix_fn, upd_fn, upd_nil, upd_cons, X.one, X.isL, cond_false, valX_fn, valX_v, setM_v, List.mem_cons, List.not_mem_nil, or_false, false_or, or_true, true_or, if_true, if_false, ite_true, ite_false, Nat.reduceEqDiff, SV.den, AV.int.injEq, AV.bool.injEq, true_and, and_true, X.dB_lt, X.dB_le, X.dB_eq, X.denB_and, X.denB_or, X.denB_not, X.denB_lit0, X.denB_lit1, X.den_lit, X.den_var, X.den_add, X.den_sub, X.den_mul, X.den_app, X.den_ite, X.den_wrap, X.dB_ite, cond_tf, X.denB_app, X.denB_var, X.sem_cons, X.sem_nil, leB_t, ltB_t, eqB_t, leB_f, ltB_f, eqB_f, Bool.and_eq_true, Bool.or_eq_true, Bool.not_eq_true', Bool.and_eq_false_iff, Bool.or_eq_false_iff, Bool.not_eq_false', tT, law, lit] at *)
theorem law6_ok : (law 6).Ok Try.prog (fnG cams) := by
  refine un1 (l := [pKn]) (R := R0) (fuel := 600) (fun _ => tT) prog_ok ⟨pKn_ok _, trivial⟩ rfl (frG_ok _ _) rfl rfl ?h1 ?h2 ?_
  case h1 => kernel_rfl
  case h2 => kernel_rfl
  intro xs es hlen hpre hrw
  ( simp only [OT.vc, LT.vc, OT.is, AllB, RgB, inR, nthR, idsF, fsOf, List.drop, List.flatMap_cons, List.flatMap_nil, List.append_nil, List.getElem?_cons_zero, List.getElem?_cons_succ, rwFs, rwF, List.nil_append, List.cons_append, mix_v, mix_fn, upd_fn, upd_nil, upd_cons, X.one, X.isL, cond_false, valX_fn, valX_v, setM_v, List.mem_cons, List.not_mem_nil, or_false, false_or, or_true, true_or, if_true, if_false, ite_true, ite_false, Nat.reduceEqDiff, SV.den, AV.int.injEq, AV.bool.injEq, true_and, and_true, X.dB_lt, X.dB_le, X.dB_eq, X.denB_and, X.denB_or, X.denB_not, X.denB_lit0, X.denB_lit1, X.den_lit, X.den_var, X.den_add, X.den_sub, X.den_mul, X.den_app, X.den_ite, X.den_wrap, X.dB_ite, cond_tf, X.denB_app, X.denB_var, X.sem_cons, X.sem_nil, leB_t, ltB_t, eqB_t, leB_f, ltB_f, eqB_f, Bool.and_eq_true, Bool.or_eq_true, Bool.not_eq_true', Bool.and_eq_false_iff, Bool.or_eq_false_iff, Bool.not_eq_false', tT, law, lit] at *)
theorem law7_ok : (law 7).Ok Try.prog (fnG cams) := by
  refine un1 (l := [pKn]) (R := R0) (fuel := 600) (fun _ => tT) prog_ok ⟨pKn_ok _, trivial⟩ rfl (frG_ok _ _) rfl rfl ?h1 ?h2 ?_
  case h1 => kernel_rfl
  case h2 => kernel_rfl
  intro xs es hlen hpre hrw
  ( simp only [OT.vc, LT.vc, OT.is, AllB, RgB, inR, nthR, idsF, fsOf, List.drop, List.flatMap_cons, List.flatMap_nil, List.append_nil, List.getElem?_cons_zero, List.getElem?_cons_succ, rwFs, rwF, List.nil_append, List.cons_append, mix_v, mix_fn, upd_fn, upd_nil, upd_cons, X.one, X.isL, cond_false, valX_fn, valX_v, setM_v, List.mem_cons, List.not_mem_nil, or_false, false_or, or_true, true_or, if_true, if_false, ite_true, ite_false, Nat.reduceEqDiff, SV.den, AV.int.injEq, AV.bool.injEq, true_and, and_true, X.dB_lt, X.dB_le, X.dB_eq, X.denB_and, X.denB_or, X.denB_not, X.denB_lit0, X.denB_lit1, X.den_lit, X.den_var, X.den_add, X.den_sub, X.den_mul, X.den_app, X.den_ite, X.den_wrap, X.dB_ite, cond_tf, X.denB_app, X.denB_var, X.sem_cons, X.sem_nil, leB_t, ltB_t, eqB_t, leB_f, ltB_f, eqB_f, Bool.and_eq_true, Bool.or_eq_true, Bool.not_eq_true', Bool.and_eq_false_iff, Bool.or_eq_false_iff, Bool.not_eq_false', tT, law, lit] at *)
theorem law8_ok : (law 8).Ok Try.prog (fnG cams) := by
  refine un1 (l := [pKn]) (R := R0) (fuel := 600) (fun _ => tT) prog_ok ⟨pKn_ok _, trivial⟩ rfl (frG_ok _ _) rfl rfl ?h1 ?h2 ?_
  case h1 => kernel_rfl
  case h2 => kernel_rfl
  intro xs es hlen hpre hrw
  ( simp only [OT.vc, LT.vc, OT.is, AllB, RgB, inR, nthR, idsF, fsOf, List.drop, List.flatMap_cons, List.flatMap_nil, List.append_nil, List.getElem?_cons_zero, List.getElem?_cons_succ, rwFs, rwF, List.nil_append, List.cons_append, mix_v, mix_fn, upd_fn, upd_nil, upd_cons, X.one, X.isL, cond_false, valX_fn, valX_v, setM_v, List.mem_cons, List.not_mem_nil, or_false, false_or, or_true, true_or, if_true, if_false, ite_true, ite_false, Nat.reduceEqDiff, SV.den, AV.int.injEq, AV.bool.injEq, true_and, and_true, X.dB_lt, X.dB_le, X.dB_eq, X.denB_and, X.denB_or, X.denB_not, X.denB_lit0, X.denB_lit1, X.den_lit, X.den_var, X.den_add, X.den_sub, X.den_mul, X.den_app, X.den_ite, X.den_wrap, X.dB_ite, cond_tf, X.denB_app, X.denB_var, X.sem_cons, X.sem_nil, leB_t, ltB_t, eqB_t, leB_f, ltB_f, eqB_f, Bool.and_eq_true, Bool.or_eq_true, Bool.not_eq_true', Bool.and_eq_false_iff, Bool.or_eq_false_iff, Bool.not_eq_false', tT, law, lit] at *)
theorem law9_ok : (law 9).Ok Try.prog (fnG cams) := by
  refine un1 (l := [pKn]) (R := R0) (fuel := 600) (fun _ => tT) prog_ok ⟨pKn_ok _, trivial⟩ rfl (frG_ok _ _) rfl rfl ?h1 ?h2 ?_
  case h1 => kernel_rfl
  case h2 => kernel_rfl
  intro xs es hlen hpre hrw
  ( simp only [OT.vc, LT.vc, OT.is, AllB, RgB, inR, nthR, idsF, fsOf, List.drop, List.flatMap_cons, List.flatMap_nil, List.append_nil, List.getElem?_cons_zero, List.getElem?_cons_succ, rwFs, rwF, List.nil_append, List.cons_append, mix_v, mix_fn, upd_fn, upd_nil, upd_cons, X.one, X.isL, cond_false, valX_fn, valX_v, setM_v, List.mem_cons, List.not_mem_nil, or_false, false_or, or_true, true_or, if_true, if_false, ite_true, ite_false, Nat.reduceEqDiff, SV.den, AV.int.injEq, AV.bool.injEq, true_and, and_true, X.dB_lt, X.dB_le, X.dB_eq, X.denB_and, X.denB_or, X.denB_not, X.denB_lit0, X.denB_lit1, X.den_lit, X.den_var, X.den_add, X.den_sub, X.den_mul, X.den_app, X.den_ite, X.den_wrap, X.dB_ite, cond_tf, X.denB_app, X.denB_var, X.sem_cons, X.sem_nil, leB_t, ltB_t, eqB_t, leB_f, ltB_f, eqB_f, Bool.and_eq_true, Bool.or_eq_true, Bool.not_eq_true', Bool.and_eq_false_iff, Bool.or_eq_false_iff, Bool.not_eq_false', tT, law, lit] at *)
theorem law10_ok : (law 10).Ok Try.prog (fnG cams) := by
  refine un1 (l := [pKn]) (R := R0) (fuel := 600) (fun _ => tT) prog_ok ⟨pKn_ok _, trivial⟩ rfl (frG_ok _ _) rfl rfl ?h1 ?h2 ?_
  case h1 => kernel_rfl
  case h2 => kernel_rfl
  intro xs es hlen hpre hrw
  ( simp only [OT.vc, LT.vc, OT.is, AllB, RgB, inR, nthR, idsF, fsOf, List.drop, List.flatMap_cons, List.flatMap_nil, List.append_nil, List.getElem?_cons_zero, List.getElem?_cons_succ, rwFs, rwF, List.nil_append, List.cons_append, mix_v, mix_fn, upd_fn, upd_nil, upd_cons, X.one, X.isL, cond_false, valX_fn, valX_v, setM_v, List.mem_cons, List.not_mem_nil, or_false, false_or, or_true, true_or, if_true, if_false, ite_true, ite_false, Nat.reduceEqDiff, SV.den, AV.int.injEq, AV.bool.injEq, true_and, and_true, X.dB_lt, X.dB_le, X.dB_eq, X.denB_and, X.denB_or, X.denB_not, X.denB_lit0, X.denB_lit1, X.den_lit, X.den_var, X.den_add, X.den_sub, X.den_mul, X.den_app, X.den_ite, X.den_wrap, X.dB_ite, cond_tf, X.denB_app, X.denB_var, X.sem_cons, X.sem_nil, leB_t, ltB_t, eqB_t, leB_f, ltB_f, eqB_f, Bool.and_eq_true, Bool.or_eq_true, Bool.not_eq_true', Bool.and_eq_false_iff, Bool.or_eq_false_iff, Bool.not_eq_false', tT, law, lit] at *)
theorem lawR_ok : lawR.Ok Try.prog (fnG cams) := by
  refine un1 (l := [pKn]) (R := R0) (fuel := 600) (fun _ => tT) prog_ok ⟨pKn_ok _, trivial⟩ rfl (frG_ok _ _) rfl rfl ?h1 ?h2 ?_
  case h1 => kernel_rfl
  case h2 => kernel_rfl
  intro xs es hlen hpre hrw
  ( simp only [OT.vc, LT.vc, OT.is, AllB, RgB, inR, nthR, idsF, fsOf, List.drop, List.flatMap_cons, List.flatMap_nil, List.append_nil, List.getElem?_cons_zero, List.getElem?_cons_succ, rwFs, rwF, List.nil_append, List.cons_append, mix_v, mix_fn, upd_fn, upd_nil, upd_cons, X.one, X.isL, cond_false, valX_fn, valX_v, setM_v, List.mem_cons, List.not_mem_nil, or_false, false_or, or_true, true_or, if_true, if_false, ite_true, ite_false, Nat.reduceEqDiff, SV.den, AV.int.injEq, AV.bool.injEq, true_and, and_true, X.dB_lt, X.dB_le, X.dB_eq, X.denB_and, X.denB_or, X.denB_not, X.denB_lit0, X.denB_lit1, X.den_lit, X.den_var, X.den_add, X.den_sub, X.den_mul, X.den_app, X.den_ite, X.den_wrap, X.dB_ite, cond_tf, X.denB_app, X.denB_var, X.sem_cons, X.sem_nil, leB_t, ltB_t, eqB_t, leB_f, ltB_f, eqB_f, Bool.and_eq_true, Bool.or_eq_true, Bool.not_eq_true', Bool.and_eq_false_iff, Bool.or_eq_false_iff, Bool.not_eq_false', tT, lawR, lit] at *)
theorem law_all : ∀ n : Nat, n ≤ 10 → (law n).Ok Try.prog (fnG cams)
  | 0, _ => law0_ok
  | 1, _ => law1_ok
  | 2, _ => law2_ok
  | 3, _ => law3_ok
  | 4, _ => law4_ok
  | 5, _ => law5_ok
  | 6, _ => law6_ok
  | 7, _ => law7_ok
  | 8, _ => law8_ok
  | 9, _ => law9_ok
  | 10, _ => law10_ok
  | n + 11, h => absurd h (by omega)
/-! Slices without room. -/
def tN : OT SV := (.ask (.bin .lt (.var 0) (.lit 0)) (.leaf (.bool (.lit 1))) (.ask (.bin .lt (.lit 3155760000) (.var 0)) (.leaf (.bool (.lit 1))) (.ask (.bin .lt (.var 0) (.bin .add (.var 0) (.lit 1))) (.leaf (.bool (.lit 1))) (.ask (.bin .eq (.var 0) (.lit 0)) (.leaf (.bool (.lit 0))) (.leaf (.bool (.lit 0)))))))
theorem run_at {xs : List Int} {args : List SV}
    (h : (exS Try.prog R0 (ksOf R0 [pKn]) 600 [] (.call g6 args ⟨tplT [], [], 0⟩ 0)).map retV = tN) :
    CallH Try.prog g6 (SV.dens (valX (fnG []) xs) args) (hD (valX (fnG []) xs) ⟨tplT [], [], 0⟩) 0 (fun v _ _ => v = .bool true) := by
  have hR : R0.ok (valX (fnG []) xs) := ⟨fun i => by cases i <;> trivial, frG_ok _ _⟩
  refine call_ex (V := fun v => v = .bool true) prog_ok hR (ctsOf_has [pKn] ⟨pKn_ok _, trivial⟩ rfl hR) (allB_fcs (l := []) trivial) rfl h ?_
  ( simp only [OT.vc, LT.vc, OT.is, AllB, RgB, inR, nthR, idsF, fsOf, List.drop, List.flatMap_cons, List.flatMap_nil, List.append_nil, List.getElem?_cons_zero, List.getElem?_cons_succ, rwFs, rwF, List.nil_append, List.cons_append, mix_v, mix_fn, upd_fn, upd_nil, upd_cons, X.one, X.isL, cond_false, valX_fn, valX_v, setM_v, List.mem_cons, List.not_mem_nil, or_false, false_or, or_true, true_or, if_true, if_false, ite_true, ite_false, Nat.reduceEqDiff, SV.den, AV.int.injEq, AV.bool.injEq, true_and, and_true, X.dB_lt, X.dB_le, X.dB_eq, X.denB_and, X.denB_or, X.denB_not, X.denB_lit0, X.denB_lit1, X.den_lit, X.den_var, X.den_add, X.den_sub, X.den_mul, X.den_app, X.den_ite, X.den_wrap, X.dB_ite, cond_tf, X.denB_app, X.denB_var, X.sem_cons, X.sem_nil, leB_t, ltB_t, eqB_t, leB_f, ltB_f, eqB_f, Bool.and_eq_true, Bool.or_eq_true, Bool.not_eq_true', Bool.and_eq_false_iff, Bool.or_eq_false_iff, Bool.not_eq_false', tN] at *)
  (repeat' (first | (refine And.intro ?_ ?_) | intro _)) <;> first
    | trivial
    | rfl
    | (exfalso; omega)
def argN (a : SV) : List SV := [a, .int .i64 (v 0)]
theorem run_nil {xs : List Int} : CallH Try.prog g6 (SV.dens (valX (fnG []) xs) (argN .nils)) (hD (valX (fnG []) xs) ⟨tplT [], [], 0⟩) 0 (fun v _ _ => v = .bool true) := run_at (by kernel_rfl)
theorem run_free {xs : List Int} : CallH Try.prog g6 (SV.dens (valX (fnG []) xs) (argN (.slice 9 0 (lit 0) (lit 0) (lit 0) 3 true))) (hD (valX (fnG []) xs) ⟨tplT [], [], 0⟩) 0 (fun v _ _ => v = .bool true) := run_at (by kernel_rfl)
theorem bool_ren (nx : Nat) : ∀ v : AV, v = .bool true → ren (upS nx) v = some v := fun v h => by subst h; rfl
theorem call_nil (x0 : Int) (_b : -9223372036854775808 ≤ x0 ∧ x0 ≤ 9223372036854775807) : CallH Try.prog g6 [.nils, .int .i64 x0] ⟨objs [], [], 0⟩ 0 (fun v H' nx' => v = .bool true ∧ H' = ⟨objs [], [], 0⟩ ∧ nx' = 0) :=
  call_forget (run_nil (xs := [x0])) rfl (bool_ren 0)
theorem call_free (x0 : Int) (_b : -9223372036854775808 ≤ x0 ∧ x0 ≤ 9223372036854775807) : CallH Try.prog g6 [.slice 9 0 0 0 3 true, .int .i64 x0] ⟨objs [], [], 0⟩ 0 (fun v H' nx' => v = .bool true ∧ H' = ⟨objs [], [], 0⟩ ∧ nx' = 0) :=
  call_forget (run_free (xs := [x0])) rfl (bool_ren 0)
/-! Rows. -/
def Bd (_ : Int × Int × Int) : Prop := True
def rowC : List (Int × Int × Int) → List AV
  | [] => []
  | r :: l => .int .i64 r.1 :: .int .i64 r.2.1 :: .int .i64 r.2.2 :: rowC l
def flat : List (Int × Int × Int) → List Int
  | [] => []
  | r :: l => r.1 :: r.2.1 :: r.2.2 :: flat l
theorem fl_flat {ρ : Val} {H : Hp} : ∀ l : List (Int × Int × Int), FlRs ρ H (List.replicate (3 * l.length) i64) (rowC l) (flat l) [] []
  | [] => Fl.fl_nil
  | r :: l => by
    rw [List.length_cons, show 3 * (l.length + 1) = 3 * l.length + 1 + 1 + 1 by omega, List.replicate_succ, List.replicate_succ, List.replicate_succ]
    exact Fl.fl_int r.1 (Fl.fl_int r.2.1 (Fl.fl_int r.2.2 (fl_flat l)))
theorem plain_rep : ∀ n, plainSh (List.replicate n i64) = true
  | 0 => rfl
  | n + 1 => by rw [List.replicate_succ]; exact plain_rep n
theorem rowC_row (cs : List (Int × Int × Int)) : ∀ (n i : Nat), i + n = cs.length → rowD (valX (fnG cs) []) cmC [] i n = rowC (cs.drop i)
  | 0, i, h => by rw [List.drop_eq_nil_of_le (by omega)]; rfl
  | n + 1, i, h => by
    have hi : i < cs.length := by omega
    rw [List.drop_eq_getElem_cons hi, rowD, rowC_row cs n (i + 1) (by omega)]
    have hg : cs[i] = cs.getD i (1, 0, 0) := by rw [List.getD_eq_getElem?_getD, List.getElem?_eq_getElem hi]; rfl
    rw [hg]
    show AV.int .i64 (fnG cs 0 [(i : Int)]) :: AV.int .i64 (fnG cs 1 [(i : Int)]) :: AV.int .i64 (fnG cs 2 [(i : Int)]) :: _ = _
    have e0 : fnG cs 0 [(i : Int)] = (cs.getD i (1, 0, 0)).1 := by show (cs.getD ((i : Int)).toNat (1, 0, 0)).1 = _; rw [Int.toNat_natCast]
    have e1 : fnG cs 1 [(i : Int)] = (cs.getD i (1, 0, 0)).2.1 := by show (cs.getD ((i : Int)).toNat (1, 0, 0)).2.1 = _; rw [Int.toNat_natCast]
    have e2 : fnG cs 2 [(i : Int)] = (cs.getD i (1, 0, 0)).2.2 := by show (cs.getD ((i : Int)).toNat (1, 0, 0)).2.2 = _; rw [Int.toNat_natCast]
    rw [e0, e1, e2]; rfl
theorem call_row (l : List (Int × Int × Int)) (_hb : ∀ x ∈ l, Bd x) (cap : Nat) (x0 : Int) (_b : -9223372036854775808 ≤ x0 ∧ x0 ≤ 9223372036854775807) : CallH Try.prog g6 [.slice 0 0 l.length cap 3 true, .int .i64 x0] ⟨objs [(0, .cells false (rowC l))], [], 0⟩ 1 (fun v H' nx' => v = .bool true ∧ H' = ⟨objs [(0, .cells false (rowC l))], [], 0⟩ ∧ nx' = 1) := by
  rcases Nat.lt_or_ge 10 l.length with h | h
  · refine callH_of_ok (lawR_ok (cams := l) _ _ _ _ ⟨[l.length, cap, x0], [0], [true], .bool (.lit 1), ?_, ?_, rfl, rfl, rfl⟩)
    · have h0 : (⟨objs [(0, .cells false (rowC l))], [], 0⟩ : Hp).get 0 = some (.cells false (rowD (valX (fnG l) []) cmC [] 0 l.length)) := by
        rw [rowC_row l l.length 0 (by omega)]; rfl
      exact Fl.fl_row (cm := cmC) 0 l.length cap true false h0 (Fl.fl_int x0 Fl.fl_nil)
    · simp only [lawR, AllB, lt, lit, v, X.dB_lt, ltB_t, X.den_lit, X.den_var]
      refine ⟨?_, trivial⟩
      show (10 : Int) < (l.length : Int)
      omega
  · refine callH_of_ok (law_all (cams := []) l.length h _ _ _ _ ⟨(cap : Int) :: flat l ++ [x0], [0], [true], .bool (.lit 1), ?_, trivial, rfl, rfl, rfl⟩)
    exact Fl.fl_lst 0 l.length cap true false ⟨plain_rep _, by decide, by rw [List.length_replicate]; omega⟩ rfl (fl_flat l) (Fl.fl_int x0 Fl.fl_nil)
end Cm
end Go.Proofs.Ytoecekncncbjgaa
