/- BeatExacts: the law, for all clocks and truths whose rows are there. -/
import Derived.Test.YtocjbjnfpldgcaaM1
import Derived.Test.YtocjbjnfpldgcaaM2
import Derived.Test.YtocjbjnfpldgcaaC4
set_option linter.unusedSimpArgs false
set_option linter.unusedVariables false
namespace Go.Proofs.Ytocjbjnfpldgcaa
open Abs Sx
set_option maxRecDepth 100000
namespace Be
theorem law_at {pre : List X} {rods : List Rod} {grow : List Int} (hk : (lawP pre).Ok Try.prog (fnB rods grow)) {a : List AV} {H : Hp} {nx : Nat} {xs : List Int} {ns : List Nat} {es : List Bool}
    (hfl : FlRs (valX (fnB rods grow) []) H [clkSh, truSh] a xs ns es) (hpre : AllB (valX (fnB rods grow) xs) pre) : CallOk Try.prog 3 a H nx (.bool true) H nx :=
  hk a H nx (.bool true) ⟨xs, ns, es, .bool (lit 1), hfl, hpre, rfl, rfl, rfl⟩
theorem getD_out {α : Type} {l : List α} {i : Nat} {d : α} (h : l.length ≤ i) : l.getD i d = d := by
  rw [List.getD_eq_getElem?_getD, List.getElem?_eq_none h]; rfl
theorem all_ok {rods : List Rod} {grow : List Int} {n : Nat} (h1 : rods.length = n) (h2 : grow.length = n) (h3 : badN rods n < 0) (h4 : firstN (outP rods grow) n < 0) : AllOk rods grow := by
  have k3 := (badN_neg rods h3).2
  have k4 := (first_neg _ h4).2
  refine ⟨fun i => ?_, fun i => ?_⟩
  · by_cases hi : i < n
    · exact k3 i hi
    · rw [getD_out (by omega)]; rfl
  · by_cases hi : i < n
    · exact k4 i hi
    · simp only [outP]; rw [getD_out (by omega), getD_out (by omega)]; rfl
theorem of_denB (rods : List Rod) (grow xs : List Int) : X.denB (valX (fnB rods grow) xs) ofX = decide (OfL rods grow [xs.getD 2 0, xs.getD 4 0, xs.getD 5 0, xs.getD 6 0, xs.getD 7 0, xs.getD 8 0, xs.getD 10 0, xs.getD 11 0, xs.getD 12 0, xs.getD 13 0, xs.getD 14 0, xs.getD 15 0]) := i2b_b2i _
theorem rodB_ok {rods : List Rod} {grow xs : List Int} (hall : AllOk rods grow) (i : Nat) (l : List X) (h : AllB (valX (fnB rods grow) xs) l) : AllB (valX (fnB rods grow) xs) (rodB i ++ l) := by
  have h2 := hall.2 i
  simp only [outP, Bool.or_eq_false_iff, decide_eq_false_iff_not] at h2
  refine ⟨?_, ?_, h⟩
  · simp only [le, ap, lit, X.dB_le, leB_t, X.den_app, X.sem_cons, X.sem_nil, X.den_lit, valX_fn]
    show (rods.getD i d0).2.1 ≤ grow.getD i 0
    omega
  · simp only [le, ap, lit, X.dB_le, leB_t, X.den_app, X.sem_cons, X.sem_nil, X.den_lit, valX_fn]
    show grow.getD i 0 ≤ (rods.getD i d0).2.2.1
    omega
theorem allB_append {ρ : Val} {l k : List X} (h : AllB ρ l) (h2 : AllB ρ k) : AllB ρ (l ++ k) := by
  induction l with
  | nil => exact h2
  | cons a l ih => exact ⟨h.1, ih h.2⟩
theorem rodsB_ok {rods : List Rod} {grow xs : List Int} (hall : AllOk rods grow) : ∀ l : List Nat, AllB (valX (fnB rods grow) xs) (l.flatMap rodB)
  | [] => trivial
  | i :: l => by rw [List.flatMap_cons]; exact rodB_ok hall i _ (rodsB_ok hall l)
theorem preB_ok {rods : List Rod} {grow xs : List Int} {n : Nat} (h2 : xs.getD 2 0 = n) (h8 : xs.getD 8 0 = n) (he : errX.den (valX (fnB rods grow) xs) = 0) (hg : Good (valX (fnB rods grow) xs)) (ho : OfP (valX (fnB rods grow) xs)) : AllB (valX (fnB rods grow) xs) (preB n) := by
  rw [good_iff] at hg
  rw [of_iff] at ho
  simp only [preB, AllB, le, lt, eq, v, lit, ap, X.dB_lt, X.dB_le, X.dB_eq, leB_t, ltB_t, eqB_t, X.den_var, X.den_lit, X.den_app, X.sem_cons, X.sem_nil, valX_fn, valX_v, and_true] at hg ho ⊢
  (repeat' (first | apply And.intro | intro _))
  all_goals first | exact he | omega
theorem law_all {rods : List Rod} {grow : List Int} {a : List AV} {H : Hp} {nx : Nat} {xs : List Int} {ns : List Nat} {es : List Bool}
    (hfl : FlRs (valX (fnB rods grow) []) H [clkSh, truSh] a xs ns es) (hr : xs.getD 2 0 = rods.length) (hg : xs.getD 8 0 = grow.length) : CallOk Try.prog 3 a H nx (.bool true) H nx := by
  by_cases c1 : 12 < xs.getD 2 0
  · exact law_at (lawL1 rods grow) hfl (by ( simp only [OT.vc, LT.vc, OT.is, AllB, RgB, inR, nthR, idsF, fsOf, List.drop, List.flatMap_cons, List.flatMap_nil, List.append_nil, List.getElem?_cons_zero, List.getElem?_cons_succ, rwFs, rwF, List.nil_append, List.cons_append, mix_v, mix_fn, upd_fn, upd_nil, upd_cons, X.one, X.isL, cond_false, valX_fn, valX_v, setM_v, List.mem_cons, List.not_mem_nil, or_false, false_or, or_true, true_or, if_true, if_false, ite_true, ite_false, Nat.reduceEqDiff, SV.den, AV.int.injEq, AV.bool.injEq, true_and, and_true, X.dB_lt, X.dB_le, X.dB_eq, X.denB_and, X.denB_or, X.denB_not, X.denB_lit0, X.denB_lit1, X.den_lit, X.den_var, X.den_add, X.den_sub, X.den_mul, X.den_app, X.den_ite, X.den_wrap, X.dB_ite, cond_tf, X.denB_app, X.denB_var, X.sem_cons, X.sem_nil, leB_t, ltB_t, eqB_t, leB_f, ltB_f, eqB_f, Bool.and_eq_true, Bool.or_eq_true, Bool.not_eq_true', Bool.and_eq_false_iff, Bool.or_eq_false_iff, Bool.not_eq_false', lt, v, lit] at *); exact c1)
  by_cases c2 : 12 < xs.getD 8 0
  · exact law_at (lawL2 rods grow) hfl (by ( simp only [OT.vc, LT.vc, OT.is, AllB, RgB, inR, nthR, idsF, fsOf, List.drop, List.flatMap_cons, List.flatMap_nil, List.append_nil, List.getElem?_cons_zero, List.getElem?_cons_succ, rwFs, rwF, List.nil_append, List.cons_append, mix_v, mix_fn, upd_fn, upd_nil, upd_cons, X.one, X.isL, cond_false, valX_fn, valX_v, setM_v, List.mem_cons, List.not_mem_nil, or_false, false_or, or_true, true_or, if_true, if_false, ite_true, ite_false, Nat.reduceEqDiff, SV.den, AV.int.injEq, AV.bool.injEq, true_and, and_true, X.dB_lt, X.dB_le, X.dB_eq, X.denB_and, X.denB_or, X.denB_not, X.denB_lit0, X.denB_lit1, X.den_lit, X.den_var, X.den_add, X.den_sub, X.den_mul, X.den_app, X.den_ite, X.den_wrap, X.dB_ite, cond_tf, X.denB_app, X.denB_var, X.sem_cons, X.sem_nil, leB_t, ltB_t, eqB_t, leB_f, ltB_f, eqB_f, Bool.and_eq_true, Bool.or_eq_true, Bool.not_eq_true', Bool.and_eq_false_iff, Bool.or_eq_false_iff, Bool.not_eq_false', le, lt, v, lit] at *); omega)
  by_cases c0 : xs.getD 2 0 = 0
  · exact law_at (lawZ rods grow) hfl (by ( simp only [OT.vc, LT.vc, OT.is, AllB, RgB, inR, nthR, idsF, fsOf, List.drop, List.flatMap_cons, List.flatMap_nil, List.append_nil, List.getElem?_cons_zero, List.getElem?_cons_succ, rwFs, rwF, List.nil_append, List.cons_append, mix_v, mix_fn, upd_fn, upd_nil, upd_cons, X.one, X.isL, cond_false, valX_fn, valX_v, setM_v, List.mem_cons, List.not_mem_nil, or_false, false_or, or_true, true_or, if_true, if_false, ite_true, ite_false, Nat.reduceEqDiff, SV.den, AV.int.injEq, AV.bool.injEq, true_and, and_true, X.dB_lt, X.dB_le, X.dB_eq, X.denB_and, X.denB_or, X.denB_not, X.denB_lit0, X.denB_lit1, X.den_lit, X.den_var, X.den_add, X.den_sub, X.den_mul, X.den_app, X.den_ite, X.den_wrap, X.dB_ite, cond_tf, X.denB_app, X.denB_var, X.sem_cons, X.sem_nil, leB_t, ltB_t, eqB_t, leB_f, ltB_f, eqB_f, Bool.and_eq_true, Bool.or_eq_true, Bool.not_eq_true', Bool.and_eq_false_iff, Bool.or_eq_false_iff, Bool.not_eq_false', in12, le, lt, eq, v, lit] at *); omega)
  by_cases ce : errX.den (valX (fnB rods grow) xs) = 0
  · have ce2 := ce
    rw [err_at] at ce2
    by_cases c8 : 8 < xs.getD 2 0
    · rw [if_pos c8] at ce2; omega
    rw [if_neg c8] at ce2
    by_cases hgd : Good (valX (fnB rods grow) xs)
    · by_cases hof : OfP (valX (fnB rods grow) xs)
      · have hod : X.denB (valX (fnB rods grow) xs) ofX = true := by rw [of_denB]; exact decide_eq_true ((of_at rods grow xs).1 hof)
        have hgd2 := hgd
        have hof2 := hof
        rw [good_iff] at hgd2
        rw [of_iff] at hof2
        have hm : xs.getD 8 0 = xs.getD 2 0 := hof2.1
        have hall : AllOk rods grow := all_ok (n := rods.length) rfl (by omega) (by
          have := hgd2.1
          rw [show ((valX (fnB rods grow) xs).v 2) = xs.getD 2 0 from rfl, show (valX (fnB rods grow) xs).fn = fnB rods grow from rfl, f12_at rods grow (by omega), hr] at this
          simpa using this) (by
          have := hof2.2.1
          rw [show ((valX (fnB rods grow) xs).v 2) = xs.getD 2 0 from rfl, show (valX (fnB rods grow) xs).fn = fnB rods grow from rfl, f14_at rods grow (by omega), hr] at this
          simpa using this)
        have key : ∀ n : Nat, xs.getD 2 0 = n → AllB (valX (fnB rods grow) xs) (in12 ++ (preB n ++ ((List.range n).flatMap rodB ++ [ofX]))) := fun n hn =>
          allB_append (by ( simp only [OT.vc, LT.vc, OT.is, AllB, RgB, inR, nthR, idsF, fsOf, List.drop, List.flatMap_cons, List.flatMap_nil, List.append_nil, List.getElem?_cons_zero, List.getElem?_cons_succ, rwFs, rwF, List.nil_append, List.cons_append, mix_v, mix_fn, upd_fn, upd_nil, upd_cons, X.one, X.isL, cond_false, valX_fn, valX_v, setM_v, List.mem_cons, List.not_mem_nil, or_false, false_or, or_true, true_or, if_true, if_false, ite_true, ite_false, Nat.reduceEqDiff, SV.den, AV.int.injEq, AV.bool.injEq, true_and, and_true, X.dB_lt, X.dB_le, X.dB_eq, X.denB_and, X.denB_or, X.denB_not, X.denB_lit0, X.denB_lit1, X.den_lit, X.den_var, X.den_add, X.den_sub, X.den_mul, X.den_app, X.den_ite, X.den_wrap, X.dB_ite, cond_tf, X.denB_app, X.denB_var, X.sem_cons, X.sem_nil, leB_t, ltB_t, eqB_t, leB_f, ltB_f, eqB_f, Bool.and_eq_true, Bool.or_eq_true, Bool.not_eq_true', Bool.and_eq_false_iff, Bool.or_eq_false_iff, Bool.not_eq_false', in12, le, v, lit] at *); omega) (allB_append (preB_ok hn (by omega) ce hgd hof) (allB_append (rodsB_ok hall _) ⟨hod, trivial⟩))
        have cases8 : xs.getD 2 0 = 1 ∨ xs.getD 2 0 = 2 ∨ xs.getD 2 0 = 3 ∨ xs.getD 2 0 = 4 ∨ xs.getD 2 0 = 5 ∨ xs.getD 2 0 = 6 ∨ xs.getD 2 0 = 7 ∨ xs.getD 2 0 = 8 := by omega
        rcases cases8 with c | c | c | c | c | c | c | c
        · exact law_at (lawB1 hall) hfl (key 1 c)
        · exact law_at (lawB2 hall) hfl (key 2 c)
        · exact law_at (lawB3 hall) hfl (key 3 c)
        · exact law_at (lawB4 hall) hfl (key 4 c)
        · exact law_at (lawB5 hall) hfl (key 5 c)
        · exact law_at (lawB6 hall) hfl (key 6 c)
        · exact law_at (lawB7 hall) hfl (key 7 c)
        · exact law_at (lawB8 hall) hfl (key 8 c)
      · have hod : X.denB (valX (fnB rods grow) xs) (.not ofX) = true := by
          rw [X.denB_not, of_denB, decide_eq_false fun k => hof ((of_at rods grow xs).2 k)]; rfl
        have hed : X.denB (valX (fnB rods grow) xs) (eq errX (lit 0)) = true := by
          simp only [eq, lit, X.dB_eq, eqB_t, X.den_lit]; exact ce
        by_cases hm : xs.getD 8 0 = xs.getD 2 0
        · have key : ∀ n : Nat, xs.getD 2 0 = n → AllB (valX (fnB rods grow) xs) (in12 ++ [eq (v 2) (lit n), eq (v 8) (lit n), eq errX (lit 0), .not ofX]) := fun n hn =>
            allB_append (by ( simp only [OT.vc, LT.vc, OT.is, AllB, RgB, inR, nthR, idsF, fsOf, List.drop, List.flatMap_cons, List.flatMap_nil, List.append_nil, List.getElem?_cons_zero, List.getElem?_cons_succ, rwFs, rwF, List.nil_append, List.cons_append, mix_v, mix_fn, upd_fn, upd_nil, upd_cons, X.one, X.isL, cond_false, valX_fn, valX_v, setM_v, List.mem_cons, List.not_mem_nil, or_false, false_or, or_true, true_or, if_true, if_false, ite_true, ite_false, Nat.reduceEqDiff, SV.den, AV.int.injEq, AV.bool.injEq, true_and, and_true, X.dB_lt, X.dB_le, X.dB_eq, X.denB_and, X.denB_or, X.denB_not, X.denB_lit0, X.denB_lit1, X.den_lit, X.den_var, X.den_add, X.den_sub, X.den_mul, X.den_app, X.den_ite, X.den_wrap, X.dB_ite, cond_tf, X.denB_app, X.denB_var, X.sem_cons, X.sem_nil, leB_t, ltB_t, eqB_t, leB_f, ltB_f, eqB_f, Bool.and_eq_true, Bool.or_eq_true, Bool.not_eq_true', Bool.and_eq_false_iff, Bool.or_eq_false_iff, Bool.not_eq_false', in12, le, v, lit] at *); omega) ⟨by simp only [eq, v, lit, X.dB_eq, eqB_t, X.den_lit, X.den_var, valX_v]; exact hn, by simp only [eq, v, lit, X.dB_eq, eqB_t, X.den_lit, X.den_var, valX_v]; omega, hed, hod, trivial⟩
          have cases8 : xs.getD 2 0 = 1 ∨ xs.getD 2 0 = 2 ∨ xs.getD 2 0 = 3 ∨ xs.getD 2 0 = 4 ∨ xs.getD 2 0 = 5 ∨ xs.getD 2 0 = 6 ∨ xs.getD 2 0 = 7 ∨ xs.getD 2 0 = 8 := by omega
          rcases cases8 with c | c | c | c | c | c | c | c
          · exact law_at (lawN1 rods grow) hfl (key 1 c)
          · exact law_at (lawN2 rods grow) hfl (key 2 c)
          · exact law_at (lawN3 rods grow) hfl (key 3 c)
          · exact law_at (lawN4 rods grow) hfl (key 4 c)
          · exact law_at (lawN5 rods grow) hfl (key 5 c)
          · exact law_at (lawN6 rods grow) hfl (key 6 c)
          · exact law_at (lawN7 rods grow) hfl (key 7 c)
          · exact law_at (lawN8 rods grow) hfl (key 8 c)
        · exact law_at (lawM rods grow) hfl (allB_append (by ( simp only [OT.vc, LT.vc, OT.is, AllB, RgB, inR, nthR, idsF, fsOf, List.drop, List.flatMap_cons, List.flatMap_nil, List.append_nil, List.getElem?_cons_zero, List.getElem?_cons_succ, rwFs, rwF, List.nil_append, List.cons_append, mix_v, mix_fn, upd_fn, upd_nil, upd_cons, X.one, X.isL, cond_false, valX_fn, valX_v, setM_v, List.mem_cons, List.not_mem_nil, or_false, false_or, or_true, true_or, if_true, if_false, ite_true, ite_false, Nat.reduceEqDiff, SV.den, AV.int.injEq, AV.bool.injEq, true_and, and_true, X.dB_lt, X.dB_le, X.dB_eq, X.denB_and, X.denB_or, X.denB_not, X.denB_lit0, X.denB_lit1, X.den_lit, X.den_var, X.den_add, X.den_sub, X.den_mul, X.den_app, X.den_ite, X.den_wrap, X.dB_ite, cond_tf, X.denB_app, X.denB_var, X.sem_cons, X.sem_nil, leB_t, ltB_t, eqB_t, leB_f, ltB_f, eqB_f, Bool.and_eq_true, Bool.or_eq_true, Bool.not_eq_true', Bool.and_eq_false_iff, Bool.or_eq_false_iff, Bool.not_eq_false', in12, le, v, lit] at *); omega) ⟨by simp only [le, v, lit, X.dB_le, leB_t, X.den_lit, X.den_var, valX_v]; omega, by simp only [le, v, lit, X.dB_le, leB_t, X.den_lit, X.den_var, valX_v]; omega, hed, by simp only [eq, v, X.denB_not, Bool.not_eq_true', X.dB_eq, eqB_f, X.den_var, valX_v]; exact hm, hod, trivial⟩)
    · rw [if_neg hgd] at ce2; omega
  · exact law_at (lawE rods grow) hfl (allB_append (by ( simp only [OT.vc, LT.vc, OT.is, AllB, RgB, inR, nthR, idsF, fsOf, List.drop, List.flatMap_cons, List.flatMap_nil, List.append_nil, List.getElem?_cons_zero, List.getElem?_cons_succ, rwFs, rwF, List.nil_append, List.cons_append, mix_v, mix_fn, upd_fn, upd_nil, upd_cons, X.one, X.isL, cond_false, valX_fn, valX_v, setM_v, List.mem_cons, List.not_mem_nil, or_false, false_or, or_true, true_or, if_true, if_false, ite_true, ite_false, Nat.reduceEqDiff, SV.den, AV.int.injEq, AV.bool.injEq, true_and, and_true, X.dB_lt, X.dB_le, X.dB_eq, X.denB_and, X.denB_or, X.denB_not, X.denB_lit0, X.denB_lit1, X.den_lit, X.den_var, X.den_add, X.den_sub, X.den_mul, X.den_app, X.den_ite, X.den_wrap, X.dB_ite, cond_tf, X.denB_app, X.denB_var, X.sem_cons, X.sem_nil, leB_t, ltB_t, eqB_t, leB_f, ltB_f, eqB_f, Bool.and_eq_true, Bool.or_eq_true, Bool.not_eq_true', Bool.and_eq_false_iff, Bool.or_eq_false_iff, Bool.not_eq_false', in12, le, v, lit] at *); omega) ⟨by simp only [le, v, lit, X.dB_le, leB_t, X.den_lit, X.den_var, valX_v]; omega, by simp only [eq, lit, X.denB_not, Bool.not_eq_true', X.dB_eq, eqB_f, X.den_lit]; exact ce, trivial⟩)
end Be
end Go.Proofs.Ytocjbjnfpldgcaa

/- BeatExacts: the law, for slices that have no room. -/
namespace Go.Proofs.Ytocjbjnfpldgcaa
open Abs Sx
set_option maxRecDepth 100000
namespace Be
def cA (r : SV) : SV := .agg [.int .i64 (v 0), .int .i64 (v 1), r, .int .i64 (v 4), .int .i64 (v 5), .int .i64 (v 6), .int .i64 (v 7)]
def tA (g : SV) : SV := .agg [g, .int .i64 (v 10), .int .i64 (v 11), .int .i64 (v 12), .int .i64 (v 13), .int .i64 (v 14), .int .i64 (v 15)]
def fr (n e : Nat) : SV := .slice n 0 (lit 0) (lit 0) (lit 0) e true
def rS (e : Bool) : SV := .slice 0 0 (lit 0) (v 2) (v 3) 4 e
def gS (e : Bool) : SV := .slice 0 0 (lit 0) (v 8) (v 9) 1 e
def HN : SH := ⟨tplT [], [], 0⟩
def HG : SH := ⟨tplT [(0, .row false (v 8) .nil cmG)], [], 0⟩
def HR : SH := ⟨tplT [(0, .row false (v 2) .nil cmR)], [], 0⟩
def g3 : Nat := 3
def lK : List Pr := [pKnown]
def lC : List Pr := [pChk, pSpan, rChk, pSame, pKnown]
def rw2 : List X := [le (lit 0) (v 2), le (lit 0) (v 3), le (v 2) (v 3)]
def rw8 : List X := [le (lit 0) (v 8), le (lit 0) (v 9), le (v 8) (v 9)]
theorem R0_all (fn : Nat → List Int → Int) (xs : List Int) : R0.ok (valX fn xs) := ⟨fun i => by cases i <;> trivial, fun i l => by cases i <;> trivial⟩
theorem run_at {rods : List Rod} {grow xs : List Int} {l : List Pr} {fs : List X} {args : List SV} {H : SH} {nx : Nat} (T : OT SV) (hl : PrsOk Try.prog (fnB rods grow) l) (hk : (ksOf R0 l g3).isNone = true) (hf : AllB (valX (fnB rods grow) xs) fs)
    (h : (exS Try.prog R0 (ksOf R0 l) 200 fs (.call g3 args H nx)).map retV = T) (k : OT.vc (valX (fnB rods grow) xs) (fun v => v.den (valX (fnB rods grow) xs) = .bool true) T) :
    CallH Try.prog g3 (SV.dens (valX (fnB rods grow) xs) args) (hD (valX (fnB rods grow) xs) H) nx (fun v _ _ => v = .bool true) :=
  call_ex (V := fun v => v = .bool true) prog_ok (R0_all _ _) (ctsOf_has l hl rfl (R0_all _ _)) (allB_fcs hf) hk h k
theorem lK_ok (fn : Nat → List Int → Int) : PrsOk Try.prog fn lK := ⟨pKnown_ok _, trivial⟩
theorem lC_ok (rods : List Rod) (grow : List Int) : PrsOk Try.prog (fnB rods grow) lC := ⟨pChk_ok _ _, pSpan_ok _, rChk_ok _ _, pSame_ok _, pKnown_ok _, trivial⟩
theorem runNN (rods : List Rod) (grow xs : List Int)  : CallH Try.prog g3 (SV.dens (valX (fnB rods grow) xs) [cA .nils, tA .nils]) (hD (valX (fnB rods grow) xs) HN) 0 (fun v _ _ => v = .bool true) := by
  refine run_at (l := lK) (fs := []) (.leaf (.bool (.lit 1))) (lK_ok _) rfl trivial ?h1 ?_
  case h1 => kernel_rfl
  simp only [OT.vc]
  (repeat' (first | apply And.intro | intro _))
  all_goals rfl
theorem runNF (rods : List Rod) (grow xs : List Int)  : CallH Try.prog g3 (SV.dens (valX (fnB rods grow) xs) [cA .nils, tA (fr 9 1)]) (hD (valX (fnB rods grow) xs) HN) 0 (fun v _ _ => v = .bool true) := by
  refine run_at (l := lK) (fs := []) (.leaf (.bool (.lit 1))) (lK_ok _) rfl trivial ?h1 ?_
  case h1 => kernel_rfl
  simp only [OT.vc]
  (repeat' (first | apply And.intro | intro _))
  all_goals rfl
theorem runFN (rods : List Rod) (grow xs : List Int)  : CallH Try.prog g3 (SV.dens (valX (fnB rods grow) xs) [cA (fr 9 4), tA .nils]) (hD (valX (fnB rods grow) xs) HN) 0 (fun v _ _ => v = .bool true) := by
  refine run_at (l := lK) (fs := []) (.leaf (.bool (.lit 1))) (lK_ok _) rfl trivial ?h1 ?_
  case h1 => kernel_rfl
  simp only [OT.vc]
  (repeat' (first | apply And.intro | intro _))
  all_goals rfl
theorem runFF (rods : List Rod) (grow xs : List Int)  : CallH Try.prog g3 (SV.dens (valX (fnB rods grow) xs) [cA (fr 9 4), tA (fr 9 1)]) (hD (valX (fnB rods grow) xs) HN) 0 (fun v _ _ => v = .bool true) := by
  refine run_at (l := lK) (fs := []) (.leaf (.bool (.lit 1))) (lK_ok _) rfl trivial ?h1 ?_
  case h1 => kernel_rfl
  simp only [OT.vc]
  (repeat' (first | apply And.intro | intro _))
  all_goals rfl
theorem runNRt (rods : List Rod) (grow xs : List Int) (h : AllB (valX (fnB rods grow) xs) (rw8)) : CallH Try.prog g3 (SV.dens (valX (fnB rods grow) xs) [cA .nils, tA (gS true)]) (hD (valX (fnB rods grow) xs) HG) 1 (fun v _ _ => v = .bool true) := by
  refine run_at (l := lK) (fs := rw8) (.ask (.bin .lt (.lit 12) (.var 8)) (.leaf (.bool (.lit 1))) (.leaf (.bool (.lit 1)))) (lK_ok _) rfl h ?h1 ?_
  case h1 => kernel_rfl
  simp only [OT.vc]
  (repeat' (first | apply And.intro | intro _))
  all_goals rfl
theorem runFRt (rods : List Rod) (grow xs : List Int) (h : AllB (valX (fnB rods grow) xs) (rw8)) : CallH Try.prog g3 (SV.dens (valX (fnB rods grow) xs) [cA (fr 9 4), tA (gS true)]) (hD (valX (fnB rods grow) xs) HG) 1 (fun v _ _ => v = .bool true) := by
  refine run_at (l := lK) (fs := rw8) (.ask (.bin .lt (.lit 12) (.var 8)) (.leaf (.bool (.lit 1))) (.leaf (.bool (.lit 1)))) (lK_ok _) rfl h ?h1 ?_
  case h1 => kernel_rfl
  simp only [OT.vc]
  (repeat' (first | apply And.intro | intro _))
  all_goals rfl
theorem runRNLt (rods : List Rod) (grow xs : List Int) (h : AllB (valX (fnB rods grow) xs) (rw2 ++ [lt (lit 12) (v 2)])) : CallH Try.prog g3 (SV.dens (valX (fnB rods grow) xs) [cA (rS true), tA .nils]) (hD (valX (fnB rods grow) xs) HR) 1 (fun v _ _ => v = .bool true) := by
  refine run_at (l := lK) (fs := rw2 ++ [lt (lit 12) (v 2)]) (.leaf (.bool (.lit 1))) (lK_ok _) rfl h ?h1 ?_
  case h1 => kernel_rfl
  simp only [OT.vc]
  (repeat' (first | apply And.intro | intro _))
  all_goals rfl
theorem runRNZt (rods : List Rod) (grow xs : List Int) (h : AllB (valX (fnB rods grow) xs) (rw2 ++ [eq (v 2) (lit 0)])) : CallH Try.prog g3 (SV.dens (valX (fnB rods grow) xs) [cA (rS true), tA .nils]) (hD (valX (fnB rods grow) xs) HR) 1 (fun v _ _ => v = .bool true) := by
  refine run_at (l := lK) (fs := rw2 ++ [eq (v 2) (lit 0)]) (.leaf (.bool (.lit 1))) (lK_ok _) rfl h ?h1 ?_
  case h1 => kernel_rfl
  simp only [OT.vc]
  (repeat' (first | apply And.intro | intro _))
  all_goals rfl
theorem runRNEt (rods : List Rod) (grow xs : List Int) (h : AllB (valX (fnB rods grow) xs) (rw2 ++ [le (v 2) (lit 12), le (lit 1) (v 2), .not (eq errX (lit 0))])) : CallH Try.prog g3 (SV.dens (valX (fnB rods grow) xs) [cA (rS true), tA .nils]) (hD (valX (fnB rods grow) xs) HR) 1 (fun v _ _ => v = .bool true) := by
  refine run_at (l := lC) (fs := rw2 ++ [le (v 2) (lit 12), le (lit 1) (v 2), .not (eq errX (lit 0))]) (.leaf (.bool (.lit 1))) (lC_ok _ _) rfl h ?h1 ?_
  case h1 => kernel_rfl
  simp only [OT.vc]
  (repeat' (first | apply And.intro | intro _))
  all_goals rfl
theorem runRNMt (rods : List Rod) (grow xs : List Int) (h : AllB (valX (fnB rods grow) xs) (rw2 ++ [le (v 2) (lit 8), le (lit 1) (v 2), eq errX (lit 0)])) : CallH Try.prog g3 (SV.dens (valX (fnB rods grow) xs) [cA (rS true), tA .nils]) (hD (valX (fnB rods grow) xs) HR) 1 (fun v _ _ => v = .bool true) := by
  refine run_at (l := lC) (fs := rw2 ++ [le (v 2) (lit 8), le (lit 1) (v 2), eq errX (lit 0)]) (.ask (.bin .lt (.lit 1) (.var 2)) (.ask (.bin .lt (.lit 2) (.var 2)) (.ask (.bin .lt (.lit 3) (.var 2)) (.ask (.bin .lt (.lit 4) (.var 2)) (.ask (.bin .lt (.lit 5) (.var 2)) (.ask (.bin .lt (.lit 6) (.var 2)) (.ask (.bin .lt (.lit 7) (.var 2)) (.leaf (.bool (.lit 1))) (.leaf (.bool (.lit 1)))) (.leaf (.bool (.lit 1)))) (.leaf (.bool (.lit 1)))) (.leaf (.bool (.lit 1)))) (.leaf (.bool (.lit 1)))) (.leaf (.bool (.lit 1)))) (.leaf (.bool (.lit 1)))) (lC_ok _ _) rfl h ?h1 ?_
  case h1 => kernel_rfl
  simp only [OT.vc]
  (repeat' (first | apply And.intro | intro _))
  all_goals rfl
theorem runRFLt (rods : List Rod) (grow xs : List Int) (h : AllB (valX (fnB rods grow) xs) (rw2 ++ [lt (lit 12) (v 2)])) : CallH Try.prog g3 (SV.dens (valX (fnB rods grow) xs) [cA (rS true), tA (fr 9 1)]) (hD (valX (fnB rods grow) xs) HR) 1 (fun v _ _ => v = .bool true) := by
  refine run_at (l := lK) (fs := rw2 ++ [lt (lit 12) (v 2)]) (.leaf (.bool (.lit 1))) (lK_ok _) rfl h ?h1 ?_
  case h1 => kernel_rfl
  simp only [OT.vc]
  (repeat' (first | apply And.intro | intro _))
  all_goals rfl
theorem runRFZt (rods : List Rod) (grow xs : List Int) (h : AllB (valX (fnB rods grow) xs) (rw2 ++ [eq (v 2) (lit 0)])) : CallH Try.prog g3 (SV.dens (valX (fnB rods grow) xs) [cA (rS true), tA (fr 9 1)]) (hD (valX (fnB rods grow) xs) HR) 1 (fun v _ _ => v = .bool true) := by
  refine run_at (l := lK) (fs := rw2 ++ [eq (v 2) (lit 0)]) (.leaf (.bool (.lit 1))) (lK_ok _) rfl h ?h1 ?_
  case h1 => kernel_rfl
  simp only [OT.vc]
  (repeat' (first | apply And.intro | intro _))
  all_goals rfl
theorem runRFEt (rods : List Rod) (grow xs : List Int) (h : AllB (valX (fnB rods grow) xs) (rw2 ++ [le (v 2) (lit 12), le (lit 1) (v 2), .not (eq errX (lit 0))])) : CallH Try.prog g3 (SV.dens (valX (fnB rods grow) xs) [cA (rS true), tA (fr 9 1)]) (hD (valX (fnB rods grow) xs) HR) 1 (fun v _ _ => v = .bool true) := by
  refine run_at (l := lC) (fs := rw2 ++ [le (v 2) (lit 12), le (lit 1) (v 2), .not (eq errX (lit 0))]) (.leaf (.bool (.lit 1))) (lC_ok _ _) rfl h ?h1 ?_
  case h1 => kernel_rfl
  simp only [OT.vc]
  (repeat' (first | apply And.intro | intro _))
  all_goals rfl
theorem runRFMt (rods : List Rod) (grow xs : List Int) (h : AllB (valX (fnB rods grow) xs) (rw2 ++ [le (v 2) (lit 8), le (lit 1) (v 2), eq errX (lit 0)])) : CallH Try.prog g3 (SV.dens (valX (fnB rods grow) xs) [cA (rS true), tA (fr 9 1)]) (hD (valX (fnB rods grow) xs) HR) 1 (fun v _ _ => v = .bool true) := by
  refine run_at (l := lC) (fs := rw2 ++ [le (v 2) (lit 8), le (lit 1) (v 2), eq errX (lit 0)]) (.ask (.bin .lt (.lit 1) (.var 2)) (.ask (.bin .lt (.lit 2) (.var 2)) (.ask (.bin .lt (.lit 3) (.var 2)) (.ask (.bin .lt (.lit 4) (.var 2)) (.ask (.bin .lt (.lit 5) (.var 2)) (.ask (.bin .lt (.lit 6) (.var 2)) (.ask (.bin .lt (.lit 7) (.var 2)) (.leaf (.bool (.lit 1))) (.leaf (.bool (.lit 1)))) (.leaf (.bool (.lit 1)))) (.leaf (.bool (.lit 1)))) (.leaf (.bool (.lit 1)))) (.leaf (.bool (.lit 1)))) (.leaf (.bool (.lit 1)))) (.leaf (.bool (.lit 1)))) (lC_ok _ _) rfl h ?h1 ?_
  case h1 => kernel_rfl
  simp only [OT.vc]
  (repeat' (first | apply And.intro | intro _))
  all_goals rfl
theorem runNRf (rods : List Rod) (grow xs : List Int) (h : AllB (valX (fnB rods grow) xs) (rw8)) : CallH Try.prog g3 (SV.dens (valX (fnB rods grow) xs) [cA .nils, tA (gS false)]) (hD (valX (fnB rods grow) xs) HG) 1 (fun v _ _ => v = .bool true) := by
  refine run_at (l := lK) (fs := rw8) (.ask (.bin .lt (.lit 12) (.var 8)) (.leaf (.bool (.lit 1))) (.leaf (.bool (.lit 1)))) (lK_ok _) rfl h ?h1 ?_
  case h1 => kernel_rfl
  simp only [OT.vc]
  (repeat' (first | apply And.intro | intro _))
  all_goals rfl
theorem runFRf (rods : List Rod) (grow xs : List Int) (h : AllB (valX (fnB rods grow) xs) (rw8)) : CallH Try.prog g3 (SV.dens (valX (fnB rods grow) xs) [cA (fr 9 4), tA (gS false)]) (hD (valX (fnB rods grow) xs) HG) 1 (fun v _ _ => v = .bool true) := by
  refine run_at (l := lK) (fs := rw8) (.ask (.bin .lt (.lit 12) (.var 8)) (.leaf (.bool (.lit 1))) (.leaf (.bool (.lit 1)))) (lK_ok _) rfl h ?h1 ?_
  case h1 => kernel_rfl
  simp only [OT.vc]
  (repeat' (first | apply And.intro | intro _))
  all_goals rfl
theorem runRNLf (rods : List Rod) (grow xs : List Int) (h : AllB (valX (fnB rods grow) xs) (rw2 ++ [lt (lit 12) (v 2)])) : CallH Try.prog g3 (SV.dens (valX (fnB rods grow) xs) [cA (rS false), tA .nils]) (hD (valX (fnB rods grow) xs) HR) 1 (fun v _ _ => v = .bool true) := by
  refine run_at (l := lK) (fs := rw2 ++ [lt (lit 12) (v 2)]) (.leaf (.bool (.lit 1))) (lK_ok _) rfl h ?h1 ?_
  case h1 => kernel_rfl
  simp only [OT.vc]
  (repeat' (first | apply And.intro | intro _))
  all_goals rfl
theorem runRNZf (rods : List Rod) (grow xs : List Int) (h : AllB (valX (fnB rods grow) xs) (rw2 ++ [eq (v 2) (lit 0)])) : CallH Try.prog g3 (SV.dens (valX (fnB rods grow) xs) [cA (rS false), tA .nils]) (hD (valX (fnB rods grow) xs) HR) 1 (fun v _ _ => v = .bool true) := by
  refine run_at (l := lK) (fs := rw2 ++ [eq (v 2) (lit 0)]) (.leaf (.bool (.lit 1))) (lK_ok _) rfl h ?h1 ?_
  case h1 => kernel_rfl
  simp only [OT.vc]
  (repeat' (first | apply And.intro | intro _))
  all_goals rfl
theorem runRNEf (rods : List Rod) (grow xs : List Int) (h : AllB (valX (fnB rods grow) xs) (rw2 ++ [le (v 2) (lit 12), le (lit 1) (v 2), .not (eq errX (lit 0))])) : CallH Try.prog g3 (SV.dens (valX (fnB rods grow) xs) [cA (rS false), tA .nils]) (hD (valX (fnB rods grow) xs) HR) 1 (fun v _ _ => v = .bool true) := by
  refine run_at (l := lC) (fs := rw2 ++ [le (v 2) (lit 12), le (lit 1) (v 2), .not (eq errX (lit 0))]) (.leaf (.bool (.lit 1))) (lC_ok _ _) rfl h ?h1 ?_
  case h1 => kernel_rfl
  simp only [OT.vc]
  (repeat' (first | apply And.intro | intro _))
  all_goals rfl
theorem runRNMf (rods : List Rod) (grow xs : List Int) (h : AllB (valX (fnB rods grow) xs) (rw2 ++ [le (v 2) (lit 8), le (lit 1) (v 2), eq errX (lit 0)])) : CallH Try.prog g3 (SV.dens (valX (fnB rods grow) xs) [cA (rS false), tA .nils]) (hD (valX (fnB rods grow) xs) HR) 1 (fun v _ _ => v = .bool true) := by
  refine run_at (l := lC) (fs := rw2 ++ [le (v 2) (lit 8), le (lit 1) (v 2), eq errX (lit 0)]) (.ask (.bin .lt (.lit 1) (.var 2)) (.ask (.bin .lt (.lit 2) (.var 2)) (.ask (.bin .lt (.lit 3) (.var 2)) (.ask (.bin .lt (.lit 4) (.var 2)) (.ask (.bin .lt (.lit 5) (.var 2)) (.ask (.bin .lt (.lit 6) (.var 2)) (.ask (.bin .lt (.lit 7) (.var 2)) (.leaf (.bool (.lit 1))) (.leaf (.bool (.lit 1)))) (.leaf (.bool (.lit 1)))) (.leaf (.bool (.lit 1)))) (.leaf (.bool (.lit 1)))) (.leaf (.bool (.lit 1)))) (.leaf (.bool (.lit 1)))) (.leaf (.bool (.lit 1)))) (lC_ok _ _) rfl h ?h1 ?_
  case h1 => kernel_rfl
  simp only [OT.vc]
  (repeat' (first | apply And.intro | intro _))
  all_goals rfl
theorem runRFLf (rods : List Rod) (grow xs : List Int) (h : AllB (valX (fnB rods grow) xs) (rw2 ++ [lt (lit 12) (v 2)])) : CallH Try.prog g3 (SV.dens (valX (fnB rods grow) xs) [cA (rS false), tA (fr 9 1)]) (hD (valX (fnB rods grow) xs) HR) 1 (fun v _ _ => v = .bool true) := by
  refine run_at (l := lK) (fs := rw2 ++ [lt (lit 12) (v 2)]) (.leaf (.bool (.lit 1))) (lK_ok _) rfl h ?h1 ?_
  case h1 => kernel_rfl
  simp only [OT.vc]
  (repeat' (first | apply And.intro | intro _))
  all_goals rfl
theorem runRFZf (rods : List Rod) (grow xs : List Int) (h : AllB (valX (fnB rods grow) xs) (rw2 ++ [eq (v 2) (lit 0)])) : CallH Try.prog g3 (SV.dens (valX (fnB rods grow) xs) [cA (rS false), tA (fr 9 1)]) (hD (valX (fnB rods grow) xs) HR) 1 (fun v _ _ => v = .bool true) := by
  refine run_at (l := lK) (fs := rw2 ++ [eq (v 2) (lit 0)]) (.leaf (.bool (.lit 1))) (lK_ok _) rfl h ?h1 ?_
  case h1 => kernel_rfl
  simp only [OT.vc]
  (repeat' (first | apply And.intro | intro _))
  all_goals rfl
theorem runRFEf (rods : List Rod) (grow xs : List Int) (h : AllB (valX (fnB rods grow) xs) (rw2 ++ [le (v 2) (lit 12), le (lit 1) (v 2), .not (eq errX (lit 0))])) : CallH Try.prog g3 (SV.dens (valX (fnB rods grow) xs) [cA (rS false), tA (fr 9 1)]) (hD (valX (fnB rods grow) xs) HR) 1 (fun v _ _ => v = .bool true) := by
  refine run_at (l := lC) (fs := rw2 ++ [le (v 2) (lit 12), le (lit 1) (v 2), .not (eq errX (lit 0))]) (.leaf (.bool (.lit 1))) (lC_ok _ _) rfl h ?h1 ?_
  case h1 => kernel_rfl
  simp only [OT.vc]
  (repeat' (first | apply And.intro | intro _))
  all_goals rfl
theorem runRFMf (rods : List Rod) (grow xs : List Int) (h : AllB (valX (fnB rods grow) xs) (rw2 ++ [le (v 2) (lit 8), le (lit 1) (v 2), eq errX (lit 0)])) : CallH Try.prog g3 (SV.dens (valX (fnB rods grow) xs) [cA (rS false), tA (fr 9 1)]) (hD (valX (fnB rods grow) xs) HR) 1 (fun v _ _ => v = .bool true) := by
  refine run_at (l := lC) (fs := rw2 ++ [le (v 2) (lit 8), le (lit 1) (v 2), eq errX (lit 0)]) (.ask (.bin .lt (.lit 1) (.var 2)) (.ask (.bin .lt (.lit 2) (.var 2)) (.ask (.bin .lt (.lit 3) (.var 2)) (.ask (.bin .lt (.lit 4) (.var 2)) (.ask (.bin .lt (.lit 5) (.var 2)) (.ask (.bin .lt (.lit 6) (.var 2)) (.ask (.bin .lt (.lit 7) (.var 2)) (.leaf (.bool (.lit 1))) (.leaf (.bool (.lit 1)))) (.leaf (.bool (.lit 1)))) (.leaf (.bool (.lit 1)))) (.leaf (.bool (.lit 1)))) (.leaf (.bool (.lit 1)))) (.leaf (.bool (.lit 1)))) (.leaf (.bool (.lit 1)))) (lC_ok _ _) rfl h ?h1 ?_
  case h1 => kernel_rfl
  simp only [OT.vc]
  (repeat' (first | apply And.intro | intro _))
  all_goals rfl
end Be
end Go.Proofs.Ytocjbjnfpldgcaa

/- BeatExacts: rows that came in, as lists. -/
namespace Go.Proofs.Ytocjbjnfpldgcaa
open Abs Sx
set_option maxRecDepth 100000
namespace Be
def rodC : List Rod → List AV
  | [] => []
  | r :: l => .int .i64 r.1 :: .int .i64 r.2.1 :: .int .i64 r.2.2.1 :: .bool r.2.2.2 :: rodC l
def growC : List Int → List AV
  | [] => []
  | g :: l => .int .i64 g :: growC l
theorem rods_of {m : NM} {W : World} : ∀ {len : Nat} {vs : List Value}, vs.length = len * 4 → (∀ i, i < len → LKs W 0 [.int .i64, .int .i64, .int .i64, .bool] ((vs.drop (i * 4)).take 4)) → ∃ l : List Rod, l.length = len ∧ VRs m (rodC l) vs
  | 0, vs, hl, _ => by simp at hl; subst hl; exact ⟨[], rfl, by simp [rodC, VRs]⟩
  | n + 1, vs, hl, h => by
    have h0 := h 0 (by omega)
    simp only [Nat.zero_mul, List.drop_zero, LKs, LKok] at h0
    obtain ⟨_, _, e, ⟨a, rfl, _⟩, _, _, rfl, ⟨b, rfl, _⟩, _, _, rfl, ⟨c, rfl, _⟩, _, _, rfl, ⟨d, rfl⟩, rfl⟩ := h0
    obtain ⟨l, h1, h2⟩ := rods_of (m := m) (W := W) (len := n) (vs := vs.drop 4) (by rw [List.length_drop, hl]; omega) (fun i hi => by
      have := h (i + 1) (by omega)
      rw [List.drop_drop]
      rwa [show 4 + i * 4 = (i + 1) * 4 by omega])
    refine ⟨(a, b, c, d) :: l, by simp [h1], ?_⟩
    rw [← List.take_append_drop 4 vs, e]
    show VRs m (AV.int .i64 a :: AV.int .i64 b :: AV.int .i64 c :: AV.bool d :: rodC l) _
    exact .cons (by simp only [VR]) (.cons (by simp only [VR]) (.cons (by simp only [VR]) (.cons (by simp only [VR]) h2)))
theorem grows_of {m : NM} {W : World} : ∀ {len : Nat} {vs : List Value}, vs.length = len * 1 → (∀ i, i < len → LKs W 0 [.int .i64] ((vs.drop (i * 1)).take 1)) → ∃ l : List Int, l.length = len ∧ VRs m (growC l) vs
  | 0, vs, hl, _ => by simp at hl; subst hl; exact ⟨[], rfl, by simp [growC, VRs]⟩
  | n + 1, vs, hl, h => by
    have h0 := h 0 (by omega)
    simp only [Nat.zero_mul, List.drop_zero, LKs, LKok] at h0
    obtain ⟨_, _, e, ⟨a, rfl, _⟩, rfl⟩ := h0
    obtain ⟨l, h1, h2⟩ := grows_of (m := m) (W := W) (len := n) (vs := vs.drop 1) (by rw [List.length_drop, hl]; omega) (fun i hi => by
      have := h (i + 1) (by omega)
      rw [List.drop_drop]
      rwa [show 1 + i * 1 = (i + 1) * 1 by omega])
    refine ⟨a :: l, by simp [h1], ?_⟩
    rw [← List.take_append_drop 1 vs, e]
    show VRs m (AV.int .i64 a :: growC l) _
    exact .cons (by simp only [VR]) h2
theorem rodC_row (rods : List Rod) (grow Z : List Int) : ∀ (n i : Nat), i + n = rods.length → rowD (valX (fnB rods grow) Z) cmR [] i n = rodC (rods.drop i)
  | 0, i, h => by rw [List.drop_eq_nil_of_le (by omega)]; rfl
  | n + 1, i, h => by
    have hi : i < rods.length := by omega
    rw [List.drop_eq_getElem_cons hi, rowD, rodC_row rods grow Z n (i + 1) (by omega)]
    have hg : rods[i] = rods.getD i d0 := by rw [List.getD_eq_getElem?_getD, List.getElem?_eq_getElem hi]; rfl
    rw [hg]
    show _ :: _ :: _ :: AV.bool (i2b (b2i (rods.getD i d0).2.2.2)) :: _ = _
    rw [i2b_b2i]; rfl
theorem growC_row (rods : List Rod) (grow Z : List Int) : ∀ (n i : Nat), i + n = grow.length → rowD (valX (fnB rods grow) Z) cmG [] i n = growC (grow.drop i)
  | 0, i, h => by rw [List.drop_eq_nil_of_le (by omega)]; rfl
  | n + 1, i, h => by
    have hi : i < grow.length := by omega
    rw [List.drop_eq_getElem_cons hi, rowD, growC_row rods grow Z n (i + 1) (by omega)]
    have hg : grow[i] = grow.getD i 0 := by rw [List.getD_eq_getElem?_getD, List.getElem?_eq_getElem hi]; rfl
    rw [hg]
    rfl
/-- Two rows. -/
def m2 (k j : Blk) : NM := fun n => match n with
  | 0 => some k
  | 1 => some j
  | _ => none
theorem m2_top (k j : Blk) : ∀ n, 2 ≤ n → m2 k j n = none := fun n h => by
  match n with
  | 0 => omega
  | 1 => omega
  | n + 2 => rfl
theorem rel_two {k j : Blk} {avs bvs : List AV} {c d : Array Value} {e f : TypeId} {fz gz : Nat × Nat} {pre vs rest pre2 vs2 rest2 : List Value} {W : World}
    (hb : W.heap[k.b]? = some (.cells c e fz)) (hc : c.toList = pre ++ (vs ++ rest)) (hp : pre.length = k.o) (hv : VRs (m2 k j) avs vs)
    (hb2 : W.heap[j.b]? = some (.cells d f gz)) (hc2 : d.toList = pre2 ++ (vs2 ++ rest2)) (hp2 : pre2.length = j.o) (hv2 : VRs (m2 k j) bvs vs2) :
    Rel (m2 k j) (⟨objs [(0, .cells false avs), (1, .cells false bvs)], [], 0⟩ : Hp) W := by
  have hg : ∀ n ob, (⟨objs [(0, .cells false avs), (1, .cells false bvs)], [], 0⟩ : Hp).get n = some ob → (n = 0 ∧ ob = .cells false avs) ∨ (n = 1 ∧ ob = .cells false bvs) := by
    intro n ob h
    rw [hget] at h
    simp only [objs, Tr.get_set] at h
    split at h
    · cases h; exact .inl ⟨by assumption, rfl⟩
    · split at h
      · cases h; exact .inr ⟨by assumption, rfl⟩
      · cases h
  constructor
  · intro n ob h
    rcases hg n ob h with ⟨rfl, rfl⟩ | ⟨rfl, rfl⟩
    · exact ⟨k, _, rfl, hb, c, e, fz, pre, vs, rest, rfl, hc, hp, hv, by simp⟩
    · exact ⟨j, _, rfl, hb2, d, f, gz, pre2, vs2, rest2, rfl, hc2, hp2, hv2, by simp⟩
  · intro i j oi oj ki kj gi gj _ _ hw _
    rcases hg i oi gi with ⟨rfl, rfl⟩ | ⟨rfl, rfl⟩ <;> cases hw
end Be
end Go.Proofs.Ytocjbjnfpldgcaa

/- BeatExacts over the machine: both rows there. -/
namespace Go.Proofs.Ytocjbjnfpldgcaa
open Abs Sx
set_option maxRecDepth 100000
namespace Be
section
variable {ρ : Val} {H : Hp}
theorem fl_nil : FlRs ρ H [] [] [] [] [] := ⟨rfl, rfl, rfl, rfl⟩
theorem fl_int {k : IntKind} {l : List Sh} {t : List AV} {y : List Int} {m : List Nat} {d : List Bool} (n : Int) (h : FlRs ρ H l t y m d) : FlRs ρ H (.int k :: l) (.int k n :: t) (n :: y) m d :=
  ⟨_, t, [n], y, [], m, [], d, rfl, ⟨n, rfl, rfl, rfl, rfl⟩, h, rfl, rfl, rfl⟩
theorem fl_row {cm : List Cmp} {l : List Sh} {t : List AV} {y : List Int} {m : List Nat} {d : List Bool} (n len cap : Nat) (ex w : Bool) (hg : H.get n = some (.cells w (rowD ρ cm [] 0 len))) (h : FlRs ρ H l t y m d) :
    FlRs ρ H (.row cm :: l) (.slice n 0 len cap cm.length ex :: t) ((len : Int) :: (cap : Int) :: y) (n :: m) (ex :: d) :=
  ⟨_, t, [(len : Int), (cap : Int)], y, [n], m, [ex], d, rfl, ⟨n, len, cap, ex, w, rfl, hg, rfl, rfl, rfl⟩, h, rfl, rfl, rfl⟩
theorem fl_agg {s ls : List Sh} {cs t : List AV} {x y : List Int} {n m : List Nat} {e d : List Bool} (h : FlRs ρ H s cs x n e) (k : FlRs ρ H ls t y m d) : FlRs ρ H (.agg s :: ls) (.agg cs :: t) (x ++ y) (n ++ m) (e ++ d) :=
  ⟨_, t, x, y, n, m, e, d, rfl, ⟨cs, rfl, h⟩, k, rfl, rfl, rfl⟩
end
def clkA (r : AV) (K B a b c d : Int) : AV := .agg [.int .i64 K, .int .i64 B, r, .int .i64 a, .int .i64 b, .int .i64 c, .int .i64 d]
def truA (g : AV) (A D H P R F : Int) : AV := .agg [g, .int .i64 A, .int .i64 D, .int .i64 H, .int .i64 P, .int .i64 R, .int .i64 F]
def hR2 (rods : List Rod) (grow : List Int) : Tr AObj := objs [(0, .cells false (rodC rods)), (1, .cells false (growC grow))]
theorem row_row (rods : List Rod) (grow : List Int) (cap cap2 : Nat) (K B a b c d A D H P R F : Int) :
    CallH Try.prog g3 [clkA (.slice 0 0 rods.length cap 4 true) K B a b c d, truA (.slice 1 0 grow.length cap2 1 true) A D H P R F] ⟨hR2 rods grow, [], 0⟩ 2 (fun v H' nx' => v = .bool true ∧ H' = ⟨hR2 rods grow, [], 0⟩ ∧ nx' = 2) := by
  refine callH_of_ok (law_all (rods := rods) (grow := grow) (xs := [K, B, rods.length, cap, a, b, c, d, grow.length, cap2, A, D, H, P, R, F]) (ns := [0, 1]) (es := [true, true]) ?_ rfl rfl)
  have h0 : (⟨hR2 rods grow, [], 0⟩ : Hp).get 0 = some (.cells false (rowD (valX (fnB rods grow) []) cmR [] 0 rods.length)) := by
    rw [rodC_row rods grow [] rods.length 0 (by omega)]; rfl
  have h1 : (⟨hR2 rods grow, [], 0⟩ : Hp).get 1 = some (.cells false (rowD (valX (fnB rods grow) []) cmG [] 0 grow.length)) := by
    rw [growC_row rods grow [] grow.length 0 (by omega), hget]; simp [hR2, objs, Tr.get_set]
  exact fl_agg (fl_int K (fl_int B (fl_row (cm := cmR) 0 rods.length cap true false h0 (fl_int a (fl_int b (fl_int c (fl_int d fl_nil)))))))
    (fl_agg (fl_row (cm := cmG) 1 grow.length cap2 true false h1 (fl_int A (fl_int D (fl_int H (fl_int P (fl_int R (fl_int F fl_nil))))))) fl_nil)
theorem bool_ren (nx : Nat) : ∀ v : AV, v = .bool true → ren (upS nx) v = some v := fun v h => by subst h; rfl
theorem none_none {rg gg : AV} (K B a b c d A D H P R F : Int) (r g : SV) (hr : r.den (valX (fnB [] []) [K, B, 0, 0, a, b, c, d, 0, 0, A, D, H, P, R, F]) = rg) (hg : g.den (valX (fnB [] []) [K, B, 0, 0, a, b, c, d, 0, 0, A, D, H, P, R, F]) = gg)
    (h : CallH Try.prog g3 (SV.dens (valX (fnB [] []) [K, B, 0, 0, a, b, c, d, 0, 0, A, D, H, P, R, F]) [cA r, tA g]) (hD (valX (fnB [] []) [K, B, 0, 0, a, b, c, d, 0, 0, A, D, H, P, R, F]) HN) 0 (fun v _ _ => v = .bool true)) :
    CallH Try.prog g3 [clkA rg K B a b c d, truA gg A D H P R F] ⟨objs [], [], 0⟩ 0 (fun v H' nx' => v = .bool true ∧ H' = ⟨objs [], [], 0⟩ ∧ nx' = 0) := by
  subst hr; subst hg
  exact call_forget h rfl (bool_ren 0)
/-- The rods are there, the truth has none. -/
theorem row_none (g : SV) (gg : AV) (hgd : ∀ ρ, g.den ρ = gg) (rods : List Rod) (cap : Nat) (hcap : rods.length ≤ cap) (K B a b c d A D H P R F : Int)
    (hL : ∀ xs, AllB (valX (fnB rods []) xs) (rw2 ++ [lt (lit 12) (v 2)]) → CallH Try.prog g3 (SV.dens (valX (fnB rods []) xs) [cA (rS true), tA g]) (hD (valX (fnB rods []) xs) HR) 1 (fun v _ _ => v = .bool true))
    (hZ : ∀ xs, AllB (valX (fnB rods []) xs) (rw2 ++ [eq (v 2) (lit 0)]) → CallH Try.prog g3 (SV.dens (valX (fnB rods []) xs) [cA (rS true), tA g]) (hD (valX (fnB rods []) xs) HR) 1 (fun v _ _ => v = .bool true))
    (hE : ∀ xs, AllB (valX (fnB rods []) xs) (rw2 ++ [le (v 2) (lit 12), le (lit 1) (v 2), .not (eq errX (lit 0))]) → CallH Try.prog g3 (SV.dens (valX (fnB rods []) xs) [cA (rS true), tA g]) (hD (valX (fnB rods []) xs) HR) 1 (fun v _ _ => v = .bool true))
    (hM : ∀ xs, AllB (valX (fnB rods []) xs) (rw2 ++ [le (v 2) (lit 8), le (lit 1) (v 2), eq errX (lit 0)]) → CallH Try.prog g3 (SV.dens (valX (fnB rods []) xs) [cA (rS true), tA g]) (hD (valX (fnB rods []) xs) HR) 1 (fun v _ _ => v = .bool true)) :
    CallH Try.prog g3 [clkA (.slice 0 0 rods.length cap 4 true) K B a b c d, truA gg A D H P R F] ⟨objs [(0, .cells false (rodC rods))], [], 0⟩ 1 (fun v H' nx' => v = .bool true ∧ H' = ⟨objs [(0, .cells false (rodC rods))], [], 0⟩ ∧ nx' = 1) := by
  have key : ∃ xs : List Int, xs = [K, B, (rods.length : Int), (cap : Int), a, b, c, d, 0, 0, A, D, H, P, R, F] := ⟨_, rfl⟩
  obtain ⟨xs, hxs⟩ := key
  have e2 : xs.getD 2 0 = rods.length := by rw [hxs]; rfl
  have e3 : xs.getD 3 0 = cap := by rw [hxs]; rfl
  have run : CallH Try.prog g3 (SV.dens (valX (fnB rods []) xs) [cA (rS true), tA g]) (hD (valX (fnB rods []) xs) HR) 1 (fun v _ _ => v = .bool true) := by
    by_cases c1 : 12 < xs.getD 2 0
    · exact hL xs (by ( simp only [OT.vc, LT.vc, OT.is, AllB, RgB, inR, nthR, idsF, fsOf, List.drop, List.flatMap_cons, List.flatMap_nil, List.append_nil, List.getElem?_cons_zero, List.getElem?_cons_succ, rwFs, rwF, List.nil_append, List.cons_append, mix_v, mix_fn, upd_fn, upd_nil, upd_cons, X.one, X.isL, cond_false, valX_fn, valX_v, setM_v, List.mem_cons, List.not_mem_nil, or_false, false_or, or_true, true_or, if_true, if_false, ite_true, ite_false, Nat.reduceEqDiff, SV.den, AV.int.injEq, AV.bool.injEq, true_and, and_true, X.dB_lt, X.dB_le, X.dB_eq, X.denB_and, X.denB_or, X.denB_not, X.denB_lit0, X.denB_lit1, X.den_lit, X.den_var, X.den_add, X.den_sub, X.den_mul, X.den_app, X.den_ite, X.den_wrap, X.dB_ite, cond_tf, X.denB_app, X.denB_var, X.sem_cons, X.sem_nil, leB_t, ltB_t, eqB_t, leB_f, ltB_f, eqB_f, Bool.and_eq_true, Bool.or_eq_true, Bool.not_eq_true', Bool.and_eq_false_iff, Bool.or_eq_false_iff, Bool.not_eq_false', rw2, le, lt, v, lit] at *); omega)
    by_cases c0 : xs.getD 2 0 = 0
    · exact hZ xs (by ( simp only [OT.vc, LT.vc, OT.is, AllB, RgB, inR, nthR, idsF, fsOf, List.drop, List.flatMap_cons, List.flatMap_nil, List.append_nil, List.getElem?_cons_zero, List.getElem?_cons_succ, rwFs, rwF, List.nil_append, List.cons_append, mix_v, mix_fn, upd_fn, upd_nil, upd_cons, X.one, X.isL, cond_false, valX_fn, valX_v, setM_v, List.mem_cons, List.not_mem_nil, or_false, false_or, or_true, true_or, if_true, if_false, ite_true, ite_false, Nat.reduceEqDiff, SV.den, AV.int.injEq, AV.bool.injEq, true_and, and_true, X.dB_lt, X.dB_le, X.dB_eq, X.denB_and, X.denB_or, X.denB_not, X.denB_lit0, X.denB_lit1, X.den_lit, X.den_var, X.den_add, X.den_sub, X.den_mul, X.den_app, X.den_ite, X.den_wrap, X.dB_ite, cond_tf, X.denB_app, X.denB_var, X.sem_cons, X.sem_nil, leB_t, ltB_t, eqB_t, leB_f, ltB_f, eqB_f, Bool.and_eq_true, Bool.or_eq_true, Bool.not_eq_true', Bool.and_eq_false_iff, Bool.or_eq_false_iff, Bool.not_eq_false', rw2, le, eq, v, lit] at *); omega)
    by_cases ce : errX.den (valX (fnB rods []) xs) = 0
    · have ce2 := ce
      rw [err_at] at ce2
      by_cases c8 : 8 < xs.getD 2 0
      · rw [if_pos c8] at ce2; omega
      · exact hM xs (allB_append (by ( simp only [OT.vc, LT.vc, OT.is, AllB, RgB, inR, nthR, idsF, fsOf, List.drop, List.flatMap_cons, List.flatMap_nil, List.append_nil, List.getElem?_cons_zero, List.getElem?_cons_succ, rwFs, rwF, List.nil_append, List.cons_append, mix_v, mix_fn, upd_fn, upd_nil, upd_cons, X.one, X.isL, cond_false, valX_fn, valX_v, setM_v, List.mem_cons, List.not_mem_nil, or_false, false_or, or_true, true_or, if_true, if_false, ite_true, ite_false, Nat.reduceEqDiff, SV.den, AV.int.injEq, AV.bool.injEq, true_and, and_true, X.dB_lt, X.dB_le, X.dB_eq, X.denB_and, X.denB_or, X.denB_not, X.denB_lit0, X.denB_lit1, X.den_lit, X.den_var, X.den_add, X.den_sub, X.den_mul, X.den_app, X.den_ite, X.den_wrap, X.dB_ite, cond_tf, X.denB_app, X.denB_var, X.sem_cons, X.sem_nil, leB_t, ltB_t, eqB_t, leB_f, ltB_f, eqB_f, Bool.and_eq_true, Bool.or_eq_true, Bool.not_eq_true', Bool.and_eq_false_iff, Bool.or_eq_false_iff, Bool.not_eq_false', rw2, le, v, lit] at *); omega) ⟨by simp only [le, v, lit, X.dB_le, leB_t, X.den_lit, X.den_var, valX_v]; omega, by simp only [le, v, lit, X.dB_le, leB_t, X.den_lit, X.den_var, valX_v]; omega, by simp only [eq, lit, X.dB_eq, eqB_t, X.den_lit]; exact ce, trivial⟩)
    · exact hE xs (allB_append (by ( simp only [OT.vc, LT.vc, OT.is, AllB, RgB, inR, nthR, idsF, fsOf, List.drop, List.flatMap_cons, List.flatMap_nil, List.append_nil, List.getElem?_cons_zero, List.getElem?_cons_succ, rwFs, rwF, List.nil_append, List.cons_append, mix_v, mix_fn, upd_fn, upd_nil, upd_cons, X.one, X.isL, cond_false, valX_fn, valX_v, setM_v, List.mem_cons, List.not_mem_nil, or_false, false_or, or_true, true_or, if_true, if_false, ite_true, ite_false, Nat.reduceEqDiff, SV.den, AV.int.injEq, AV.bool.injEq, true_and, and_true, X.dB_lt, X.dB_le, X.dB_eq, X.denB_and, X.denB_or, X.denB_not, X.denB_lit0, X.denB_lit1, X.den_lit, X.den_var, X.den_add, X.den_sub, X.den_mul, X.den_app, X.den_ite, X.den_wrap, X.dB_ite, cond_tf, X.denB_app, X.denB_var, X.sem_cons, X.sem_nil, leB_t, ltB_t, eqB_t, leB_f, ltB_f, eqB_f, Bool.and_eq_true, Bool.or_eq_true, Bool.not_eq_true', Bool.and_eq_false_iff, Bool.or_eq_false_iff, Bool.not_eq_false', rw2, le, v, lit] at *); omega) ⟨by simp only [le, v, lit, X.dB_le, leB_t, X.den_lit, X.den_var, valX_v]; omega, by simp only [le, v, lit, X.dB_le, leB_t, X.den_lit, X.den_var, valX_v]; omega, by simp only [eq, lit, X.denB_not, Bool.not_eq_true', X.dB_eq, eqB_f, X.den_lit]; exact ce, trivial⟩)
  have ho : hD (valX (fnB rods []) xs) HR = ⟨objs [(0, .cells false (rodC rods))], [], 0⟩ := by
    have hr := rodC_row rods [] xs rods.length 0 (by omega)
    show (⟨objs [(0, .cells false (rowD (valX (fnB rods []) xs) cmR [] 0 (xs.getD 2 0).toNat))], [], 0⟩ : Hp) = _
    rw [e2, Int.toNat_natCast, hr]; rfl
  rw [ho] at run
  subst hxs
  have hg : SV.dens (valX (fnB rods []) [K, B, (rods.length : Int), (cap : Int), a, b, c, d, 0, 0, A, D, H, P, R, F]) [cA (rS true), tA g] = [clkA (.slice 0 0 rods.length cap 4 true) K B a b c d, truA gg A D H P R F] := by
    rw [← hgd (valX (fnB rods []) [K, B, (rods.length : Int), (cap : Int), a, b, c, d, 0, 0, A, D, H, P, R, F])]; rfl
  rw [hg] at run
  exact call_forget run rfl (bool_ren 1)
/-- No rods; the truth's row is there. -/
theorem none_row (r : SV) (rg : AV) (hrd : ∀ ρ, r.den ρ = rg) (grow : List Int) (cap : Nat) (hcap : grow.length ≤ cap) (K B a b c d A D H P R F : Int)
    (hn : ∀ xs, AllB (valX (fnB [] grow) xs) rw8 → CallH Try.prog g3 (SV.dens (valX (fnB [] grow) xs) [cA r, tA (gS true)]) (hD (valX (fnB [] grow) xs) HG) 1 (fun v _ _ => v = .bool true)) :
    CallH Try.prog g3 [clkA rg K B a b c d, truA (.slice 0 0 grow.length cap 1 true) A D H P R F] ⟨objs [(0, .cells false (growC grow))], [], 0⟩ 1 (fun v H' nx' => v = .bool true ∧ H' = ⟨objs [(0, .cells false (growC grow))], [], 0⟩ ∧ nx' = 1) := by
  have key : ∃ xs : List Int, xs = [K, B, 0, 0, a, b, c, d, (grow.length : Int), (cap : Int), A, D, H, P, R, F] := ⟨_, rfl⟩
  obtain ⟨xs, hxs⟩ := key
  have e2 : xs.getD 8 0 = grow.length := by rw [hxs]; rfl
  have e3 : xs.getD 9 0 = cap := by rw [hxs]; rfl
  have run := hn xs (by ( simp only [OT.vc, LT.vc, OT.is, AllB, RgB, inR, nthR, idsF, fsOf, List.drop, List.flatMap_cons, List.flatMap_nil, List.append_nil, List.getElem?_cons_zero, List.getElem?_cons_succ, rwFs, rwF, List.nil_append, List.cons_append, mix_v, mix_fn, upd_fn, upd_nil, upd_cons, X.one, X.isL, cond_false, valX_fn, valX_v, setM_v, List.mem_cons, List.not_mem_nil, or_false, false_or, or_true, true_or, if_true, if_false, ite_true, ite_false, Nat.reduceEqDiff, SV.den, AV.int.injEq, AV.bool.injEq, true_and, and_true, X.dB_lt, X.dB_le, X.dB_eq, X.denB_and, X.denB_or, X.denB_not, X.denB_lit0, X.denB_lit1, X.den_lit, X.den_var, X.den_add, X.den_sub, X.den_mul, X.den_app, X.den_ite, X.den_wrap, X.dB_ite, cond_tf, X.denB_app, X.denB_var, X.sem_cons, X.sem_nil, leB_t, ltB_t, eqB_t, leB_f, ltB_f, eqB_f, Bool.and_eq_true, Bool.or_eq_true, Bool.not_eq_true', Bool.and_eq_false_iff, Bool.or_eq_false_iff, Bool.not_eq_false', rw8, le, v, lit] at *); omega)
  have ho : hD (valX (fnB [] grow) xs) HG = ⟨objs [(0, .cells false (growC grow))], [], 0⟩ := by
    have hr := growC_row [] grow xs grow.length 0 (by omega)
    show (⟨objs [(0, .cells false (rowD (valX (fnB [] grow) xs) cmG [] 0 (xs.getD 8 0).toNat))], [], 0⟩ : Hp) = _
    rw [e2, Int.toNat_natCast, hr]; rfl
  rw [ho] at run
  subst hxs
  have hg : SV.dens (valX (fnB [] grow) [K, B, 0, 0, a, b, c, d, (grow.length : Int), (cap : Int), A, D, H, P, R, F]) [cA r, tA (gS true)] = [clkA rg K B a b c d, truA (.slice 0 0 grow.length cap 1 true) A D H P R F] := by
    rw [← hrd (valX (fnB [] grow) [K, B, 0, 0, a, b, c, d, (grow.length : Int), (cap : Int), A, D, H, P, R, F])]; rfl
  rw [hg] at run
  exact call_forget run rfl (bool_ren 1)
end Be
end Go.Proofs.Ytocjbjnfpldgcaa
