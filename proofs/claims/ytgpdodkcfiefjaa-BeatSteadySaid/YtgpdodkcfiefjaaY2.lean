/- BeatSteady: what Balance calls. -/
import Derived.Test.YtgpdodkcfiefjaaY1
import Derived.Test.YtgpdodkcfiefjaaQ2
set_option linter.unusedSimpArgs false
set_option linter.unusedVariables false
namespace Go.Proofs.Ytgpdodkcfiefjaa
open Abs Sx
set_option maxRecDepth 100000
namespace Be
def lKnL (n : Nat) : List Sh := [i64, i64, rodsL n, i64, i64, i64, i64] ++ List.replicate 28 i64
def otX (o n k : Nat) : X := sub (lnX o n) (.ite (v (o + 3 + 4 * k)) (sub (lit 0) (v (o + 4 * k))) (v (o + 4 * k)))
def loX (o n k : Nat) : X := .bin .max (.ite (v (o + 3 + 4 * k)) (mul (sub (lit 100000) (otX o n k)) (lit (-1))) (sub (lit 100) (otX o n k))) (lit 1)
def hiX (o n k : Nat) : X := .bin .min (.ite (v (o + 3 + 4 * k)) (mul (sub (lit 100) (otX o n k)) (lit (-1))) (sub (lit 100000) (otX o n k))) (lit 100000)
def lsP (n k : Nat) : List X := eq (v (35 + 4 * n)) (lit k) :: (lenP 3 n ++ rg 100 100000 (lnX 3 n))
def pLs (n k : Nat) : Pr := ⟨38, [lKn n, i64], lsP n k, fun _ => .leaf (spO (loX 3 n k) (hiX 3 n k))⟩
def lsT (n k : Nat) : OT SV :=
  let o := otX 3 n k
  let a := .bin .max (mul (sub (lit 100000) o) (lit (-1))) (lit 1); let b := .bin .min (mul (sub (lit 100) o) (lit (-1))) (lit 100000)
  let c := .bin .max (sub (lit 100) o) (lit 1); let d := .bin .min (sub (lit 100000) o) (lit 100000)
  .ask (v (6 + 4 * k)) (.need [le (sub (lit 100) o) (sub (lit 100000) o)] (.leaf (spO (.bin .min a b) (.bin .max a b)))) (.leaf (spO (.bin .min c d) (.bin .max c d)))
def spA (n : Nat) : List X := (List.range n).flatMap fun i => [v (10 + 4 * n + 2 * i), v (11 + 4 * n + 2 * i), v (6 + 4 * i), v (9 + 4 * i)]
def bsX (n k : Nat) : X := apl 122 (lit k :: spA n)
def setX (n k : Nat) (x : X) : List X := (List.range n).flatMap fun i => [v (10 + 4 * n + 2 * i), v (11 + 4 * n + 2 * i), cond (Nat.beq i k) x (v (6 + 4 * i)), v (9 + 4 * i)]
def efX (n k : Nat) (x : X) : X := .bin .max (apl 72 (setX n k x)) (sub (lit 0) (apl 71 (setX n k x)))
def seSh (n : Nat) : List Sh := [i64, .clo 39 [.ptr [i64, i64], .ptr [.clo 35 [.ptr (lKnL n), .ptr [i64]]]]]
def seP (n k : Nat) : List X := [eq (v (38 + 4 * n)) (lit k), eq (v 0) (sub (v 2) (v 1)), le (lit 1) (v 1), le (v 1) (v 2), le (v 2) (lit 100000), eq (v 1) (loX 6 n k), eq (v 2) (hiX 6 n k)] ++ (rg 100 100000 (lnX 6 n) ++ (lenP 6 n ++ (List.range n).flatMap fun i => rg2 0 40000 (v (10 + 4 * n + 2 * i)) (v (11 + 4 * n + 2 * i))))
def pSe (n k : Nat) : Pr := ⟨40, seSh n, seP n k, fun _ => .leaf (.int .i64 (sub (bsX n k) (v 1)))⟩
def RS (n : Nat) : Rgs := ⟨List.replicate (39 + 4 * n) none ++ [some (0, 100000), some (0, 100000)], frL⟩
def seT (n : Nat) (es : List Bool) : List Tpl := [⟨[39 + 4 * n, 40 + 4 * n], [(1, .fn 39 [] [.ptr 0 0, .ptr 1 0]), (5, .int .i64 (v (39 + 4 * n))), (6, .int .i64 (v (40 + 4 * n)))],
  [(0, .cells false [.int .i64 (v 1), .int .i64 (v 2)]), (1, .cells false [.fn 35 [] [.ptr 2 0, .ptr 4 0]]),
   (2, .cells false ([.int .i64 (v 3), .int .i64 (v 4), .slice 3 0 (lit 0) (lit n) (v 5) 4 (hdB es)] ++ (List.range 32).map fun i => .int .i64 (v (6 + 4 * n + i)))),
   (3, .cells false ((List.range n).flatMap fun i => [.int .i64 (v (6 + 4 * i)), .int .i64 (v (7 + 4 * i)), .int .i64 (v (8 + 4 * i)), .bool (v (9 + 4 * i))])), (4, .cells false [.int .i64 (v (38 + 4 * n))])], [], 5, [le (v (40 + 4 * n)) (v 0)], none⟩]
def seTree (n k : Nat) : Sx.LT SV :=
  let i := 39 + 4 * n; let j := 40 + 4 * n
  let h : X := .bin .quo (add (v i) (v j)) (lit 2)
  let a : X := .wrap .i64 (add (v 1) h); let b : X := .wrap .i64 (add a (lit 1))
  .need [le (lit 0) (v 0), le (v 0) (lit 100000)] (.loop 0 [(i, lit 0), (j, v 0)] (.ask (lt (v i) (v j)) (.need [le (lit 1) a, le a (lit 100000)] (.need [le (lit 1) b, le b (lit 100000)] (.ask (.not (le (efX n k a) (efX n k b)))
    (.need [le (add h (lit 1)) (lit 100000)] (.back 0 [(i, add h (lit 1)), (j, v j)])) (.need [le h (lit 100000), le h (v 0)] (.back 0 [(i, v i), (j, h)]))))) (.leaf (.int .i64 (v i)))))
def LSn (n : Nat) : List Pr := [pLow, pLenL n, pMinus, pScS]
theorem f73 {rods : List Rod} {grow l : List Int} : fnB rods grow 73 l = clampM 400000 (lnL l) := rfl
theorem se_close {x0 x1 x2 W : Int} {E : Int → Int} {i j : Nat} {Rg : (Nat → Int) → Prop} (hR : ∀ w, Rg w → 0 ≤ w i) (h0 : x0 = x2 - x1) (h1 : 1 ≤ x1) (h2 : x1 ≤ x2) (h3 : x2 ≤ 100000) (hW : x1 ≤ W) (hW2 : W ≤ x2)
    (F : ∀ x, x1 ≤ x → x < x2 → (E x ≤ E (x + 1) → W ≤ x) ∧ (¬ E x ≤ E (x + 1) → x < W)) :
    (0 ≤ x0 ∧ x0 ≤ 100000) ∧ (0 ≤ W - x1 ∧ W - x1 ≤ x0) ∧ ∀ w : Nat → Int, Rg w → w j ≤ x0 → w i ≤ W - x1 ∧ W - x1 ≤ w j →
      (w i < w j → (1 ≤ IntKind.i64.wrap (x1 + (w i + w j).tdiv 2) ∧ IntKind.i64.wrap (x1 + (w i + w j).tdiv 2) ≤ 100000) ∧
        (1 ≤ IntKind.i64.wrap (IntKind.i64.wrap (x1 + (w i + w j).tdiv 2) + 1) ∧ IntKind.i64.wrap (IntKind.i64.wrap (x1 + (w i + w j).tdiv 2) + 1) ≤ 100000) ∧
        (E (IntKind.i64.wrap (IntKind.i64.wrap (x1 + (w i + w j).tdiv 2) + 1)) < E (IntKind.i64.wrap (x1 + (w i + w j).tdiv 2)) →
          (w i + w j).tdiv 2 + 1 ≤ 100000 ∧ ((w i + w j).tdiv 2 + 1 ≤ W - x1 ∧ W - x1 ≤ w j) ∧ (w j - ((w i + w j).tdiv 2 + 1)).toNat < (w j - w i).toNat) ∧
        (E (IntKind.i64.wrap (x1 + (w i + w j).tdiv 2)) ≤ E (IntKind.i64.wrap (IntKind.i64.wrap (x1 + (w i + w j).tdiv 2) + 1)) →
          ((w i + w j).tdiv 2 ≤ 100000 ∧ (w i + w j).tdiv 2 ≤ x0) ∧ (w i ≤ W - x1 ∧ W - x1 ≤ (w i + w j).tdiv 2) ∧ ((w i + w j).tdiv 2 - w i).toNat < (w j - w i).toNat)) ∧
      (w j ≤ w i → w i = W - x1) := by
  refine ⟨by omega, by omega, fun w hw g1 g2 => ⟨fun g3 => ?_, fun g3 => by omega⟩⟩
  have p := hR w hw
  rw [Int.tdiv_eq_ediv_of_nonneg (by omega : 0 ≤ w i + w j)]
  generalize hh : (w i + w j) / 2 = h
  have e1 : IntKind.i64.wrap (x1 + h) = x1 + h := wrap64 (by omega) (by omega)
  have e2 : IntKind.i64.wrap (x1 + h + 1) = x1 + h + 1 := wrap64 (by omega) (by omega)
  rw [e1, e2]
  have f := F (x1 + h) (by omega) (by omega)
  refine ⟨by omega, by omega, fun k => ?_, fun k => ?_⟩
  · have := f.2 (by omega); omega
  · have := f.1 k; omega
theorem pLs10_ok (rods : List Rod) (grow : List Int) : (pLs 1 0).Ok Try.prog (fnB rods grow) := by
  refine un1 (l := LSn 1) (R := RL) (fuel := 200) (fun _ => lsT 1 0) prog_ok ⟨pLow_ok _, pLenL1_ok _ _, pMinus_ok _, pScS_ok _, trivial⟩ rfl (RL_ok _ _) rfl rfl ?h ?h' ?_
  case h => kernel_rfl
  case h' => kernel_rfl
  intro xs es hlen hpre hrw
  clear hrw hlen
  ( simp only [OT.vc, LT.vc, OT.is, AllB, RgB, inR, nthR, idsF, fsOf, List.drop, List.flatMap_cons, List.flatMap_nil, List.append_nil, List.getElem?_cons_zero, List.getElem?_cons_succ, rwFs, rwF, List.nil_append, List.cons_append, mix_v, mix_fn, upd_fn, upd_nil, upd_cons, X.one, X.isL, cond_false, valX_fn, valX_v, setM_v, List.mem_cons, List.not_mem_nil, or_false, false_or, or_true, true_or, if_true, if_false, ite_true, ite_false, Nat.reduceEqDiff, SV.den, AV.int.injEq, AV.bool.injEq, true_and, and_true, X.dB_lt, X.dB_le, X.dB_eq, X.denB_and, X.denB_or, X.denB_not, X.denB_lit0, X.denB_lit1, X.den_lit, X.den_var, X.den_add, X.den_sub, X.den_mul, X.den_app, X.den_ite, X.den_wrap, X.dB_ite, cond_tf, X.denB_app, X.denB_var, X.sem_cons, X.sem_nil, leB_t, ltB_t, eqB_t, leB_f, ltB_f, eqB_f, Bool.and_eq_true, Bool.or_eq_true, Bool.not_eq_true', Bool.and_eq_false_iff, Bool.or_eq_false_iff, Bool.not_eq_false', pLs, lsP, lsT, rg, rg2, lenP, lnX, otX, loX, hiX, spO, apl, le, lt, eq, add, sub, mul, v, lit, i64, List.range, List.range.loop, List.flatMap_cons, List.flatMap_nil, List.foldr, Nat.reduceMul, Nat.reduceAdd, Nat.mul_zero, Nat.add_zero, X.den_min, X.den_max, SV.dens, AV.agg.injEq, List.cons.injEq] at *)
  cases i2b (xs.getD 6 0) <;> simp only [cond_true, cond_false, true_implies, false_implies, Bool.true_eq_false, Bool.false_eq_true, reduceCtorEq, and_true, true_and] <;> (repeat' apply And.intro) <;> first | trivial | omega
theorem pLs20_ok (rods : List Rod) (grow : List Int) : (pLs 2 0).Ok Try.prog (fnB rods grow) := by
  refine un1 (l := LSn 2) (R := RL) (fuel := 200) (fun _ => lsT 2 0) prog_ok ⟨pLow_ok _, pLenL2_ok _ _, pMinus_ok _, pScS_ok _, trivial⟩ rfl (RL_ok _ _) rfl rfl ?h ?h' ?_
  case h => kernel_rfl
  case h' => kernel_rfl
  intro xs es hlen hpre hrw
  clear hrw hlen
  ( simp only [OT.vc, LT.vc, OT.is, AllB, RgB, inR, nthR, idsF, fsOf, List.drop, List.flatMap_cons, List.flatMap_nil, List.append_nil, List.getElem?_cons_zero, List.getElem?_cons_succ, rwFs, rwF, List.nil_append, List.cons_append, mix_v, mix_fn, upd_fn, upd_nil, upd_cons, X.one, X.isL, cond_false, valX_fn, valX_v, setM_v, List.mem_cons, List.not_mem_nil, or_false, false_or, or_true, true_or, if_true, if_false, ite_true, ite_false, Nat.reduceEqDiff, SV.den, AV.int.injEq, AV.bool.injEq, true_and, and_true, X.dB_lt, X.dB_le, X.dB_eq, X.denB_and, X.denB_or, X.denB_not, X.denB_lit0, X.denB_lit1, X.den_lit, X.den_var, X.den_add, X.den_sub, X.den_mul, X.den_app, X.den_ite, X.den_wrap, X.dB_ite, cond_tf, X.denB_app, X.denB_var, X.sem_cons, X.sem_nil, leB_t, ltB_t, eqB_t, leB_f, ltB_f, eqB_f, Bool.and_eq_true, Bool.or_eq_true, Bool.not_eq_true', Bool.and_eq_false_iff, Bool.or_eq_false_iff, Bool.not_eq_false', pLs, lsP, lsT, rg, rg2, lenP, lnX, otX, loX, hiX, spO, apl, le, lt, eq, add, sub, mul, v, lit, i64, List.range, List.range.loop, List.flatMap_cons, List.flatMap_nil, List.foldr, Nat.reduceMul, Nat.reduceAdd, Nat.mul_zero, Nat.add_zero, X.den_min, X.den_max, SV.dens, AV.agg.injEq, List.cons.injEq] at *)
  cases i2b (xs.getD 6 0) <;> simp only [cond_true, cond_false, true_implies, false_implies, Bool.true_eq_false, Bool.false_eq_true, reduceCtorEq, and_true, true_and] <;> (repeat' apply And.intro) <;> first | trivial | omega
theorem pLs21_ok (rods : List Rod) (grow : List Int) : (pLs 2 1).Ok Try.prog (fnB rods grow) := by
  refine un1 (l := LSn 2) (R := RL) (fuel := 200) (fun _ => lsT 2 1) prog_ok ⟨pLow_ok _, pLenL2_ok _ _, pMinus_ok _, pScS_ok _, trivial⟩ rfl (RL_ok _ _) rfl rfl ?h ?h' ?_
  case h => kernel_rfl
  case h' => kernel_rfl
  intro xs es hlen hpre hrw
  clear hrw hlen
  ( simp only [OT.vc, LT.vc, OT.is, AllB, RgB, inR, nthR, idsF, fsOf, List.drop, List.flatMap_cons, List.flatMap_nil, List.append_nil, List.getElem?_cons_zero, List.getElem?_cons_succ, rwFs, rwF, List.nil_append, List.cons_append, mix_v, mix_fn, upd_fn, upd_nil, upd_cons, X.one, X.isL, cond_false, valX_fn, valX_v, setM_v, List.mem_cons, List.not_mem_nil, or_false, false_or, or_true, true_or, if_true, if_false, ite_true, ite_false, Nat.reduceEqDiff, SV.den, AV.int.injEq, AV.bool.injEq, true_and, and_true, X.dB_lt, X.dB_le, X.dB_eq, X.denB_and, X.denB_or, X.denB_not, X.denB_lit0, X.denB_lit1, X.den_lit, X.den_var, X.den_add, X.den_sub, X.den_mul, X.den_app, X.den_ite, X.den_wrap, X.dB_ite, cond_tf, X.denB_app, X.denB_var, X.sem_cons, X.sem_nil, leB_t, ltB_t, eqB_t, leB_f, ltB_f, eqB_f, Bool.and_eq_true, Bool.or_eq_true, Bool.not_eq_true', Bool.and_eq_false_iff, Bool.or_eq_false_iff, Bool.not_eq_false', pLs, lsP, lsT, rg, rg2, lenP, lnX, otX, loX, hiX, spO, apl, le, lt, eq, add, sub, mul, v, lit, i64, List.range, List.range.loop, List.flatMap_cons, List.flatMap_nil, List.foldr, Nat.reduceMul, Nat.reduceAdd, Nat.mul_zero, Nat.add_zero, X.den_min, X.den_max, SV.dens, AV.agg.injEq, List.cons.injEq] at *)
  cases i2b (xs.getD 10 0) <;> simp only [cond_true, cond_false, true_implies, false_implies, Bool.true_eq_false, Bool.false_eq_true, reduceCtorEq, and_true, true_and] <;> (repeat' apply And.intro) <;> first | trivial | omega
theorem pLs30_ok (rods : List Rod) (grow : List Int) : (pLs 3 0).Ok Try.prog (fnB rods grow) := by
  refine un1 (l := LSn 3) (R := RL) (fuel := 200) (fun _ => lsT 3 0) prog_ok ⟨pLow_ok _, pLenL3_ok _ _, pMinus_ok _, pScS_ok _, trivial⟩ rfl (RL_ok _ _) rfl rfl ?h ?h' ?_
  case h => kernel_rfl
  case h' => kernel_rfl
  intro xs es hlen hpre hrw
  clear hrw hlen
  ( simp only [OT.vc, LT.vc, OT.is, AllB, RgB, inR, nthR, idsF, fsOf, List.drop, List.flatMap_cons, List.flatMap_nil, List.append_nil, List.getElem?_cons_zero, List.getElem?_cons_succ, rwFs, rwF, List.nil_append, List.cons_append, mix_v, mix_fn, upd_fn, upd_nil, upd_cons, X.one, X.isL, cond_false, valX_fn, valX_v, setM_v, List.mem_cons, List.not_mem_nil, or_false, false_or, or_true, true_or, if_true, if_false, ite_true, ite_false, Nat.reduceEqDiff, SV.den, AV.int.injEq, AV.bool.injEq, true_and, and_true, X.dB_lt, X.dB_le, X.dB_eq, X.denB_and, X.denB_or, X.denB_not, X.denB_lit0, X.denB_lit1, X.den_lit, X.den_var, X.den_add, X.den_sub, X.den_mul, X.den_app, X.den_ite, X.den_wrap, X.dB_ite, cond_tf, X.denB_app, X.denB_var, X.sem_cons, X.sem_nil, leB_t, ltB_t, eqB_t, leB_f, ltB_f, eqB_f, Bool.and_eq_true, Bool.or_eq_true, Bool.not_eq_true', Bool.and_eq_false_iff, Bool.or_eq_false_iff, Bool.not_eq_false', pLs, lsP, lsT, rg, rg2, lenP, lnX, otX, loX, hiX, spO, apl, le, lt, eq, add, sub, mul, v, lit, i64, List.range, List.range.loop, List.flatMap_cons, List.flatMap_nil, List.foldr, Nat.reduceMul, Nat.reduceAdd, Nat.mul_zero, Nat.add_zero, X.den_min, X.den_max, SV.dens, AV.agg.injEq, List.cons.injEq] at *)
  cases i2b (xs.getD 6 0) <;> simp only [cond_true, cond_false, true_implies, false_implies, Bool.true_eq_false, Bool.false_eq_true, reduceCtorEq, and_true, true_and] <;> (repeat' apply And.intro) <;> first | trivial | omega
theorem pLs31_ok (rods : List Rod) (grow : List Int) : (pLs 3 1).Ok Try.prog (fnB rods grow) := by
  refine un1 (l := LSn 3) (R := RL) (fuel := 200) (fun _ => lsT 3 1) prog_ok ⟨pLow_ok _, pLenL3_ok _ _, pMinus_ok _, pScS_ok _, trivial⟩ rfl (RL_ok _ _) rfl rfl ?h ?h' ?_
  case h => kernel_rfl
  case h' => kernel_rfl
  intro xs es hlen hpre hrw
  clear hrw hlen
  ( simp only [OT.vc, LT.vc, OT.is, AllB, RgB, inR, nthR, idsF, fsOf, List.drop, List.flatMap_cons, List.flatMap_nil, List.append_nil, List.getElem?_cons_zero, List.getElem?_cons_succ, rwFs, rwF, List.nil_append, List.cons_append, mix_v, mix_fn, upd_fn, upd_nil, upd_cons, X.one, X.isL, cond_false, valX_fn, valX_v, setM_v, List.mem_cons, List.not_mem_nil, or_false, false_or, or_true, true_or, if_true, if_false, ite_true, ite_false, Nat.reduceEqDiff, SV.den, AV.int.injEq, AV.bool.injEq, true_and, and_true, X.dB_lt, X.dB_le, X.dB_eq, X.denB_and, X.denB_or, X.denB_not, X.denB_lit0, X.denB_lit1, X.den_lit, X.den_var, X.den_add, X.den_sub, X.den_mul, X.den_app, X.den_ite, X.den_wrap, X.dB_ite, cond_tf, X.denB_app, X.denB_var, X.sem_cons, X.sem_nil, leB_t, ltB_t, eqB_t, leB_f, ltB_f, eqB_f, Bool.and_eq_true, Bool.or_eq_true, Bool.not_eq_true', Bool.and_eq_false_iff, Bool.or_eq_false_iff, Bool.not_eq_false', pLs, lsP, lsT, rg, rg2, lenP, lnX, otX, loX, hiX, spO, apl, le, lt, eq, add, sub, mul, v, lit, i64, List.range, List.range.loop, List.flatMap_cons, List.flatMap_nil, List.foldr, Nat.reduceMul, Nat.reduceAdd, Nat.mul_zero, Nat.add_zero, X.den_min, X.den_max, SV.dens, AV.agg.injEq, List.cons.injEq] at *)
  cases i2b (xs.getD 10 0) <;> simp only [cond_true, cond_false, true_implies, false_implies, Bool.true_eq_false, Bool.false_eq_true, reduceCtorEq, and_true, true_and] <;> (repeat' apply And.intro) <;> first | trivial | omega
theorem pLs32_ok (rods : List Rod) (grow : List Int) : (pLs 3 2).Ok Try.prog (fnB rods grow) := by
  refine un1 (l := LSn 3) (R := RL) (fuel := 200) (fun _ => lsT 3 2) prog_ok ⟨pLow_ok _, pLenL3_ok _ _, pMinus_ok _, pScS_ok _, trivial⟩ rfl (RL_ok _ _) rfl rfl ?h ?h' ?_
  case h => kernel_rfl
  case h' => kernel_rfl
  intro xs es hlen hpre hrw
  clear hrw hlen
  ( simp only [OT.vc, LT.vc, OT.is, AllB, RgB, inR, nthR, idsF, fsOf, List.drop, List.flatMap_cons, List.flatMap_nil, List.append_nil, List.getElem?_cons_zero, List.getElem?_cons_succ, rwFs, rwF, List.nil_append, List.cons_append, mix_v, mix_fn, upd_fn, upd_nil, upd_cons, X.one, X.isL, cond_false, valX_fn, valX_v, setM_v, List.mem_cons, List.not_mem_nil, or_false, false_or, or_true, true_or, if_true, if_false, ite_true, ite_false, Nat.reduceEqDiff, SV.den, AV.int.injEq, AV.bool.injEq, true_and, and_true, X.dB_lt, X.dB_le, X.dB_eq, X.denB_and, X.denB_or, X.denB_not, X.denB_lit0, X.denB_lit1, X.den_lit, X.den_var, X.den_add, X.den_sub, X.den_mul, X.den_app, X.den_ite, X.den_wrap, X.dB_ite, cond_tf, X.denB_app, X.denB_var, X.sem_cons, X.sem_nil, leB_t, ltB_t, eqB_t, leB_f, ltB_f, eqB_f, Bool.and_eq_true, Bool.or_eq_true, Bool.not_eq_true', Bool.and_eq_false_iff, Bool.or_eq_false_iff, Bool.not_eq_false', pLs, lsP, lsT, rg, rg2, lenP, lnX, otX, loX, hiX, spO, apl, le, lt, eq, add, sub, mul, v, lit, i64, List.range, List.range.loop, List.flatMap_cons, List.flatMap_nil, List.foldr, Nat.reduceMul, Nat.reduceAdd, Nat.mul_zero, Nat.add_zero, X.den_min, X.den_max, SV.dens, AV.agg.injEq, List.cons.injEq] at *)
  cases i2b (xs.getD 14 0) <;> simp only [cond_true, cond_false, true_implies, false_implies, Bool.true_eq_false, Bool.false_eq_true, reduceCtorEq, and_true, true_and] <;> (repeat' apply And.intro) <;> first | trivial | omega
theorem pLs40_ok (rods : List Rod) (grow : List Int) : (pLs 4 0).Ok Try.prog (fnB rods grow) := by
  refine un1 (l := LSn 4) (R := RL) (fuel := 200) (fun _ => lsT 4 0) prog_ok ⟨pLow_ok _, pLenL4_ok _ _, pMinus_ok _, pScS_ok _, trivial⟩ rfl (RL_ok _ _) rfl rfl ?h ?h' ?_
  case h => kernel_rfl
  case h' => kernel_rfl
  intro xs es hlen hpre hrw
  clear hrw hlen
  ( simp only [OT.vc, LT.vc, OT.is, AllB, RgB, inR, nthR, idsF, fsOf, List.drop, List.flatMap_cons, List.flatMap_nil, List.append_nil, List.getElem?_cons_zero, List.getElem?_cons_succ, rwFs, rwF, List.nil_append, List.cons_append, mix_v, mix_fn, upd_fn, upd_nil, upd_cons, X.one, X.isL, cond_false, valX_fn, valX_v, setM_v, List.mem_cons, List.not_mem_nil, or_false, false_or, or_true, true_or, if_true, if_false, ite_true, ite_false, Nat.reduceEqDiff, SV.den, AV.int.injEq, AV.bool.injEq, true_and, and_true, X.dB_lt, X.dB_le, X.dB_eq, X.denB_and, X.denB_or, X.denB_not, X.denB_lit0, X.denB_lit1, X.den_lit, X.den_var, X.den_add, X.den_sub, X.den_mul, X.den_app, X.den_ite, X.den_wrap, X.dB_ite, cond_tf, X.denB_app, X.denB_var, X.sem_cons, X.sem_nil, leB_t, ltB_t, eqB_t, leB_f, ltB_f, eqB_f, Bool.and_eq_true, Bool.or_eq_true, Bool.not_eq_true', Bool.and_eq_false_iff, Bool.or_eq_false_iff, Bool.not_eq_false', pLs, lsP, lsT, rg, rg2, lenP, lnX, otX, loX, hiX, spO, apl, le, lt, eq, add, sub, mul, v, lit, i64, List.range, List.range.loop, List.flatMap_cons, List.flatMap_nil, List.foldr, Nat.reduceMul, Nat.reduceAdd, Nat.mul_zero, Nat.add_zero, X.den_min, X.den_max, SV.dens, AV.agg.injEq, List.cons.injEq] at *)
  cases i2b (xs.getD 6 0) <;> simp only [cond_true, cond_false, true_implies, false_implies, Bool.true_eq_false, Bool.false_eq_true, reduceCtorEq, and_true, true_and] <;> (repeat' apply And.intro) <;> first | trivial | omega
theorem pLs41_ok (rods : List Rod) (grow : List Int) : (pLs 4 1).Ok Try.prog (fnB rods grow) := by
  refine un1 (l := LSn 4) (R := RL) (fuel := 200) (fun _ => lsT 4 1) prog_ok ⟨pLow_ok _, pLenL4_ok _ _, pMinus_ok _, pScS_ok _, trivial⟩ rfl (RL_ok _ _) rfl rfl ?h ?h' ?_
  case h => kernel_rfl
  case h' => kernel_rfl
  intro xs es hlen hpre hrw
  clear hrw hlen
  ( simp only [OT.vc, LT.vc, OT.is, AllB, RgB, inR, nthR, idsF, fsOf, List.drop, List.flatMap_cons, List.flatMap_nil, List.append_nil, List.getElem?_cons_zero, List.getElem?_cons_succ, rwFs, rwF, List.nil_append, List.cons_append, mix_v, mix_fn, upd_fn, upd_nil, upd_cons, X.one, X.isL, cond_false, valX_fn, valX_v, setM_v, List.mem_cons, List.not_mem_nil, or_false, false_or, or_true, true_or, if_true, if_false, ite_true, ite_false, Nat.reduceEqDiff, SV.den, AV.int.injEq, AV.bool.injEq, true_and, and_true, X.dB_lt, X.dB_le, X.dB_eq, X.denB_and, X.denB_or, X.denB_not, X.denB_lit0, X.denB_lit1, X.den_lit, X.den_var, X.den_add, X.den_sub, X.den_mul, X.den_app, X.den_ite, X.den_wrap, X.dB_ite, cond_tf, X.denB_app, X.denB_var, X.sem_cons, X.sem_nil, leB_t, ltB_t, eqB_t, leB_f, ltB_f, eqB_f, Bool.and_eq_true, Bool.or_eq_true, Bool.not_eq_true', Bool.and_eq_false_iff, Bool.or_eq_false_iff, Bool.not_eq_false', pLs, lsP, lsT, rg, rg2, lenP, lnX, otX, loX, hiX, spO, apl, le, lt, eq, add, sub, mul, v, lit, i64, List.range, List.range.loop, List.flatMap_cons, List.flatMap_nil, List.foldr, Nat.reduceMul, Nat.reduceAdd, Nat.mul_zero, Nat.add_zero, X.den_min, X.den_max, SV.dens, AV.agg.injEq, List.cons.injEq] at *)
  cases i2b (xs.getD 10 0) <;> simp only [cond_true, cond_false, true_implies, false_implies, Bool.true_eq_false, Bool.false_eq_true, reduceCtorEq, and_true, true_and] <;> (repeat' apply And.intro) <;> first | trivial | omega
theorem pLs42_ok (rods : List Rod) (grow : List Int) : (pLs 4 2).Ok Try.prog (fnB rods grow) := by
  refine un1 (l := LSn 4) (R := RL) (fuel := 200) (fun _ => lsT 4 2) prog_ok ⟨pLow_ok _, pLenL4_ok _ _, pMinus_ok _, pScS_ok _, trivial⟩ rfl (RL_ok _ _) rfl rfl ?h ?h' ?_
  case h => kernel_rfl
  case h' => kernel_rfl
  intro xs es hlen hpre hrw
  clear hrw hlen
  ( simp only [OT.vc, LT.vc, OT.is, AllB, RgB, inR, nthR, idsF, fsOf, List.drop, List.flatMap_cons, List.flatMap_nil, List.append_nil, List.getElem?_cons_zero, List.getElem?_cons_succ, rwFs, rwF, List.nil_append, List.cons_append, mix_v, mix_fn, upd_fn, upd_nil, upd_cons, X.one, X.isL, cond_false, valX_fn, valX_v, setM_v, List.mem_cons, List.not_mem_nil, or_false, false_or, or_true, true_or, if_true, if_false, ite_true, ite_false, Nat.reduceEqDiff, SV.den, AV.int.injEq, AV.bool.injEq, true_and, and_true, X.dB_lt, X.dB_le, X.dB_eq, X.denB_and, X.denB_or, X.denB_not, X.denB_lit0, X.denB_lit1, X.den_lit, X.den_var, X.den_add, X.den_sub, X.den_mul, X.den_app, X.den_ite, X.den_wrap, X.dB_ite, cond_tf, X.denB_app, X.denB_var, X.sem_cons, X.sem_nil, leB_t, ltB_t, eqB_t, leB_f, ltB_f, eqB_f, Bool.and_eq_true, Bool.or_eq_true, Bool.not_eq_true', Bool.and_eq_false_iff, Bool.or_eq_false_iff, Bool.not_eq_false', pLs, lsP, lsT, rg, rg2, lenP, lnX, otX, loX, hiX, spO, apl, le, lt, eq, add, sub, mul, v, lit, i64, List.range, List.range.loop, List.flatMap_cons, List.flatMap_nil, List.foldr, Nat.reduceMul, Nat.reduceAdd, Nat.mul_zero, Nat.add_zero, X.den_min, X.den_max, SV.dens, AV.agg.injEq, List.cons.injEq] at *)
  cases i2b (xs.getD 14 0) <;> simp only [cond_true, cond_false, true_implies, false_implies, Bool.true_eq_false, Bool.false_eq_true, reduceCtorEq, and_true, true_and] <;> (repeat' apply And.intro) <;> first | trivial | omega
theorem pLs43_ok (rods : List Rod) (grow : List Int) : (pLs 4 3).Ok Try.prog (fnB rods grow) := by
  refine un1 (l := LSn 4) (R := RL) (fuel := 200) (fun _ => lsT 4 3) prog_ok ⟨pLow_ok _, pLenL4_ok _ _, pMinus_ok _, pScS_ok _, trivial⟩ rfl (RL_ok _ _) rfl rfl ?h ?h' ?_
  case h => kernel_rfl
  case h' => kernel_rfl
  intro xs es hlen hpre hrw
  clear hrw hlen
  ( simp only [OT.vc, LT.vc, OT.is, AllB, RgB, inR, nthR, idsF, fsOf, List.drop, List.flatMap_cons, List.flatMap_nil, List.append_nil, List.getElem?_cons_zero, List.getElem?_cons_succ, rwFs, rwF, List.nil_append, List.cons_append, mix_v, mix_fn, upd_fn, upd_nil, upd_cons, X.one, X.isL, cond_false, valX_fn, valX_v, setM_v, List.mem_cons, List.not_mem_nil, or_false, false_or, or_true, true_or, if_true, if_false, ite_true, ite_false, Nat.reduceEqDiff, SV.den, AV.int.injEq, AV.bool.injEq, true_and, and_true, X.dB_lt, X.dB_le, X.dB_eq, X.denB_and, X.denB_or, X.denB_not, X.denB_lit0, X.denB_lit1, X.den_lit, X.den_var, X.den_add, X.den_sub, X.den_mul, X.den_app, X.den_ite, X.den_wrap, X.dB_ite, cond_tf, X.denB_app, X.denB_var, X.sem_cons, X.sem_nil, leB_t, ltB_t, eqB_t, leB_f, ltB_f, eqB_f, Bool.and_eq_true, Bool.or_eq_true, Bool.not_eq_true', Bool.and_eq_false_iff, Bool.or_eq_false_iff, Bool.not_eq_false', pLs, lsP, lsT, rg, rg2, lenP, lnX, otX, loX, hiX, spO, apl, le, lt, eq, add, sub, mul, v, lit, i64, List.range, List.range.loop, List.flatMap_cons, List.flatMap_nil, List.foldr, Nat.reduceMul, Nat.reduceAdd, Nat.mul_zero, Nat.add_zero, X.den_min, X.den_max, SV.dens, AV.agg.injEq, List.cons.injEq] at *)
  cases i2b (xs.getD 18 0) <;> simp only [cond_true, cond_false, true_implies, false_implies, Bool.true_eq_false, Bool.false_eq_true, reduceCtorEq, and_true, true_and] <;> (repeat' apply And.intro) <;> first | trivial | omega
theorem pSe10_ok (rods : List Rod) (grow : List Int) : (pSe 1 0).Ok Try.prog (fnB rods grow) := by
  refine lp1 (l := [pGrL 1]) (R := RS 1) (tps := seT 1) (f := Try.f40) (fuel := 400) (Inv := fun xs _ ρ => ρ.v 43 ≤ (bsX 1 0).den (valX (fnB rods grow) xs) - xs.getD 1 0 ∧ (bsX 1 0).den (valX (fnB rods grow) xs) - xs.getD 1 0 ≤ ρ.v 44) (mu := fun xs _ ρ => (ρ.v 44 - ρ.v 43).toNat) (fun _ => seTree 1 0)
    prog_ok Try.func40 rfl ⟨pGrL1_ok _ _, trivial⟩ rfl (RL_ok _ _) rfl ?h ?h' ?_
  case h => kernel_rfl
  case h' => kernel_rfl
  intro xs es hlen hpre hrw
  clear hrw hlen
  ( simp only [OT.vc, LT.vc, OT.is, AllB, RgB, inR, nthR, idsF, fsOf, List.drop, List.flatMap_cons, List.flatMap_nil, List.append_nil, List.getElem?_cons_zero, List.getElem?_cons_succ, rwFs, rwF, List.nil_append, List.cons_append, mix_v, mix_fn, upd_fn, upd_nil, upd_cons, X.one, X.isL, cond_false, valX_fn, valX_v, setM_v, List.mem_cons, List.not_mem_nil, or_false, false_or, or_true, true_or, if_true, if_false, ite_true, ite_false, Nat.reduceEqDiff, SV.den, AV.int.injEq, AV.bool.injEq, true_and, and_true, X.dB_lt, X.dB_le, X.dB_eq, X.denB_and, X.denB_or, X.denB_not, X.denB_lit0, X.denB_lit1, X.den_lit, X.den_var, X.den_add, X.den_sub, X.den_mul, X.den_app, X.den_ite, X.den_wrap, X.dB_ite, cond_tf, X.denB_app, X.denB_var, X.sem_cons, X.sem_nil, leB_t, ltB_t, eqB_t, leB_f, ltB_f, eqB_f, Bool.and_eq_true, Bool.or_eq_true, Bool.not_eq_true', Bool.and_eq_false_iff, Bool.or_eq_false_iff, Bool.not_eq_false', pSe, seP, seTree, seT, RS, bsX, spA, efX, setX, Nat.beq, cond_true, X.den_quo, rg, rg2, lenP, lnX, otX, loX, hiX, spO, apl, le, lt, eq, add, sub, mul, v, lit, i64, List.range, List.range.loop, List.flatMap_cons, List.flatMap_nil, List.foldr, Nat.reduceMul, Nat.reduceAdd, Nat.mul_zero, Nat.add_zero, X.den_min, X.den_max] at *)
  have hl : RdL [xs.getD 14 0, xs.getD 15 0, xs.getD 6 0, xs.getD 9 0] := by simp only [RdL, and_true]; omega
  have F := se_fact (rods := rods) (grow := grow) (k := 0) (l := [xs.getD 14 0, xs.getD 15 0, xs.getD 6 0, xs.getD 9 0]) (xs.getD 6 0) rfl hl (by simp) (by simp) (by simp) (by omega) (by omega) ?q1 ?q2
  case q1 => rw [f73] at hpre; simp only [clampM, lnL] at hpre; simp only [blLen]; omega
  case q2 => rw [f73] at hpre; simp only [clampM, lnL] at hpre; simp only [blLen]; omega
  rw [f73] at hpre
  simp only [clampM, lnL] at hpre
  have e1 : blLo 0 [xs.getD 14 0, xs.getD 15 0, xs.getD 6 0, xs.getD 9 0] = xs.getD 1 0 := by
    simp only [blLo, blSet, blLen, List.set, List.getD_cons_succ, List.getD_cons_zero, Nat.reduceMul, Nat.reduceAdd]
    cases hh : i2b (xs.getD 9 0) <;> simp only [lowI, hh, cond_true, cond_false] at hpre ⊢ <;> omega
  have e2 : blHi 0 [xs.getD 14 0, xs.getD 15 0, xs.getD 6 0, xs.getD 9 0] = xs.getD 2 0 := by
    simp only [blHi, blSet, blLen, List.set, List.getD_cons_succ, List.getD_cons_zero, Nat.reduceMul, Nat.reduceAdd]
    cases hh : i2b (xs.getD 9 0) <;> simp only [lowI, hh, cond_true, cond_false] at hpre ⊢ <;> omega
  rw [e1, e2] at F
  exact se_close (E := effB rods grow 0 [xs.getD 14 0, xs.getD 15 0, xs.getD 6 0, xs.getD 9 0]) (fun w h => h.1.1) hpre.2.1 hpre.2.2.1 hpre.2.2.2.1 hpre.2.2.2.2.1 F.1.1 F.1.2.1 F.2
theorem pSe20_ok (rods : List Rod) (grow : List Int) : (pSe 2 0).Ok Try.prog (fnB rods grow) := by
  refine lp1 (l := [pGrL 2]) (R := RS 2) (tps := seT 2) (f := Try.f40) (fuel := 400) (Inv := fun xs _ ρ => ρ.v 47 ≤ (bsX 2 0).den (valX (fnB rods grow) xs) - xs.getD 1 0 ∧ (bsX 2 0).den (valX (fnB rods grow) xs) - xs.getD 1 0 ≤ ρ.v 48) (mu := fun xs _ ρ => (ρ.v 48 - ρ.v 47).toNat) (fun _ => seTree 2 0)
    prog_ok Try.func40 rfl ⟨pGrL2_ok _ _, trivial⟩ rfl (RL_ok _ _) rfl ?h ?h' ?_
  case h => kernel_rfl
  case h' => kernel_rfl
  intro xs es hlen hpre hrw
  clear hrw hlen
  ( simp only [OT.vc, LT.vc, OT.is, AllB, RgB, inR, nthR, idsF, fsOf, List.drop, List.flatMap_cons, List.flatMap_nil, List.append_nil, List.getElem?_cons_zero, List.getElem?_cons_succ, rwFs, rwF, List.nil_append, List.cons_append, mix_v, mix_fn, upd_fn, upd_nil, upd_cons, X.one, X.isL, cond_false, valX_fn, valX_v, setM_v, List.mem_cons, List.not_mem_nil, or_false, false_or, or_true, true_or, if_true, if_false, ite_true, ite_false, Nat.reduceEqDiff, SV.den, AV.int.injEq, AV.bool.injEq, true_and, and_true, X.dB_lt, X.dB_le, X.dB_eq, X.denB_and, X.denB_or, X.denB_not, X.denB_lit0, X.denB_lit1, X.den_lit, X.den_var, X.den_add, X.den_sub, X.den_mul, X.den_app, X.den_ite, X.den_wrap, X.dB_ite, cond_tf, X.denB_app, X.denB_var, X.sem_cons, X.sem_nil, leB_t, ltB_t, eqB_t, leB_f, ltB_f, eqB_f, Bool.and_eq_true, Bool.or_eq_true, Bool.not_eq_true', Bool.and_eq_false_iff, Bool.or_eq_false_iff, Bool.not_eq_false', pSe, seP, seTree, seT, RS, bsX, spA, efX, setX, Nat.beq, cond_true, X.den_quo, rg, rg2, lenP, lnX, otX, loX, hiX, spO, apl, le, lt, eq, add, sub, mul, v, lit, i64, List.range, List.range.loop, List.flatMap_cons, List.flatMap_nil, List.foldr, Nat.reduceMul, Nat.reduceAdd, Nat.mul_zero, Nat.add_zero, X.den_min, X.den_max] at *)
  have hl : RdL [xs.getD 18 0, xs.getD 19 0, xs.getD 6 0, xs.getD 9 0, xs.getD 20 0, xs.getD 21 0, xs.getD 10 0, xs.getD 13 0] := by simp only [RdL, and_true]; omega
  have F := se_fact (rods := rods) (grow := grow) (k := 0) (l := [xs.getD 18 0, xs.getD 19 0, xs.getD 6 0, xs.getD 9 0, xs.getD 20 0, xs.getD 21 0, xs.getD 10 0, xs.getD 13 0]) (xs.getD 6 0) rfl hl (by simp) (by simp) (by simp) (by omega) (by omega) ?q1 ?q2
  case q1 => rw [f73] at hpre; simp only [clampM, lnL] at hpre; simp only [blLen]; omega
  case q2 => rw [f73] at hpre; simp only [clampM, lnL] at hpre; simp only [blLen]; omega
  rw [f73] at hpre
  simp only [clampM, lnL] at hpre
  have e1 : blLo 0 [xs.getD 18 0, xs.getD 19 0, xs.getD 6 0, xs.getD 9 0, xs.getD 20 0, xs.getD 21 0, xs.getD 10 0, xs.getD 13 0] = xs.getD 1 0 := by
    simp only [blLo, blSet, blLen, List.set, List.getD_cons_succ, List.getD_cons_zero, Nat.reduceMul, Nat.reduceAdd]
    cases hh : i2b (xs.getD 9 0) <;> simp only [lowI, hh, cond_true, cond_false] at hpre ⊢ <;> omega
  have e2 : blHi 0 [xs.getD 18 0, xs.getD 19 0, xs.getD 6 0, xs.getD 9 0, xs.getD 20 0, xs.getD 21 0, xs.getD 10 0, xs.getD 13 0] = xs.getD 2 0 := by
    simp only [blHi, blSet, blLen, List.set, List.getD_cons_succ, List.getD_cons_zero, Nat.reduceMul, Nat.reduceAdd]
    cases hh : i2b (xs.getD 9 0) <;> simp only [lowI, hh, cond_true, cond_false] at hpre ⊢ <;> omega
  rw [e1, e2] at F
  exact se_close (E := effB rods grow 0 [xs.getD 18 0, xs.getD 19 0, xs.getD 6 0, xs.getD 9 0, xs.getD 20 0, xs.getD 21 0, xs.getD 10 0, xs.getD 13 0]) (fun w h => h.1.1) hpre.2.1 hpre.2.2.1 hpre.2.2.2.1 hpre.2.2.2.2.1 F.1.1 F.1.2.1 F.2
theorem pSe21_ok (rods : List Rod) (grow : List Int) : (pSe 2 1).Ok Try.prog (fnB rods grow) := by
  refine lp1 (l := [pGrL 2]) (R := RS 2) (tps := seT 2) (f := Try.f40) (fuel := 400) (Inv := fun xs _ ρ => ρ.v 47 ≤ (bsX 2 1).den (valX (fnB rods grow) xs) - xs.getD 1 0 ∧ (bsX 2 1).den (valX (fnB rods grow) xs) - xs.getD 1 0 ≤ ρ.v 48) (mu := fun xs _ ρ => (ρ.v 48 - ρ.v 47).toNat) (fun _ => seTree 2 1)
    prog_ok Try.func40 rfl ⟨pGrL2_ok _ _, trivial⟩ rfl (RL_ok _ _) rfl ?h ?h' ?_
  case h => kernel_rfl
  case h' => kernel_rfl
  intro xs es hlen hpre hrw
  clear hrw hlen
  ( simp only [OT.vc, LT.vc, OT.is, AllB, RgB, inR, nthR, idsF, fsOf, List.drop, List.flatMap_cons, List.flatMap_nil, List.append_nil, List.getElem?_cons_zero, List.getElem?_cons_succ, rwFs, rwF, List.nil_append, List.cons_append, mix_v, mix_fn, upd_fn, upd_nil, upd_cons, X.one, X.isL, cond_false, valX_fn, valX_v, setM_v, List.mem_cons, List.not_mem_nil, or_false, false_or, or_true, true_or, if_true, if_false, ite_true, ite_false, Nat.reduceEqDiff, SV.den, AV.int.injEq, AV.bool.injEq, true_and, and_true, X.dB_lt, X.dB_le, X.dB_eq, X.denB_and, X.denB_or, X.denB_not, X.denB_lit0, X.denB_lit1, X.den_lit, X.den_var, X.den_add, X.den_sub, X.den_mul, X.den_app, X.den_ite, X.den_wrap, X.dB_ite, cond_tf, X.denB_app, X.denB_var, X.sem_cons, X.sem_nil, leB_t, ltB_t, eqB_t, leB_f, ltB_f, eqB_f, Bool.and_eq_true, Bool.or_eq_true, Bool.not_eq_true', Bool.and_eq_false_iff, Bool.or_eq_false_iff, Bool.not_eq_false', pSe, seP, seTree, seT, RS, bsX, spA, efX, setX, Nat.beq, cond_true, X.den_quo, rg, rg2, lenP, lnX, otX, loX, hiX, spO, apl, le, lt, eq, add, sub, mul, v, lit, i64, List.range, List.range.loop, List.flatMap_cons, List.flatMap_nil, List.foldr, Nat.reduceMul, Nat.reduceAdd, Nat.mul_zero, Nat.add_zero, X.den_min, X.den_max] at *)
  have hl : RdL [xs.getD 18 0, xs.getD 19 0, xs.getD 6 0, xs.getD 9 0, xs.getD 20 0, xs.getD 21 0, xs.getD 10 0, xs.getD 13 0] := by simp only [RdL, and_true]; omega
  have F := se_fact (rods := rods) (grow := grow) (k := 1) (l := [xs.getD 18 0, xs.getD 19 0, xs.getD 6 0, xs.getD 9 0, xs.getD 20 0, xs.getD 21 0, xs.getD 10 0, xs.getD 13 0]) (xs.getD 10 0) rfl hl (by simp) (by simp) (by simp) (by omega) (by omega) ?q1 ?q2
  case q1 => rw [f73] at hpre; simp only [clampM, lnL] at hpre; simp only [blLen]; omega
  case q2 => rw [f73] at hpre; simp only [clampM, lnL] at hpre; simp only [blLen]; omega
  rw [f73] at hpre
  simp only [clampM, lnL] at hpre
  have e1 : blLo 1 [xs.getD 18 0, xs.getD 19 0, xs.getD 6 0, xs.getD 9 0, xs.getD 20 0, xs.getD 21 0, xs.getD 10 0, xs.getD 13 0] = xs.getD 1 0 := by
    simp only [blLo, blSet, blLen, List.set, List.getD_cons_succ, List.getD_cons_zero, Nat.reduceMul, Nat.reduceAdd]
    cases hh : i2b (xs.getD 13 0) <;> simp only [lowI, hh, cond_true, cond_false] at hpre ⊢ <;> omega
  have e2 : blHi 1 [xs.getD 18 0, xs.getD 19 0, xs.getD 6 0, xs.getD 9 0, xs.getD 20 0, xs.getD 21 0, xs.getD 10 0, xs.getD 13 0] = xs.getD 2 0 := by
    simp only [blHi, blSet, blLen, List.set, List.getD_cons_succ, List.getD_cons_zero, Nat.reduceMul, Nat.reduceAdd]
    cases hh : i2b (xs.getD 13 0) <;> simp only [lowI, hh, cond_true, cond_false] at hpre ⊢ <;> omega
  rw [e1, e2] at F
  exact se_close (E := effB rods grow 1 [xs.getD 18 0, xs.getD 19 0, xs.getD 6 0, xs.getD 9 0, xs.getD 20 0, xs.getD 21 0, xs.getD 10 0, xs.getD 13 0]) (fun w h => h.1.1) hpre.2.1 hpre.2.2.1 hpre.2.2.2.1 hpre.2.2.2.2.1 F.1.1 F.1.2.1 F.2
theorem pSe30_ok (rods : List Rod) (grow : List Int) : (pSe 3 0).Ok Try.prog (fnB rods grow) := by
  refine lp1 (l := [pGrL 3]) (R := RS 3) (tps := seT 3) (f := Try.f40) (fuel := 400) (Inv := fun xs _ ρ => ρ.v 51 ≤ (bsX 3 0).den (valX (fnB rods grow) xs) - xs.getD 1 0 ∧ (bsX 3 0).den (valX (fnB rods grow) xs) - xs.getD 1 0 ≤ ρ.v 52) (mu := fun xs _ ρ => (ρ.v 52 - ρ.v 51).toNat) (fun _ => seTree 3 0)
    prog_ok Try.func40 rfl ⟨pGrL3_ok _ _, trivial⟩ rfl (RL_ok _ _) rfl ?h ?h' ?_
  case h => kernel_rfl
  case h' => kernel_rfl
  intro xs es hlen hpre hrw
  clear hrw hlen
  ( simp only [OT.vc, LT.vc, OT.is, AllB, RgB, inR, nthR, idsF, fsOf, List.drop, List.flatMap_cons, List.flatMap_nil, List.append_nil, List.getElem?_cons_zero, List.getElem?_cons_succ, rwFs, rwF, List.nil_append, List.cons_append, mix_v, mix_fn, upd_fn, upd_nil, upd_cons, X.one, X.isL, cond_false, valX_fn, valX_v, setM_v, List.mem_cons, List.not_mem_nil, or_false, false_or, or_true, true_or, if_true, if_false, ite_true, ite_false, Nat.reduceEqDiff, SV.den, AV.int.injEq, AV.bool.injEq, true_and, and_true, X.dB_lt, X.dB_le, X.dB_eq, X.denB_and, X.denB_or, X.denB_not, X.denB_lit0, X.denB_lit1, X.den_lit, X.den_var, X.den_add, X.den_sub, X.den_mul, X.den_app, X.den_ite, X.den_wrap, X.dB_ite, cond_tf, X.denB_app, X.denB_var, X.sem_cons, X.sem_nil, leB_t, ltB_t, eqB_t, leB_f, ltB_f, eqB_f, Bool.and_eq_true, Bool.or_eq_true, Bool.not_eq_true', Bool.and_eq_false_iff, Bool.or_eq_false_iff, Bool.not_eq_false', pSe, seP, seTree, seT, RS, bsX, spA, efX, setX, Nat.beq, cond_true, X.den_quo, rg, rg2, lenP, lnX, otX, loX, hiX, spO, apl, le, lt, eq, add, sub, mul, v, lit, i64, List.range, List.range.loop, List.flatMap_cons, List.flatMap_nil, List.foldr, Nat.reduceMul, Nat.reduceAdd, Nat.mul_zero, Nat.add_zero, X.den_min, X.den_max] at *)
  have hl : RdL [xs.getD 22 0, xs.getD 23 0, xs.getD 6 0, xs.getD 9 0, xs.getD 24 0, xs.getD 25 0, xs.getD 10 0, xs.getD 13 0, xs.getD 26 0, xs.getD 27 0, xs.getD 14 0, xs.getD 17 0] := by simp only [RdL, and_true]; omega
  have F := se_fact (rods := rods) (grow := grow) (k := 0) (l := [xs.getD 22 0, xs.getD 23 0, xs.getD 6 0, xs.getD 9 0, xs.getD 24 0, xs.getD 25 0, xs.getD 10 0, xs.getD 13 0, xs.getD 26 0, xs.getD 27 0, xs.getD 14 0, xs.getD 17 0]) (xs.getD 6 0) rfl hl (by simp) (by simp) (by simp) (by omega) (by omega) ?q1 ?q2
  case q1 => rw [f73] at hpre; simp only [clampM, lnL] at hpre; simp only [blLen]; omega
  case q2 => rw [f73] at hpre; simp only [clampM, lnL] at hpre; simp only [blLen]; omega
  rw [f73] at hpre
  simp only [clampM, lnL] at hpre
  have e1 : blLo 0 [xs.getD 22 0, xs.getD 23 0, xs.getD 6 0, xs.getD 9 0, xs.getD 24 0, xs.getD 25 0, xs.getD 10 0, xs.getD 13 0, xs.getD 26 0, xs.getD 27 0, xs.getD 14 0, xs.getD 17 0] = xs.getD 1 0 := by
    simp only [blLo, blSet, blLen, List.set, List.getD_cons_succ, List.getD_cons_zero, Nat.reduceMul, Nat.reduceAdd]
    cases hh : i2b (xs.getD 9 0) <;> simp only [lowI, hh, cond_true, cond_false] at hpre ⊢ <;> omega
  have e2 : blHi 0 [xs.getD 22 0, xs.getD 23 0, xs.getD 6 0, xs.getD 9 0, xs.getD 24 0, xs.getD 25 0, xs.getD 10 0, xs.getD 13 0, xs.getD 26 0, xs.getD 27 0, xs.getD 14 0, xs.getD 17 0] = xs.getD 2 0 := by
    simp only [blHi, blSet, blLen, List.set, List.getD_cons_succ, List.getD_cons_zero, Nat.reduceMul, Nat.reduceAdd]
    cases hh : i2b (xs.getD 9 0) <;> simp only [lowI, hh, cond_true, cond_false] at hpre ⊢ <;> omega
  rw [e1, e2] at F
  exact se_close (E := effB rods grow 0 [xs.getD 22 0, xs.getD 23 0, xs.getD 6 0, xs.getD 9 0, xs.getD 24 0, xs.getD 25 0, xs.getD 10 0, xs.getD 13 0, xs.getD 26 0, xs.getD 27 0, xs.getD 14 0, xs.getD 17 0]) (fun w h => h.1.1) hpre.2.1 hpre.2.2.1 hpre.2.2.2.1 hpre.2.2.2.2.1 F.1.1 F.1.2.1 F.2
theorem pSe31_ok (rods : List Rod) (grow : List Int) : (pSe 3 1).Ok Try.prog (fnB rods grow) := by
  refine lp1 (l := [pGrL 3]) (R := RS 3) (tps := seT 3) (f := Try.f40) (fuel := 400) (Inv := fun xs _ ρ => ρ.v 51 ≤ (bsX 3 1).den (valX (fnB rods grow) xs) - xs.getD 1 0 ∧ (bsX 3 1).den (valX (fnB rods grow) xs) - xs.getD 1 0 ≤ ρ.v 52) (mu := fun xs _ ρ => (ρ.v 52 - ρ.v 51).toNat) (fun _ => seTree 3 1)
    prog_ok Try.func40 rfl ⟨pGrL3_ok _ _, trivial⟩ rfl (RL_ok _ _) rfl ?h ?h' ?_
  case h => kernel_rfl
  case h' => kernel_rfl
  intro xs es hlen hpre hrw
  clear hrw hlen
  ( simp only [OT.vc, LT.vc, OT.is, AllB, RgB, inR, nthR, idsF, fsOf, List.drop, List.flatMap_cons, List.flatMap_nil, List.append_nil, List.getElem?_cons_zero, List.getElem?_cons_succ, rwFs, rwF, List.nil_append, List.cons_append, mix_v, mix_fn, upd_fn, upd_nil, upd_cons, X.one, X.isL, cond_false, valX_fn, valX_v, setM_v, List.mem_cons, List.not_mem_nil, or_false, false_or, or_true, true_or, if_true, if_false, ite_true, ite_false, Nat.reduceEqDiff, SV.den, AV.int.injEq, AV.bool.injEq, true_and, and_true, X.dB_lt, X.dB_le, X.dB_eq, X.denB_and, X.denB_or, X.denB_not, X.denB_lit0, X.denB_lit1, X.den_lit, X.den_var, X.den_add, X.den_sub, X.den_mul, X.den_app, X.den_ite, X.den_wrap, X.dB_ite, cond_tf, X.denB_app, X.denB_var, X.sem_cons, X.sem_nil, leB_t, ltB_t, eqB_t, leB_f, ltB_f, eqB_f, Bool.and_eq_true, Bool.or_eq_true, Bool.not_eq_true', Bool.and_eq_false_iff, Bool.or_eq_false_iff, Bool.not_eq_false', pSe, seP, seTree, seT, RS, bsX, spA, efX, setX, Nat.beq, cond_true, X.den_quo, rg, rg2, lenP, lnX, otX, loX, hiX, spO, apl, le, lt, eq, add, sub, mul, v, lit, i64, List.range, List.range.loop, List.flatMap_cons, List.flatMap_nil, List.foldr, Nat.reduceMul, Nat.reduceAdd, Nat.mul_zero, Nat.add_zero, X.den_min, X.den_max] at *)
  have hl : RdL [xs.getD 22 0, xs.getD 23 0, xs.getD 6 0, xs.getD 9 0, xs.getD 24 0, xs.getD 25 0, xs.getD 10 0, xs.getD 13 0, xs.getD 26 0, xs.getD 27 0, xs.getD 14 0, xs.getD 17 0] := by simp only [RdL, and_true]; omega
  have F := se_fact (rods := rods) (grow := grow) (k := 1) (l := [xs.getD 22 0, xs.getD 23 0, xs.getD 6 0, xs.getD 9 0, xs.getD 24 0, xs.getD 25 0, xs.getD 10 0, xs.getD 13 0, xs.getD 26 0, xs.getD 27 0, xs.getD 14 0, xs.getD 17 0]) (xs.getD 10 0) rfl hl (by simp) (by simp) (by simp) (by omega) (by omega) ?q1 ?q2
  case q1 => rw [f73] at hpre; simp only [clampM, lnL] at hpre; simp only [blLen]; omega
  case q2 => rw [f73] at hpre; simp only [clampM, lnL] at hpre; simp only [blLen]; omega
  rw [f73] at hpre
  simp only [clampM, lnL] at hpre
  have e1 : blLo 1 [xs.getD 22 0, xs.getD 23 0, xs.getD 6 0, xs.getD 9 0, xs.getD 24 0, xs.getD 25 0, xs.getD 10 0, xs.getD 13 0, xs.getD 26 0, xs.getD 27 0, xs.getD 14 0, xs.getD 17 0] = xs.getD 1 0 := by
    simp only [blLo, blSet, blLen, List.set, List.getD_cons_succ, List.getD_cons_zero, Nat.reduceMul, Nat.reduceAdd]
    cases hh : i2b (xs.getD 13 0) <;> simp only [lowI, hh, cond_true, cond_false] at hpre ⊢ <;> omega
  have e2 : blHi 1 [xs.getD 22 0, xs.getD 23 0, xs.getD 6 0, xs.getD 9 0, xs.getD 24 0, xs.getD 25 0, xs.getD 10 0, xs.getD 13 0, xs.getD 26 0, xs.getD 27 0, xs.getD 14 0, xs.getD 17 0] = xs.getD 2 0 := by
    simp only [blHi, blSet, blLen, List.set, List.getD_cons_succ, List.getD_cons_zero, Nat.reduceMul, Nat.reduceAdd]
    cases hh : i2b (xs.getD 13 0) <;> simp only [lowI, hh, cond_true, cond_false] at hpre ⊢ <;> omega
  rw [e1, e2] at F
  exact se_close (E := effB rods grow 1 [xs.getD 22 0, xs.getD 23 0, xs.getD 6 0, xs.getD 9 0, xs.getD 24 0, xs.getD 25 0, xs.getD 10 0, xs.getD 13 0, xs.getD 26 0, xs.getD 27 0, xs.getD 14 0, xs.getD 17 0]) (fun w h => h.1.1) hpre.2.1 hpre.2.2.1 hpre.2.2.2.1 hpre.2.2.2.2.1 F.1.1 F.1.2.1 F.2
theorem pSe32_ok (rods : List Rod) (grow : List Int) : (pSe 3 2).Ok Try.prog (fnB rods grow) := by
  refine lp1 (l := [pGrL 3]) (R := RS 3) (tps := seT 3) (f := Try.f40) (fuel := 400) (Inv := fun xs _ ρ => ρ.v 51 ≤ (bsX 3 2).den (valX (fnB rods grow) xs) - xs.getD 1 0 ∧ (bsX 3 2).den (valX (fnB rods grow) xs) - xs.getD 1 0 ≤ ρ.v 52) (mu := fun xs _ ρ => (ρ.v 52 - ρ.v 51).toNat) (fun _ => seTree 3 2)
    prog_ok Try.func40 rfl ⟨pGrL3_ok _ _, trivial⟩ rfl (RL_ok _ _) rfl ?h ?h' ?_
  case h => kernel_rfl
  case h' => kernel_rfl
  intro xs es hlen hpre hrw
  clear hrw hlen
  ( simp only [OT.vc, LT.vc, OT.is, AllB, RgB, inR, nthR, idsF, fsOf, List.drop, List.flatMap_cons, List.flatMap_nil, List.append_nil, List.getElem?_cons_zero, List.getElem?_cons_succ, rwFs, rwF, List.nil_append, List.cons_append, mix_v, mix_fn, upd_fn, upd_nil, upd_cons, X.one, X.isL, cond_false, valX_fn, valX_v, setM_v, List.mem_cons, List.not_mem_nil, or_false, false_or, or_true, true_or, if_true, if_false, ite_true, ite_false, Nat.reduceEqDiff, SV.den, AV.int.injEq, AV.bool.injEq, true_and, and_true, X.dB_lt, X.dB_le, X.dB_eq, X.denB_and, X.denB_or, X.denB_not, X.denB_lit0, X.denB_lit1, X.den_lit, X.den_var, X.den_add, X.den_sub, X.den_mul, X.den_app, X.den_ite, X.den_wrap, X.dB_ite, cond_tf, X.denB_app, X.denB_var, X.sem_cons, X.sem_nil, leB_t, ltB_t, eqB_t, leB_f, ltB_f, eqB_f, Bool.and_eq_true, Bool.or_eq_true, Bool.not_eq_true', Bool.and_eq_false_iff, Bool.or_eq_false_iff, Bool.not_eq_false', pSe, seP, seTree, seT, RS, bsX, spA, efX, setX, Nat.beq, cond_true, X.den_quo, rg, rg2, lenP, lnX, otX, loX, hiX, spO, apl, le, lt, eq, add, sub, mul, v, lit, i64, List.range, List.range.loop, List.flatMap_cons, List.flatMap_nil, List.foldr, Nat.reduceMul, Nat.reduceAdd, Nat.mul_zero, Nat.add_zero, X.den_min, X.den_max] at *)
  have hl : RdL [xs.getD 22 0, xs.getD 23 0, xs.getD 6 0, xs.getD 9 0, xs.getD 24 0, xs.getD 25 0, xs.getD 10 0, xs.getD 13 0, xs.getD 26 0, xs.getD 27 0, xs.getD 14 0, xs.getD 17 0] := by simp only [RdL, and_true]; omega
  have F := se_fact (rods := rods) (grow := grow) (k := 2) (l := [xs.getD 22 0, xs.getD 23 0, xs.getD 6 0, xs.getD 9 0, xs.getD 24 0, xs.getD 25 0, xs.getD 10 0, xs.getD 13 0, xs.getD 26 0, xs.getD 27 0, xs.getD 14 0, xs.getD 17 0]) (xs.getD 14 0) rfl hl (by simp) (by simp) (by simp) (by omega) (by omega) ?q1 ?q2
  case q1 => rw [f73] at hpre; simp only [clampM, lnL] at hpre; simp only [blLen]; omega
  case q2 => rw [f73] at hpre; simp only [clampM, lnL] at hpre; simp only [blLen]; omega
  rw [f73] at hpre
  simp only [clampM, lnL] at hpre
  have e1 : blLo 2 [xs.getD 22 0, xs.getD 23 0, xs.getD 6 0, xs.getD 9 0, xs.getD 24 0, xs.getD 25 0, xs.getD 10 0, xs.getD 13 0, xs.getD 26 0, xs.getD 27 0, xs.getD 14 0, xs.getD 17 0] = xs.getD 1 0 := by
    simp only [blLo, blSet, blLen, List.set, List.getD_cons_succ, List.getD_cons_zero, Nat.reduceMul, Nat.reduceAdd]
    cases hh : i2b (xs.getD 17 0) <;> simp only [lowI, hh, cond_true, cond_false] at hpre ⊢ <;> omega
  have e2 : blHi 2 [xs.getD 22 0, xs.getD 23 0, xs.getD 6 0, xs.getD 9 0, xs.getD 24 0, xs.getD 25 0, xs.getD 10 0, xs.getD 13 0, xs.getD 26 0, xs.getD 27 0, xs.getD 14 0, xs.getD 17 0] = xs.getD 2 0 := by
    simp only [blHi, blSet, blLen, List.set, List.getD_cons_succ, List.getD_cons_zero, Nat.reduceMul, Nat.reduceAdd]
    cases hh : i2b (xs.getD 17 0) <;> simp only [lowI, hh, cond_true, cond_false] at hpre ⊢ <;> omega
  rw [e1, e2] at F
  exact se_close (E := effB rods grow 2 [xs.getD 22 0, xs.getD 23 0, xs.getD 6 0, xs.getD 9 0, xs.getD 24 0, xs.getD 25 0, xs.getD 10 0, xs.getD 13 0, xs.getD 26 0, xs.getD 27 0, xs.getD 14 0, xs.getD 17 0]) (fun w h => h.1.1) hpre.2.1 hpre.2.2.1 hpre.2.2.2.1 hpre.2.2.2.2.1 F.1.1 F.1.2.1 F.2
theorem pSe40_ok (rods : List Rod) (grow : List Int) : (pSe 4 0).Ok Try.prog (fnB rods grow) := by
  refine lp1 (l := [pGrL 4]) (R := RS 4) (tps := seT 4) (f := Try.f40) (fuel := 400) (Inv := fun xs _ ρ => ρ.v 55 ≤ (bsX 4 0).den (valX (fnB rods grow) xs) - xs.getD 1 0 ∧ (bsX 4 0).den (valX (fnB rods grow) xs) - xs.getD 1 0 ≤ ρ.v 56) (mu := fun xs _ ρ => (ρ.v 56 - ρ.v 55).toNat) (fun _ => seTree 4 0)
    prog_ok Try.func40 rfl ⟨pGrL4_ok _ _, trivial⟩ rfl (RL_ok _ _) rfl ?h ?h' ?_
  case h => kernel_rfl
  case h' => kernel_rfl
  intro xs es hlen hpre hrw
  clear hrw hlen
  ( simp only [OT.vc, LT.vc, OT.is, AllB, RgB, inR, nthR, idsF, fsOf, List.drop, List.flatMap_cons, List.flatMap_nil, List.append_nil, List.getElem?_cons_zero, List.getElem?_cons_succ, rwFs, rwF, List.nil_append, List.cons_append, mix_v, mix_fn, upd_fn, upd_nil, upd_cons, X.one, X.isL, cond_false, valX_fn, valX_v, setM_v, List.mem_cons, List.not_mem_nil, or_false, false_or, or_true, true_or, if_true, if_false, ite_true, ite_false, Nat.reduceEqDiff, SV.den, AV.int.injEq, AV.bool.injEq, true_and, and_true, X.dB_lt, X.dB_le, X.dB_eq, X.denB_and, X.denB_or, X.denB_not, X.denB_lit0, X.denB_lit1, X.den_lit, X.den_var, X.den_add, X.den_sub, X.den_mul, X.den_app, X.den_ite, X.den_wrap, X.dB_ite, cond_tf, X.denB_app, X.denB_var, X.sem_cons, X.sem_nil, leB_t, ltB_t, eqB_t, leB_f, ltB_f, eqB_f, Bool.and_eq_true, Bool.or_eq_true, Bool.not_eq_true', Bool.and_eq_false_iff, Bool.or_eq_false_iff, Bool.not_eq_false', pSe, seP, seTree, seT, RS, bsX, spA, efX, setX, Nat.beq, cond_true, X.den_quo, rg, rg2, lenP, lnX, otX, loX, hiX, spO, apl, le, lt, eq, add, sub, mul, v, lit, i64, List.range, List.range.loop, List.flatMap_cons, List.flatMap_nil, List.foldr, Nat.reduceMul, Nat.reduceAdd, Nat.mul_zero, Nat.add_zero, X.den_min, X.den_max] at *)
  have hl : RdL [xs.getD 26 0, xs.getD 27 0, xs.getD 6 0, xs.getD 9 0, xs.getD 28 0, xs.getD 29 0, xs.getD 10 0, xs.getD 13 0, xs.getD 30 0, xs.getD 31 0, xs.getD 14 0, xs.getD 17 0, xs.getD 32 0, xs.getD 33 0, xs.getD 18 0, xs.getD 21 0] := by simp only [RdL, and_true]; omega
  have F := se_fact (rods := rods) (grow := grow) (k := 0) (l := [xs.getD 26 0, xs.getD 27 0, xs.getD 6 0, xs.getD 9 0, xs.getD 28 0, xs.getD 29 0, xs.getD 10 0, xs.getD 13 0, xs.getD 30 0, xs.getD 31 0, xs.getD 14 0, xs.getD 17 0, xs.getD 32 0, xs.getD 33 0, xs.getD 18 0, xs.getD 21 0]) (xs.getD 6 0) rfl hl (by simp) (by simp) (by simp) (by omega) (by omega) ?q1 ?q2
  case q1 => rw [f73] at hpre; simp only [clampM, lnL] at hpre; simp only [blLen]; omega
  case q2 => rw [f73] at hpre; simp only [clampM, lnL] at hpre; simp only [blLen]; omega
  rw [f73] at hpre
  simp only [clampM, lnL] at hpre
  have e1 : blLo 0 [xs.getD 26 0, xs.getD 27 0, xs.getD 6 0, xs.getD 9 0, xs.getD 28 0, xs.getD 29 0, xs.getD 10 0, xs.getD 13 0, xs.getD 30 0, xs.getD 31 0, xs.getD 14 0, xs.getD 17 0, xs.getD 32 0, xs.getD 33 0, xs.getD 18 0, xs.getD 21 0] = xs.getD 1 0 := by
    simp only [blLo, blSet, blLen, List.set, List.getD_cons_succ, List.getD_cons_zero, Nat.reduceMul, Nat.reduceAdd]
    cases hh : i2b (xs.getD 9 0) <;> simp only [lowI, hh, cond_true, cond_false] at hpre ⊢ <;> omega
  have e2 : blHi 0 [xs.getD 26 0, xs.getD 27 0, xs.getD 6 0, xs.getD 9 0, xs.getD 28 0, xs.getD 29 0, xs.getD 10 0, xs.getD 13 0, xs.getD 30 0, xs.getD 31 0, xs.getD 14 0, xs.getD 17 0, xs.getD 32 0, xs.getD 33 0, xs.getD 18 0, xs.getD 21 0] = xs.getD 2 0 := by
    simp only [blHi, blSet, blLen, List.set, List.getD_cons_succ, List.getD_cons_zero, Nat.reduceMul, Nat.reduceAdd]
    cases hh : i2b (xs.getD 9 0) <;> simp only [lowI, hh, cond_true, cond_false] at hpre ⊢ <;> omega
  rw [e1, e2] at F
  exact se_close (E := effB rods grow 0 [xs.getD 26 0, xs.getD 27 0, xs.getD 6 0, xs.getD 9 0, xs.getD 28 0, xs.getD 29 0, xs.getD 10 0, xs.getD 13 0, xs.getD 30 0, xs.getD 31 0, xs.getD 14 0, xs.getD 17 0, xs.getD 32 0, xs.getD 33 0, xs.getD 18 0, xs.getD 21 0]) (fun w h => h.1.1) hpre.2.1 hpre.2.2.1 hpre.2.2.2.1 hpre.2.2.2.2.1 F.1.1 F.1.2.1 F.2
theorem pSe41_ok (rods : List Rod) (grow : List Int) : (pSe 4 1).Ok Try.prog (fnB rods grow) := by
  refine lp1 (l := [pGrL 4]) (R := RS 4) (tps := seT 4) (f := Try.f40) (fuel := 400) (Inv := fun xs _ ρ => ρ.v 55 ≤ (bsX 4 1).den (valX (fnB rods grow) xs) - xs.getD 1 0 ∧ (bsX 4 1).den (valX (fnB rods grow) xs) - xs.getD 1 0 ≤ ρ.v 56) (mu := fun xs _ ρ => (ρ.v 56 - ρ.v 55).toNat) (fun _ => seTree 4 1)
    prog_ok Try.func40 rfl ⟨pGrL4_ok _ _, trivial⟩ rfl (RL_ok _ _) rfl ?h ?h' ?_
  case h => kernel_rfl
  case h' => kernel_rfl
  intro xs es hlen hpre hrw
  clear hrw hlen
  ( simp only [OT.vc, LT.vc, OT.is, AllB, RgB, inR, nthR, idsF, fsOf, List.drop, List.flatMap_cons, List.flatMap_nil, List.append_nil, List.getElem?_cons_zero, List.getElem?_cons_succ, rwFs, rwF, List.nil_append, List.cons_append, mix_v, mix_fn, upd_fn, upd_nil, upd_cons, X.one, X.isL, cond_false, valX_fn, valX_v, setM_v, List.mem_cons, List.not_mem_nil, or_false, false_or, or_true, true_or, if_true, if_false, ite_true, ite_false, Nat.reduceEqDiff, SV.den, AV.int.injEq, AV.bool.injEq, true_and, and_true, X.dB_lt, X.dB_le, X.dB_eq, X.denB_and, X.denB_or, X.denB_not, X.denB_lit0, X.denB_lit1, X.den_lit, X.den_var, X.den_add, X.den_sub, X.den_mul, X.den_app, X.den_ite, X.den_wrap, X.dB_ite, cond_tf, X.denB_app, X.denB_var, X.sem_cons, X.sem_nil, leB_t, ltB_t, eqB_t, leB_f, ltB_f, eqB_f, Bool.and_eq_true, Bool.or_eq_true, Bool.not_eq_true', Bool.and_eq_false_iff, Bool.or_eq_false_iff, Bool.not_eq_false', pSe, seP, seTree, seT, RS, bsX, spA, efX, setX, Nat.beq, cond_true, X.den_quo, rg, rg2, lenP, lnX, otX, loX, hiX, spO, apl, le, lt, eq, add, sub, mul, v, lit, i64, List.range, List.range.loop, List.flatMap_cons, List.flatMap_nil, List.foldr, Nat.reduceMul, Nat.reduceAdd, Nat.mul_zero, Nat.add_zero, X.den_min, X.den_max] at *)
  have hl : RdL [xs.getD 26 0, xs.getD 27 0, xs.getD 6 0, xs.getD 9 0, xs.getD 28 0, xs.getD 29 0, xs.getD 10 0, xs.getD 13 0, xs.getD 30 0, xs.getD 31 0, xs.getD 14 0, xs.getD 17 0, xs.getD 32 0, xs.getD 33 0, xs.getD 18 0, xs.getD 21 0] := by simp only [RdL, and_true]; omega
  have F := se_fact (rods := rods) (grow := grow) (k := 1) (l := [xs.getD 26 0, xs.getD 27 0, xs.getD 6 0, xs.getD 9 0, xs.getD 28 0, xs.getD 29 0, xs.getD 10 0, xs.getD 13 0, xs.getD 30 0, xs.getD 31 0, xs.getD 14 0, xs.getD 17 0, xs.getD 32 0, xs.getD 33 0, xs.getD 18 0, xs.getD 21 0]) (xs.getD 10 0) rfl hl (by simp) (by simp) (by simp) (by omega) (by omega) ?q1 ?q2
  case q1 => rw [f73] at hpre; simp only [clampM, lnL] at hpre; simp only [blLen]; omega
  case q2 => rw [f73] at hpre; simp only [clampM, lnL] at hpre; simp only [blLen]; omega
  rw [f73] at hpre
  simp only [clampM, lnL] at hpre
  have e1 : blLo 1 [xs.getD 26 0, xs.getD 27 0, xs.getD 6 0, xs.getD 9 0, xs.getD 28 0, xs.getD 29 0, xs.getD 10 0, xs.getD 13 0, xs.getD 30 0, xs.getD 31 0, xs.getD 14 0, xs.getD 17 0, xs.getD 32 0, xs.getD 33 0, xs.getD 18 0, xs.getD 21 0] = xs.getD 1 0 := by
    simp only [blLo, blSet, blLen, List.set, List.getD_cons_succ, List.getD_cons_zero, Nat.reduceMul, Nat.reduceAdd]
    cases hh : i2b (xs.getD 13 0) <;> simp only [lowI, hh, cond_true, cond_false] at hpre ⊢ <;> omega
  have e2 : blHi 1 [xs.getD 26 0, xs.getD 27 0, xs.getD 6 0, xs.getD 9 0, xs.getD 28 0, xs.getD 29 0, xs.getD 10 0, xs.getD 13 0, xs.getD 30 0, xs.getD 31 0, xs.getD 14 0, xs.getD 17 0, xs.getD 32 0, xs.getD 33 0, xs.getD 18 0, xs.getD 21 0] = xs.getD 2 0 := by
    simp only [blHi, blSet, blLen, List.set, List.getD_cons_succ, List.getD_cons_zero, Nat.reduceMul, Nat.reduceAdd]
    cases hh : i2b (xs.getD 13 0) <;> simp only [lowI, hh, cond_true, cond_false] at hpre ⊢ <;> omega
  rw [e1, e2] at F
  exact se_close (E := effB rods grow 1 [xs.getD 26 0, xs.getD 27 0, xs.getD 6 0, xs.getD 9 0, xs.getD 28 0, xs.getD 29 0, xs.getD 10 0, xs.getD 13 0, xs.getD 30 0, xs.getD 31 0, xs.getD 14 0, xs.getD 17 0, xs.getD 32 0, xs.getD 33 0, xs.getD 18 0, xs.getD 21 0]) (fun w h => h.1.1) hpre.2.1 hpre.2.2.1 hpre.2.2.2.1 hpre.2.2.2.2.1 F.1.1 F.1.2.1 F.2
theorem pSe42_ok (rods : List Rod) (grow : List Int) : (pSe 4 2).Ok Try.prog (fnB rods grow) := by
  refine lp1 (l := [pGrL 4]) (R := RS 4) (tps := seT 4) (f := Try.f40) (fuel := 400) (Inv := fun xs _ ρ => ρ.v 55 ≤ (bsX 4 2).den (valX (fnB rods grow) xs) - xs.getD 1 0 ∧ (bsX 4 2).den (valX (fnB rods grow) xs) - xs.getD 1 0 ≤ ρ.v 56) (mu := fun xs _ ρ => (ρ.v 56 - ρ.v 55).toNat) (fun _ => seTree 4 2)
    prog_ok Try.func40 rfl ⟨pGrL4_ok _ _, trivial⟩ rfl (RL_ok _ _) rfl ?h ?h' ?_
  case h => kernel_rfl
  case h' => kernel_rfl
  intro xs es hlen hpre hrw
  clear hrw hlen
  ( simp only [OT.vc, LT.vc, OT.is, AllB, RgB, inR, nthR, idsF, fsOf, List.drop, List.flatMap_cons, List.flatMap_nil, List.append_nil, List.getElem?_cons_zero, List.getElem?_cons_succ, rwFs, rwF, List.nil_append, List.cons_append, mix_v, mix_fn, upd_fn, upd_nil, upd_cons, X.one, X.isL, cond_false, valX_fn, valX_v, setM_v, List.mem_cons, List.not_mem_nil, or_false, false_or, or_true, true_or, if_true, if_false, ite_true, ite_false, Nat.reduceEqDiff, SV.den, AV.int.injEq, AV.bool.injEq, true_and, and_true, X.dB_lt, X.dB_le, X.dB_eq, X.denB_and, X.denB_or, X.denB_not, X.denB_lit0, X.denB_lit1, X.den_lit, X.den_var, X.den_add, X.den_sub, X.den_mul, X.den_app, X.den_ite, X.den_wrap, X.dB_ite, cond_tf, X.denB_app, X.denB_var, X.sem_cons, X.sem_nil, leB_t, ltB_t, eqB_t, leB_f, ltB_f, eqB_f, Bool.and_eq_true, Bool.or_eq_true, Bool.not_eq_true', Bool.and_eq_false_iff, Bool.or_eq_false_iff, Bool.not_eq_false', pSe, seP, seTree, seT, RS, bsX, spA, efX, setX, Nat.beq, cond_true, X.den_quo, rg, rg2, lenP, lnX, otX, loX, hiX, spO, apl, le, lt, eq, add, sub, mul, v, lit, i64, List.range, List.range.loop, List.flatMap_cons, List.flatMap_nil, List.foldr, Nat.reduceMul, Nat.reduceAdd, Nat.mul_zero, Nat.add_zero, X.den_min, X.den_max] at *)
  have hl : RdL [xs.getD 26 0, xs.getD 27 0, xs.getD 6 0, xs.getD 9 0, xs.getD 28 0, xs.getD 29 0, xs.getD 10 0, xs.getD 13 0, xs.getD 30 0, xs.getD 31 0, xs.getD 14 0, xs.getD 17 0, xs.getD 32 0, xs.getD 33 0, xs.getD 18 0, xs.getD 21 0] := by simp only [RdL, and_true]; omega
  have F := se_fact (rods := rods) (grow := grow) (k := 2) (l := [xs.getD 26 0, xs.getD 27 0, xs.getD 6 0, xs.getD 9 0, xs.getD 28 0, xs.getD 29 0, xs.getD 10 0, xs.getD 13 0, xs.getD 30 0, xs.getD 31 0, xs.getD 14 0, xs.getD 17 0, xs.getD 32 0, xs.getD 33 0, xs.getD 18 0, xs.getD 21 0]) (xs.getD 14 0) rfl hl (by simp) (by simp) (by simp) (by omega) (by omega) ?q1 ?q2
  case q1 => rw [f73] at hpre; simp only [clampM, lnL] at hpre; simp only [blLen]; omega
  case q2 => rw [f73] at hpre; simp only [clampM, lnL] at hpre; simp only [blLen]; omega
  rw [f73] at hpre
  simp only [clampM, lnL] at hpre
  have e1 : blLo 2 [xs.getD 26 0, xs.getD 27 0, xs.getD 6 0, xs.getD 9 0, xs.getD 28 0, xs.getD 29 0, xs.getD 10 0, xs.getD 13 0, xs.getD 30 0, xs.getD 31 0, xs.getD 14 0, xs.getD 17 0, xs.getD 32 0, xs.getD 33 0, xs.getD 18 0, xs.getD 21 0] = xs.getD 1 0 := by
    simp only [blLo, blSet, blLen, List.set, List.getD_cons_succ, List.getD_cons_zero, Nat.reduceMul, Nat.reduceAdd]
    cases hh : i2b (xs.getD 17 0) <;> simp only [lowI, hh, cond_true, cond_false] at hpre ⊢ <;> omega
  have e2 : blHi 2 [xs.getD 26 0, xs.getD 27 0, xs.getD 6 0, xs.getD 9 0, xs.getD 28 0, xs.getD 29 0, xs.getD 10 0, xs.getD 13 0, xs.getD 30 0, xs.getD 31 0, xs.getD 14 0, xs.getD 17 0, xs.getD 32 0, xs.getD 33 0, xs.getD 18 0, xs.getD 21 0] = xs.getD 2 0 := by
    simp only [blHi, blSet, blLen, List.set, List.getD_cons_succ, List.getD_cons_zero, Nat.reduceMul, Nat.reduceAdd]
    cases hh : i2b (xs.getD 17 0) <;> simp only [lowI, hh, cond_true, cond_false] at hpre ⊢ <;> omega
  rw [e1, e2] at F
  exact se_close (E := effB rods grow 2 [xs.getD 26 0, xs.getD 27 0, xs.getD 6 0, xs.getD 9 0, xs.getD 28 0, xs.getD 29 0, xs.getD 10 0, xs.getD 13 0, xs.getD 30 0, xs.getD 31 0, xs.getD 14 0, xs.getD 17 0, xs.getD 32 0, xs.getD 33 0, xs.getD 18 0, xs.getD 21 0]) (fun w h => h.1.1) hpre.2.1 hpre.2.2.1 hpre.2.2.2.1 hpre.2.2.2.2.1 F.1.1 F.1.2.1 F.2
theorem pSe43_ok (rods : List Rod) (grow : List Int) : (pSe 4 3).Ok Try.prog (fnB rods grow) := by
  refine lp1 (l := [pGrL 4]) (R := RS 4) (tps := seT 4) (f := Try.f40) (fuel := 400) (Inv := fun xs _ ρ => ρ.v 55 ≤ (bsX 4 3).den (valX (fnB rods grow) xs) - xs.getD 1 0 ∧ (bsX 4 3).den (valX (fnB rods grow) xs) - xs.getD 1 0 ≤ ρ.v 56) (mu := fun xs _ ρ => (ρ.v 56 - ρ.v 55).toNat) (fun _ => seTree 4 3)
    prog_ok Try.func40 rfl ⟨pGrL4_ok _ _, trivial⟩ rfl (RL_ok _ _) rfl ?h ?h' ?_
  case h => kernel_rfl
  case h' => kernel_rfl
  intro xs es hlen hpre hrw
  clear hrw hlen
  ( simp only [OT.vc, LT.vc, OT.is, AllB, RgB, inR, nthR, idsF, fsOf, List.drop, List.flatMap_cons, List.flatMap_nil, List.append_nil, List.getElem?_cons_zero, List.getElem?_cons_succ, rwFs, rwF, List.nil_append, List.cons_append, mix_v, mix_fn, upd_fn, upd_nil, upd_cons, X.one, X.isL, cond_false, valX_fn, valX_v, setM_v, List.mem_cons, List.not_mem_nil, or_false, false_or, or_true, true_or, if_true, if_false, ite_true, ite_false, Nat.reduceEqDiff, SV.den, AV.int.injEq, AV.bool.injEq, true_and, and_true, X.dB_lt, X.dB_le, X.dB_eq, X.denB_and, X.denB_or, X.denB_not, X.denB_lit0, X.denB_lit1, X.den_lit, X.den_var, X.den_add, X.den_sub, X.den_mul, X.den_app, X.den_ite, X.den_wrap, X.dB_ite, cond_tf, X.denB_app, X.denB_var, X.sem_cons, X.sem_nil, leB_t, ltB_t, eqB_t, leB_f, ltB_f, eqB_f, Bool.and_eq_true, Bool.or_eq_true, Bool.not_eq_true', Bool.and_eq_false_iff, Bool.or_eq_false_iff, Bool.not_eq_false', pSe, seP, seTree, seT, RS, bsX, spA, efX, setX, Nat.beq, cond_true, X.den_quo, rg, rg2, lenP, lnX, otX, loX, hiX, spO, apl, le, lt, eq, add, sub, mul, v, lit, i64, List.range, List.range.loop, List.flatMap_cons, List.flatMap_nil, List.foldr, Nat.reduceMul, Nat.reduceAdd, Nat.mul_zero, Nat.add_zero, X.den_min, X.den_max] at *)
  have hl : RdL [xs.getD 26 0, xs.getD 27 0, xs.getD 6 0, xs.getD 9 0, xs.getD 28 0, xs.getD 29 0, xs.getD 10 0, xs.getD 13 0, xs.getD 30 0, xs.getD 31 0, xs.getD 14 0, xs.getD 17 0, xs.getD 32 0, xs.getD 33 0, xs.getD 18 0, xs.getD 21 0] := by simp only [RdL, and_true]; omega
  have F := se_fact (rods := rods) (grow := grow) (k := 3) (l := [xs.getD 26 0, xs.getD 27 0, xs.getD 6 0, xs.getD 9 0, xs.getD 28 0, xs.getD 29 0, xs.getD 10 0, xs.getD 13 0, xs.getD 30 0, xs.getD 31 0, xs.getD 14 0, xs.getD 17 0, xs.getD 32 0, xs.getD 33 0, xs.getD 18 0, xs.getD 21 0]) (xs.getD 18 0) rfl hl (by simp) (by simp) (by simp) (by omega) (by omega) ?q1 ?q2
  case q1 => rw [f73] at hpre; simp only [clampM, lnL] at hpre; simp only [blLen]; omega
  case q2 => rw [f73] at hpre; simp only [clampM, lnL] at hpre; simp only [blLen]; omega
  rw [f73] at hpre
  simp only [clampM, lnL] at hpre
  have e1 : blLo 3 [xs.getD 26 0, xs.getD 27 0, xs.getD 6 0, xs.getD 9 0, xs.getD 28 0, xs.getD 29 0, xs.getD 10 0, xs.getD 13 0, xs.getD 30 0, xs.getD 31 0, xs.getD 14 0, xs.getD 17 0, xs.getD 32 0, xs.getD 33 0, xs.getD 18 0, xs.getD 21 0] = xs.getD 1 0 := by
    simp only [blLo, blSet, blLen, List.set, List.getD_cons_succ, List.getD_cons_zero, Nat.reduceMul, Nat.reduceAdd]
    cases hh : i2b (xs.getD 21 0) <;> simp only [lowI, hh, cond_true, cond_false] at hpre ⊢ <;> omega
  have e2 : blHi 3 [xs.getD 26 0, xs.getD 27 0, xs.getD 6 0, xs.getD 9 0, xs.getD 28 0, xs.getD 29 0, xs.getD 10 0, xs.getD 13 0, xs.getD 30 0, xs.getD 31 0, xs.getD 14 0, xs.getD 17 0, xs.getD 32 0, xs.getD 33 0, xs.getD 18 0, xs.getD 21 0] = xs.getD 2 0 := by
    simp only [blHi, blSet, blLen, List.set, List.getD_cons_succ, List.getD_cons_zero, Nat.reduceMul, Nat.reduceAdd]
    cases hh : i2b (xs.getD 21 0) <;> simp only [lowI, hh, cond_true, cond_false] at hpre ⊢ <;> omega
  rw [e1, e2] at F
  exact se_close (E := effB rods grow 3 [xs.getD 26 0, xs.getD 27 0, xs.getD 6 0, xs.getD 9 0, xs.getD 28 0, xs.getD 29 0, xs.getD 10 0, xs.getD 13 0, xs.getD 30 0, xs.getD 31 0, xs.getD 14 0, xs.getD 17 0, xs.getD 32 0, xs.getD 33 0, xs.getD 18 0, xs.getD 21 0]) (fun w h => h.1.1) hpre.2.1 hpre.2.2.1 hpre.2.2.2.1 hpre.2.2.2.2.1 F.1.1 F.1.2.1 F.2
end Be
end Go.Proofs.Ytgpdodkcfiefjaa
