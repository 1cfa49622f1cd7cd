/- Chapter 1, for any functions: greatest divisors, lowest terms, least multiples of trains. -/
import Derived.Test.YtjlolhdkjpfcoaaGreatTA
set_option linter.unusedSimpArgs false
set_option linter.unusedVariables false
namespace Go.Proofs.YtjlolhdkjpfcoaaGreat
open Abs Sx
set_option maxRecDepth 100000
namespace Tg
def lit (n : Int) : X := .lit n
def v (n : Nat) : X := .var n
def le (a b : X) : X := .bin .le a b
def lt (a b : X) : X := .bin .lt a b
def eq (a b : X) : X := .bin .eq a b
def ap2 (f : Nat) (x y : X) : X := .app f (.cons x (.cons y .nil))
def i64 : Sh := .int .i64
def bg : Int := 2305843009213693952
def clampT (m x : Int) : Int := max 1 (min m x)
structure IsT (fn : Nat → List Int → Int) : Prop where
  h90 : ∀ l, fn 90 l = clampT bg (Int.gcd (hdI l) (hdI l.tail))
  h91 : ∀ l, fn 91 l = clampT 100000000 (Tn.lowR (hdI l) (hdI l.tail)).1
  h92 : ∀ l, fn 92 l = clampT 100000000 (Tn.lowR (hdI l) (hdI l.tail)).2
  h93 : ∀ l, fn 93 l = clampT 100000000 (Int.lcm (hdI l) (hdI l.tail))
def fr90 : List (Option (Int × Int)) := List.replicate 90 none ++ [some (1, bg), some (1, 100000000), some (1, 100000000), some (1, 100000000)]
theorem clampT_in {m x : Int} (h : 1 ≤ m) : 1 ≤ clampT m x ∧ clampT m x ≤ m := by unfold clampT; omega
theorem clampT_id {m x : Int} (h : 1 ≤ x) (k : x ≤ m) : clampT m x = x := by unfold clampT; omega
theorem nth_rep : ∀ (n i : Nat) (l : List (Option (Int × Int))), nthR (List.replicate n none ++ l) i = if i < n then none else nthR l (i - n)
  | 0, i, l => by simp
  | n + 1, 0, l => by simp [List.replicate_succ, nthR]
  | n + 1, i + 1, l => by
    simp only [List.replicate_succ, List.cons_append, nthR, nth_rep n i l, Nat.add_lt_add_iff_right, Nat.add_sub_add_right]
variable {fn : Nat → List Int → Int} (h : IsT fn)
include h
theorem fr90_ok (vr : List (Option (Int × Int))) : ∀ i l, inR (fn i l) (nthR (Rgs.mk vr fr90).fr i) := by
  intro i l
  show inR _ (nthR (List.replicate 90 none ++ _) i)
  rw [nth_rep]
  split
  · trivial
  · rename_i h3
    obtain ⟨j, rfl⟩ : ∃ j, i = 90 + j := ⟨i - 90, by omega⟩
    rw [Nat.add_sub_cancel_left]
    match j with
    | 0 => rw [h.h90]; exact clampT_in (by decide)
    | 1 => rw [h.h91]; exact clampT_in (by decide)
    | 2 => rw [h.h92]; exact clampT_in (by decide)
    | 3 => rw [h.h93]; exact clampT_in (by decide)
    | _ + 4 => trivial
theorem f90_at {a b : Int} (ha : 1 ≤ a) (hb : 1 ≤ b) (hb2 : b ≤ bg) : fn 90 [a, b] = Int.gcd a b :=
  (h.h90 _).trans (clampT_id (Tn.gcd_pos_of a b hb) (Int.le_trans (Tn.gcd_le_of' a b hb) hb2))
def RG : Rgs := ⟨[none, none, some (0, bg), some (0, bg)], fr90⟩
def gcdPre : List X := [le (lit 1) (v 0), le (lit 1) (v 1), le (v 0) (lit bg), le (v 1) (lit bg)]
def gcdO : OT SV := .leaf (.int .i64 (ap2 90 (v 0) (v 1)))
def pGcd : Pr := ⟨45, [i64, i64], gcdPre, fun _ => gcdO⟩
def pLst : Pr := ⟨23, [.agg [i64, i64]], gcdPre ++ [le (v 0) (lit 100000000), le (v 1) (lit 100000000)], fun _ => .leaf (.agg [.int .i64 (ap2 91 (v 0) (v 1)), .int .i64 (ap2 92 (v 0) (v 1))])⟩
def tG : List Tpl := [⟨[2, 3], [(0, .int .i64 (v 2)), (1, .int .i64 (v 3))], [], [], 0, [le (lit 1) (.bin .add (v 2) (v 3))], none⟩]
omit h in
theorem gcd_step {a b : Int} (h0 : 0 ≤ a) (h1 : 0 < b) : Int.gcd b (a.tmod b) = Int.gcd a b ∧ 0 ≤ a.tmod b ∧ a.tmod b < b := by
  refine ⟨?_, Int.tmod_nonneg _ h0, Int.tmod_lt_of_pos _ h1⟩
  rw [Int.tmod_eq_emod_of_nonneg h0, Int.emod_def, Int.gcd_sub_mul_left_right, Int.gcd_comm]
theorem gcd_end {a x y : Int} (h0 : 0 ≤ a) (h1 : 1 ≤ x) (h2 : 1 ≤ y) (h3 : y ≤ bg) (hg : Int.gcd a 0 = Int.gcd x y) : a = fn 90 [x, y] := by
  rw [f90_at h h1 h2 h3, ← hg, Int.gcd_zero_right]; omega
theorem pGcd_ok : pGcd.Ok Tryz.prog (fn) := by
  refine lp0 (l := []) (R := RG) (tps := fun _ => tG) (f := Tryz.f45) (fuel := 400) (Inv := fun xs _ ρ => Int.gcd (ρ.v 2) (ρ.v 3) = Int.gcd (xs.getD 0 0) (xs.getD 1 0)) (mu := fun xs _ ρ => (ρ.v 3).toNat) (fun _ => (.loop 0 [(2, (.var 0)), (3, (.var 1))] (.ask (.not (.bin .eq (.var 3) (.lit 0))) (.back 0 [(2, (.var 3)), (3, (.bin .rem (.var 2) (.var 3)))]) (.leaf (.int .i64 (.var 2))))))
    prog_ok Tryz.func45 rfl trivial rfl (fr90_ok h _) rfl ?h ?_
  case h => kernel_rfl
  intro xs es hlen hpre hrw
  ( simp only [OT.vc, LT.vc, OT.is, AllB, RgB, inR, nthR, idsF, fsOf, List.drop, List.flatMap_cons, List.flatMap_nil, List.append_nil, List.getElem?_cons_zero, List.getElem?_cons_succ, rwFs, rwF, List.nil_append, List.cons_append, mix_v, mix_fn, upd_fn, upd_nil, upd_cons, X.one, X.isL, cond_false, valX_fn, valX_v, setM_v, List.mem_cons, List.not_mem_nil, or_false, false_or, or_true, true_or, if_true, if_false, ite_true, ite_false, Nat.reduceEqDiff, SV.den, AV.int.injEq, AV.bool.injEq, true_and, and_true, X.dB_lt, X.dB_le, X.dB_eq, X.denB_and, X.denB_or, X.denB_not, X.denB_lit0, X.denB_lit1, X.den_lit, X.den_var, X.den_add, X.den_sub, X.den_mul, X.den_app, X.den_ite, X.den_wrap, X.dB_ite, cond_tf, X.denB_app, X.denB_var, X.sem_cons, X.sem_nil, leB_t, ltB_t, eqB_t, leB_f, ltB_f, eqB_f, Bool.and_eq_true, Bool.or_eq_true, Bool.not_eq_true', Bool.and_eq_false_iff, Bool.or_eq_false_iff, Bool.not_eq_false', pGcd, gcdPre, gcdO, le, lt, v, lit, ap2, tG, RG, i64, X.den_rem] at *)
  refine fun w h0 h1 hg => ⟨fun h3 => ?_, fun h3 => ?_⟩
  · have := gcd_step (a := w 2) (b := w 3) h0.1.1 (by omega)
    exact ⟨this.1.trans hg, by omega⟩
  · rw [h3] at hg
    exact gcd_end h h0.1.1 hpre.1 hpre.2.1 hpre.2.2.2 hg
theorem low_at {a b : Int} (ha : 1 ≤ a) (hb : 1 ≤ b) (ha2 : a ≤ 100000000) (hb2 : b ≤ 100000000) : fn 91 [a, b] = a.tdiv (fn 90 [a, b]) ∧ fn 92 [a, b] = b.tdiv (fn 90 [a, b]) ∧ fn 91 [a, b] = (Tn.lowR a b).1 ∧ fn 92 [a, b] = (Tn.lowR a b).2 := by
  have hb4 := Tn.lowR_bd a b a b ha hb (Int.le_refl _) (Int.le_refl _)
  have e1 : fn 91 [a, b] = (Tn.lowR a b).1 := (h.h91 _).trans (clampT_id hb4.1.1 (Int.le_trans hb4.1.2 ha2))
  have e2 : fn 92 [a, b] = (Tn.lowR a b).2 := (h.h92 _).trans (clampT_id hb4.2.1 (Int.le_trans hb4.2.2 hb2))
  rw [f90_at h ha hb (by unfold bg; omega), e1, e2, Int.tdiv_eq_ediv_of_nonneg (by omega), Int.tdiv_eq_ediv_of_nonneg (by omega)]
  exact ⟨rfl, rfl, rfl, rfl⟩
theorem pLst_ok : pLst.Ok Tryz.prog (fn) := by
  refine un0 (l := [pGcd]) (R := RG) (fuel := 200) (fun _ => (.leaf (.agg [(.int .i64 (.bin .quo (.var 0) (.app 90 (.cons (.var 0) (.cons (.var 1) .nil))))), (.int .i64 (.bin .quo (.var 1) (.app 90 (.cons (.var 0) (.cons (.var 1) .nil)))))]))) prog_ok ⟨pGcd_ok h, trivial⟩ rfl (fr90_ok h _) rfl rfl ?h ?_
  case h => kernel_rfl
  intro xs es hlen hpre hrw
  ( simp only [OT.vc, LT.vc, OT.is, AllB, RgB, inR, nthR, idsF, fsOf, List.drop, List.flatMap_cons, List.flatMap_nil, List.append_nil, List.getElem?_cons_zero, List.getElem?_cons_succ, rwFs, rwF, List.nil_append, List.cons_append, mix_v, mix_fn, upd_fn, upd_nil, upd_cons, X.one, X.isL, cond_false, valX_fn, valX_v, setM_v, List.mem_cons, List.not_mem_nil, or_false, false_or, or_true, true_or, if_true, if_false, ite_true, ite_false, Nat.reduceEqDiff, SV.den, AV.int.injEq, AV.bool.injEq, true_and, and_true, X.dB_lt, X.dB_le, X.dB_eq, X.denB_and, X.denB_or, X.denB_not, X.denB_lit0, X.denB_lit1, X.den_lit, X.den_var, X.den_add, X.den_sub, X.den_mul, X.den_app, X.den_ite, X.den_wrap, X.dB_ite, cond_tf, X.denB_app, X.denB_var, X.sem_cons, X.sem_nil, leB_t, ltB_t, eqB_t, leB_f, ltB_f, eqB_f, Bool.and_eq_true, Bool.or_eq_true, Bool.not_eq_true', Bool.and_eq_false_iff, Bool.or_eq_false_iff, Bool.not_eq_false', pLst, gcdPre, le, lt, v, lit, ap2, i64, X.den_quo, SV.dens, AV.agg.injEq, List.cons.injEq] at *)
  have := low_at h hpre.1 hpre.2.1 hpre.2.2.2.2.1 hpre.2.2.2.2.2
  exact ⟨this.1.symm, this.2.1.symm⟩
omit h
include h
theorem low_in {a b A B : Int} (ha : 1 ≤ a) (hb : 1 ≤ b) (ha2 : a ≤ A) (hb2 : b ≤ B) (hA : A ≤ 100000000) (hB : B ≤ 100000000) : (1 ≤ fn 91 [a, b] ∧ fn 91 [a, b] ≤ A) ∧ 1 ≤ fn 92 [a, b] ∧ fn 92 [a, b] ≤ B := by
  have hb4 := Tn.lowR_bd a b A B ha hb ha2 hb2
  have e := low_at h ha hb (by omega) (by omega)
  rw [e.2.2.1, e.2.2.2]
  exact hb4
end Tg
end Go.Proofs.YtjlolhdkjpfcoaaGreat
