/- Chapter 1: numbers of trains as functions; greatest divisors, lowest terms, least multiples. -/
import Derived.Test.YtiafbooogggdnaaTA
set_option linter.unusedSimpArgs false
set_option linter.unusedVariables false
namespace Go.Proofs.Ytiafbooogggdnaa
open Abs Sx
set_option maxRecDepth 100000
namespace Tn
def lit (n : Int) : X := .lit n
def v (n : Nat) : X := .var n
def le (a b : X) : X := .bin .le a b
def lt (a b : X) : X := .bin .lt a b
def eq (a b : X) : X := .bin .eq a b
def ap2 (f : Nat) (x y : X) : X := .app f (.cons x (.cons y .nil))
def i64 : Sh := .int .i64
def bg : Int := 2305843009213693952
def clampT (m x : Int) : Int := max 1 (min m x)
/-- Numbers by functions: 0, 1: the bytes of a pair; 90 the greatest divisor, 91, 92 lowest terms, 93 the least multiple. -/
def fnT (bs : List (Int × Int)) (f : Nat) (l : List Int) : Int := match f with
  | 0 => (bs.getD (hdI l).toNat (0, 0)).1
  | 1 => (bs.getD (hdI l).toNat (0, 0)).2
  | 90 => clampT bg (Int.gcd (hdI l) (hdI l.tail))
  | 91 => clampT 100000000 (lowR (hdI l) (hdI l.tail)).1
  | 92 => clampT 100000000 (lowR (hdI l) (hdI l.tail)).2
  | 93 => clampT 100000000 (Int.lcm (hdI l) (hdI l.tail))
  | _ => 0
def frT : List (Option (Int × Int)) := [some (0, 255), some (0, 255)] ++ (List.replicate 88 none ++ [some (1, bg), some (1, 100000000), some (1, 100000000), some (1, 100000000)])
def Byte (bs : List (Int × Int)) : Prop := ∀ i, (0 ≤ (bs.getD i (0, 0)).1 ∧ (bs.getD i (0, 0)).1 ≤ 255) ∧ (0 ≤ (bs.getD i (0, 0)).2 ∧ (bs.getD i (0, 0)).2 ≤ 255)
theorem clampT_in {m x : Int} (h : 1 ≤ m) : 1 ≤ clampT m x ∧ clampT m x ≤ m := by unfold clampT; omega
theorem clampT_id {m x : Int} (h : 1 ≤ x) (k : x ≤ m) : clampT m x = x := by unfold clampT; omega
theorem nth_rep : ∀ (n i : Nat) (l : List (Option (Int × Int))), nthR (List.replicate n none ++ l) i = if i < n then none else nthR l (i - n)
  | 0, i, l => by simp
  | n + 1, 0, l => by simp [List.replicate_succ, nthR]
  | n + 1, i + 1, l => by
    simp only [List.replicate_succ, List.cons_append, nthR, nth_rep n i l, Nat.add_lt_add_iff_right, Nat.add_sub_add_right]
theorem frT_ok {bs : List (Int × Int)} (hb : Byte bs) (vr : List (Option (Int × Int))) : ∀ i l, inR (fnT bs i l) (nthR (Rgs.mk vr frT).fr i) := by
  intro i l
  match i with
  | 0 => exact (hb (hdI l).toNat).1
  | 1 => exact (hb (hdI l).toNat).2
  | i + 2 =>
    show inR _ (nthR (List.replicate 88 none ++ _) i)
    rw [nth_rep]
    split
    · trivial
    · rename_i h
      obtain ⟨j, rfl⟩ : ∃ j, i = 88 + j := ⟨i - 88, by omega⟩
      rw [Nat.add_sub_cancel_left]
      match j with
      | 0 => exact clampT_in (by decide)
      | 1 => exact clampT_in (by decide)
      | 2 => exact clampT_in (by decide)
      | 3 => exact clampT_in (by decide)
      | _ + 4 => trivial
theorem f90_at (bs : List (Int × Int)) {a b : Int} (ha : 1 ≤ a) (hb : 1 ≤ b) (hb2 : b ≤ bg) : fnT bs 90 [a, b] = Int.gcd a b :=
  clampT_id (gcd_pos_of a b hb) (Int.le_trans (gcd_le_of' a b hb) hb2)
def RG : Rgs := ⟨[none, none, some (0, bg), some (0, bg)], frT⟩
def gcdPre : List X := [le (lit 1) (v 0), le (lit 1) (v 1), le (v 0) (lit bg), le (v 1) (lit bg)]
def gcdO : OT SV := .leaf (.int .i64 (ap2 90 (v 0) (v 1)))
def pGcd : Pr := ⟨68, [i64, i64], gcdPre, fun _ => gcdO⟩
def rGcd : Pr := ⟨38, [i64, i64], gcdPre, fun _ => gcdO⟩
def pLst : Pr := ⟨66, [.agg [i64, i64]], gcdPre ++ [le (v 0) (lit 100000000), le (v 1) (lit 100000000)], fun _ => .leaf (.agg [.int .i64 (ap2 91 (v 0) (v 1)), .int .i64 (ap2 92 (v 0) (v 1))])⟩
def pLcm : Pr := ⟨42, [i64, i64], gcdPre ++ [le (.bin .mul (.bin .quo (v 0) (ap2 90 (v 0) (v 1))) (v 1)) (lit 100000000)], fun _ => .leaf (.int .i64 (ap2 93 (v 0) (v 1)))⟩
def tG : List Tpl := [⟨[2, 3], [(0, .int .i64 (v 2)), (1, .int .i64 (v 3))], [], [], 0, [le (lit 1) (.bin .add (v 2) (v 3))]⟩]
theorem gcd_step {a b : Int} (h0 : 0 ≤ a) (h1 : 0 < b) : Int.gcd b (a.tmod b) = Int.gcd a b ∧ 0 ≤ a.tmod b ∧ a.tmod b < b := by
  refine ⟨?_, Int.tmod_nonneg _ h0, Int.tmod_lt_of_pos _ h1⟩
  rw [Int.tmod_eq_emod_of_nonneg h0, Int.emod_def, Int.gcd_sub_mul_left_right, Int.gcd_comm]
theorem gcd_end (bs : List (Int × Int)) {a x y : Int} (h0 : 0 ≤ a) (h1 : 1 ≤ x) (h2 : 1 ≤ y) (h3 : y ≤ bg) (hg : Int.gcd a 0 = Int.gcd x y) : a = fnT bs 90 [x, y] := by
  rw [f90_at bs h1 h2 h3, ← hg, Int.gcd_zero_right]; omega
theorem pGcd_ok {bs : List (Int × Int)} (hb : Byte bs) : pGcd.Ok Try.prog (fnT bs) := by
  refine lp0 (l := []) (R := RG) (tps := fun _ => tG) (f := Try.f68) (fuel := 400) (Inv := fun xs _ ρ => Int.gcd (ρ.v 2) (ρ.v 3) = Int.gcd (xs.getD 0 0) (xs.getD 1 0)) (mu := fun xs _ ρ => (ρ.v 3).toNat) (fun _ => (.loop 0 [(2, (.var 0)), (3, (.var 1))] (.ask (.not (.bin .eq (.var 3) (.lit 0))) (.back 0 [(2, (.var 3)), (3, (.bin .rem (.var 2) (.var 3)))]) (.leaf (.int .i64 (.var 2))))))
    prog_ok Try.func68 rfl trivial rfl (frT_ok hb _) rfl ?h ?_
  case h => kernel_rfl
  intro xs es hlen hpre hrw
  ( simp only [OT.vc, LT.vc, OT.is, AllB, RgB, inR, nthR, idsF, fsOf, List.drop, List.flatMap_cons, List.flatMap_nil, List.append_nil, List.getElem?_cons_zero, List.getElem?_cons_succ, rwFs, rwF, List.nil_append, List.cons_append, mix_v, mix_fn, upd_fn, upd_nil, upd_cons, X.one, X.isL, cond_false, valX_fn, valX_v, setM_v, List.mem_cons, List.not_mem_nil, or_false, false_or, or_true, true_or, if_true, if_false, ite_true, ite_false, Nat.reduceEqDiff, SV.den, AV.int.injEq, AV.bool.injEq, true_and, and_true, X.dB_lt, X.dB_le, X.dB_eq, X.denB_and, X.denB_or, X.denB_not, X.denB_lit0, X.denB_lit1, X.den_lit, X.den_var, X.den_add, X.den_sub, X.den_mul, X.den_app, X.den_ite, X.den_wrap, X.dB_ite, cond_tf, X.denB_app, X.denB_var, X.sem_cons, X.sem_nil, leB_t, ltB_t, eqB_t, leB_f, ltB_f, eqB_f, Bool.and_eq_true, Bool.or_eq_true, Bool.not_eq_true', Bool.and_eq_false_iff, Bool.or_eq_false_iff, Bool.not_eq_false', pGcd, gcdPre, gcdO, le, lt, v, lit, ap2, tG, RG, i64, X.den_rem] at *)
  refine fun w h0 h1 hg => ⟨fun h3 => ?_, fun h3 => ?_⟩
  · have := gcd_step (a := w 2) (b := w 3) h0.1.1 (by omega)
    exact ⟨this.1.trans hg, by omega⟩
  · rw [h3] at hg
    exact gcd_end bs h0.1.1 hpre.1 hpre.2.1 hpre.2.2.2 hg
theorem rGcd_ok {bs : List (Int × Int)} (hb : Byte bs) : rGcd.Ok Try.prog (fnT bs) := by
  refine lp0 (l := []) (R := RG) (tps := fun _ => tG) (f := Try.f38) (fuel := 400) (Inv := fun xs _ ρ => Int.gcd (ρ.v 2) (ρ.v 3) = Int.gcd (xs.getD 0 0) (xs.getD 1 0)) (mu := fun xs _ ρ => (ρ.v 3).toNat) (fun _ => (.loop 0 [(2, (.var 0)), (3, (.var 1))] (.ask (.bin .lt (.lit 0) (.var 3)) (.back 0 [(2, (.var 3)), (3, (.bin .rem (.var 2) (.var 3)))]) (.leaf (.int .i64 (.var 2))))))
    prog_ok Try.func38 rfl trivial rfl (frT_ok hb _) rfl ?h ?_
  case h => kernel_rfl
  intro xs es hlen hpre hrw
  ( simp only [OT.vc, LT.vc, OT.is, AllB, RgB, inR, nthR, idsF, fsOf, List.drop, List.flatMap_cons, List.flatMap_nil, List.append_nil, List.getElem?_cons_zero, List.getElem?_cons_succ, rwFs, rwF, List.nil_append, List.cons_append, mix_v, mix_fn, upd_fn, upd_nil, upd_cons, X.one, X.isL, cond_false, valX_fn, valX_v, setM_v, List.mem_cons, List.not_mem_nil, or_false, false_or, or_true, true_or, if_true, if_false, ite_true, ite_false, Nat.reduceEqDiff, SV.den, AV.int.injEq, AV.bool.injEq, true_and, and_true, X.dB_lt, X.dB_le, X.dB_eq, X.denB_and, X.denB_or, X.denB_not, X.denB_lit0, X.denB_lit1, X.den_lit, X.den_var, X.den_add, X.den_sub, X.den_mul, X.den_app, X.den_ite, X.den_wrap, X.dB_ite, cond_tf, X.denB_app, X.denB_var, X.sem_cons, X.sem_nil, leB_t, ltB_t, eqB_t, leB_f, ltB_f, eqB_f, Bool.and_eq_true, Bool.or_eq_true, Bool.not_eq_true', Bool.and_eq_false_iff, Bool.or_eq_false_iff, Bool.not_eq_false', rGcd, gcdPre, gcdO, le, lt, v, lit, ap2, tG, RG, i64, X.den_rem] at *)
  refine fun w h0 h1 hg => ⟨fun h3 => ?_, fun h3 => ?_⟩
  · have := gcd_step (a := w 2) (b := w 3) h0.1.1 (by omega)
    exact ⟨this.1.trans hg, by omega⟩
  · have e0 : w 3 = 0 := by omega
    rw [e0] at hg
    exact gcd_end bs h0.1.1 hpre.1 hpre.2.1 hpre.2.2.2 hg
theorem low_at (bs : List (Int × Int)) {a b : Int} (ha : 1 ≤ a) (hb : 1 ≤ b) (ha2 : a ≤ 100000000) (hb2 : b ≤ 100000000) : fnT bs 91 [a, b] = a.tdiv (fnT bs 90 [a, b]) ∧ fnT bs 92 [a, b] = b.tdiv (fnT bs 90 [a, b]) ∧ fnT bs 91 [a, b] = (lowR a b).1 ∧ fnT bs 92 [a, b] = (lowR a b).2 := by
  have h := lowR_bd a b a b ha hb (Int.le_refl _) (Int.le_refl _)
  have e1 : fnT bs 91 [a, b] = (lowR a b).1 := clampT_id h.1.1 (Int.le_trans h.1.2 ha2)
  have e2 : fnT bs 92 [a, b] = (lowR a b).2 := clampT_id h.2.1 (Int.le_trans h.2.2 hb2)
  rw [f90_at bs ha hb (by unfold bg; omega), e1, e2, Int.tdiv_eq_ediv_of_nonneg (by omega), Int.tdiv_eq_ediv_of_nonneg (by omega)]
  exact ⟨rfl, rfl, rfl, rfl⟩
theorem pLst_ok {bs : List (Int × Int)} (hb : Byte bs) : pLst.Ok Try.prog (fnT bs) := by
  refine un0 (l := [pGcd]) (R := RG) (fuel := 200) (fun _ => (.leaf (.agg [(.int .i64 (.bin .quo (.var 0) (.app 90 (.cons (.var 0) (.cons (.var 1) .nil))))), (.int .i64 (.bin .quo (.var 1) (.app 90 (.cons (.var 0) (.cons (.var 1) .nil)))))]))) prog_ok ⟨pGcd_ok hb, trivial⟩ rfl (frT_ok hb _) rfl rfl ?h ?_
  case h => kernel_rfl
  intro xs es hlen hpre hrw
  ( simp only [OT.vc, LT.vc, OT.is, AllB, RgB, inR, nthR, idsF, fsOf, List.drop, List.flatMap_cons, List.flatMap_nil, List.append_nil, List.getElem?_cons_zero, List.getElem?_cons_succ, rwFs, rwF, List.nil_append, List.cons_append, mix_v, mix_fn, upd_fn, upd_nil, upd_cons, X.one, X.isL, cond_false, valX_fn, valX_v, setM_v, List.mem_cons, List.not_mem_nil, or_false, false_or, or_true, true_or, if_true, if_false, ite_true, ite_false, Nat.reduceEqDiff, SV.den, AV.int.injEq, AV.bool.injEq, true_and, and_true, X.dB_lt, X.dB_le, X.dB_eq, X.denB_and, X.denB_or, X.denB_not, X.denB_lit0, X.denB_lit1, X.den_lit, X.den_var, X.den_add, X.den_sub, X.den_mul, X.den_app, X.den_ite, X.den_wrap, X.dB_ite, cond_tf, X.denB_app, X.denB_var, X.sem_cons, X.sem_nil, leB_t, ltB_t, eqB_t, leB_f, ltB_f, eqB_f, Bool.and_eq_true, Bool.or_eq_true, Bool.not_eq_true', Bool.and_eq_false_iff, Bool.or_eq_false_iff, Bool.not_eq_false', pLst, gcdPre, le, lt, v, lit, ap2, i64, X.den_quo, SV.dens, AV.agg.injEq, List.cons.injEq] at *)
  have := low_at bs hpre.1 hpre.2.1 hpre.2.2.2.2.1 hpre.2.2.2.2.2
  exact ⟨this.1.symm, this.2.1.symm⟩
theorem lcm_at (bs : List (Int × Int)) {a b : Int} (ha : 1 ≤ a) (hb : 1 ≤ b) (hb2 : b ≤ bg) : (a.tdiv (fnT bs 90 [a, b])) * b = Int.lcm a b ∧ (Int.lcm a b ≤ (100000000 : Int) → fnT bs 93 [a, b] = Int.lcm a b) := by
  rw [f90_at bs ha hb hb2, Int.tdiv_eq_ediv_of_nonneg (by omega)]
  exact ⟨lcm_left a b ha hb, fun h => clampT_id (lcm_pos_of a b ha hb) h⟩
theorem pLcm_ok {bs : List (Int × Int)} (hb : Byte bs) : pLcm.Ok Try.prog (fnT bs) := by
  refine un0 (l := [pGcd]) (R := RG) (fuel := 200) (fun _ => (.leaf (.int .i64 (.bin .mul (.bin .quo (.var 0) (.app 90 (.cons (.var 0) (.cons (.var 1) .nil)))) (.var 1))))) prog_ok ⟨pGcd_ok hb, trivial⟩ rfl (frT_ok hb _) rfl rfl ?h ?_
  case h => kernel_rfl
  intro xs es hlen hpre hrw
  ( simp only [OT.vc, LT.vc, OT.is, AllB, RgB, inR, nthR, idsF, fsOf, List.drop, List.flatMap_cons, List.flatMap_nil, List.append_nil, List.getElem?_cons_zero, List.getElem?_cons_succ, rwFs, rwF, List.nil_append, List.cons_append, mix_v, mix_fn, upd_fn, upd_nil, upd_cons, X.one, X.isL, cond_false, valX_fn, valX_v, setM_v, List.mem_cons, List.not_mem_nil, or_false, false_or, or_true, true_or, if_true, if_false, ite_true, ite_false, Nat.reduceEqDiff, SV.den, AV.int.injEq, AV.bool.injEq, true_and, and_true, X.dB_lt, X.dB_le, X.dB_eq, X.denB_and, X.denB_or, X.denB_not, X.denB_lit0, X.denB_lit1, X.den_lit, X.den_var, X.den_add, X.den_sub, X.den_mul, X.den_app, X.den_ite, X.den_wrap, X.dB_ite, cond_tf, X.denB_app, X.denB_var, X.sem_cons, X.sem_nil, leB_t, ltB_t, eqB_t, leB_f, ltB_f, eqB_f, Bool.and_eq_true, Bool.or_eq_true, Bool.not_eq_true', Bool.and_eq_false_iff, Bool.or_eq_false_iff, Bool.not_eq_false', pLcm, gcdPre, le, lt, v, lit, ap2, i64, X.den_quo, SV.dens] at *)
  have := lcm_at bs hpre.1 hpre.2.1 hpre.2.2.2.1
  have h2 := hpre.2.2.2.2
  rw [this.1] at h2
  have h3 := lcm_pos_of _ _ hpre.1 hpre.2.1
  rw [this.1, this.2 h2]
end Tn
end Go.Proofs.Ytiafbooogggdnaa
