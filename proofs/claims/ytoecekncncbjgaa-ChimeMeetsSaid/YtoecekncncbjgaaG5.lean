/- Chapter 6: Meet of any cams, and the reference's. -/
import Derived.Test.YtoecekncncbjgaaG2
set_option linter.unusedSimpArgs false
set_option linter.unusedVariables false
namespace Go.Proofs.Ytoecekncncbjgaa
open Abs Sx
set_option maxRecDepth 100000
set_option maxHeartbeats 4000000
namespace Ch
variable {cams : List (Int × Int × Int)}
theorem okC_t {s lo hi : Int} {cs : List Int} : okC (s :: lo :: hi :: cs) = true ↔ (1 ≤ s ∧ s ≤ 100 ∧ 0 ≤ lo ∧ lo ≤ hi ∧ hi + 1 ≤ s) ∧ okC cs = true := by
  simp only [okC, Bool.and_eq_true, decide_eq_true_eq]
theorem okC_f {s lo hi : Int} {cs : List Int} : okC (s :: lo :: hi :: cs) = false ↔ ¬(1 ≤ s ∧ s ≤ 100 ∧ 0 ≤ lo ∧ lo ≤ hi ∧ hi + 1 ≤ s) ∨ okC cs = false := by
  have h := okC_t (s := s) (lo := lo) (hi := hi) (cs := cs)
  cases h1 : okC (s :: lo :: hi :: cs) <;> cases h2 : okC cs <;> rw [h1, h2] at h <;> simp at h ⊢ <;> omega
theorem okC_nil : okC [] = true := rfl
theorem good_of : ∀ {cs : List Int}, okC cs = true → GoodC cs
  | [], _ => trivial
  | [_], _ => trivial
  | [_, _], _ => trivial
  | _ :: _ :: _ :: _, h => by
    rw [okC_t] at h
    exact ⟨h.1.1, good_of h.2⟩
structure Lf (cams : List (Int × Int × Int)) (x y : Int) (l : List Int) : Prop where
  val : x = fnG cams 95 l
  err : y = fnG cams 96 l
theorem r2 {a : Int} {cs : List Int} (h : okC cs = false) : Lf cams 0 2 (a :: cs) := by
  have e : resE (a :: cs) = 2 := by simp only [resE, h]; rfl
  refine ⟨?_, e.symm⟩
  show 0 = resV (a :: cs)
  simp only [resV, e]; rfl
theorem r3 {a : Int} {cs : List Int} (h : okC cs = true) (ha : ¬(0 ≤ a ∧ a ≤ 3155760000)) : Lf cams 0 3 (a :: cs) := by
  have e : resE (a :: cs) = 3 := by simp only [resE, h, if_true, if_neg ha]
  refine ⟨?_, e.symm⟩
  show 0 = resV (a :: cs)
  simp only [resV, e]; rfl
theorem r7 {a : Int} {cs : List Int} (h : okC cs = true) (ha : 0 ≤ a ∧ a ≤ 3155760000) (hm : ∀ t, a ≤ t → t < a + perI cs → outs cs t = false) : Lf cams 0 7 (a :: cs) := by
  have e : resE (a :: cs) = 7 := by simp only [resE, h, if_true, if_pos ha, meet_none hm]
  refine ⟨?_, e.symm⟩
  show 0 = resV (a :: cs)
  simp only [resV, e]; rfl
theorem r0 {a m : Int} {cs : List Int} (h : okC cs = true) (ha : 0 ≤ a ∧ a ≤ 3155760000) (h1 : a ≤ m) (h2 : outs cs m = true) (h3 : ∀ t, a ≤ t → t < m → outs cs t = false) : Lf cams m 0 (a :: cs) := by
  have hg := good_of h
  have em : meetI (a :: cs) = m := by
    rcases meet_spec hg ha.1 with ⟨_, h⟩ | ⟨e1, e2, e3, e4⟩
    · rw [h m h1] at h2; cases h2
    · rcases Int.lt_trichotomy (meetI (a :: cs)) m with h | h | h
      · rw [h3 _ e1 h] at e3; cases e3
      · exact h
      · rw [e4 m h1 h] at h2; cases h2
  have e : resE (a :: cs) = 0 := by simp only [resE, h, if_true, if_pos ha, em, if_neg (show ¬ m = -1 by omega)]
  refine ⟨?_, e.symm⟩
  show m = resV (a :: cs)
  simp only [resV, e, if_true, em]
theorem lf {x y : Int} {l : List Int} (h : Lf cams x y l) : x = fnG cams 95 l ∧ y = fnG cams 96 l := ⟨h.val, h.err⟩
theorem f93_le {l : List Int} : fnG cams 93 l ≤ 100000000 := (clampT_in (by decide)).2
def anyX (f n : Nat) : X := .app f (.cons (fromX n) (consX (camX n)))
def anyO (n : Nat) : OT SV := .leaf (tup (anyX 95 n) (anyX 96 n))
def mA (n : Nat) : Pr := ⟨7, [camSh n, i64], [], fun _ => anyO n⟩
def rA (n : Nat) : Pr := ⟨8, [camSh n, i64], [], fun _ => anyO n⟩
def celI (n : Nat) (xs : List Int) : List Int := (List.range (3 * n)).map fun i => xs.getD (1 + i) 0
structure MI (cs : List Int) (a later : Int) : Prop where
  out : ∀ t, a ≤ t → t < a + later → outs cs t = false
structure MR (cs : List Int) (a at_ : Int) : Prop where
  low : a ≤ at_
  out : ∀ t, a ≤ t → t < at_ → outs cs t = false
theorem MI.next {cs : List Int} {a y : Int} (h : MI cs a y) (ho : outs cs (a + y) = false) : MI cs a (y + 1) := ⟨fun t h1 h2 => by
  rcases Int.lt_or_eq_of_le (show t ≤ a + y by omega) with h3 | h3
  · exact h.out t h1 h3
  · rw [h3]; exact ho⟩
theorem MR.next {cs : List Int} {a y : Int} (h : MR cs a y) (ho : outs cs y = false) : MR cs a (y + 1) := ⟨by have := h.low; omega, fun t h1 h2 => by
  rcases Int.lt_or_eq_of_le (show t ≤ y by omega) with h3 | h3
  · exact h.out t h1 h3
  · rw [h3]; exact ho⟩
theorem pe1 {s x y : Int} (h1 : 1 ≤ s) (h2 : s ≤ 100) : fnG cams 93 [1, s] = perI [s, x, y] := by rw [per1 h1 h2, perI1 h1]
theorem pe2 {s x y r z u : Int} (h1 : 1 ≤ s) (h2 : s ≤ 100) (h3 : 1 ≤ r) (h4 : r ≤ 100) : fnG cams 93 [fnG cams 93 [1, s], r] = perI [s, x, y, r, z, u] := by rw [(per2 h1 h2 h3 h4).1, perI2 h1 h3]
theorem pe3 {s x y r z u t p q : Int} (h1 : 1 ≤ s) (h2 : s ≤ 100) (h3 : 1 ≤ r) (h4 : r ≤ 100) (h5 : 1 ≤ t) (h6 : t ≤ 100) : fnG cams 93 [fnG cams 93 [fnG cams 93 [1, s], r], t] = perI [s, x, y, r, z, u, t, p, q] := by rw [(per3 h1 h2 h3 h4 h5 h6).1, perI3 h1 h3 h5]
theorem pm2 {s r : Int} (h1 : 1 ≤ s) (h2 : s ≤ 100) (h3 : 1 ≤ r) (h4 : r ≤ 100) : 1 ≤ s * r ∧ s * r ≤ 10000 := by
  have p1 := Int.mul_pos (show 0 < s by omega) (show 0 < r by omega)
  have p2 := mul_le_100 (c := 100) (d := 100) h1 h3 h2 h4
  omega
theorem pm3 {s r t : Int} (h1 : 1 ≤ s) (h2 : s ≤ 100) (h3 : 1 ≤ r) (h4 : r ≤ 100) (h5 : 1 ≤ t) (h6 : t ≤ 100) : 1 ≤ s * r * t ∧ s * r * t ≤ 1000000 := by
  have p := pm2 h1 h2 h3 h4
  have p1 := Int.mul_pos (show 0 < s * r by omega) (show 0 < t by omega)
  have p2 := mul_le_100 (c := 10000) (d := 100) p.1 h5 p.2 h6
  omega
theorem pl2 {s x y r z u : Int} (h1 : 1 ≤ s) (h3 : 1 ≤ r) : perI [s, x, y, r, z, u] ≤ s * r := by rw [perI2 h1 h3]; exact lcm_le_mul h1 h3
theorem pl3 {s x y r z u t p q : Int} (h1 : 1 ≤ s) (h3 : 1 ≤ r) (h5 : 1 ≤ t) : perI [s, x, y, r, z, u, t, p, q] ≤ s * r * t := by
  rw [perI3 h1 h3 h5]
  exact Int.le_trans (lcm_le_mul (lcm_pos' h1 h3) h5) (Int.mul_le_mul_of_nonneg_right (lcm_le_mul h1 h3) (by omega))
def unR : Tpl := ⟨[],[],[],[],0,[], none⟩
def RB (n : Nat) : Rgs := ⟨List.replicate (2 + 3 * n) none ++ [some (0, 4000000000)], frG⟩
def allX : Nat → X
  | 0 => lit 1
  | 1 => v 1
  | n + 1 => .bin .mul (allX n) (v (1 + 3 * n))
def tR (n : Nat) (es : List Bool) : List Tpl := [unR, ⟨[2 + 3 * n], [(0, rowS n (hdB es)), (1, .int .i64 (fromX n)), (6, .int .i64 (allX n)), (9, .int .i64 (laterX n))], [(0, .cells false ((camX n).map fun x => .int .i64 x))], [], 1, [], none⟩, unR]
attribute [local irreducible] fnG
theorem mA0_ok : (mA 0).Ok Try.prog (fnG cams) := by
  refine lp1 (l := [cGcd, cLcm]) (R := RM 0) (tps := tM 0) (f := Try.f7) (fuel := 600) (Inv := fun xs _ ρ => MI (celI 0 xs) (xs.getD 1 0) (ρ.v 2)) (mu := fun xs _ ρ => (100000000 - ρ.v 2).toNat) (fun _ => (.ask (.bin .lt (.var 1) (.lit 0)) (.leaf (.tuple [(.int .i64 (.lit 0)), (.int .i64 (.lit 3))])) (.ask (.bin .lt (.lit 3155760000) (.var 1)) (.leaf (.tuple [(.int .i64 (.lit 0)), (.int .i64 (.lit 3))])) (.loop 0 [(2, (.lit 0))] (.ask (.bin .lt (.var 2) (.lit 1)) (.leaf (.tuple [(.int .i64 (.bin .add (.var 1) (.var 2))), (.int .i64 (.lit 0))])) (.leaf (.tuple [(.int .i64 (.lit 0)), (.int .i64 (.lit 7))])))))))
    prog_ok Try.func7 rfl ⟨cGcd_ok, cLcm_ok, trivial⟩ rfl (frG_ok _ _) rfl ?h1 ?h2 ?_
  case h1 => kernel_rfl
  case h2 => kernel_rfl
  intro xs es hlen hpre hrw
  simp only [mA, rA, anyO, anyX, fromX, camX, consX, tup, perX, tM, tR, unR, RB, allX, laterX, RM, celI, List.range, List.range.loop, List.flatMap_cons, List.flatMap_nil, List.map_cons, List.map_nil, List.cons_append, List.nil_append, List.append_nil, Nat.reduceMul, Nat.reduceAdd, Nat.mul_zero, Nat.mul_one, Nat.add_zero, Nat.zero_add, List.replicate, camSh] at *
  ( simp only [OT.vc, LT.vc, OT.is, AllB, RgB, inR, nthR, idsF, fsOf, List.drop, List.flatMap_cons, List.flatMap_nil, List.append_nil, List.getElem?_cons_zero, List.getElem?_cons_succ, rwFs, rwF, List.nil_append, List.cons_append, mix_v, mix_fn, upd_fn, upd_nil, upd_cons, X.one, X.isL, cond_false, valX_fn, valX_v, setM_v, List.mem_cons, List.not_mem_nil, or_false, false_or, or_true, true_or, if_true, if_false, ite_true, ite_false, Nat.reduceEqDiff, SV.den, AV.int.injEq, AV.bool.injEq, true_and, and_true, X.dB_lt, X.dB_le, X.dB_eq, X.denB_and, X.denB_or, X.denB_not, X.denB_lit0, X.denB_lit1, X.den_lit, X.den_var, X.den_add, X.den_sub, X.den_mul, X.den_app, X.den_ite, X.den_wrap, X.dB_ite, cond_tf, X.denB_app, X.denB_var, X.sem_cons, X.sem_nil, leB_t, ltB_t, eqB_t, leB_f, ltB_f, eqB_f, Bool.and_eq_true, Bool.or_eq_true, Bool.not_eq_true', Bool.and_eq_false_iff, Bool.or_eq_false_iff, Bool.not_eq_false', le, lt, eq, v, lit, ap2, i64, X.den_rem, X.den_quo, SV.dens, AV.tuple.injEq, AV.int.injEq, List.cons.injEq, true_and, and_true] at *)
  clear hlen hpre hrw
  (repeat' (first | (refine lf ?_) | (refine And.intro ?_ ?_) | intro _)) <;> first
    | (refine r2 ?_; simp only [okC_f, okC_nil, Bool.true_eq_false, or_false]; omega)
    | (refine r3 ?_ (by omega); rfl)
    | (refine r0 ?_ (by omega) ?_ ?_ ?_
       · rfl
       · first | omega | exact (‹MR _ _ _›).low
       · rfl
       · first | exact (‹MI _ _ _›).out | exact (‹MR _ _ _›).out)
    | (refine r7 ?_ (by omega) (fun t h1 h2 => ?_)
       · rfl
       · first | exact (‹MI _ _ _›).out t h1 (by have e := perI0; omega) | exact (‹MR _ _ _›).out t h1 (by omega))
    | exact ⟨fun t h1 h2 => by omega⟩
    | exact Int.le_trans (Int.add_one_le_of_lt ‹_ < fnG cams 93 _›) f93_le
    | (refine MI.next ‹MI _ _ _› ?_; simp only [outs, Bool.and_true, Bool.and_eq_false_iff, decide_eq_false_iff_not]; omega)
    | omega
    | (have h9 := Int.lt_of_lt_of_le ‹_ < fnG cams 93 _› f93_le; omega)
theorem mA1_ok : (mA 1).Ok Try.prog (fnG cams) := by
  refine lp1 (l := [cGcd, cLcm]) (R := RM 1) (tps := tM 1) (f := Try.f7) (fuel := 600) (Inv := fun xs _ ρ => MI (celI 1 xs) (xs.getD 4 0) (ρ.v 5)) (mu := fun xs _ ρ => (100000000 - ρ.v 5).toNat) (fun _ => (.ask (.bin .lt (.var 1) (.lit 1)) (.leaf (.tuple [(.int .i64 (.lit 0)), (.int .i64 (.lit 2))])) (.ask (.bin .lt (.lit 100) (.var 1)) (.leaf (.tuple [(.int .i64 (.lit 0)), (.int .i64 (.lit 2))])) (.ask (.bin .lt (.var 3) (.var 2)) (.leaf (.tuple [(.int .i64 (.lit 0)), (.int .i64 (.lit 2))])) (.ask (.bin .lt (.var 2) (.lit 0)) (.leaf (.tuple [(.int .i64 (.lit 0)), (.int .i64 (.lit 2))])) (.ask (.bin .lt (.bin .add (.var 1) (.lit (-1))) (.var 2)) (.leaf (.tuple [(.int .i64 (.lit 0)), (.int .i64 (.lit 2))])) (.ask (.bin .lt (.var 3) (.lit 0)) (.leaf (.tuple [(.int .i64 (.lit 0)), (.int .i64 (.lit 2))])) (.ask (.bin .lt (.bin .add (.var 1) (.lit (-1))) (.var 3)) (.leaf (.tuple [(.int .i64 (.lit 0)), (.int .i64 (.lit 2))])) (.ask (.bin .lt (.var 4) (.lit 0)) (.leaf (.tuple [(.int .i64 (.lit 0)), (.int .i64 (.lit 3))])) (.ask (.bin .lt (.lit 3155760000) (.var 4)) (.leaf (.tuple [(.int .i64 (.lit 0)), (.int .i64 (.lit 3))])) (.loop 0 [(5, (.lit 0))] (.ask (.bin .lt (.var 5) (.app 93 (.cons (.lit 1) (.cons (.var 1) .nil)))) (.ask (.bin .le (.var 2) (.bin .rem (.bin .add (.var 4) (.var 5)) (.var 1))) (.ask (.not (.bin .le (.bin .rem (.bin .add (.var 4) (.var 5)) (.var 1)) (.var 3))) (.need [(.bin .le (.bin .add (.var 5) (.lit 1)) (.lit 100000000))] (.back 0 [(5, (.bin .add (.var 5) (.lit 1)))])) (.leaf (.tuple [(.int .i64 (.bin .add (.var 4) (.var 5))), (.int .i64 (.lit 0))]))) (.need [(.bin .le (.bin .add (.var 5) (.lit 1)) (.lit 100000000))] (.back 0 [(5, (.bin .add (.var 5) (.lit 1)))]))) (.leaf (.tuple [(.int .i64 (.lit 0)), (.int .i64 (.lit 7))]))))))))))))))
    prog_ok Try.func7 rfl ⟨cGcd_ok, cLcm_ok, trivial⟩ rfl (frG_ok _ _) rfl ?h1 ?h2 ?_
  case h1 => kernel_rfl
  case h2 => kernel_rfl
  intro xs es hlen hpre hrw
  simp only [mA, rA, anyO, anyX, fromX, camX, consX, tup, perX, tM, tR, unR, RB, allX, laterX, RM, celI, List.range, List.range.loop, List.flatMap_cons, List.flatMap_nil, List.map_cons, List.map_nil, List.cons_append, List.nil_append, List.append_nil, Nat.reduceMul, Nat.reduceAdd, Nat.mul_zero, Nat.mul_one, Nat.add_zero, Nat.zero_add, List.replicate, camSh] at *
  ( simp only [OT.vc, LT.vc, OT.is, AllB, RgB, inR, nthR, idsF, fsOf, List.drop, List.flatMap_cons, List.flatMap_nil, List.append_nil, List.getElem?_cons_zero, List.getElem?_cons_succ, rwFs, rwF, List.nil_append, List.cons_append, mix_v, mix_fn, upd_fn, upd_nil, upd_cons, X.one, X.isL, cond_false, valX_fn, valX_v, setM_v, List.mem_cons, List.not_mem_nil, or_false, false_or, or_true, true_or, if_true, if_false, ite_true, ite_false, Nat.reduceEqDiff, SV.den, AV.int.injEq, AV.bool.injEq, true_and, and_true, X.dB_lt, X.dB_le, X.dB_eq, X.denB_and, X.denB_or, X.denB_not, X.denB_lit0, X.denB_lit1, X.den_lit, X.den_var, X.den_add, X.den_sub, X.den_mul, X.den_app, X.den_ite, X.den_wrap, X.dB_ite, cond_tf, X.denB_app, X.denB_var, X.sem_cons, X.sem_nil, leB_t, ltB_t, eqB_t, leB_f, ltB_f, eqB_f, Bool.and_eq_true, Bool.or_eq_true, Bool.not_eq_true', Bool.and_eq_false_iff, Bool.or_eq_false_iff, Bool.not_eq_false', le, lt, eq, v, lit, ap2, i64, X.den_rem, X.den_quo, SV.dens, AV.tuple.injEq, AV.int.injEq, List.cons.injEq, true_and, and_true] at *)
  clear hlen hpre hrw
  (repeat' (first | (refine lf ?_) | (refine And.intro ?_ ?_) | intro _)) <;> first
    | (refine r2 ?_; simp only [okC_f, okC_nil, Bool.true_eq_false, or_false]; omega)
    | (refine r3 ?_ (by omega); simp only [okC_t, okC_nil, and_true]; omega)
    | (refine r0 ?_ (by omega) ?_ ?_ ?_
       · simp only [okC_t, okC_nil, and_true]; omega
       · first | omega | exact (‹MR _ _ _›).low
       · simp only [outs, Bool.and_true, Bool.and_eq_true, decide_eq_true_eq]; omega
       · first | exact (‹MI _ _ _›).out | exact (‹MR _ _ _›).out)
    | (refine r7 ?_ (by omega) (fun t h1 h2 => ?_)
       · simp only [okC_t, okC_nil, and_true]; omega
       · first | exact (‹MI _ _ _›).out t h1 (by rw [← pe1 (cams := cams) (by omega) (by omega)] at h2; omega) | exact (‹MR _ _ _›).out t h1 (by omega))
    | exact ⟨fun t h1 h2 => by omega⟩
    | exact Int.le_trans (Int.add_one_le_of_lt ‹_ < fnG cams 93 _›) f93_le
    | (refine MI.next ‹MI _ _ _› ?_; simp only [outs, Bool.and_true, Bool.and_eq_false_iff, decide_eq_false_iff_not]; omega)
    | omega
    | (have h9 := Int.lt_of_lt_of_le ‹_ < fnG cams 93 _› f93_le; omega)
theorem mA2_ok : (mA 2).Ok Try.prog (fnG cams) := by
  refine lp1 (l := [cGcd, cLcm]) (R := RM 2) (tps := tM 2) (f := Try.f7) (fuel := 600) (Inv := fun xs _ ρ => MI (celI 2 xs) (xs.getD 7 0) (ρ.v 8)) (mu := fun xs _ ρ => (100000000 - ρ.v 8).toNat) (fun _ => (.ask (.bin .lt (.var 1) (.lit 1)) (.leaf (.tuple [(.int .i64 (.lit 0)), (.int .i64 (.lit 2))])) (.ask (.bin .lt (.lit 100) (.var 1)) (.leaf (.tuple [(.int .i64 (.lit 0)), (.int .i64 (.lit 2))])) (.ask (.bin .lt (.var 3) (.var 2)) (.leaf (.tuple [(.int .i64 (.lit 0)), (.int .i64 (.lit 2))])) (.ask (.bin .lt (.var 2) (.lit 0)) (.leaf (.tuple [(.int .i64 (.lit 0)), (.int .i64 (.lit 2))])) (.ask (.bin .lt (.bin .add (.var 1) (.lit (-1))) (.var 2)) (.leaf (.tuple [(.int .i64 (.lit 0)), (.int .i64 (.lit 2))])) (.ask (.bin .lt (.var 3) (.lit 0)) (.leaf (.tuple [(.int .i64 (.lit 0)), (.int .i64 (.lit 2))])) (.ask (.bin .lt (.bin .add (.var 1) (.lit (-1))) (.var 3)) (.leaf (.tuple [(.int .i64 (.lit 0)), (.int .i64 (.lit 2))])) (.ask (.bin .lt (.var 4) (.lit 1)) (.leaf (.tuple [(.int .i64 (.lit 0)), (.int .i64 (.lit 2))])) (.ask (.bin .lt (.lit 100) (.var 4)) (.leaf (.tuple [(.int .i64 (.lit 0)), (.int .i64 (.lit 2))])) (.ask (.bin .lt (.var 6) (.var 5)) (.leaf (.tuple [(.int .i64 (.lit 0)), (.int .i64 (.lit 2))])) (.ask (.bin .lt (.var 5) (.lit 0)) (.leaf (.tuple [(.int .i64 (.lit 0)), (.int .i64 (.lit 2))])) (.ask (.bin .lt (.bin .add (.var 4) (.lit (-1))) (.var 5)) (.leaf (.tuple [(.int .i64 (.lit 0)), (.int .i64 (.lit 2))])) (.ask (.bin .lt (.var 6) (.lit 0)) (.leaf (.tuple [(.int .i64 (.lit 0)), (.int .i64 (.lit 2))])) (.ask (.bin .lt (.bin .add (.var 4) (.lit (-1))) (.var 6)) (.leaf (.tuple [(.int .i64 (.lit 0)), (.int .i64 (.lit 2))])) (.ask (.bin .lt (.var 7) (.lit 0)) (.leaf (.tuple [(.int .i64 (.lit 0)), (.int .i64 (.lit 3))])) (.ask (.bin .lt (.lit 3155760000) (.var 7)) (.leaf (.tuple [(.int .i64 (.lit 0)), (.int .i64 (.lit 3))])) (.need [(.bin .le (.bin .mul (.bin .quo (.app 93 (.cons (.lit 1) (.cons (.var 1) .nil))) (.app 90 (.cons (.app 93 (.cons (.lit 1) (.cons (.var 1) .nil))) (.cons (.var 4) .nil)))) (.var 4)) (.lit 100000000))] (.loop 0 [(8, (.lit 0))] (.ask (.bin .lt (.var 8) (.app 93 (.cons (.app 93 (.cons (.lit 1) (.cons (.var 1) .nil))) (.cons (.var 4) .nil)))) (.ask (.bin .le (.var 2) (.bin .rem (.bin .add (.var 7) (.var 8)) (.var 1))) (.ask (.not (.bin .le (.bin .rem (.bin .add (.var 7) (.var 8)) (.var 1)) (.var 3))) (.need [(.bin .le (.bin .add (.var 8) (.lit 1)) (.lit 100000000))] (.back 0 [(8, (.bin .add (.var 8) (.lit 1)))])) (.ask (.bin .le (.var 5) (.bin .rem (.bin .add (.var 7) (.var 8)) (.var 4))) (.ask (.not (.bin .le (.bin .rem (.bin .add (.var 7) (.var 8)) (.var 4)) (.var 6))) (.need [(.bin .le (.bin .add (.var 8) (.lit 1)) (.lit 100000000))] (.back 0 [(8, (.bin .add (.var 8) (.lit 1)))])) (.leaf (.tuple [(.int .i64 (.bin .add (.var 7) (.var 8))), (.int .i64 (.lit 0))]))) (.need [(.bin .le (.bin .add (.var 8) (.lit 1)) (.lit 100000000))] (.back 0 [(8, (.bin .add (.var 8) (.lit 1)))])))) (.need [(.bin .le (.bin .add (.var 8) (.lit 1)) (.lit 100000000))] (.back 0 [(8, (.bin .add (.var 8) (.lit 1)))]))) (.leaf (.tuple [(.int .i64 (.lit 0)), (.int .i64 (.lit 7))]))))))))))))))))))))))
    prog_ok Try.func7 rfl ⟨cGcd_ok, cLcm_ok, trivial⟩ rfl (frG_ok _ _) rfl ?h1 ?h2 ?_
  case h1 => kernel_rfl
  case h2 => kernel_rfl
  intro xs es hlen hpre hrw
  simp only [mA, rA, anyO, anyX, fromX, camX, consX, tup, perX, tM, tR, unR, RB, allX, laterX, RM, celI, List.range, List.range.loop, List.flatMap_cons, List.flatMap_nil, List.map_cons, List.map_nil, List.cons_append, List.nil_append, List.append_nil, Nat.reduceMul, Nat.reduceAdd, Nat.mul_zero, Nat.mul_one, Nat.add_zero, Nat.zero_add, List.replicate, camSh] at *
  ( simp only [OT.vc, LT.vc, OT.is, AllB, RgB, inR, nthR, idsF, fsOf, List.drop, List.flatMap_cons, List.flatMap_nil, List.append_nil, List.getElem?_cons_zero, List.getElem?_cons_succ, rwFs, rwF, List.nil_append, List.cons_append, mix_v, mix_fn, upd_fn, upd_nil, upd_cons, X.one, X.isL, cond_false, valX_fn, valX_v, setM_v, List.mem_cons, List.not_mem_nil, or_false, false_or, or_true, true_or, if_true, if_false, ite_true, ite_false, Nat.reduceEqDiff, SV.den, AV.int.injEq, AV.bool.injEq, true_and, and_true, X.dB_lt, X.dB_le, X.dB_eq, X.denB_and, X.denB_or, X.denB_not, X.denB_lit0, X.denB_lit1, X.den_lit, X.den_var, X.den_add, X.den_sub, X.den_mul, X.den_app, X.den_ite, X.den_wrap, X.dB_ite, cond_tf, X.denB_app, X.denB_var, X.sem_cons, X.sem_nil, leB_t, ltB_t, eqB_t, leB_f, ltB_f, eqB_f, Bool.and_eq_true, Bool.or_eq_true, Bool.not_eq_true', Bool.and_eq_false_iff, Bool.or_eq_false_iff, Bool.not_eq_false', le, lt, eq, v, lit, ap2, i64, X.den_rem, X.den_quo, SV.dens, AV.tuple.injEq, AV.int.injEq, List.cons.injEq, true_and, and_true] at *)
  clear hlen hpre hrw
  (repeat' (first | (refine lf ?_) | (refine And.intro ?_ ?_) | intro _)) <;> first
    | (refine r2 ?_; simp only [okC_f, okC_nil, Bool.true_eq_false, or_false]; omega)
    | (refine r3 ?_ (by omega); simp only [okC_t, okC_nil, and_true]; omega)
    | (refine r0 ?_ (by omega) ?_ ?_ ?_
       · simp only [okC_t, okC_nil, and_true]; omega
       · first | omega | exact (‹MR _ _ _›).low
       · simp only [outs, Bool.and_true, Bool.and_eq_true, decide_eq_true_eq]; omega
       · first | exact (‹MI _ _ _›).out | exact (‹MR _ _ _›).out)
    | (refine r7 ?_ (by omega) (fun t h1 h2 => ?_)
       · simp only [okC_t, okC_nil, and_true]; omega
       · first | exact (‹MI _ _ _›).out t h1 (by rw [← pe2 (cams := cams) (by omega) (by omega) (by omega) (by omega)] at h2; omega) | exact (‹MR _ _ _›).out t h1 (by omega))
    | (exact (per2 (by omega) (by omega) (by omega) (by omega)).2)
    | exact ⟨fun t h1 h2 => by omega⟩
    | exact Int.le_trans (Int.add_one_le_of_lt ‹_ < fnG cams 93 _›) f93_le
    | (refine MI.next ‹MI _ _ _› ?_; simp only [outs, Bool.and_true, Bool.and_eq_false_iff, decide_eq_false_iff_not]; omega)
    | omega
    | (have h9 := Int.lt_of_lt_of_le ‹_ < fnG cams 93 _› f93_le; omega)
theorem mA3_ok : (mA 3).Ok Try.prog (fnG cams) := by
  refine lp1 (l := [cGcd, cLcm]) (R := RM 3) (tps := tM 3) (f := Try.f7) (fuel := 600) (Inv := fun xs _ ρ => MI (celI 3 xs) (xs.getD 10 0) (ρ.v 11)) (mu := fun xs _ ρ => (100000000 - ρ.v 11).toNat) (fun _ => (.ask (.bin .lt (.var 1) (.lit 1)) (.leaf (.tuple [(.int .i64 (.lit 0)), (.int .i64 (.lit 2))])) (.ask (.bin .lt (.lit 100) (.var 1)) (.leaf (.tuple [(.int .i64 (.lit 0)), (.int .i64 (.lit 2))])) (.ask (.bin .lt (.var 3) (.var 2)) (.leaf (.tuple [(.int .i64 (.lit 0)), (.int .i64 (.lit 2))])) (.ask (.bin .lt (.var 2) (.lit 0)) (.leaf (.tuple [(.int .i64 (.lit 0)), (.int .i64 (.lit 2))])) (.ask (.bin .lt (.bin .add (.var 1) (.lit (-1))) (.var 2)) (.leaf (.tuple [(.int .i64 (.lit 0)), (.int .i64 (.lit 2))])) (.ask (.bin .lt (.var 3) (.lit 0)) (.leaf (.tuple [(.int .i64 (.lit 0)), (.int .i64 (.lit 2))])) (.ask (.bin .lt (.bin .add (.var 1) (.lit (-1))) (.var 3)) (.leaf (.tuple [(.int .i64 (.lit 0)), (.int .i64 (.lit 2))])) (.ask (.bin .lt (.var 4) (.lit 1)) (.leaf (.tuple [(.int .i64 (.lit 0)), (.int .i64 (.lit 2))])) (.ask (.bin .lt (.lit 100) (.var 4)) (.leaf (.tuple [(.int .i64 (.lit 0)), (.int .i64 (.lit 2))])) (.ask (.bin .lt (.var 6) (.var 5)) (.leaf (.tuple [(.int .i64 (.lit 0)), (.int .i64 (.lit 2))])) (.ask (.bin .lt (.var 5) (.lit 0)) (.leaf (.tuple [(.int .i64 (.lit 0)), (.int .i64 (.lit 2))])) (.ask (.bin .lt (.bin .add (.var 4) (.lit (-1))) (.var 5)) (.leaf (.tuple [(.int .i64 (.lit 0)), (.int .i64 (.lit 2))])) (.ask (.bin .lt (.var 6) (.lit 0)) (.leaf (.tuple [(.int .i64 (.lit 0)), (.int .i64 (.lit 2))])) (.ask (.bin .lt (.bin .add (.var 4) (.lit (-1))) (.var 6)) (.leaf (.tuple [(.int .i64 (.lit 0)), (.int .i64 (.lit 2))])) (.ask (.bin .lt (.var 7) (.lit 1)) (.leaf (.tuple [(.int .i64 (.lit 0)), (.int .i64 (.lit 2))])) (.ask (.bin .lt (.lit 100) (.var 7)) (.leaf (.tuple [(.int .i64 (.lit 0)), (.int .i64 (.lit 2))])) (.ask (.bin .lt (.var 9) (.var 8)) (.leaf (.tuple [(.int .i64 (.lit 0)), (.int .i64 (.lit 2))])) (.ask (.bin .lt (.var 8) (.lit 0)) (.leaf (.tuple [(.int .i64 (.lit 0)), (.int .i64 (.lit 2))])) (.ask (.bin .lt (.bin .add (.var 7) (.lit (-1))) (.var 8)) (.leaf (.tuple [(.int .i64 (.lit 0)), (.int .i64 (.lit 2))])) (.ask (.bin .lt (.var 9) (.lit 0)) (.leaf (.tuple [(.int .i64 (.lit 0)), (.int .i64 (.lit 2))])) (.ask (.bin .lt (.bin .add (.var 7) (.lit (-1))) (.var 9)) (.leaf (.tuple [(.int .i64 (.lit 0)), (.int .i64 (.lit 2))])) (.ask (.bin .lt (.var 10) (.lit 0)) (.leaf (.tuple [(.int .i64 (.lit 0)), (.int .i64 (.lit 3))])) (.ask (.bin .lt (.lit 3155760000) (.var 10)) (.leaf (.tuple [(.int .i64 (.lit 0)), (.int .i64 (.lit 3))])) (.need [(.bin .le (.bin .mul (.bin .quo (.app 93 (.cons (.lit 1) (.cons (.var 1) .nil))) (.app 90 (.cons (.app 93 (.cons (.lit 1) (.cons (.var 1) .nil))) (.cons (.var 4) .nil)))) (.var 4)) (.lit 100000000))] (.need [(.bin .le (.bin .mul (.bin .quo (.app 93 (.cons (.app 93 (.cons (.lit 1) (.cons (.var 1) .nil))) (.cons (.var 4) .nil))) (.app 90 (.cons (.app 93 (.cons (.app 93 (.cons (.lit 1) (.cons (.var 1) .nil))) (.cons (.var 4) .nil))) (.cons (.var 7) .nil)))) (.var 7)) (.lit 100000000))] (.loop 0 [(11, (.lit 0))] (.ask (.bin .lt (.var 11) (.app 93 (.cons (.app 93 (.cons (.app 93 (.cons (.lit 1) (.cons (.var 1) .nil))) (.cons (.var 4) .nil))) (.cons (.var 7) .nil)))) (.ask (.bin .le (.var 2) (.bin .rem (.bin .add (.var 10) (.var 11)) (.var 1))) (.ask (.not (.bin .le (.bin .rem (.bin .add (.var 10) (.var 11)) (.var 1)) (.var 3))) (.need [(.bin .le (.bin .add (.var 11) (.lit 1)) (.lit 100000000))] (.back 0 [(11, (.bin .add (.var 11) (.lit 1)))])) (.ask (.bin .le (.var 5) (.bin .rem (.bin .add (.var 10) (.var 11)) (.var 4))) (.ask (.not (.bin .le (.bin .rem (.bin .add (.var 10) (.var 11)) (.var 4)) (.var 6))) (.need [(.bin .le (.bin .add (.var 11) (.lit 1)) (.lit 100000000))] (.back 0 [(11, (.bin .add (.var 11) (.lit 1)))])) (.ask (.bin .le (.var 8) (.bin .rem (.bin .add (.var 10) (.var 11)) (.var 7))) (.ask (.not (.bin .le (.bin .rem (.bin .add (.var 10) (.var 11)) (.var 7)) (.var 9))) (.need [(.bin .le (.bin .add (.var 11) (.lit 1)) (.lit 100000000))] (.back 0 [(11, (.bin .add (.var 11) (.lit 1)))])) (.leaf (.tuple [(.int .i64 (.bin .add (.var 10) (.var 11))), (.int .i64 (.lit 0))]))) (.need [(.bin .le (.bin .add (.var 11) (.lit 1)) (.lit 100000000))] (.back 0 [(11, (.bin .add (.var 11) (.lit 1)))])))) (.need [(.bin .le (.bin .add (.var 11) (.lit 1)) (.lit 100000000))] (.back 0 [(11, (.bin .add (.var 11) (.lit 1)))])))) (.need [(.bin .le (.bin .add (.var 11) (.lit 1)) (.lit 100000000))] (.back 0 [(11, (.bin .add (.var 11) (.lit 1)))]))) (.leaf (.tuple [(.int .i64 (.lit 0)), (.int .i64 (.lit 7))]))))))))))))))))))))))))))))))
    prog_ok Try.func7 rfl ⟨cGcd_ok, cLcm_ok, trivial⟩ rfl (frG_ok _ _) rfl ?h1 ?h2 ?_
  case h1 => kernel_rfl
  case h2 => kernel_rfl
  intro xs es hlen hpre hrw
  simp only [mA, rA, anyO, anyX, fromX, camX, consX, tup, perX, tM, tR, unR, RB, allX, laterX, RM, celI, List.range, List.range.loop, List.flatMap_cons, List.flatMap_nil, List.map_cons, List.map_nil, List.cons_append, List.nil_append, List.append_nil, Nat.reduceMul, Nat.reduceAdd, Nat.mul_zero, Nat.mul_one, Nat.add_zero, Nat.zero_add, List.replicate, camSh] at *
  ( simp only [OT.vc, LT.vc, OT.is, AllB, RgB, inR, nthR, idsF, fsOf, List.drop, List.flatMap_cons, List.flatMap_nil, List.append_nil, List.getElem?_cons_zero, List.getElem?_cons_succ, rwFs, rwF, List.nil_append, List.cons_append, mix_v, mix_fn, upd_fn, upd_nil, upd_cons, X.one, X.isL, cond_false, valX_fn, valX_v, setM_v, List.mem_cons, List.not_mem_nil, or_false, false_or, or_true, true_or, if_true, if_false, ite_true, ite_false, Nat.reduceEqDiff, SV.den, AV.int.injEq, AV.bool.injEq, true_and, and_true, X.dB_lt, X.dB_le, X.dB_eq, X.denB_and, X.denB_or, X.denB_not, X.denB_lit0, X.denB_lit1, X.den_lit, X.den_var, X.den_add, X.den_sub, X.den_mul, X.den_app, X.den_ite, X.den_wrap, X.dB_ite, cond_tf, X.denB_app, X.denB_var, X.sem_cons, X.sem_nil, leB_t, ltB_t, eqB_t, leB_f, ltB_f, eqB_f, Bool.and_eq_true, Bool.or_eq_true, Bool.not_eq_true', Bool.and_eq_false_iff, Bool.or_eq_false_iff, Bool.not_eq_false', le, lt, eq, v, lit, ap2, i64, X.den_rem, X.den_quo, SV.dens, AV.tuple.injEq, AV.int.injEq, List.cons.injEq, true_and, and_true] at *)
  clear hlen hpre hrw
  (repeat' (first | (refine lf ?_) | (refine And.intro ?_ ?_) | intro _)) <;> first
    | (refine r2 ?_; simp only [okC_f, okC_nil, Bool.true_eq_false, or_false]; omega)
    | (refine r3 ?_ (by omega); simp only [okC_t, okC_nil, and_true]; omega)
    | (refine r0 ?_ (by omega) ?_ ?_ ?_
       · simp only [okC_t, okC_nil, and_true]; omega
       · first | omega | exact (‹MR _ _ _›).low
       · simp only [outs, Bool.and_true, Bool.and_eq_true, decide_eq_true_eq]; omega
       · first | exact (‹MI _ _ _›).out | exact (‹MR _ _ _›).out)
    | (refine r7 ?_ (by omega) (fun t h1 h2 => ?_)
       · simp only [okC_t, okC_nil, and_true]; omega
       · first | exact (‹MI _ _ _›).out t h1 (by rw [← pe3 (cams := cams) (by omega) (by omega) (by omega) (by omega) (by omega) (by omega)] at h2; omega) | exact (‹MR _ _ _›).out t h1 (by omega))
    | (exact (per2 (by omega) (by omega) (by omega) (by omega)).2)
    | (exact (per3 (by omega) (by omega) (by omega) (by omega) (by omega) (by omega)).2)
    | exact ⟨fun t h1 h2 => by omega⟩
    | exact Int.le_trans (Int.add_one_le_of_lt ‹_ < fnG cams 93 _›) f93_le
    | (refine MI.next ‹MI _ _ _› ?_; simp only [outs, Bool.and_true, Bool.and_eq_false_iff, decide_eq_false_iff_not]; omega)
    | omega
    | (have h9 := Int.lt_of_lt_of_le ‹_ < fnG cams 93 _› f93_le; omega)
theorem rA0_ok : (rA 0).Ok Try.prog (fnG cams) := by
  refine lp1 (l := []) (R := RB 0) (tps := tR 0) (f := Try.f8) (fuel := 600) (Inv := fun xs _ ρ => MR (celI 0 xs) (xs.getD 1 0) (ρ.v 2)) (mu := fun xs _ ρ => (5000000000 - ρ.v 2).toNat) (fun _ => (.ask (.bin .le (.lit 0) (.var 1)) (.ask (.not (.bin .le (.var 1) (.lit 3155760000))) (.leaf (.tuple [(.int .i64 (.lit 0)), (.int .i64 (.lit 3))])) (.loop 1 [(2, (.var 1))] (.ask (.bin .lt (.var 2) (.bin .add (.var 1) (.lit 1))) (.leaf (.tuple [(.int .i64 (.var 2)), (.int .i64 (.lit 0))])) (.leaf (.tuple [(.int .i64 (.lit 0)), (.int .i64 (.lit 7))]))))) (.leaf (.tuple [(.int .i64 (.lit 0)), (.int .i64 (.lit 3))]))))
    prog_ok Try.func8 rfl trivial rfl (frG_ok _ _) rfl ?h1 ?h2 ?_
  case h1 => kernel_rfl
  case h2 => kernel_rfl
  intro xs es hlen hpre hrw
  simp only [mA, rA, anyO, anyX, fromX, camX, consX, tup, perX, tM, tR, unR, RB, allX, laterX, RM, celI, List.range, List.range.loop, List.flatMap_cons, List.flatMap_nil, List.map_cons, List.map_nil, List.cons_append, List.nil_append, List.append_nil, Nat.reduceMul, Nat.reduceAdd, Nat.mul_zero, Nat.mul_one, Nat.add_zero, Nat.zero_add, List.replicate, camSh] at *
  ( simp only [OT.vc, LT.vc, OT.is, AllB, RgB, inR, nthR, idsF, fsOf, List.drop, List.flatMap_cons, List.flatMap_nil, List.append_nil, List.getElem?_cons_zero, List.getElem?_cons_succ, rwFs, rwF, List.nil_append, List.cons_append, mix_v, mix_fn, upd_fn, upd_nil, upd_cons, X.one, X.isL, cond_false, valX_fn, valX_v, setM_v, List.mem_cons, List.not_mem_nil, or_false, false_or, or_true, true_or, if_true, if_false, ite_true, ite_false, Nat.reduceEqDiff, SV.den, AV.int.injEq, AV.bool.injEq, true_and, and_true, X.dB_lt, X.dB_le, X.dB_eq, X.denB_and, X.denB_or, X.denB_not, X.denB_lit0, X.denB_lit1, X.den_lit, X.den_var, X.den_add, X.den_sub, X.den_mul, X.den_app, X.den_ite, X.den_wrap, X.dB_ite, cond_tf, X.denB_app, X.denB_var, X.sem_cons, X.sem_nil, leB_t, ltB_t, eqB_t, leB_f, ltB_f, eqB_f, Bool.and_eq_true, Bool.or_eq_true, Bool.not_eq_true', Bool.and_eq_false_iff, Bool.or_eq_false_iff, Bool.not_eq_false', le, lt, eq, v, lit, ap2, i64, X.den_rem, X.den_quo, SV.dens, AV.tuple.injEq, AV.int.injEq, List.cons.injEq, true_and, and_true] at *)
  clear hlen hpre hrw
  (repeat' (first | (refine lf ?_) | (refine And.intro ?_ ?_) | intro _)) <;> first
    | (refine r2 ?_; simp only [okC_f, okC_nil, Bool.true_eq_false, or_false]; omega)
    | (refine r3 ?_ (by omega); rfl)
    | (refine r0 ?_ (by omega) ?_ ?_ ?_
       · rfl
       · first | omega | exact (‹MR _ _ _›).low
       · rfl
       · first | exact (‹MI _ _ _›).out | exact (‹MR _ _ _›).out)
    | (refine r7 ?_ (by omega) (fun t h1 h2 => ?_)
       · rfl
       · first | exact (‹MI _ _ _›).out t h1 (by omega) | exact (‹MR _ _ _›).out t h1 (by rw [perI0] at h2; omega))
    | exact ⟨by omega, fun t h1 h2 => by omega⟩
    | omega
    | (skip
       omega)
    | (refine MR.next ‹MR _ _ _› ?_; simp only [outs, Bool.and_true, Bool.and_eq_false_iff, decide_eq_false_iff_not]; omega)
theorem rA1_ok : (rA 1).Ok Try.prog (fnG cams) := by
  refine lp1 (l := []) (R := RB 1) (tps := tR 1) (f := Try.f8) (fuel := 600) (Inv := fun xs _ ρ => MR (celI 1 xs) (xs.getD 4 0) (ρ.v 5)) (mu := fun xs _ ρ => (5000000000 - ρ.v 5).toNat) (fun _ => (.ask (.bin .le (.lit 1) (.var 1)) (.ask (.not (.bin .le (.var 1) (.lit 100))) (.leaf (.tuple [(.int .i64 (.lit 0)), (.int .i64 (.lit 2))])) (.ask (.bin .le (.lit 0) (.var 2)) (.ask (.not (.bin .le (.var 2) (.var 3))) (.leaf (.tuple [(.int .i64 (.lit 0)), (.int .i64 (.lit 2))])) (.ask (.bin .le (.var 1) (.var 3)) (.leaf (.tuple [(.int .i64 (.lit 0)), (.int .i64 (.lit 2))])) (.ask (.bin .le (.lit 0) (.var 4)) (.ask (.not (.bin .le (.var 4) (.lit 3155760000))) (.leaf (.tuple [(.int .i64 (.lit 0)), (.int .i64 (.lit 3))])) (.loop 1 [(5, (.var 4))] (.ask (.bin .lt (.var 5) (.bin .add (.var 4) (.var 1))) (.ask (.bin .le (.var 2) (.bin .rem (.var 5) (.var 1))) (.ask (.bin .le (.bin .rem (.var 5) (.var 1)) (.var 3)) (.leaf (.tuple [(.int .i64 (.var 5)), (.int .i64 (.lit 0))])) (.need [(.bin .le (.bin .add (.var 5) (.lit 1)) (.lit 4000000000))] (.back 1 [(5, (.bin .add (.var 5) (.lit 1)))]))) (.need [(.bin .le (.bin .add (.var 5) (.lit 1)) (.lit 4000000000))] (.back 1 [(5, (.bin .add (.var 5) (.lit 1)))]))) (.leaf (.tuple [(.int .i64 (.lit 0)), (.int .i64 (.lit 7))]))))) (.leaf (.tuple [(.int .i64 (.lit 0)), (.int .i64 (.lit 3))]))))) (.leaf (.tuple [(.int .i64 (.lit 0)), (.int .i64 (.lit 2))])))) (.leaf (.tuple [(.int .i64 (.lit 0)), (.int .i64 (.lit 2))]))))
    prog_ok Try.func8 rfl trivial rfl (frG_ok _ _) rfl ?h1 ?h2 ?_
  case h1 => kernel_rfl
  case h2 => kernel_rfl
  intro xs es hlen hpre hrw
  simp only [mA, rA, anyO, anyX, fromX, camX, consX, tup, perX, tM, tR, unR, RB, allX, laterX, RM, celI, List.range, List.range.loop, List.flatMap_cons, List.flatMap_nil, List.map_cons, List.map_nil, List.cons_append, List.nil_append, List.append_nil, Nat.reduceMul, Nat.reduceAdd, Nat.mul_zero, Nat.mul_one, Nat.add_zero, Nat.zero_add, List.replicate, camSh] at *
  ( simp only [OT.vc, LT.vc, OT.is, AllB, RgB, inR, nthR, idsF, fsOf, List.drop, List.flatMap_cons, List.flatMap_nil, List.append_nil, List.getElem?_cons_zero, List.getElem?_cons_succ, rwFs, rwF, List.nil_append, List.cons_append, mix_v, mix_fn, upd_fn, upd_nil, upd_cons, X.one, X.isL, cond_false, valX_fn, valX_v, setM_v, List.mem_cons, List.not_mem_nil, or_false, false_or, or_true, true_or, if_true, if_false, ite_true, ite_false, Nat.reduceEqDiff, SV.den, AV.int.injEq, AV.bool.injEq, true_and, and_true, X.dB_lt, X.dB_le, X.dB_eq, X.denB_and, X.denB_or, X.denB_not, X.denB_lit0, X.denB_lit1, X.den_lit, X.den_var, X.den_add, X.den_sub, X.den_mul, X.den_app, X.den_ite, X.den_wrap, X.dB_ite, cond_tf, X.denB_app, X.denB_var, X.sem_cons, X.sem_nil, leB_t, ltB_t, eqB_t, leB_f, ltB_f, eqB_f, Bool.and_eq_true, Bool.or_eq_true, Bool.not_eq_true', Bool.and_eq_false_iff, Bool.or_eq_false_iff, Bool.not_eq_false', le, lt, eq, v, lit, ap2, i64, X.den_rem, X.den_quo, SV.dens, AV.tuple.injEq, AV.int.injEq, List.cons.injEq, true_and, and_true] at *)
  clear hlen hpre hrw
  (repeat' (first | (refine lf ?_) | (refine And.intro ?_ ?_) | intro _)) <;> first
    | (refine r2 ?_; simp only [okC_f, okC_nil, Bool.true_eq_false, or_false]; omega)
    | (refine r3 ?_ (by omega); simp only [okC_t, okC_nil, and_true]; omega)
    | (refine r0 ?_ (by omega) ?_ ?_ ?_
       · simp only [okC_t, okC_nil, and_true]; omega
       · first | omega | exact (‹MR _ _ _›).low
       · simp only [outs, Bool.and_true, Bool.and_eq_true, decide_eq_true_eq]; omega
       · first | exact (‹MI _ _ _›).out | exact (‹MR _ _ _›).out)
    | (refine r7 ?_ (by omega) (fun t h1 h2 => ?_)
       · simp only [okC_t, okC_nil, and_true]; omega
       · first | exact (‹MI _ _ _›).out t h1 (by omega) | exact (‹MR _ _ _›).out t h1 (by rw [perI1 (by omega)] at h2; omega))
    | exact ⟨by omega, fun t h1 h2 => by omega⟩
    | omega
    | (skip
       omega)
    | (refine MR.next ‹MR _ _ _› ?_; simp only [outs, Bool.and_true, Bool.and_eq_false_iff, decide_eq_false_iff_not]; omega)
theorem rA2_ok : (rA 2).Ok Try.prog (fnG cams) := by
  refine lp1 (l := []) (R := RB 2) (tps := tR 2) (f := Try.f8) (fuel := 600) (Inv := fun xs _ ρ => MR (celI 2 xs) (xs.getD 7 0) (ρ.v 8)) (mu := fun xs _ ρ => (5000000000 - ρ.v 8).toNat) (fun _ => (.ask (.bin .le (.lit 1) (.var 1)) (.ask (.not (.bin .le (.var 1) (.lit 100))) (.leaf (.tuple [(.int .i64 (.lit 0)), (.int .i64 (.lit 2))])) (.ask (.bin .le (.lit 0) (.var 2)) (.ask (.not (.bin .le (.var 2) (.var 3))) (.leaf (.tuple [(.int .i64 (.lit 0)), (.int .i64 (.lit 2))])) (.ask (.bin .le (.var 1) (.var 3)) (.leaf (.tuple [(.int .i64 (.lit 0)), (.int .i64 (.lit 2))])) (.ask (.bin .le (.lit 1) (.var 4)) (.ask (.not (.bin .le (.var 4) (.lit 100))) (.leaf (.tuple [(.int .i64 (.lit 0)), (.int .i64 (.lit 2))])) (.ask (.bin .le (.lit 0) (.var 5)) (.ask (.not (.bin .le (.var 5) (.var 6))) (.leaf (.tuple [(.int .i64 (.lit 0)), (.int .i64 (.lit 2))])) (.ask (.bin .le (.var 4) (.var 6)) (.leaf (.tuple [(.int .i64 (.lit 0)), (.int .i64 (.lit 2))])) (.ask (.bin .le (.lit 0) (.var 7)) (.ask (.not (.bin .le (.var 7) (.lit 3155760000))) (.leaf (.tuple [(.int .i64 (.lit 0)), (.int .i64 (.lit 3))])) (.loop 1 [(8, (.var 7))] (.ask (.bin .lt (.var 8) (.bin .add (.var 7) (.bin .mul (.var 1) (.var 4)))) (.ask (.bin .le (.var 2) (.bin .rem (.var 8) (.var 1))) (.ask (.bin .le (.bin .rem (.var 8) (.var 1)) (.var 3)) (.ask (.bin .le (.var 5) (.bin .rem (.var 8) (.var 4))) (.ask (.bin .le (.bin .rem (.var 8) (.var 4)) (.var 6)) (.leaf (.tuple [(.int .i64 (.var 8)), (.int .i64 (.lit 0))])) (.need [(.bin .le (.bin .add (.var 8) (.lit 1)) (.lit 4000000000))] (.back 1 [(8, (.bin .add (.var 8) (.lit 1)))]))) (.need [(.bin .le (.bin .add (.var 8) (.lit 1)) (.lit 4000000000))] (.back 1 [(8, (.bin .add (.var 8) (.lit 1)))]))) (.need [(.bin .le (.bin .add (.var 8) (.lit 1)) (.lit 4000000000))] (.back 1 [(8, (.bin .add (.var 8) (.lit 1)))]))) (.need [(.bin .le (.bin .add (.var 8) (.lit 1)) (.lit 4000000000))] (.back 1 [(8, (.bin .add (.var 8) (.lit 1)))]))) (.leaf (.tuple [(.int .i64 (.lit 0)), (.int .i64 (.lit 7))]))))) (.leaf (.tuple [(.int .i64 (.lit 0)), (.int .i64 (.lit 3))]))))) (.leaf (.tuple [(.int .i64 (.lit 0)), (.int .i64 (.lit 2))])))) (.leaf (.tuple [(.int .i64 (.lit 0)), (.int .i64 (.lit 2))]))))) (.leaf (.tuple [(.int .i64 (.lit 0)), (.int .i64 (.lit 2))])))) (.leaf (.tuple [(.int .i64 (.lit 0)), (.int .i64 (.lit 2))]))))
    prog_ok Try.func8 rfl trivial rfl (frG_ok _ _) rfl ?h1 ?h2 ?_
  case h1 => kernel_rfl
  case h2 => kernel_rfl
  intro xs es hlen hpre hrw
  simp only [mA, rA, anyO, anyX, fromX, camX, consX, tup, perX, tM, tR, unR, RB, allX, laterX, RM, celI, List.range, List.range.loop, List.flatMap_cons, List.flatMap_nil, List.map_cons, List.map_nil, List.cons_append, List.nil_append, List.append_nil, Nat.reduceMul, Nat.reduceAdd, Nat.mul_zero, Nat.mul_one, Nat.add_zero, Nat.zero_add, List.replicate, camSh] at *
  ( simp only [OT.vc, LT.vc, OT.is, AllB, RgB, inR, nthR, idsF, fsOf, List.drop, List.flatMap_cons, List.flatMap_nil, List.append_nil, List.getElem?_cons_zero, List.getElem?_cons_succ, rwFs, rwF, List.nil_append, List.cons_append, mix_v, mix_fn, upd_fn, upd_nil, upd_cons, X.one, X.isL, cond_false, valX_fn, valX_v, setM_v, List.mem_cons, List.not_mem_nil, or_false, false_or, or_true, true_or, if_true, if_false, ite_true, ite_false, Nat.reduceEqDiff, SV.den, AV.int.injEq, AV.bool.injEq, true_and, and_true, X.dB_lt, X.dB_le, X.dB_eq, X.denB_and, X.denB_or, X.denB_not, X.denB_lit0, X.denB_lit1, X.den_lit, X.den_var, X.den_add, X.den_sub, X.den_mul, X.den_app, X.den_ite, X.den_wrap, X.dB_ite, cond_tf, X.denB_app, X.denB_var, X.sem_cons, X.sem_nil, leB_t, ltB_t, eqB_t, leB_f, ltB_f, eqB_f, Bool.and_eq_true, Bool.or_eq_true, Bool.not_eq_true', Bool.and_eq_false_iff, Bool.or_eq_false_iff, Bool.not_eq_false', le, lt, eq, v, lit, ap2, i64, X.den_rem, X.den_quo, SV.dens, AV.tuple.injEq, AV.int.injEq, List.cons.injEq, true_and, and_true] at *)
  clear hlen hpre hrw
  (repeat' (first | (refine lf ?_) | (refine And.intro ?_ ?_) | intro _)) <;> first
    | (refine r2 ?_; simp only [okC_f, okC_nil, Bool.true_eq_false, or_false]; omega)
    | (refine r3 ?_ (by omega); simp only [okC_t, okC_nil, and_true]; omega)
    | (refine r0 ?_ (by omega) ?_ ?_ ?_
       · simp only [okC_t, okC_nil, and_true]; omega
       · first | omega | exact (‹MR _ _ _›).low
       · simp only [outs, Bool.and_true, Bool.and_eq_true, decide_eq_true_eq]; omega
       · first | exact (‹MI _ _ _›).out | exact (‹MR _ _ _›).out)
    | (refine r7 ?_ (by omega) (fun t h1 h2 => ?_)
       · simp only [okC_t, okC_nil, and_true]; omega
       · first | exact (‹MI _ _ _›).out t h1 (by omega) | exact (‹MR _ _ _›).out t h1 (by have e := pl2 (s := xs.getD 1 0) (x := xs.getD 2 0) (y := xs.getD 3 0) (r := xs.getD 4 0) (z := xs.getD 5 0) (u := xs.getD 6 0) (by omega) (by omega); omega))
    | exact ⟨by omega, fun t h1 h2 => by omega⟩
    | omega
    | (have pm := pm2 (s := xs.getD 1 0) (r := xs.getD 4 0) (by omega) (by omega) (by omega) (by omega)
       omega)
    | (refine MR.next ‹MR _ _ _› ?_; simp only [outs, Bool.and_true, Bool.and_eq_false_iff, decide_eq_false_iff_not]; omega)
theorem rA3_ok : (rA 3).Ok Try.prog (fnG cams) := by
  refine lp1 (l := []) (R := RB 3) (tps := tR 3) (f := Try.f8) (fuel := 600) (Inv := fun xs _ ρ => MR (celI 3 xs) (xs.getD 10 0) (ρ.v 11)) (mu := fun xs _ ρ => (5000000000 - ρ.v 11).toNat) (fun _ => (.ask (.bin .le (.lit 1) (.var 1)) (.ask (.not (.bin .le (.var 1) (.lit 100))) (.leaf (.tuple [(.int .i64 (.lit 0)), (.int .i64 (.lit 2))])) (.ask (.bin .le (.lit 0) (.var 2)) (.ask (.not (.bin .le (.var 2) (.var 3))) (.leaf (.tuple [(.int .i64 (.lit 0)), (.int .i64 (.lit 2))])) (.ask (.bin .le (.var 1) (.var 3)) (.leaf (.tuple [(.int .i64 (.lit 0)), (.int .i64 (.lit 2))])) (.ask (.bin .le (.lit 1) (.var 4)) (.ask (.not (.bin .le (.var 4) (.lit 100))) (.leaf (.tuple [(.int .i64 (.lit 0)), (.int .i64 (.lit 2))])) (.ask (.bin .le (.lit 0) (.var 5)) (.ask (.not (.bin .le (.var 5) (.var 6))) (.leaf (.tuple [(.int .i64 (.lit 0)), (.int .i64 (.lit 2))])) (.ask (.bin .le (.var 4) (.var 6)) (.leaf (.tuple [(.int .i64 (.lit 0)), (.int .i64 (.lit 2))])) (.ask (.bin .le (.lit 1) (.var 7)) (.ask (.not (.bin .le (.var 7) (.lit 100))) (.leaf (.tuple [(.int .i64 (.lit 0)), (.int .i64 (.lit 2))])) (.ask (.bin .le (.lit 0) (.var 8)) (.ask (.not (.bin .le (.var 8) (.var 9))) (.leaf (.tuple [(.int .i64 (.lit 0)), (.int .i64 (.lit 2))])) (.ask (.bin .le (.var 7) (.var 9)) (.leaf (.tuple [(.int .i64 (.lit 0)), (.int .i64 (.lit 2))])) (.ask (.bin .le (.lit 0) (.var 10)) (.ask (.not (.bin .le (.var 10) (.lit 3155760000))) (.leaf (.tuple [(.int .i64 (.lit 0)), (.int .i64 (.lit 3))])) (.loop 1 [(11, (.var 10))] (.ask (.bin .lt (.var 11) (.bin .add (.var 10) (.bin .mul (.bin .mul (.var 1) (.var 4)) (.var 7)))) (.ask (.bin .le (.var 2) (.bin .rem (.var 11) (.var 1))) (.ask (.bin .le (.bin .rem (.var 11) (.var 1)) (.var 3)) (.ask (.bin .le (.var 5) (.bin .rem (.var 11) (.var 4))) (.ask (.bin .le (.bin .rem (.var 11) (.var 4)) (.var 6)) (.ask (.bin .le (.var 8) (.bin .rem (.var 11) (.var 7))) (.ask (.bin .le (.bin .rem (.var 11) (.var 7)) (.var 9)) (.leaf (.tuple [(.int .i64 (.var 11)), (.int .i64 (.lit 0))])) (.need [(.bin .le (.bin .add (.var 11) (.lit 1)) (.lit 4000000000))] (.back 1 [(11, (.bin .add (.var 11) (.lit 1)))]))) (.need [(.bin .le (.bin .add (.var 11) (.lit 1)) (.lit 4000000000))] (.back 1 [(11, (.bin .add (.var 11) (.lit 1)))]))) (.need [(.bin .le (.bin .add (.var 11) (.lit 1)) (.lit 4000000000))] (.back 1 [(11, (.bin .add (.var 11) (.lit 1)))]))) (.need [(.bin .le (.bin .add (.var 11) (.lit 1)) (.lit 4000000000))] (.back 1 [(11, (.bin .add (.var 11) (.lit 1)))]))) (.need [(.bin .le (.bin .add (.var 11) (.lit 1)) (.lit 4000000000))] (.back 1 [(11, (.bin .add (.var 11) (.lit 1)))]))) (.need [(.bin .le (.bin .add (.var 11) (.lit 1)) (.lit 4000000000))] (.back 1 [(11, (.bin .add (.var 11) (.lit 1)))]))) (.leaf (.tuple [(.int .i64 (.lit 0)), (.int .i64 (.lit 7))]))))) (.leaf (.tuple [(.int .i64 (.lit 0)), (.int .i64 (.lit 3))]))))) (.leaf (.tuple [(.int .i64 (.lit 0)), (.int .i64 (.lit 2))])))) (.leaf (.tuple [(.int .i64 (.lit 0)), (.int .i64 (.lit 2))]))))) (.leaf (.tuple [(.int .i64 (.lit 0)), (.int .i64 (.lit 2))])))) (.leaf (.tuple [(.int .i64 (.lit 0)), (.int .i64 (.lit 2))]))))) (.leaf (.tuple [(.int .i64 (.lit 0)), (.int .i64 (.lit 2))])))) (.leaf (.tuple [(.int .i64 (.lit 0)), (.int .i64 (.lit 2))]))))
    prog_ok Try.func8 rfl trivial rfl (frG_ok _ _) rfl ?h1 ?h2 ?_
  case h1 => kernel_rfl
  case h2 => kernel_rfl
  intro xs es hlen hpre hrw
  simp only [mA, rA, anyO, anyX, fromX, camX, consX, tup, perX, tM, tR, unR, RB, allX, laterX, RM, celI, List.range, List.range.loop, List.flatMap_cons, List.flatMap_nil, List.map_cons, List.map_nil, List.cons_append, List.nil_append, List.append_nil, Nat.reduceMul, Nat.reduceAdd, Nat.mul_zero, Nat.mul_one, Nat.add_zero, Nat.zero_add, List.replicate, camSh] at *
  ( simp only [OT.vc, LT.vc, OT.is, AllB, RgB, inR, nthR, idsF, fsOf, List.drop, List.flatMap_cons, List.flatMap_nil, List.append_nil, List.getElem?_cons_zero, List.getElem?_cons_succ, rwFs, rwF, List.nil_append, List.cons_append, mix_v, mix_fn, upd_fn, upd_nil, upd_cons, X.one, X.isL, cond_false, valX_fn, valX_v, setM_v, List.mem_cons, List.not_mem_nil, or_false, false_or, or_true, true_or, if_true, if_false, ite_true, ite_false, Nat.reduceEqDiff, SV.den, AV.int.injEq, AV.bool.injEq, true_and, and_true, X.dB_lt, X.dB_le, X.dB_eq, X.denB_and, X.denB_or, X.denB_not, X.denB_lit0, X.denB_lit1, X.den_lit, X.den_var, X.den_add, X.den_sub, X.den_mul, X.den_app, X.den_ite, X.den_wrap, X.dB_ite, cond_tf, X.denB_app, X.denB_var, X.sem_cons, X.sem_nil, leB_t, ltB_t, eqB_t, leB_f, ltB_f, eqB_f, Bool.and_eq_true, Bool.or_eq_true, Bool.not_eq_true', Bool.and_eq_false_iff, Bool.or_eq_false_iff, Bool.not_eq_false', le, lt, eq, v, lit, ap2, i64, X.den_rem, X.den_quo, SV.dens, AV.tuple.injEq, AV.int.injEq, List.cons.injEq, true_and, and_true] at *)
  clear hlen hpre hrw
  (repeat' (first | (refine lf ?_) | (refine And.intro ?_ ?_) | intro _)) <;> first
    | (refine r2 ?_; simp only [okC_f, okC_nil, Bool.true_eq_false, or_false]; omega)
    | (refine r3 ?_ (by omega); simp only [okC_t, okC_nil, and_true]; omega)
    | (refine r0 ?_ (by omega) ?_ ?_ ?_
       · simp only [okC_t, okC_nil, and_true]; omega
       · first | omega | exact (‹MR _ _ _›).low
       · simp only [outs, Bool.and_true, Bool.and_eq_true, decide_eq_true_eq]; omega
       · first | exact (‹MI _ _ _›).out | exact (‹MR _ _ _›).out)
    | (refine r7 ?_ (by omega) (fun t h1 h2 => ?_)
       · simp only [okC_t, okC_nil, and_true]; omega
       · first | exact (‹MI _ _ _›).out t h1 (by omega) | exact (‹MR _ _ _›).out t h1 (by have e := pl3 (s := xs.getD 1 0) (x := xs.getD 2 0) (y := xs.getD 3 0) (r := xs.getD 4 0) (z := xs.getD 5 0) (u := xs.getD 6 0) (t := xs.getD 7 0) (p := xs.getD 8 0) (q := xs.getD 9 0) (by omega) (by omega) (by omega); omega))
    | exact ⟨by omega, fun t h1 h2 => by omega⟩
    | omega
    | (have pm := pm3 (s := xs.getD 1 0) (r := xs.getD 4 0) (t := xs.getD 7 0) (by omega) (by omega) (by omega) (by omega) (by omega) (by omega)
       omega)
    | (refine MR.next ‹MR _ _ _› ?_; simp only [outs, Bool.and_true, Bool.and_eq_false_iff, decide_eq_false_iff_not]; omega)
end Ch
end Go.Proofs.Ytoecekncncbjgaa
