/- Chapter 6: cams, when all figures are out; numbers of chapters 1 and 6 as functions; greatest divisors, least multiples. -/
import Derived.Test.YtoecekncncbjgaaGreatTA
set_option linter.unusedSimpArgs false
set_option linter.unusedVariables false
namespace Go.Proofs.YtoecekncncbjgaaGreat
open Abs Sx
set_option maxRecDepth 100000
namespace Ch
/-- Whether all figures are out at a step: of each cam how many steps it has, and between which ones its figure is out. -/
def outs : List Int → Int → Bool
  | s :: lo :: hi :: cs, t => (decide (lo ≤ t.tmod s) && decide (t.tmod s ≤ hi)) && outs cs t
  | _, _ => true
def perI : List Int → Int
  | s :: _ :: _ :: cs => (Int.lcm s (perI cs) : Int)
  | _ => 1
def GoodC : List Int → Prop
  | s :: _ :: _ :: cs => 1 ≤ s ∧ GoodC cs
  | _ => True
theorem lcm_pos' {a b : Int} (ha : 1 ≤ a) (hb : 1 ≤ b) : 1 ≤ (Int.lcm a b : Int) := by
  have : 0 < Int.lcm a b := Int.lcm_pos (by omega) (by omega)
  omega
theorem perI_pos : ∀ {cs : List Int}, GoodC cs → 1 ≤ perI cs
  | [], _ => by simp [perI]
  | [_], _ => by simp [perI]
  | [_, _], _ => by simp [perI]
  | _ :: _ :: _ :: cs, h => lcm_pos' h.1 (perI_pos h.2)
theorem tmod_per {s t d : Int} (_hs : 1 ≤ s) (ht : 0 ≤ t) (hd : 0 ≤ d) (h : s ∣ d) : (t + d).tmod s = t.tmod s := by
  rw [Int.tmod_eq_emod_of_nonneg (by omega), Int.tmod_eq_emod_of_nonneg ht]
  obtain ⟨k, rfl⟩ := h
  exact Int.add_mul_emod_self_left ..
theorem outs_per : ∀ {cs : List Int} {t d : Int}, GoodC cs → 0 ≤ t → 0 ≤ d → perI cs ∣ d → outs cs (t + d) = outs cs t
  | [], _, _, _, _, _, _ => rfl
  | [_], _, _, _, _, _, _ => rfl
  | [_, _], _, _, _, _, _, _ => rfl
  | s :: lo :: hi :: cs, t, d, h, ht, hd, hp => by
    have h1 : s ∣ d := Int.dvd_trans (Int.dvd_lcm_left ..) hp
    have h2 : perI cs ∣ d := Int.dvd_trans (Int.dvd_lcm_right ..) hp
    simp only [outs, tmod_per h.1 ht hd h1, outs_per h.2 ht hd h2]
def meetI : List Int → Int
  | a :: cs => match (List.range (perI cs).toNat).find? (fun k : Nat => outs cs (a + (k : Int))) with
    | some k => a + k
    | none => -1
  | [] => -1
theorem meet_none {a : Int} {cs : List Int} (h : ∀ t, a ≤ t → t < a + perI cs → outs cs t = false) : meetI (a :: cs) = -1 := by
  simp only [meetI]
  split
  · rename_i k hk
    have h1 := List.find?_some hk
    have h2 := List.mem_of_find?_eq_some hk
    rw [List.mem_range] at h2
    rw [h (a + k) (by omega) (by omega)] at h1
    cases h1
  · rfl
theorem meet_some {a m : Int} {cs : List Int} (h1 : a ≤ m) (h2 : m < a + perI cs) (h3 : outs cs m = true) (h4 : ∀ t, a ≤ t → t < m → outs cs t = false) : meetI (a :: cs) = m := by
  have key : (List.range (perI cs).toNat).find? (fun k : Nat => outs cs (a + (k : Int))) = some (m - a).toNat := by
    rw [List.find?_eq_some_iff_getElem]
    refine ⟨by rw [show a + ((m - a).toNat : Int) = m by omega]; exact h3, (m - a).toNat, by rw [List.length_range]; omega, by rw [List.getElem_range], fun j hj => ?_⟩
    rw [List.getElem_range, h4 (a + j) (by omega) (by omega)]
    rfl
  simp only [meetI, key]
  omega
theorem meet_spec {a : Int} {cs : List Int} (hg : GoodC cs) (h0 : 0 ≤ a) : (meetI (a :: cs) = -1 ∧ ∀ t, a ≤ t → outs cs t = false) ∨
    (a ≤ meetI (a :: cs) ∧ meetI (a :: cs) < a + perI cs ∧ outs cs (meetI (a :: cs)) = true ∧ ∀ t, a ≤ t → t < meetI (a :: cs) → outs cs t = false) := by
  have hp := perI_pos hg
  cases hf : (List.range (perI cs).toNat).find? (fun k : Nat => outs cs (a + (k : Int))) with
  | none =>
    have e : meetI (a :: cs) = -1 := by simp only [meetI, hf]
    refine .inl ⟨e, fun t ht => ?_⟩
    rw [List.find?_eq_none] at hf
    have hr := Int.emod_nonneg (t - a) (show perI cs ≠ 0 by omega)
    have hl := Int.emod_lt_of_pos (t - a) (show 0 < perI cs by omega)
    have hd := Int.mul_ediv_add_emod (t - a) (perI cs)
    have hq := Int.ediv_nonneg (show 0 ≤ t - a by omega) (show 0 ≤ perI cs by omega)
    have hm := Int.mul_nonneg (show 0 ≤ perI cs by omega) hq
    have := hf ((t - a) % perI cs).toNat (List.mem_range.2 (by omega))
    have e2 : t = (a + (t - a) % perI cs) + perI cs * ((t - a) / perI cs) := by omega
    rw [e2, outs_per hg (by omega) hm (Int.dvd_mul_right ..)]
    rw [show a + (((t - a) % perI cs).toNat : Int) = a + (t - a) % perI cs by omega] at this
    simpa using this
  | some k =>
    have e : meetI (a :: cs) = a + k := by simp only [meetI, hf]
    have h1 := List.find?_some hf
    have h2 := List.mem_of_find?_eq_some hf
    rw [List.mem_range] at h2
    rw [List.find?_eq_some_iff_getElem] at hf
    obtain ⟨_, i, hi, hk, hall⟩ := hf
    rw [List.getElem_range] at hk
    subst hk
    refine .inr ⟨by omega, by omega, by rw [e]; exact h1, fun t h3 h4 => ?_⟩
    have := hall (t - a).toNat (by omega)
    rw [List.getElem_range, show a + ((t - a).toNat : Int) = t by omega] at this
    simpa using this

def lit (n : Int) : X := .lit n
def v (n : Nat) : X := .var n
def le (a b : X) : X := .bin .le a b
def lt (a b : X) : X := .bin .lt a b
def eq (a b : X) : X := .bin .eq a b
def ap2 (f : Nat) (x y : X) : X := .app f (.cons x (.cons y .nil))
def i64 : Sh := .int .i64
def bg : Int := 2305843009213693952
def clampT (m x : Int) : Int := max 1 (min m x)
/-- Whether cams are valid; the error of Meet of up to three cams, what it gives back. -/
def okC : List Int → Bool
  | s :: lo :: hi :: cs => (decide (1 ≤ s) && (decide (s ≤ 100) && (decide (0 ≤ lo) && (decide (lo ≤ hi) && decide (hi + 1 ≤ s))))) && okC cs
  | _ => true
def resE : List Int → Int
  | a :: cs => if okC cs = true then (if 0 ≤ a ∧ a ≤ 3155760000 then (if meetI (a :: cs) = -1 then 7 else 0) else 3) else 2
  | [] => 0
def resV (l : List Int) : Int := if resE l = 0 then meetI l else 0
/-- Numbers by functions: 0 to 2: the cells of cams; 90 the greatest divisor, 91, 92 lowest terms, 93 the least multiple, 94 the first step at which all figures are out, or -1; 95, 96 what Meet gives back, its error. -/
def fnG (cams : List (Int × Int × Int)) (f : Nat) (l : List Int) : Int := match f with
  | 0 => (cams.getD (hdI l).toNat (1, 0, 0)).1
  | 1 => (cams.getD (hdI l).toNat (1, 0, 0)).2.1
  | 2 => (cams.getD (hdI l).toNat (1, 0, 0)).2.2
  | 90 => clampT bg (Int.gcd (hdI l) (hdI l.tail))
  | 91 => clampT 100000000 (Tn.lowR (hdI l) (hdI l.tail)).1
  | 92 => clampT 100000000 (Tn.lowR (hdI l) (hdI l.tail)).2
  | 93 => clampT 100000000 (Int.lcm (hdI l) (hdI l.tail))
  | 94 => max (-1) (min 4000000000 (meetI l))
  | 95 => resV l
  | 96 => resE l
  | _ => 0
def frG : List (Option (Int × Int)) := List.replicate 90 none ++ [some (1, bg), some (1, 100000000), some (1, 100000000), some (1, 100000000), some (-1, 4000000000)]
theorem clampT_in {m x : Int} (h : 1 ≤ m) : 1 ≤ clampT m x ∧ clampT m x ≤ m := by unfold clampT; omega
theorem clampT_id {m x : Int} (h : 1 ≤ x) (k : x ≤ m) : clampT m x = x := by unfold clampT; omega
theorem nth_rep : ∀ (n i : Nat) (l : List (Option (Int × Int))), nthR (List.replicate n none ++ l) i = if i < n then none else nthR l (i - n)
  | 0, i, l => by simp
  | n + 1, 0, l => by simp [List.replicate_succ, nthR]
  | n + 1, i + 1, l => by
    simp only [List.replicate_succ, List.cons_append, nthR, nth_rep n i l, Nat.add_lt_add_iff_right, Nat.add_sub_add_right]
theorem frG_ok (cams : List (Int × Int × Int)) (vr : List (Option (Int × Int))) : ∀ i l, inR (fnG cams i l) (nthR (Rgs.mk vr frG).fr i) := by
  intro i l
  show inR _ (nthR (List.replicate 90 none ++ _) i)
  rw [nth_rep]
  split
  · trivial
  · rename_i h
    obtain ⟨j, rfl⟩ : ∃ j, i = 90 + j := ⟨i - 90, by omega⟩
    rw [Nat.add_sub_cancel_left]
    match j with
    | 0 => exact clampT_in (by decide)
    | 1 => exact clampT_in (by decide)
    | 2 => exact clampT_in (by decide)
    | 3 => exact clampT_in (by decide)
    | 4 =>
      show (-1 : Int) ≤ max (-1) (min 4000000000 (meetI l)) ∧ max (-1) (min 4000000000 (meetI l)) ≤ (4000000000 : Int)
      omega
    | _ + 5 => trivial
variable {cams : List (Int × Int × Int)}
theorem f90_at {a b : Int} (ha : 1 ≤ a) (hb : 1 ≤ b) (hb2 : b ≤ bg) : fnG cams 90 [a, b] = Int.gcd a b :=
  clampT_id (Tn.gcd_pos_of a b hb) (Int.le_trans (Tn.gcd_le_of' a b hb) hb2)
def RG : Rgs := ⟨[none, none, some (0, bg), some (0, bg)], frG⟩
def gcdPre : List X := [le (lit 1) (v 0), le (lit 1) (v 1), le (v 0) (lit bg), le (v 1) (lit bg)]
def gcdO : OT SV := .leaf (.int .i64 (ap2 90 (v 0) (v 1)))
def cGcd : Pr := ⟨39, [i64, i64], gcdPre, fun _ => gcdO⟩
def pGcd : Pr := ⟨25, [i64, i64], gcdPre, fun _ => gcdO⟩
def pLst : Pr := ⟨23, [.agg [i64, i64]], gcdPre ++ [le (v 0) (lit 100000000), le (v 1) (lit 100000000)], fun _ => .leaf (.agg [.int .i64 (ap2 91 (v 0) (v 1)), .int .i64 (ap2 92 (v 0) (v 1))])⟩
def lcmPre : List X := gcdPre ++ [le (.bin .mul (.bin .quo (v 0) (ap2 90 (v 0) (v 1))) (v 1)) (lit 100000000)]
def cLcm : Pr := ⟨58, [i64, i64], lcmPre, fun _ => .leaf (.int .i64 (ap2 93 (v 0) (v 1)))⟩
def pLcm : Pr := ⟨11, [i64, i64], lcmPre, fun _ => .leaf (.int .i64 (ap2 93 (v 0) (v 1)))⟩
def tG : List Tpl := [⟨[2, 3], [(0, .int .i64 (v 2)), (1, .int .i64 (v 3))], [], [], 0, [le (lit 1) (.bin .add (v 2) (v 3))], none⟩]
theorem gcd_step {a b : Int} (h0 : 0 ≤ a) (h1 : 0 < b) : Int.gcd b (a.tmod b) = Int.gcd a b ∧ 0 ≤ a.tmod b ∧ a.tmod b < b := by
  refine ⟨?_, Int.tmod_nonneg _ h0, Int.tmod_lt_of_pos _ h1⟩
  rw [Int.tmod_eq_emod_of_nonneg h0, Int.emod_def, Int.gcd_sub_mul_left_right, Int.gcd_comm]
theorem gcd_end {a x y : Int} (h0 : 0 ≤ a) (h1 : 1 ≤ x) (h2 : 1 ≤ y) (h3 : y ≤ bg) (hg : Int.gcd a 0 = Int.gcd x y) : a = fnG cams 90 [x, y] := by
  rw [f90_at h1 h2 h3, ← hg, Int.gcd_zero_right]; omega
theorem cGcd_ok : cGcd.Ok Tryz.prog (fnG cams) := by
  refine lp0 (l := []) (R := RG) (tps := fun _ => tG) (f := Tryz.f39) (fuel := 400) (Inv := fun xs _ ρ => Int.gcd (ρ.v 2) (ρ.v 3) = Int.gcd (xs.getD 0 0) (xs.getD 1 0)) (mu := fun xs _ ρ => (ρ.v 3).toNat) (fun _ => (.loop 0 [(2, (.var 0)), (3, (.var 1))] (.ask (.bin .lt (.lit 0) (.var 3)) (.back 0 [(2, (.var 3)), (3, (.bin .rem (.var 2) (.var 3)))]) (.leaf (.int .i64 (.var 2))))))
    prog_ok Tryz.func39 rfl trivial rfl (frG_ok _ _) rfl ?h ?_
  case h => kernel_rfl
  intro xs es hlen hpre hrw
  ( simp only [OT.vc, LT.vc, OT.is, AllB, RgB, inR, nthR, idsF, fsOf, List.drop, List.flatMap_cons, List.flatMap_nil, List.append_nil, List.getElem?_cons_zero, List.getElem?_cons_succ, rwFs, rwF, List.nil_append, List.cons_append, mix_v, mix_fn, upd_fn, upd_nil, upd_cons, X.one, X.isL, cond_false, valX_fn, valX_v, setM_v, List.mem_cons, List.not_mem_nil, or_false, false_or, or_true, true_or, if_true, if_false, ite_true, ite_false, Nat.reduceEqDiff, SV.den, AV.int.injEq, AV.bool.injEq, true_and, and_true, X.dB_lt, X.dB_le, X.dB_eq, X.denB_and, X.denB_or, X.denB_not, X.denB_lit0, X.denB_lit1, X.den_lit, X.den_var, X.den_add, X.den_sub, X.den_mul, X.den_app, X.den_ite, X.den_wrap, X.dB_ite, cond_tf, X.denB_app, X.denB_var, X.sem_cons, X.sem_nil, leB_t, ltB_t, eqB_t, leB_f, ltB_f, eqB_f, Bool.and_eq_true, Bool.or_eq_true, Bool.not_eq_true', Bool.and_eq_false_iff, Bool.or_eq_false_iff, Bool.not_eq_false', cGcd, gcdPre, gcdO, le, lt, v, lit, ap2, tG, RG, i64, X.den_rem] at *)
  refine fun w h0 h1 hg => ⟨fun h3 => ?_, fun h3 => ?_⟩
  · have := gcd_step (a := w 2) (b := w 3) h0.1.1 (by omega)
    exact ⟨this.1.trans hg, by omega⟩
  · have e0 : w 3 = 0 := by omega
    rw [e0] at hg
    exact gcd_end h0.1.1 hpre.1 hpre.2.1 hpre.2.2.2 hg
theorem pGcd_ok : pGcd.Ok Tryz.prog (fnG cams) := by
  refine lp0 (l := []) (R := RG) (tps := fun _ => tG) (f := Tryz.f25) (fuel := 400) (Inv := fun xs _ ρ => Int.gcd (ρ.v 2) (ρ.v 3) = Int.gcd (xs.getD 0 0) (xs.getD 1 0)) (mu := fun xs _ ρ => (ρ.v 3).toNat) (fun _ => (.loop 0 [(2, (.var 0)), (3, (.var 1))] (.ask (.not (.bin .eq (.var 3) (.lit 0))) (.back 0 [(2, (.var 3)), (3, (.bin .rem (.var 2) (.var 3)))]) (.leaf (.int .i64 (.var 2))))))
    prog_ok Tryz.func25 rfl trivial rfl (frG_ok _ _) rfl ?h ?_
  case h => kernel_rfl
  intro xs es hlen hpre hrw
  ( simp only [OT.vc, LT.vc, OT.is, AllB, RgB, inR, nthR, idsF, fsOf, List.drop, List.flatMap_cons, List.flatMap_nil, List.append_nil, List.getElem?_cons_zero, List.getElem?_cons_succ, rwFs, rwF, List.nil_append, List.cons_append, mix_v, mix_fn, upd_fn, upd_nil, upd_cons, X.one, X.isL, cond_false, valX_fn, valX_v, setM_v, List.mem_cons, List.not_mem_nil, or_false, false_or, or_true, true_or, if_true, if_false, ite_true, ite_false, Nat.reduceEqDiff, SV.den, AV.int.injEq, AV.bool.injEq, true_and, and_true, X.dB_lt, X.dB_le, X.dB_eq, X.denB_and, X.denB_or, X.denB_not, X.denB_lit0, X.denB_lit1, X.den_lit, X.den_var, X.den_add, X.den_sub, X.den_mul, X.den_app, X.den_ite, X.den_wrap, X.dB_ite, cond_tf, X.denB_app, X.denB_var, X.sem_cons, X.sem_nil, leB_t, ltB_t, eqB_t, leB_f, ltB_f, eqB_f, Bool.and_eq_true, Bool.or_eq_true, Bool.not_eq_true', Bool.and_eq_false_iff, Bool.or_eq_false_iff, Bool.not_eq_false', pGcd, gcdPre, gcdO, le, lt, v, lit, ap2, tG, RG, i64, X.den_rem] at *)
  refine fun w h0 h1 hg => ⟨fun h3 => ?_, fun h3 => ?_⟩
  · have := gcd_step (a := w 2) (b := w 3) h0.1.1 (by omega)
    exact ⟨this.1.trans hg, by omega⟩
  · rw [h3] at hg
    exact gcd_end h0.1.1 hpre.1 hpre.2.1 hpre.2.2.2 hg
theorem low_at {a b : Int} (ha : 1 ≤ a) (hb : 1 ≤ b) (ha2 : a ≤ 100000000) (hb2 : b ≤ 100000000) : fnG cams 91 [a, b] = a.tdiv (fnG cams 90 [a, b]) ∧ fnG cams 92 [a, b] = b.tdiv (fnG cams 90 [a, b]) ∧ fnG cams 91 [a, b] = (Tn.lowR a b).1 ∧ fnG cams 92 [a, b] = (Tn.lowR a b).2 := by
  have h := Tn.lowR_bd a b a b ha hb (Int.le_refl _) (Int.le_refl _)
  have e1 : fnG cams 91 [a, b] = (Tn.lowR a b).1 := clampT_id h.1.1 (Int.le_trans h.1.2 ha2)
  have e2 : fnG cams 92 [a, b] = (Tn.lowR a b).2 := clampT_id h.2.1 (Int.le_trans h.2.2 hb2)
  rw [f90_at ha hb (by unfold bg; omega), e1, e2, Int.tdiv_eq_ediv_of_nonneg (by omega), Int.tdiv_eq_ediv_of_nonneg (by omega)]
  exact ⟨rfl, rfl, rfl, rfl⟩
theorem pLst_ok : pLst.Ok Tryz.prog (fnG cams) := by
  refine un0 (l := [pGcd]) (R := RG) (fuel := 200) (fun _ => (.leaf (.agg [(.int .i64 (.bin .quo (.var 0) (.app 90 (.cons (.var 0) (.cons (.var 1) .nil))))), (.int .i64 (.bin .quo (.var 1) (.app 90 (.cons (.var 0) (.cons (.var 1) .nil)))))]))) prog_ok ⟨pGcd_ok, trivial⟩ rfl (frG_ok _ _) rfl rfl ?h ?_
  case h => kernel_rfl
  intro xs es hlen hpre hrw
  ( simp only [OT.vc, LT.vc, OT.is, AllB, RgB, inR, nthR, idsF, fsOf, List.drop, List.flatMap_cons, List.flatMap_nil, List.append_nil, List.getElem?_cons_zero, List.getElem?_cons_succ, rwFs, rwF, List.nil_append, List.cons_append, mix_v, mix_fn, upd_fn, upd_nil, upd_cons, X.one, X.isL, cond_false, valX_fn, valX_v, setM_v, List.mem_cons, List.not_mem_nil, or_false, false_or, or_true, true_or, if_true, if_false, ite_true, ite_false, Nat.reduceEqDiff, SV.den, AV.int.injEq, AV.bool.injEq, true_and, and_true, X.dB_lt, X.dB_le, X.dB_eq, X.denB_and, X.denB_or, X.denB_not, X.denB_lit0, X.denB_lit1, X.den_lit, X.den_var, X.den_add, X.den_sub, X.den_mul, X.den_app, X.den_ite, X.den_wrap, X.dB_ite, cond_tf, X.denB_app, X.denB_var, X.sem_cons, X.sem_nil, leB_t, ltB_t, eqB_t, leB_f, ltB_f, eqB_f, Bool.and_eq_true, Bool.or_eq_true, Bool.not_eq_true', Bool.and_eq_false_iff, Bool.or_eq_false_iff, Bool.not_eq_false', pLst, gcdPre, le, lt, v, lit, ap2, i64, X.den_quo, SV.dens, AV.agg.injEq, List.cons.injEq] at *)
  have := low_at (cams := cams) hpre.1 hpre.2.1 hpre.2.2.2.2.1 hpre.2.2.2.2.2
  exact ⟨this.1.symm, this.2.1.symm⟩
theorem lcm_at {a b : Int} (ha : 1 ≤ a) (hb : 1 ≤ b) (hb2 : b ≤ bg) : (a.tdiv (fnG cams 90 [a, b])) * b = Int.lcm a b ∧ (Int.lcm a b ≤ (100000000 : Int) → fnG cams 93 [a, b] = Int.lcm a b) := by
  rw [f90_at ha hb hb2, Int.tdiv_eq_ediv_of_nonneg (by omega)]
  exact ⟨Tn.lcm_left a b ha hb, fun h => clampT_id (Tn.lcm_pos_of a b ha hb) h⟩
theorem cLcm_ok : cLcm.Ok Tryz.prog (fnG cams) := by
  refine un0 (l := [cGcd]) (R := RG) (fuel := 200) (fun _ => (.leaf (.int .i64 (.bin .mul (.bin .quo (.var 0) (.app 90 (.cons (.var 0) (.cons (.var 1) .nil)))) (.var 1))))) prog_ok ⟨cGcd_ok, trivial⟩ rfl (frG_ok _ _) rfl rfl ?h ?_
  case h => kernel_rfl
  intro xs es hlen hpre hrw
  ( simp only [OT.vc, LT.vc, OT.is, AllB, RgB, inR, nthR, idsF, fsOf, List.drop, List.flatMap_cons, List.flatMap_nil, List.append_nil, List.getElem?_cons_zero, List.getElem?_cons_succ, rwFs, rwF, List.nil_append, List.cons_append, mix_v, mix_fn, upd_fn, upd_nil, upd_cons, X.one, X.isL, cond_false, valX_fn, valX_v, setM_v, List.mem_cons, List.not_mem_nil, or_false, false_or, or_true, true_or, if_true, if_false, ite_true, ite_false, Nat.reduceEqDiff, SV.den, AV.int.injEq, AV.bool.injEq, true_and, and_true, X.dB_lt, X.dB_le, X.dB_eq, X.denB_and, X.denB_or, X.denB_not, X.denB_lit0, X.denB_lit1, X.den_lit, X.den_var, X.den_add, X.den_sub, X.den_mul, X.den_app, X.den_ite, X.den_wrap, X.dB_ite, cond_tf, X.denB_app, X.denB_var, X.sem_cons, X.sem_nil, leB_t, ltB_t, eqB_t, leB_f, ltB_f, eqB_f, Bool.and_eq_true, Bool.or_eq_true, Bool.not_eq_true', Bool.and_eq_false_iff, Bool.or_eq_false_iff, Bool.not_eq_false', cLcm, lcmPre, gcdPre, le, lt, v, lit, ap2, i64, X.den_quo, SV.dens] at *)
  have := lcm_at (cams := cams) hpre.1 hpre.2.1 hpre.2.2.2.1
  have h2 := hpre.2.2.2.2
  rw [this.1] at h2
  rw [this.1, this.2 h2]
theorem pLcm_ok : pLcm.Ok Tryz.prog (fnG cams) := by
  refine un0 (l := [pGcd]) (R := RG) (fuel := 200) (fun _ => (.leaf (.int .i64 (.bin .mul (.bin .quo (.var 0) (.app 90 (.cons (.var 0) (.cons (.var 1) .nil)))) (.var 1))))) prog_ok ⟨pGcd_ok, trivial⟩ rfl (frG_ok _ _) rfl rfl ?h ?_
  case h => kernel_rfl
  intro xs es hlen hpre hrw
  ( simp only [OT.vc, LT.vc, OT.is, AllB, RgB, inR, nthR, idsF, fsOf, List.drop, List.flatMap_cons, List.flatMap_nil, List.append_nil, List.getElem?_cons_zero, List.getElem?_cons_succ, rwFs, rwF, List.nil_append, List.cons_append, mix_v, mix_fn, upd_fn, upd_nil, upd_cons, X.one, X.isL, cond_false, valX_fn, valX_v, setM_v, List.mem_cons, List.not_mem_nil, or_false, false_or, or_true, true_or, if_true, if_false, ite_true, ite_false, Nat.reduceEqDiff, SV.den, AV.int.injEq, AV.bool.injEq, true_and, and_true, X.dB_lt, X.dB_le, X.dB_eq, X.denB_and, X.denB_or, X.denB_not, X.denB_lit0, X.denB_lit1, X.den_lit, X.den_var, X.den_add, X.den_sub, X.den_mul, X.den_app, X.den_ite, X.den_wrap, X.dB_ite, cond_tf, X.denB_app, X.denB_var, X.sem_cons, X.sem_nil, leB_t, ltB_t, eqB_t, leB_f, ltB_f, eqB_f, Bool.and_eq_true, Bool.or_eq_true, Bool.not_eq_true', Bool.and_eq_false_iff, Bool.or_eq_false_iff, Bool.not_eq_false', pLcm, lcmPre, gcdPre, le, lt, v, lit, ap2, i64, X.den_quo, SV.dens] at *)
  have := lcm_at (cams := cams) hpre.1 hpre.2.1 hpre.2.2.2.1
  have h2 := hpre.2.2.2.2
  rw [this.1] at h2
  rw [this.1, this.2 h2]
/-! The common turn of all cams. -/
theorem lcm_le_mul {a b : Int} (ha : 1 ≤ a) (hb : 1 ≤ b) : (Int.lcm a b : Int) ≤ a * b := by
  have h1 : 0 < a * b := Int.mul_pos (show 0 < a by omega) (show 0 < b by omega)
  have h2 : (Int.lcm a b : Int) ∣ a * b := Tn.lcm_dvd_of (Int.dvd_mul_right a b) (Int.dvd_mul_left a b)
  exact Int.le_of_dvd h1 h2
theorem lcm_assoc3 (a b c : Int) : Int.lcm (Int.lcm a b) c = Int.lcm a (Int.lcm b c) := by
  simp only [Int.lcm, Int.natAbs_natCast]; exact Nat.lcm_assoc ..
theorem lcm_one_l {a : Int} (ha : 1 ≤ a) : (Int.lcm 1 a : Int) = a := by
  simp only [Int.lcm, Int.natAbs_one, Nat.lcm_one_left]; omega
theorem lcm_one_r {a : Int} (ha : 1 ≤ a) : (Int.lcm a 1 : Int) = a := by
  simp only [Int.lcm, Int.natAbs_one, Nat.lcm_one_right]; omega
theorem per1 {a : Int} (ha : 1 ≤ a) (ha2 : a ≤ 100) : fnG cams 93 [1, a] = a := by
  rw [(lcm_at (cams := cams) (a := 1) (b := a) (by omega) ha (by unfold bg; omega)).2 (by rw [lcm_one_l ha]; omega), lcm_one_l ha]
theorem mul_le_100 {a b c d : Int} (ha : 1 ≤ a) (hb : 1 ≤ b) (hc : a ≤ c) (hd : b ≤ d) : a * b ≤ c * d := Int.mul_le_mul hc hd (by omega) (by omega)
theorem lcm2 {a b : Int} (ha : 1 ≤ a) (ha2 : a ≤ 100) (hb : 1 ≤ b) (hb2 : b ≤ 100) : (1 : Int) ≤ Int.lcm a b ∧ (Int.lcm a b : Int) ≤ 10000 :=
  ⟨lcm_pos' ha hb, Int.le_trans (lcm_le_mul ha hb) (mul_le_100 (c := 100) (d := 100) ha hb ha2 hb2)⟩
theorem lcm3 {a b c : Int} (ha : 1 ≤ a) (ha2 : a ≤ 100) (hb : 1 ≤ b) (hb2 : b ≤ 100) (hc : 1 ≤ c) (hc2 : c ≤ 100) : (1 : Int) ≤ Int.lcm (Int.lcm a b) c ∧ (Int.lcm (Int.lcm a b) c : Int) ≤ 1000000 :=
  ⟨lcm_pos' (lcm2 ha ha2 hb hb2).1 hc, Int.le_trans (lcm_le_mul (lcm2 ha ha2 hb hb2).1 hc) (mul_le_100 (c := 10000) (d := 100) (lcm2 ha ha2 hb hb2).1 hc (lcm2 ha ha2 hb hb2).2 hc2)⟩
theorem per2 {a b : Int} (ha : 1 ≤ a) (ha2 : a ≤ 100) (hb : 1 ≤ b) (hb2 : b ≤ 100) : fnG cams 93 [fnG cams 93 [1, a], b] = Int.lcm a b ∧ ((fnG cams 93 [1, a]).tdiv (fnG cams 90 [fnG cams 93 [1, a], b])) * b ≤ 100000000 := by
  have h := lcm2 ha ha2 hb hb2
  rw [per1 ha ha2]
  have k := lcm_at (cams := cams) ha hb (by unfold bg; omega)
  rw [k.1, k.2 (by omega)]
  exact ⟨rfl, by omega⟩
theorem per3 {a b c : Int} (ha : 1 ≤ a) (ha2 : a ≤ 100) (hb : 1 ≤ b) (hb2 : b ≤ 100) (hc : 1 ≤ c) (hc2 : c ≤ 100) : fnG cams 93 [fnG cams 93 [fnG cams 93 [1, a], b], c] = Int.lcm (Int.lcm a b) c ∧ ((fnG cams 93 [fnG cams 93 [1, a], b]).tdiv (fnG cams 90 [fnG cams 93 [fnG cams 93 [1, a], b], c])) * c ≤ 100000000 := by
  have h := lcm3 ha ha2 hb hb2 hc hc2
  rw [(per2 ha ha2 hb hb2).1]
  have k := lcm_at (cams := cams) (lcm2 ha ha2 hb hb2).1 hc (by unfold bg; omega)
  rw [k.1, k.2 (by omega)]
  exact ⟨rfl, by omega⟩
theorem perI0 : perI [] = 1 := rfl
theorem perI1 {a x y : Int} (ha : 1 ≤ a) : perI [a, x, y] = a := by simp only [perI]; exact lcm_one_r ha
theorem perI2 {a x y b z u : Int} (_ha : 1 ≤ a) (hb : 1 ≤ b) : perI [a, x, y, b, z, u] = Int.lcm a b := by
  show (Int.lcm a (perI [b, z, u]) : Int) = _; rw [perI1 hb]
theorem perI3 {a x y b z u c p q : Int} (_ha : 1 ≤ a) (_hb : 1 ≤ b) (hc : 1 ≤ c) : perI [a, x, y, b, z, u, c, p, q] = Int.lcm (Int.lcm a b) c := by
  show (Int.lcm a (Int.lcm b (perI [c, p, q]) : Int) : Int) = _; rw [perI1 hc, lcm_assoc3]
end Ch
end Go.Proofs.YtoecekncncbjgaaGreat
