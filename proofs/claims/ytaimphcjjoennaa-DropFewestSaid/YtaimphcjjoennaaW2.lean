/- Chapter 2: Goes, of clocks that are valid. -/
import Derived.Test.YtaimphcjjoennaaW1
set_option linter.unusedSimpArgs false
set_option linter.unusedVariables false
namespace Go.Proofs.Ytaimphcjjoennaa
open Abs Sx
set_option maxRecDepth 100000
namespace Dw
def goPre : List X := [le (lit 1) (v 0), le (v 0) (lit 3000), eq (v 1) (lit 24), lt (ap 64 (v 1)) (lit 0)]
def spT (a b e : X) : SV := .tuple [.agg [.int .i64 a, .int .i64 b], .int .i64 e]
def goO : OT SV := .ask (le (lit 0) (v 3)) (.ask (le (v 3) (v 0)) (.ask (le (lit 0) (v 4)) (.ask (le (v 4) (lit 2000)) (.leaf (spT (ap2 60 (v 3) (v 4)) (ap2 61 (v 3) (v 4)) (lit 0))) (.leaf (spT (lit 0) (lit 0) (lit 3)))) (.leaf (spT (lit 0) (lit 0) (lit 3)))) (.leaf (spT (lit 0) (lit 0) (lit 3)))) (.leaf (spT (lit 0) (lit 0) (lit 3)))
def pGoes : Pr := ⟨7, [clkSh, i64, i64], goPre, fun _ => goO⟩
def rGoes : Pr := ⟨11, [clkSh, i64, i64], goPre ++ [le (lit 0) (v 3), le (v 3) (v 0), le (lit 0) (v 4), le (v 4) (lit 2000)], fun _ => .leaf (.agg [.int .i64 (ap2 60 (v 3) (v 4)), .int .i64 (ap2 61 (v 3) (v 4))])⟩
def RD : Rgs := ⟨[none, none, none, none, none, some (0, 2000), some (0, 3000), some (0, 3000), some (0, 1), some (0, 2000)], frV⟩
def rw (es : List Bool) : SV := .slice 0 0 (lit 0) (v 1) (v 2) 2 (hdB es)
def z2 : SO := .cells true [.int .i64 (lit 0), .int .i64 (lit 0)]
def c1 (x : X) : SO := .cells true [.int .i64 x]
def mk0 (g : FuncId) : Tpl := ⟨[], [], [], [], 0, [], some g⟩
def tH (es : List Bool) : Tpl := ⟨[5, 6, 7, 8, 9], [(0, .yield 29), (1, .ptr 26 0), (2, .ptr 27 0), (3, .ptr 25 0), (5, .int .i64 (v 5))],
  [(0, .row false (v 1) .nil cmH), (1, .cells true [.int .i64 (v 0), rw es]), (2, .cells true [.int .i64 (lit 0), .int .i64 (lit 0)]), (3, .cells true [.int .i64 (v 0), rw es]), (4, .cells true [.int .i64 (v 0), rw es]), (5, .cells true [.int .i64 (v 0), rw es, .nils]), (6, .cells true [.int .i64 (v 0), rw es]), (7, .cells true [.int .i64 (v 0)]), (8, .cells true [.int .i64 (lit 1)]), (9, .cells true [.int .i64 (lit 3000)]), (10, .cells true [.int .i64 (lit 0), .int .i64 (lit 0)]), (11, .cells true [.int .i64 (v 0), rw es, .nils]), (12, .cells true [.int .i64 (v 3)]), (13, .cells true [.int .i64 (lit 0)]), (14, .cells true [.int .i64 (v 0)]), (15, .cells true [.int .i64 (v 4)]), (16, .cells true [.int .i64 (lit 0)]), (17, .cells true [.int .i64 (lit 2000)]), (18, .map [(.int .i64 (lit 0), .slice 19 0 (lit 0) (lit 1) (lit 1) 2 true, 0)] 1), (19, .cells true [.int .i64 (v 6), .int .i64 (v 7)]), (20, .cells true [.int .i64 (v 0), rw es, .nils, .map 18, .bool (v 8)]), (21, .cells true [.ptr 20 0]), (22, .cells true [.int .i64 (lit 0), .int .i64 (lit 0)]), (23, .map [(.int .i64 (lit 1), .int .i64 (v 9), 0), (.int .i64 (lit 2), .int .i64 (lit 2000), 1)] 2), (24, .cells true [.map 23]), (25, .cells true [.int .i64 (v 0), rw es, .nils]), (26, .cells true [.int .i64 (v 4)]), (27, .cells true [.int .i64 (lit 2000)]), (28, .dfr true)], [], 30, [], some 66⟩
def tGo (es : List Bool) : List Tpl := [mk0 32, tH es]
def RR : Rgs := ⟨[none, none, none, none, none, some (0, 2000), some (0, 3000), some (0, 3000), some (0, 2000)], frV⟩
def tRf (es : List Bool) : List Tpl := [⟨[5, 6, 7, 8], [(3, .ptr 1 0), (6, .ptr 2 0), (7, .ptr 3 0), (8, .int .i64 (v 7)), (9, .int .i64 (v 6)), (10, .int .i64 (v 5))], [(0, .row false (v 1) .nil cmH), (1, .cells true [.int .i64 (v 0), rw es]), (2, z2), (3, .cells true [.int .i64 (v 8), .int .i64 (lit 2000)])], [], 4, [], none⟩]

section
variable {hs : List Hr}
theorem app0 {x : Int} : fnW hs 0 [x] = (at_ hs x).1 := rfl
theorem app1 {x : Int} : fnW hs 1 [x] = (at_ hs x).2 := rfl
/-- What holds at the head of both loops. -/
structure GInv (hs : List Hr) (start from_ h many few d : Int) : Prop where
  a : from_ ≤ h ∧ h ≤ 2000 ∧ 0 ≤ many ∧ many ≤ few ∧ few ≤ 3000 ∧ 0 ≤ d ∧ d ≤ 2000
  g : goes (at_ hs) (2000 - h).toNat h few many d = goes (at_ hs) (2000 - from_).toNat from_ start start 2000
theorem goes_succ (U : Int → Hr) {h : Int} (hh : h < 2000) (few many d : Int) : goes U (2000 - h).toNat h few many d =
    if few < (U (h.tmod 24)).1 then (if many < (U (h.tmod 24)).2 ∧ d = 2000 then h else d, h) else goes U (2000 - (h + 1)).toNat (h + 1) (few - (U (h.tmod 24)).1) (max 0 (many - (U (h.tmod 24)).2)) (if many < (U (h.tmod 24)).2 ∧ d = 2000 then h else d) := by
  rw [show (2000 - h).toNat = (2000 - (h + 1)).toNat + 1 by omega]; rfl
theorem g_end (hs : List Hr) {start from_ h many few d : Int} (i : GInv hs start from_ h many few d) (hh : 2000 ≤ h) : fnW hs 60 [start, from_] = d ∧ fnW hs 61 [start, from_] = 2000 := by
  have e := i.g
  have := i.a
  rw [show (2000 - h).toNat = 0 by omega] at e
  simp only [goes] at e
  refine ⟨?_, ?_⟩
  · show clampW (goes (at_ hs) (2000 - from_).toNat from_ start start 2000).1 = d
    rw [← e]; unfold clampW; simp only; omega
  · show clampW (goes (at_ hs) (2000 - from_).toNat from_ start start 2000).2 = 2000
    rw [← e]; rfl
theorem g_stop (hs : List Hr) {start from_ h many few d : Int} (i : GInv hs start from_ h many few d) (h0 : 0 ≤ h) (hh : h < 2000) (hf : few < (at_ hs (h.tmod 24)).1) :
    fnW hs 60 [start, from_] = (if many < (at_ hs (h.tmod 24)).2 ∧ d = 2000 then h else d) ∧ fnW hs 61 [start, from_] = h := by
  have e := i.g
  have := i.a
  rw [goes_succ _ hh, if_pos hf] at e
  refine ⟨?_, ?_⟩
  · show clampW (goes (at_ hs) (2000 - from_).toNat from_ start start 2000).1 = _
    rw [← e]; unfold clampW; simp only; split <;> omega
  · show clampW (goes (at_ hs) (2000 - from_).toNat from_ start start 2000).2 = h
    rw [← e]; unfold clampW; simp only; omega
theorem g_next (hs : List Hr) (hok : AllOk hs) {start from_ h many few d d' : Int} (i : GInv hs start from_ h many few d) (h0 : 0 ≤ h) (hh : h < 2000) (hf : (at_ hs (h.tmod 24)).1 ≤ few) (hd : d' = if many < (at_ hs (h.tmod 24)).2 ∧ d = 2000 then h else d) :
    GInv hs start from_ (h + 1) (max 0 (many - (at_ hs (h.tmod 24)).2)) (few - (at_ hs (h.tmod 24)).1) d' := by
  have := i.a
  have k := okH_iff.1 (hok (h.tmod 24))
  refine ⟨?_, ?_⟩
  · have hd2 : d' = h ∨ d' = d := by subst hd; split <;> simp
    omega
  · rw [hd, ← i.g, goes_succ _ hh few many d, if_neg (show ¬ few < (at_ hs (h.tmod 24)).1 by omega)]
theorem pGoes_ok (hok : AllOk hs) : pGoes.Ok Try.prog (fnW hs) := by
  refine lp1 (l := [pVH]) (R := RD) (tps := tGo) (f := Try.f7) (fuel := 600) (Inv := fun xs _ ρ => GInv hs (xs.getD 3 0) (xs.getD 4 0) (ρ.v 5) (ρ.v 6) (ρ.v 7) (ρ.v 9) ∧ (ρ.v 8 = 0 → ρ.v 9 = 2000) ∧ (ρ.v 8 ≠ 0 → ρ.v 9 ≤ ρ.v 5 ∧ ρ.v 9 < 2000)) (mu := fun xs _ ρ => (2000 - ρ.v 5).toNat) (fun _ => (.ask (.bin .lt (.var 3) (.lit 0)) (.leaf (.tuple [(.agg [(.int .i64 (.lit 0)), (.int .i64 (.lit 0))]), (.int .i64 (.lit 3))])) (.ask (.bin .lt (.var 0) (.var 3)) (.leaf (.tuple [(.agg [(.int .i64 (.lit 0)), (.int .i64 (.lit 0))]), (.int .i64 (.lit 3))])) (.ask (.bin .lt (.var 4) (.lit 0)) (.leaf (.tuple [(.agg [(.int .i64 (.lit 0)), (.int .i64 (.lit 0))]), (.int .i64 (.lit 3))])) (.ask (.bin .lt (.lit 2000) (.var 4)) (.leaf (.tuple [(.agg [(.int .i64 (.lit 0)), (.int .i64 (.lit 0))]), (.int .i64 (.lit 3))])) (.need [(.bin .le (.var 3) (.lit 3000)), (.bin .le (.var 3) (.lit 3000))] (.loop 1 [(5, (.var 4)), (6, (.var 3)), (7, (.var 3)), (8, (.lit 0)), (9, (.lit 2000))] (.ask (.bin .lt (.var 5) (.lit 2000)) (.ask (.bin .lt (.var 6) (.app 1 (.cons (.bin .rem (.var 5) (.lit 24)) .nil))) (.ask (.bin .le (.app 0 (.cons (.bin .rem (.var 5) (.lit 24)) .nil)) (.var 7)) (.need [(.bin .le (.lit 0) (.bin .sub (.var 7) (.app 0 (.cons (.bin .rem (.var 5) (.lit 24)) .nil))))] (.back 1 [(5, (.bin .add (.var 5) (.lit 1))), (6, (.bin .max (.lit 0) (.bin .sub (.var 6) (.app 1 (.cons (.bin .rem (.var 5) (.lit 24)) .nil))))), (7, (.bin .sub (.var 7) (.app 0 (.cons (.bin .rem (.var 5) (.lit 24)) .nil)))), (8, (.lit 1)), (9, (.bin .min (.var 9) (.var 5)))])) (.leaf (.tuple [(.agg [(.int .i64 (.bin .min (.var 9) (.var 5))), (.int .i64 (.var 5))]), (.int .i64 (.lit 0))]))) (.ask (.bin .le (.app 0 (.cons (.bin .rem (.var 5) (.lit 24)) .nil)) (.var 7)) (.ask (.not (.var 8)) (.need [(.bin .le (.lit 0) (.bin .sub (.var 7) (.app 0 (.cons (.bin .rem (.var 5) (.lit 24)) .nil))))] (.back 1 [(5, (.bin .add (.var 5) (.lit 1))), (6, (.bin .max (.lit 0) (.bin .sub (.var 6) (.app 1 (.cons (.bin .rem (.var 5) (.lit 24)) .nil))))), (7, (.bin .sub (.var 7) (.app 0 (.cons (.bin .rem (.var 5) (.lit 24)) .nil)))), (8, (.var 8)), (9, (.var 9))])) (.need [(.bin .le (.lit 0) (.bin .sub (.var 7) (.app 0 (.cons (.bin .rem (.var 5) (.lit 24)) .nil))))] (.back 1 [(5, (.bin .add (.var 5) (.lit 1))), (6, (.bin .max (.lit 0) (.bin .sub (.var 6) (.app 1 (.cons (.bin .rem (.var 5) (.lit 24)) .nil))))), (7, (.bin .sub (.var 7) (.app 0 (.cons (.bin .rem (.var 5) (.lit 24)) .nil)))), (8, (.var 8)), (9, (.bin .min (.var 9) (.var 5)))]))) (.ask (.not (.var 8)) (.need [(.bin .eq (.lit 1) (.lit 0))] (.back 1 [(5, (.bin .add (.var 5) (.lit 1))), (6, (.var 6)), (7, (.var 7)), (8, (.var 8)), (9, (.var 9))])) (.leaf (.tuple [(.agg [(.int .i64 (.bin .min (.var 9) (.var 5))), (.int .i64 (.var 5))]), (.int .i64 (.lit 0))]))))) (.leaf (.tuple [(.agg [(.int .i64 (.var 9)), (.int .i64 (.lit 2000))]), (.int .i64 (.lit 0))]))))))))))
    prog_ok Try.func7 rfl ⟨pVH_ok, trivial⟩ rfl (frV_ok hok _) rfl ?h1 ?h2 ?_
  case h1 => kernel_rfl
  case h2 => kernel_rfl
  intro xs es hlen hpre hrw
  simp only [pGoes, goPre, goO, spT, clkSh, tGo, tH, mk0, RD] at *
  ( simp only [OT.vc, LT.vc, OT.is, AllB, RgB, inR, nthR, idsF, fsOf, List.drop, List.flatMap_cons, List.flatMap_nil, List.append_nil, List.getElem?_cons_zero, List.getElem?_cons_succ, rwFs, rwF, List.nil_append, List.cons_append, mix_v, mix_fn, upd_fn, upd_nil, upd_cons, X.one, X.isL, cond_false, valX_fn, valX_v, setM_v, List.mem_cons, List.not_mem_nil, or_false, false_or, or_true, true_or, if_true, if_false, ite_true, ite_false, Nat.reduceEqDiff, SV.den, AV.int.injEq, AV.bool.injEq, true_and, and_true, X.dB_lt, X.dB_le, X.dB_eq, X.denB_and, X.denB_or, X.denB_not, X.denB_lit0, X.denB_lit1, X.den_lit, X.den_var, X.den_add, X.den_sub, X.den_mul, X.den_app, X.den_ite, X.den_wrap, X.dB_ite, cond_tf, X.denB_app, X.denB_var, X.sem_cons, X.sem_nil, leB_t, ltB_t, eqB_t, leB_f, ltB_f, eqB_f, Bool.and_eq_true, Bool.or_eq_true, Bool.not_eq_true', Bool.and_eq_false_iff, Bool.or_eq_false_iff, Bool.not_eq_false', le, lt, eq, v, lit, ap, ap2, i64, cmH, X.den_rem, X.den_max, X.den_min, SV.dens, AV.tuple.injEq, AV.agg.injEq, List.cons.injEq] at *)
  simp only [i2b, decide_eq_true_eq, decide_eq_false_iff_not, app0, app1] at *
  refine ⟨fun a => ⟨fun b => by omega, fun _ => trivial⟩, fun a => ⟨fun b => ⟨fun _ => ⟨fun c => by omega, fun _ => trivial⟩, fun _ => trivial⟩, fun b => ⟨fun c => ⟨fun _ => ⟨fun _ => ⟨fun d => by omega, fun _ => trivial⟩, fun _ => trivial⟩, fun _ => trivial⟩, fun c => ⟨fun d => ⟨fun _ => ⟨fun _ => ⟨fun _ => ⟨fun e => by omega, fun _ => trivial⟩, fun _ => trivial⟩, fun _ => trivial⟩, fun _ => trivial⟩, fun d => ⟨⟨by omega, by omega⟩, ⟨⟨⟨by omega, rfl⟩, fun _ => trivial, fun h => absurd rfl h⟩, ?_⟩⟩⟩⟩⟩⟩
  intro w h0 _ hi
  obtain ⟨gi, g8, g9⟩ := hi
  have ga := gi.a
  have ok24 := okH_iff.1 (hok ((w 5).tmod 24))
  have ge := g_end hs gi
  have gs := g_stop hs gi
  have gn : ∀ d', _ := fun d' => g_next hs hok (d' := d') gi
  generalize hu : at_ hs ((w 5).tmod 24) = u at *
  generalize xs.getD 3 0 = S at *
  generalize xs.getD 4 0 = F at *
  generalize xs.getD 0 0 = L at *
  have by60 : ∀ x, w 5 < 2000 → w 7 < u.1 → (x = if w 6 < u.2 ∧ w 9 = 2000 then w 5 else w 9) → (x = fnW hs 60 [S, F] ∧ w 5 = fnW hs 61 [S, F]) := fun x h1 h2 h3 => by
    have := gs h0.1.1 h1 h2
    exact ⟨h3.trans this.1.symm, this.2.symm⟩
  refine ⟨fun e => ⟨fun f => ⟨fun g => ⟨by omega, ⟨gn _ (by omega) e g (by split <;> omega), fun h => by omega, fun _ => by omega⟩, by omega⟩, fun g => ⟨fun _ => ⟨fun _ => ⟨fun _ => ⟨fun _ => by60 _ e g (by split <;> omega), fun h => by omega⟩, fun h => by omega⟩, fun h => by omega⟩, fun h => by omega⟩⟩,
    fun f => ⟨fun g => ⟨fun k => ⟨by omega, ⟨gn _ (by omega) e g (by split <;> omega), fun h => by omega, fun h => by omega⟩, by omega⟩, fun k => ⟨by omega, ⟨gn _ (by omega) e g (by split <;> omega), fun h => by omega, fun h => by omega⟩, by omega⟩⟩, fun g => by omega⟩⟩, fun e => ⟨fun _ => ⟨fun _ => ⟨fun _ => ⟨fun _ => ?_, fun h => by omega⟩, fun h => by omega⟩, fun h => by omega⟩, fun h => by omega⟩⟩
  have := ge e
  exact ⟨this.1.symm, this.2.symm⟩
theorem rGoes_ok (hok : AllOk hs) : rGoes.Ok Try.prog (fnW hs) := by
  refine lp1 (l := []) (R := RR) (tps := tRf) (f := Try.f11) (fuel := 600) (Inv := fun xs _ ρ => GInv hs (xs.getD 3 0) (xs.getD 4 0) (ρ.v 5) (ρ.v 6) (ρ.v 7) (ρ.v 8)) (mu := fun xs _ ρ => (2000 - ρ.v 5).toNat) (fun _ => (.need [(.bin .le (.var 3) (.lit 3000)), (.bin .le (.var 3) (.lit 3000))] (.loop 0 [(5, (.var 4)), (6, (.var 3)), (7, (.var 3)), (8, (.lit 2000))] (.ask (.bin .lt (.var 5) (.lit 2000)) (.ask (.bin .lt (.var 6) (.app 1 (.cons (.bin .rem (.var 5) (.lit 24)) .nil))) (.ask (.bin .eq (.var 8) (.lit 2000)) (.ask (.bin .lt (.var 7) (.app 0 (.cons (.bin .rem (.var 5) (.lit 24)) .nil))) (.leaf (.agg [(.int .i64 (.var 5)), (.int .i64 (.var 5))])) (.need [(.bin .le (.lit 0) (.bin .sub (.var 7) (.app 0 (.cons (.bin .rem (.var 5) (.lit 24)) .nil))))] (.back 0 [(5, (.bin .add (.var 5) (.lit 1))), (6, (.bin .max (.lit 0) (.bin .sub (.var 6) (.app 1 (.cons (.bin .rem (.var 5) (.lit 24)) .nil))))), (7, (.bin .sub (.var 7) (.app 0 (.cons (.bin .rem (.var 5) (.lit 24)) .nil)))), (8, (.var 5))]))) (.ask (.bin .lt (.var 7) (.app 0 (.cons (.bin .rem (.var 5) (.lit 24)) .nil))) (.leaf (.agg [(.int .i64 (.var 8)), (.int .i64 (.var 5))])) (.need [(.bin .le (.lit 0) (.bin .sub (.var 7) (.app 0 (.cons (.bin .rem (.var 5) (.lit 24)) .nil))))] (.back 0 [(5, (.bin .add (.var 5) (.lit 1))), (6, (.bin .max (.lit 0) (.bin .sub (.var 6) (.app 1 (.cons (.bin .rem (.var 5) (.lit 24)) .nil))))), (7, (.bin .sub (.var 7) (.app 0 (.cons (.bin .rem (.var 5) (.lit 24)) .nil)))), (8, (.var 8))])))) (.ask (.bin .lt (.var 7) (.app 0 (.cons (.bin .rem (.var 5) (.lit 24)) .nil))) (.leaf (.agg [(.int .i64 (.var 8)), (.int .i64 (.var 5))])) (.need [(.bin .le (.lit 0) (.bin .sub (.var 7) (.app 0 (.cons (.bin .rem (.var 5) (.lit 24)) .nil))))] (.back 0 [(5, (.bin .add (.var 5) (.lit 1))), (6, (.bin .max (.lit 0) (.bin .sub (.var 6) (.app 1 (.cons (.bin .rem (.var 5) (.lit 24)) .nil))))), (7, (.bin .sub (.var 7) (.app 0 (.cons (.bin .rem (.var 5) (.lit 24)) .nil)))), (8, (.var 8))])))) (.leaf (.agg [(.int .i64 (.var 8)), (.int .i64 (.lit 2000))]))))))
    prog_ok Try.func11 rfl trivial rfl (frV_ok hok _) rfl ?h1 ?h2 ?_
  case h1 => kernel_rfl
  case h2 => kernel_rfl
  intro xs es hlen hpre hrw
  simp only [rGoes, goPre, goO, spT, clkSh, tRf, RR] at *
  ( simp only [OT.vc, LT.vc, OT.is, AllB, RgB, inR, nthR, idsF, fsOf, List.drop, List.flatMap_cons, List.flatMap_nil, List.append_nil, List.getElem?_cons_zero, List.getElem?_cons_succ, rwFs, rwF, List.nil_append, List.cons_append, mix_v, mix_fn, upd_fn, upd_nil, upd_cons, X.one, X.isL, cond_false, valX_fn, valX_v, setM_v, List.mem_cons, List.not_mem_nil, or_false, false_or, or_true, true_or, if_true, if_false, ite_true, ite_false, Nat.reduceEqDiff, SV.den, AV.int.injEq, AV.bool.injEq, true_and, and_true, X.dB_lt, X.dB_le, X.dB_eq, X.denB_and, X.denB_or, X.denB_not, X.denB_lit0, X.denB_lit1, X.den_lit, X.den_var, X.den_add, X.den_sub, X.den_mul, X.den_app, X.den_ite, X.den_wrap, X.dB_ite, cond_tf, X.denB_app, X.denB_var, X.sem_cons, X.sem_nil, leB_t, ltB_t, eqB_t, leB_f, ltB_f, eqB_f, Bool.and_eq_true, Bool.or_eq_true, Bool.not_eq_true', Bool.and_eq_false_iff, Bool.or_eq_false_iff, Bool.not_eq_false', le, lt, eq, v, lit, ap, ap2, i64, cmH, X.den_rem, X.den_max, X.den_min, SV.dens, AV.tuple.injEq, AV.agg.injEq, List.cons.injEq] at *)
  simp only [app0, app1] at *
  refine ⟨⟨by omega, by omega⟩, ⟨by omega, rfl⟩, ?_⟩
  intro w h0 _ gi
  have ga := gi.a
  have ok24 := okH_iff.1 (hok ((w 5).tmod 24))
  have ge := g_end hs gi
  have gs := g_stop hs gi
  have gn : ∀ d', _ := fun d' => g_next hs hok (d' := d') gi
  generalize hu : at_ hs ((w 5).tmod 24) = u at *
  generalize xs.getD 3 0 = S at *
  generalize xs.getD 4 0 = F at *
  generalize xs.getD 0 0 = L at *
  have by60 : ∀ x, w 5 < 2000 → w 7 < u.1 → (x = if w 6 < u.2 ∧ w 8 = 2000 then w 5 else w 8) → (x = fnW hs 60 [S, F] ∧ w 5 = fnW hs 61 [S, F]) := fun x h1 h2 h3 => by
    have := gs h0.1.1 h1 h2
    exact ⟨h3.trans this.1.symm, this.2.symm⟩
  refine ⟨fun e => ⟨fun f => ⟨fun g => ⟨fun k => by60 _ e k (by split <;> omega), fun k => ⟨by omega, gn _ (by omega) e k (by split <;> omega), by omega⟩⟩, fun g => ⟨fun k => by60 _ e k (by split <;> omega), fun k => ⟨by omega, gn _ (by omega) e k (by split <;> omega), by omega⟩⟩⟩,
    fun f => ⟨fun k => by60 _ e k (by split <;> omega), fun k => ⟨by omega, gn _ (by omega) e k (by split <;> omega), by omega⟩⟩⟩, fun e => ?_⟩
  have := ge e
  exact ⟨this.1.symm, this.2.symm⟩
end
end Dw
end Go.Proofs.Ytaimphcjjoennaa
