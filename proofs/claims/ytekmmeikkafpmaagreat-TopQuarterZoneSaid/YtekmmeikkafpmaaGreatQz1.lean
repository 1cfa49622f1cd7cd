/- TopQuarterZone: the law. -/
import Derived.Test.YtekmmeikkafpmaaGreatQz0
import Derived.Test.YtekmmeikkafpmaaGreatKw
import Derived.Test.YtekmmeikkafpmaaGreatKg
import Derived.Test.YtekmmeikkafpmaaGreatFl
set_option linter.unusedSimpArgs false
set_option linter.unusedVariables false
namespace Go.Proofs.YtekmmeikkafpmaaGreat
open Abs Sx
set_option maxRecDepth 100000
namespace Qz
def i_ (x : X) : SV := .int .i64 x
def tQ : Tpl := ⟨[3, 4, 5, 6, 7], [(7, i_ (v 3)), (8, i_ (v 4)), (9, i_ (v 5)), (10, .ptr 0 0), (11, i_ (mul (lit 900) (add (v 3) (v 5)))), (12, i_ (v 6)), (13, i_ (v 7))], [(0, .cells true [i_ (lit 0), .slice 1 0 (lit 0) (lit 1) (lit 1) 2 true]), (1, .cells true [i_ (mul (lit 900) (v 3)), i_ (mul (lit (-900)) (v 4))])], [], 2, [le (lit 1) (v 3), le (v 4) (v 3)], none⟩
def un : Tpl := ⟨[], [], [], [], 0, [], none⟩
def RQ : Rgs := ⟨[none, none, none, some (0, 19), some (0, 19), some (0, 19), some (0, 100), some (0, 40)], []⟩
def y0 : X := (.bin .rem (.var 1) (.bin .add (.bin .rem (.var 0) (.lit 20)) (.lit 1)))
def y1 : X := (.bin .add (.bin .mul (.lit 900) (.var 3)) (.bin .mul (.lit (-900)) (.var 4)))
def y2 : X := (.bin .lt (.bin .mul (.lit 15) (.var 7)) (.bin .quo (.bin .sub y1 (.bin .rem (.bin .add (.bin .rem y1 (.lit 60)) (.lit 60)) (.lit 60))) (.lit 60)))
def y3 : X := (.bin .add (.lit 3155760000) (.bin .mul (.lit (-900)) (.var 4)))
def y4 : X := (.bin .lt (.bin .quo (.bin .sub y3 (.bin .rem (.bin .add (.bin .rem y3 (.lit 60)) (.lit 60)) (.lit 60))) (.lit 60)) (.bin .mul (.lit 15) (.var 7)))
def y5 : X := (.bin .sub (.bin .mul (.bin .mul (.lit 15) (.var 7)) (.lit 60)) (.bin .mul (.lit (-900)) (.var 4)))
def y6 : X := (.bin .le (.bin .max (.bin .mul (.lit 900) (.var 3)) y5) (.bin .add y5 (.lit 59)))
def y7 : X := (.not (.bin .eq (.bin .rem (.bin .max (.bin .mul (.lit 900) (.var 3)) y5) (.lit 900)) (.lit 0)))
def y8 : X := (.bin .add (.bin .max (.bin .mul (.lit 900) (.var 3)) y5) (.lit 59))
def y9 : X := (.bin .lt (.bin .max (.bin .mul (.lit 900) (.var 3)) y5) (.bin .mul (.lit 900) (.bin .add (.var 3) (.var 5))))
def y10 : Sx.LT SV := (.need [(.bin .le (.bin .add (.var 6) (.lit 1)) (.lit 100)), (.bin .le (.bin .add (.var 7) (.lit 1)) (.lit 40))] (.back 0 [(3 , (.var 3)), (4 , (.var 4)), (5 , (.var 5)), (6 , (.bin .add (.var 6) (.lit 1))), (7 , (.bin .add (.var 7) (.lit 1)))]))
def y11 : Sx.LT SV := (.need [(.bin .le (.bin .add (.var 7) (.lit 1)) (.lit 40))] (.back 0 [(3 , (.var 3)), (4 , (.var 4)), (5 , (.var 5)), (6 , (.var 6)), (7 , (.bin .add (.var 7) (.lit 1)))]))
def y12 : Sx.LT SV := (.ask y7 (.leaf (.bool (.lit 0))) (.ask (.not (.bin .eq (.bin .add y5 (.lit 59)) y8)) (.leaf (.bool (.lit 0))) (.ask y9 y10 y11)))
def y13 : Sx.LT SV := (.ask y2 (.leaf (.bool (.lit 0))) (.ask y4 (.leaf (.bool (.lit 0))) (.ask y6 y12 (.leaf (.bool (.lit 0))))))
def y14 : X := (.bin .max (.lit 0) (.bin .mul (.bin .mul (.lit 15) (.var 7)) (.lit 60)))
def y15 : X := (.bin .min (.bin .add (.bin .mul (.lit 900) (.var 3)) (.lit (-1))) (.bin .add (.bin .mul (.bin .mul (.lit 15) (.var 7)) (.lit 60)) (.lit 59)))
def y16 : X := (.bin .lt y14 (.bin .mul (.lit 900) (.bin .add (.var 3) (.var 5))))
def y17 : Sx.LT SV := (.ask (.not (.bin .eq (.bin .rem y14 (.lit 900)) (.lit 0))) (.leaf (.bool (.lit 0))) (.ask (.not (.bin .eq y15 (.bin .add y14 (.lit 59)))) (.leaf (.bool (.lit 0))) (.ask y16 y10 y11)))
def y18 : Sx.LT SV := (.need [(.bin .le (.bin .add (.var 6) (.lit 2)) (.lit 100)), (.bin .le (.bin .add (.var 7) (.lit 1)) (.lit 40))] (.back 0 [(3 , (.var 3)), (4 , (.var 4)), (5 , (.var 5)), (6 , (.bin .add (.var 6) (.lit 2))), (7 , (.bin .add (.var 7) (.lit 1)))]))
def y19 : Sx.LT SV := (.ask (.bin .le (.bin .max (.bin .mul (.lit 900) (.var 3)) y5) (.bin .add y15 (.lit 1))) (.ask (.not (.bin .eq (.bin .rem y14 (.lit 900)) (.lit 0))) (.leaf (.bool (.lit 0))) (.ask (.not (.bin .eq (.bin .max y15 (.bin .add y5 (.lit 59))) (.bin .add y14 (.lit 59)))) (.leaf (.bool (.lit 0))) (.ask y16 y10 y11))) (.ask (.not (.bin .eq (.bin .rem y14 (.lit 900)) (.lit 0))) (.leaf (.bool (.lit 0))) (.ask (.not (.bin .eq y15 (.bin .add y14 (.lit 59)))) (.leaf (.bool (.lit 0))) (.ask y16 (.ask y7 (.leaf (.bool (.lit 0))) (.ask (.not (.bin .eq (.bin .add y5 (.lit 59)) y8)) (.leaf (.bool (.lit 0))) (.ask y9 y18 y10))) y12))))
def y20 : X := (.bin .rem (.bin .sub (.bin .add (.var 3) (.var 5)) (.var 4)) (.lit 4))
def y21 : X := (.bin .rem (.bin .add (.bin .rem (.bin .sub (.lit 0) (.var 4)) (.lit 4)) (.lit 4)) (.lit 4))
def y22 : X := (.bin .rem (.bin .sub (.lit 2) (.bin .rem (.var 6) (.lit 4))) (.lit 4))
def y23 : X := (.bin .rem (.bin .sub (.lit 1) (.bin .rem (.var 6) (.lit 4))) (.lit 4))
def y24 : X := (.bin .rem (.bin .sub (.lit 0) (.bin .rem (.var 6) (.lit 4))) (.lit 4))
def qzT : Sx.LT SV := (.ask (.bin .eq (.bin .rem (.var 0) (.lit 20)) (.lit 0)) (.leaf (.bool (.lit 1))) (.need [(.bin .le (.lit 1) (.bin .rem (.var 0) (.lit 20))), (.bin .le y0 (.bin .rem (.var 0) (.lit 20)))] (.loop 0 [(3 , (.bin .rem (.var 0) (.lit 20))), (4 , y0), (5 , (.bin .rem (.var 2) (.lit 20))), (6 , (.lit 0)), (7 , (.lit 0))] (.ask (.bin .lt (.var 7) (.bin .add (.var 3) (.var 5))) (.ask (.bin .lt (.bin .quo (.bin .sub (.bin .add (.bin .mul (.lit 900) (.var 3)) (.lit (-1))) (.bin .rem (.bin .add (.bin .rem (.bin .add (.bin .mul (.lit 900) (.var 3)) (.lit (-1))) (.lit 60)) (.lit 60)) (.lit 60))) (.lit 60)) (.bin .mul (.lit 15) (.var 7))) y13 (.ask (.bin .le y14 y15) (.ask y2 y17 (.ask y4 y17 (.ask y6 (.ask (.bin .lt (.bin .max (.bin .mul (.lit 900) (.var 3)) y5) y14) (.ask (.bin .le y14 (.bin .add y5 (.lit 60))) (.ask y7 (.leaf (.bool (.lit 0))) (.ask (.not (.bin .eq (.bin .max (.bin .add y5 (.lit 59)) y15) y8)) (.leaf (.bool (.lit 0))) (.ask y9 y10 y11))) (.ask y7 (.leaf (.bool (.lit 0))) (.ask (.not (.bin .eq (.bin .add y5 (.lit 59)) y8)) (.leaf (.bool (.lit 0))) (.ask y9 (.ask (.not (.bin .eq (.bin .rem y14 (.lit 900)) (.lit 0))) (.leaf (.bool (.lit 0))) (.ask (.not (.bin .eq y15 (.bin .add y14 (.lit 59)))) (.leaf (.bool (.lit 0))) (.ask y16 y18 y10))) y17)))) (.ask (.bin .lt y14 (.bin .max (.bin .mul (.lit 900) (.var 3)) y5)) y19 y19)) y17))) y13)) (.ask (.bin .lt y20 (.lit 0)) (.leaf (.bool (.lit 0))) (.ask (.bin .lt (.lit 0) y20) (.ask (.bin .lt (.lit 1) y20) (.ask (.bin .lt (.lit 2) y20) (.ask (.bin .eq (.var 6) (.bin .add (.var 3) (.var 5))) (.ask (.bin .eq (.bin .rem (.bin .sub (.lit 3) (.bin .rem (.var 6) (.lit 4))) (.lit 4)) y21) (.leaf (.bool (.lit 1))) (.leaf (.bool (.lit 0)))) (.leaf (.bool (.lit 0)))) (.ask (.bin .lt y22 (.lit 0)) (.ask (.bin .eq (.var 6) (.bin .add (.var 3) (.var 5))) (.ask (.bin .eq (.bin .add y22 (.lit 4)) y21) (.leaf (.bool (.lit 1))) (.leaf (.bool (.lit 0)))) (.leaf (.bool (.lit 0)))) (.ask (.bin .eq (.var 6) (.bin .add (.var 3) (.var 5))) (.ask (.bin .eq y22 y21) (.leaf (.bool (.lit 1))) (.leaf (.bool (.lit 0)))) (.leaf (.bool (.lit 0)))))) (.ask (.bin .lt y23 (.lit 0)) (.ask (.bin .eq (.var 6) (.bin .add (.var 3) (.var 5))) (.ask (.bin .eq (.bin .add y23 (.lit 4)) y21) (.leaf (.bool (.lit 1))) (.leaf (.bool (.lit 0)))) (.leaf (.bool (.lit 0)))) (.ask (.bin .eq (.var 6) (.bin .add (.var 3) (.var 5))) (.ask (.bin .eq y23 y21) (.leaf (.bool (.lit 1))) (.leaf (.bool (.lit 0)))) (.leaf (.bool (.lit 0)))))) (.ask (.bin .lt y24 (.lit 0)) (.ask (.bin .eq (.var 6) (.bin .add (.var 3) (.var 5))) (.ask (.bin .eq (.bin .add y24 (.lit 4)) y21) (.leaf (.bool (.lit 1))) (.leaf (.bool (.lit 0)))) (.leaf (.bool (.lit 0)))) (.ask (.bin .eq (.var 6) (.bin .add (.var 3) (.var 5))) (.ask (.bin .eq y24 y21) (.leaf (.bool (.lit 1))) (.leaf (.bool (.lit 0)))) (.leaf (.bool (.lit 0)))))))))))
theorem md (a : Int) {n : Int} (hn : 0 < n) : (a.tmod n + n).tmod n = a % n := by
  have h0 : -n < a.tmod n := Int.lt_tmod_of_pos a hn
  rw [Int.tmod_eq_emod_of_nonneg (by omega), Int.add_emod_right]
  have e : a.tmod n = a - n * a.tdiv n := by have := Int.tmod_add_mul_tdiv a n; omega
  rw [e, Int.sub_mul_emod_self_left]
theorem qd (a : Int) {n : Int} (hn : 0 < n) : (a - a % n).tdiv n = a / n := by
  have e : a - a % n = n * (a / n) := by have := Int.emod_add_mul_ediv a n; omega
  rw [e, Int.mul_tdiv_cancel_left _ (by omega)]
theorem md60 (a : Int) : (a.tmod 60 + 60).tmod 60 = a % 60 := md a (by decide)
theorem md4 (a : Int) : (a.tmod 4 + 4).tmod 4 = a % 4 := md a (by decide)
theorem qd60 (a : Int) : (a - a % 60).tdiv 60 = a / 60 := qd a (by decide)
theorem tb {x : Int} (n : Int) (h : 0 ≤ x) (hn : 0 < n) : 0 ≤ x.tmod n ∧ x.tmod n ≤ n - 1 := ⟨Int.tmod_nonneg n h, by have := Int.tmod_lt_of_pos x hn; omega⟩
theorem sm {a : Int} (h : -4 < a) (k : a < 4) : a.tmod 4 = a := by
  have : a = -3 ∨ a = -2 ∨ a = -1 ∨ a = 0 ∨ a = 1 ∨ a = 2 ∨ a = 3 := by omega
  rcases this with rfl | rfl | rfl | rfl | rfl | rfl | rfl <;> rfl
theorem pTw_ok (fn : Nat → List Int → Int) : pTw.Ok Tryz.prog fn := Fl.true_ok ⟨_, _, Tryz.func5, rfl⟩ (kwgood prog_ok) fn
theorem pCh_ok (fn : Nat → List Int → Int) : pCh.Ok Tryz.prog fn := Fl.true_ok ⟨_, _, Tryz.func4, rfl⟩ (kggood prog_ok) fn
structure QI (q n r c k : Int) : Prop where
  a : 1 ≤ q
  b : 0 ≤ n ∧ n ≤ q
  d : 0 ≤ r
  e : 0 ≤ k ∧ k ≤ q + r
  f : c = min k q + max 0 (min k (q + r - n) - (q - n))
theorem run_qz : runP Tryz.prog RQ qzL (fun _ => [tQ, un]) (pLaw []) 400 Tryz.f3 [] = qzT := by kernel_rfl
set_option maxHeartbeats 4000000 in
theorem law_ok (fn : Nat → List Int → Int) : (pLaw []).Ok Tryz.prog fn := by
  refine lp0 (l := qzL) (R := RQ) (tps := fun _ => [tQ, un]) (f := Tryz.f3) (fuel := 400) (Inv := fun _ _ ρ => QI (ρ.v 3) (ρ.v 4) (ρ.v 5) (ρ.v 6) (ρ.v 7)) (mu := fun _ _ ρ => (100 - ρ.v 7).toNat) (fun _ => qzT)
    prog_ok Tryz.func3 rfl ⟨pLen_ok fn, pTw_ok fn, pCh_ok fn, trivial⟩ rfl (fun i l => by cases i <;> trivial) rfl run_qz ?_
  intro xs es hlen hpre hrw
  ( simp only [OT.vc, LT.vc, OT.is, AllB, RgB, inR, nthR, idsF, fsOf, List.drop, List.flatMap_cons, List.flatMap_nil, List.append_nil, List.getElem?_cons_zero, List.getElem?_cons_succ, rwFs, rwF, List.nil_append, List.cons_append, mix_v, mix_fn, upd_fn, upd_nil, upd_cons, X.one, X.isL, cond_false, valX_fn, valX_v, setM_v, List.mem_cons, List.not_mem_nil, or_false, false_or, or_true, true_or, if_true, if_false, ite_true, ite_false, Nat.reduceEqDiff, SV.den, AV.int.injEq, AV.bool.injEq, true_and, and_true, X.dB_lt, X.dB_le, X.dB_eq, X.denB_and, X.denB_or, X.denB_not, X.denB_lit0, X.denB_lit1, X.den_lit, X.den_var, X.den_add, X.den_sub, X.den_mul, X.den_app, X.den_ite, X.den_wrap, X.dB_ite, cond_tf, X.denB_app, X.denB_var, X.sem_cons, X.sem_nil, leB_t, ltB_t, eqB_t, leB_f, ltB_f, eqB_f, Bool.and_eq_true, Bool.or_eq_true, Bool.not_eq_true', Bool.and_eq_false_iff, Bool.or_eq_false_iff, Bool.not_eq_false', pLaw, qzP, rg, le, lt, eq, v, lit, add, mul, rem, i_, tQ, un, RQ, qzT, y0, y1, y2, y3, y4, y5, y6, y7, y8, y9, y10, y11, y12, y13, y14, y15, y16, y17, y18, y19, y20, y21, y22, y23, y24, X.den_rem, X.den_quo, X.den_max, X.den_min] at *)
  simp only [md60, md4, qd60]
  have q0 := tb 20 hpre.1 (by decide)
  have r0 := tb 20 hpre.2.2.2.2.1 (by decide)
  have n0 := tb ((xs.getD 0 0).tmod 20 + 1) hpre.2.2.1 (by omega)
  clear hpre hrw hlen
  generalize (xs.getD 1 0).tmod ((xs.getD 0 0).tmod 20 + 1) = n at *
  generalize (xs.getD 0 0).tmod 20 = q at *
  generalize (xs.getD 2 0).tmod 20 = r at *
  refine ⟨fun _ => trivial, fun h => ⟨⟨by omega, by omega⟩, ⟨by omega, ⟨by omega, by omega⟩, by omega, ⟨by omega, by omega⟩, by omega⟩, ?_⟩⟩
  clear q0 r0 n0 h
  intro w h0 h1 hg
  obtain ⟨a, b, d, e, f⟩ := hg
  clear h1
  have t1 : ∀ y, (max (900 * w 3) y).tmod 900 = (max (900 * w 3) y) % 900 := fun y => Int.tmod_eq_emod_of_nonneg (by omega)
  have t2 : (max 0 (15 * w 7 * 60)).tmod 900 = (max 0 (15 * w 7 * 60)) % 900 := Int.tmod_eq_emod_of_nonneg (by omega)
  have t3 : (w 3 + w 5 - w 4).tmod 4 = (w 3 + w 5 - w 4) % 4 := Int.tmod_eq_emod_of_nonneg (by omega)
  have t4 : (w 6).tmod 4 = w 6 % 4 := Int.tmod_eq_emod_of_nonneg (by omega)
  have x0 := Int.emod_nonneg (w 6) (show (4 : Int) ≠ 0 by decide)
  have x1 := Int.emod_lt_of_pos (w 6) (show (0 : Int) < 4 by decide)
  have t5 : ∀ k : Int, 0 ≤ k → k ≤ 3 → (k - w 6 % 4).tmod 4 = k - w 6 % 4 := fun k h0 h3 => sm (by omega) (by omega)
  simp only [t1, t2, t3, t4, t5 3 (by decide) (by decide), t5 2 (by decide) (by decide), t5 1 (by decide) (by decide), t5 0 (by decide) (by decide)]
  clear t1 t2 t3 t4 t5 x0 x1
  generalize w 3 = q at *
  generalize w 4 = n at *
  generalize w 5 = r at *
  generalize w 6 = c at *
  generalize w 7 = k at *
  (repeat' (first | (refine And.intro ?_ ?_) | intro _)) <;> first
    | exact trivial
    | rfl
    | (exfalso; omega)
    | omega
    | exact ⟨by omega, ⟨by omega, by omega⟩, by omega, ⟨by omega, by omega⟩, by omega⟩
theorem qz_call {x0 x1 x2 : Int} (h0 : 0 ≤ x0 ∧ x0 ≤ 255) (h1 : 0 ≤ x1 ∧ x1 ≤ 255) (h2 : 0 ≤ x2 ∧ x2 ≤ 255) :
    CallH Tryz.prog 3 [.int .u8 x0, .int .u8 x1, .int .u8 x2] ⟨objs [], [], 0⟩ 0 (fun v H' nx' => v = .bool true ∧ H' = ⟨objs [], [], 0⟩ ∧ nx' = 0) := by
  refine Fl.plain_call (p := pLaw []) (fn := fun _ _ => 0) (xs := [x0, x1, x2]) (law_ok _) rfl ?_ ?_
  · exact Fl.fl_int x0 (Fl.fl_int x1 (Fl.fl_int x2 Fl.fl_nil))
  · simp only [pLaw, qzP, rg, List.nil_append, List.cons_append, AllB, le, lit, v, X.dB_le, leB_t, X.den_lit, X.den_var]
    exact ⟨h0.1, h0.2, h1.1, h1.2, h2.1, h2.2, trivial⟩
end Qz
end Go.Proofs.YtekmmeikkafpmaaGreat
