/- Chapter 6: Meet of cams that are valid. -/
import Derived.Test.YtoecekncncbjgaaG1
set_option linter.unusedSimpArgs false
set_option linter.unusedVariables false
namespace Go.Proofs.Ytoecekncncbjgaa
open Abs Sx
set_option maxRecDepth 100000
namespace Ch
variable {cams : List (Int × Int × Int)}
def camSh (n : Nat) : Sh := .lst 3 (List.replicate (3 * n) i64)
def camPre (n : Nat) : List X := (List.range n).flatMap fun i => [le (lit 1) (v (1 + 3 * i)), le (v (1 + 3 * i)) (lit 100), le (lit 0) (v (2 + 3 * i)), le (lit 0) (v (3 + 3 * i)), le (v (2 + 3 * i)) (v (3 + 3 * i)), le (v (2 + 3 * i)) (.bin .add (v (1 + 3 * i)) (lit (-1))), le (v (3 + 3 * i)) (.bin .add (v (1 + 3 * i)) (lit (-1)))]
def fromX (n : Nat) : X := v (1 + 3 * n)
def laterX (n : Nat) : X := v (2 + 3 * n)
def camX (n : Nat) : List X := (List.range (3 * n)).map fun i => v (1 + i)
def consX : List X → X
  | [] => .nil
  | x :: l => .cons x (consX l)
def meetX (n : Nat) : X := .app 94 (.cons (fromX n) (consX (camX n)))
def tup (a b : X) : SV := .tuple [.int .i64 a, .int .i64 b]
def meetO (n : Nat) : OT SV := .ask (eq (meetX n) (lit (-1))) (.leaf (tup (lit 0) (lit 7))) (.leaf (tup (meetX n) (lit 0)))
def perX (n : Nat) : X := match n with
  | 0 => lit 1
  | m + 1 => ap2 93 (perX m) (v (1 + 3 * m))
def rowS (n : Nat) (e : Bool) : SV := .slice 0 0 (lit 0) (lit n) (v 0) 3 e
def tM (n : Nat) (es : List Bool) : List Tpl := [⟨[2 + 3 * n], [(0, rowS n (hdB es)), (1, .int .i64 (fromX n)), (4, .int .i64 (lit 0)), (5, .int .i64 (lit 0)), (6, .int .i64 (lit 0)), (10, rowS n (hdB es)), (11, .int .i64 (fromX n)), (12, .int .i64 (lit 0)), (13, .int .i64 (lit 0)), (14, .bool (lit 0)), (16, rowS n (hdB es)), (17, .int .i64 (perX n)), (18, .int .i64 (laterX n))], [(0, .cells false ((camX n).map fun x => .int .i64 x))], [], 1, [le (lit 0) (laterX n)], none⟩]
def cMeet (n : Nat) : Pr := ⟨7, [camSh n, i64], camPre n ++ [le (lit 0) (fromX n), le (fromX n) (lit 3155760000)], fun _ => meetO n⟩
def RM (n : Nat) : Rgs := ⟨List.replicate (2 + 3 * n) none ++ [some (0, 100000000)], frG⟩
/-- What the loop keeps: before, not all figures are out. -/
def mInv (n : Nat) (xs : List Int) (later : Int) : Prop := ∀ t, xs.getD (1 + 3 * n) 0 ≤ t → t < xs.getD (1 + 3 * n) 0 + later → outs ((List.range (3 * n)).map fun i => xs.getD (1 + i) 0) t = false
theorem f94_at {l : List Int} (h1 : -1 ≤ meetI l) (h2 : meetI l ≤ 4000000000) : fnG cams 94 l = meetI l := by
  show max (-1) (min 4000000000 (meetI l)) = meetI l; omega
theorem m_none {a : Int} {cs : List Int} {p : Int} (hp : perI cs = p) {y : Int} (hy : ¬ y < p) (h : ∀ t, a ≤ t → t < a + y → outs cs t = false) : fnG cams 94 (a :: cs) = -1 := by
  have e := meet_none (a := a) (cs := cs) (fun t h1 h2 => h t h1 (by omega))
  rw [f94_at (by rw [e]; decide) (by rw [e]; decide), e]
theorem m_some {a : Int} {cs : List Int} {p : Int} (hp : perI cs = p) (hp2 : p ≤ 1000000) {y : Int} (hy : y < p) (h0 : 0 ≤ y) (ha : 0 ≤ a) (ha2 : a ≤ 3155760000) (ho : outs cs (a + y) = true) (h : ∀ t, a ≤ t → t < a + y → outs cs t = false) : fnG cams 94 (a :: cs) = a + y := by
  have e := meet_some (a := a) (cs := cs) (m := a + y) (by omega) (by omega) ho h
  rw [f94_at (by rw [e]; omega) (by rw [e]; omega), e]
theorem m_next {a : Int} {cs : List Int} {y : Int} (ho : outs cs (a + y) = false) (h : ∀ t, a ≤ t → t < a + y → outs cs t = false) : ∀ t, a ≤ t → t < a + (y + 1) → outs cs t = false := fun t h1 h2 => by
  rcases Int.lt_or_eq_of_le (show t ≤ a + y by omega) with h3 | h3
  · exact h t h1 h3
  · rw [h3]; exact ho
theorem out_lo {s lo hi t : Int} {cs : List Int} (h : t.tmod s < lo) : outs (s :: lo :: hi :: cs) t = false := by
  simp only [outs, show decide (lo ≤ t.tmod s) = false from by simp; omega, Bool.false_and]
theorem out_hi {s lo hi t : Int} {cs : List Int} (h : hi < t.tmod s) : outs (s :: lo :: hi :: cs) t = false := by
  simp only [outs, show decide (t.tmod s ≤ hi) = false from by simp; omega, Bool.and_false, Bool.false_and]
theorem out_in {s lo hi t : Int} {cs : List Int} {b : Bool} (h1 : lo ≤ t.tmod s) (h2 : t.tmod s ≤ hi) (h : outs cs t = b) : outs (s :: lo :: hi :: cs) t = b := by
  simp only [outs, h1, h2, decide_true, Bool.and_self, Bool.true_and, h]
theorem cMeet0_ok : (cMeet 0).Ok Try.prog (fnG cams) := by
  refine lp1 (l := [cGcd, cLcm]) (R := RM 0) (tps := tM 0) (f := Try.f7) (fuel := 600) (Inv := fun xs _ ρ => mInv 0 xs (ρ.v 2)) (mu := fun xs _ ρ => (100000000 - ρ.v 2).toNat) (fun _ => (.loop 0 [(2, (.lit 0))] (.ask (.bin .lt (.var 2) (.lit 1)) (.leaf (.tuple [(.int .i64 (.bin .add (.var 1) (.var 2))), (.int .i64 (.lit 0))])) (.leaf (.tuple [(.int .i64 (.lit 0)), (.int .i64 (.lit 7))])))))
    prog_ok Try.func7 rfl ⟨cGcd_ok, cLcm_ok, trivial⟩ rfl (frG_ok _ _) rfl ?h1 ?h2 ?_
  case h1 => kernel_rfl
  case h2 => kernel_rfl
  intro xs es hlen hpre hrw
  simp only [cMeet, camPre, fromX, meetO, meetX, camX, consX, tup, perX, tM, laterX, RM, mInv, List.range, List.range.loop, List.flatMap_cons, List.flatMap_nil, List.map_cons, List.map_nil, List.cons_append, List.nil_append, List.append_nil, Nat.reduceMul, Nat.reduceAdd, Nat.mul_zero, Nat.mul_one, Nat.add_zero, List.replicate, camSh] at *
  ( simp only [OT.vc, LT.vc, OT.is, AllB, RgB, inR, nthR, idsF, fsOf, List.drop, List.flatMap_cons, List.flatMap_nil, List.append_nil, List.getElem?_cons_zero, List.getElem?_cons_succ, rwFs, rwF, List.nil_append, List.cons_append, mix_v, mix_fn, upd_fn, upd_nil, upd_cons, X.one, X.isL, cond_false, valX_fn, valX_v, setM_v, List.mem_cons, List.not_mem_nil, or_false, false_or, or_true, true_or, if_true, if_false, ite_true, ite_false, Nat.reduceEqDiff, SV.den, AV.int.injEq, AV.bool.injEq, true_and, and_true, X.dB_lt, X.dB_le, X.dB_eq, X.denB_and, X.denB_or, X.denB_not, X.denB_lit0, X.denB_lit1, X.den_lit, X.den_var, X.den_add, X.den_sub, X.den_mul, X.den_app, X.den_ite, X.den_wrap, X.dB_ite, cond_tf, X.denB_app, X.denB_var, X.sem_cons, X.sem_nil, leB_t, ltB_t, eqB_t, leB_f, ltB_f, eqB_f, Bool.and_eq_true, Bool.or_eq_true, Bool.not_eq_true', Bool.and_eq_false_iff, Bool.or_eq_false_iff, Bool.not_eq_false', le, lt, eq, v, lit, ap2, i64, X.den_rem, X.den_quo, SV.dens, AV.tuple.injEq, List.cons.injEq] at *)
  obtain ⟨ha, ha2⟩ := hpre
  refine ⟨fun t h1 h2 => by omega, fun w h0 h1 hi => ⟨fun hy => ?_, fun hy => ?_⟩⟩
  · have e := m_some (cams := cams) perI0 (by omega) hy h0.1 ha ha2 rfl hi
    rw [e]; exact ⟨fun h => by omega, fun _ => rfl⟩
  · have e := m_none (cams := cams) perI0 (by omega) hi
    rw [e]; exact ⟨fun _ => trivial, fun h => absurd rfl h⟩
theorem cMeet1_ok : (cMeet 1).Ok Try.prog (fnG cams) := by
  refine lp1 (l := [cGcd, cLcm]) (R := RM 1) (tps := tM 1) (f := Try.f7) (fuel := 600) (Inv := fun xs _ ρ => mInv 1 xs (ρ.v 5)) (mu := fun xs _ ρ => (100000000 - ρ.v 5).toNat) (fun _ => (.loop 0 [(5, (.lit 0))] (.ask (.bin .lt (.var 5) (.app 93 (.cons (.lit 1) (.cons (.var 1) .nil)))) (.ask (.bin .le (.var 2) (.bin .rem (.bin .add (.var 4) (.var 5)) (.var 1))) (.ask (.not (.bin .le (.bin .rem (.bin .add (.var 4) (.var 5)) (.var 1)) (.var 3))) (.need [(.bin .le (.bin .add (.var 5) (.lit 1)) (.lit 100000000))] (.back 0 [(5, (.bin .add (.var 5) (.lit 1)))])) (.leaf (.tuple [(.int .i64 (.bin .add (.var 4) (.var 5))), (.int .i64 (.lit 0))]))) (.need [(.bin .le (.bin .add (.var 5) (.lit 1)) (.lit 100000000))] (.back 0 [(5, (.bin .add (.var 5) (.lit 1)))]))) (.leaf (.tuple [(.int .i64 (.lit 0)), (.int .i64 (.lit 7))])))))
    prog_ok Try.func7 rfl ⟨cGcd_ok, cLcm_ok, trivial⟩ rfl (frG_ok _ _) rfl ?h1 ?h2 ?_
  case h1 => kernel_rfl
  case h2 => kernel_rfl
  intro xs es hlen hpre hrw
  simp only [cMeet, camPre, fromX, meetO, meetX, camX, consX, tup, perX, tM, laterX, RM, mInv, List.range, List.range.loop, List.flatMap_cons, List.flatMap_nil, List.map_cons, List.map_nil, List.cons_append, List.nil_append, List.append_nil, Nat.reduceMul, Nat.reduceAdd, Nat.mul_zero, Nat.mul_one, Nat.add_zero, List.replicate, camSh] at *
  ( simp only [OT.vc, LT.vc, OT.is, AllB, RgB, inR, nthR, idsF, fsOf, List.drop, List.flatMap_cons, List.flatMap_nil, List.append_nil, List.getElem?_cons_zero, List.getElem?_cons_succ, rwFs, rwF, List.nil_append, List.cons_append, mix_v, mix_fn, upd_fn, upd_nil, upd_cons, X.one, X.isL, cond_false, valX_fn, valX_v, setM_v, List.mem_cons, List.not_mem_nil, or_false, false_or, or_true, true_or, if_true, if_false, ite_true, ite_false, Nat.reduceEqDiff, SV.den, AV.int.injEq, AV.bool.injEq, true_and, and_true, X.dB_lt, X.dB_le, X.dB_eq, X.denB_and, X.denB_or, X.denB_not, X.denB_lit0, X.denB_lit1, X.den_lit, X.den_var, X.den_add, X.den_sub, X.den_mul, X.den_app, X.den_ite, X.den_wrap, X.dB_ite, cond_tf, X.denB_app, X.denB_var, X.sem_cons, X.sem_nil, leB_t, ltB_t, eqB_t, leB_f, ltB_f, eqB_f, Bool.and_eq_true, Bool.or_eq_true, Bool.not_eq_true', Bool.and_eq_false_iff, Bool.or_eq_false_iff, Bool.not_eq_false', le, lt, eq, v, lit, ap2, i64, X.den_rem, X.den_quo, SV.dens, AV.tuple.injEq, List.cons.injEq] at *)
  obtain ⟨s0, t0, l0, u0, q0, r0, k0, ha, ha2⟩ := hpre
  have hp := perI1 (x := xs.getD 2 0) (y := xs.getD 3 0) s0
  have hb : xs.getD 1 0 ≤ 1000000 := by omega
  rw [per1 s0 t0]
  refine ⟨fun t h1 h2 => by omega, fun w h0 h1 hi => ⟨fun hy => ?_, fun hy => ?_⟩⟩
  · refine ⟨fun a0 => ⟨fun b0 => ⟨by omega, m_next (out_hi b0) hi, by omega⟩, fun b0 => ?_⟩, fun a0 => ⟨by omega, m_next (out_lo a0) hi, by omega⟩⟩
    have e := m_some (cams := cams) hp (by omega) hy h0.1 ha ha2 (out_in a0 b0 (rfl)) hi
    rw [e]; exact ⟨fun h => by omega, fun _ => rfl⟩
  · have e := m_none (cams := cams) hp (by omega) hi
    rw [e]; exact ⟨fun _ => trivial, fun h => absurd rfl h⟩
theorem cMeet2_ok : (cMeet 2).Ok Try.prog (fnG cams) := by
  refine lp1 (l := [cGcd, cLcm]) (R := RM 2) (tps := tM 2) (f := Try.f7) (fuel := 600) (Inv := fun xs _ ρ => mInv 2 xs (ρ.v 8)) (mu := fun xs _ ρ => (100000000 - ρ.v 8).toNat) (fun _ => (.need [(.bin .le (.bin .mul (.bin .quo (.app 93 (.cons (.lit 1) (.cons (.var 1) .nil))) (.app 90 (.cons (.app 93 (.cons (.lit 1) (.cons (.var 1) .nil))) (.cons (.var 4) .nil)))) (.var 4)) (.lit 100000000))] (.loop 0 [(8, (.lit 0))] (.ask (.bin .lt (.var 8) (.app 93 (.cons (.app 93 (.cons (.lit 1) (.cons (.var 1) .nil))) (.cons (.var 4) .nil)))) (.ask (.bin .le (.var 2) (.bin .rem (.bin .add (.var 7) (.var 8)) (.var 1))) (.ask (.not (.bin .le (.bin .rem (.bin .add (.var 7) (.var 8)) (.var 1)) (.var 3))) (.need [(.bin .le (.bin .add (.var 8) (.lit 1)) (.lit 100000000))] (.back 0 [(8, (.bin .add (.var 8) (.lit 1)))])) (.ask (.bin .le (.var 5) (.bin .rem (.bin .add (.var 7) (.var 8)) (.var 4))) (.ask (.not (.bin .le (.bin .rem (.bin .add (.var 7) (.var 8)) (.var 4)) (.var 6))) (.need [(.bin .le (.bin .add (.var 8) (.lit 1)) (.lit 100000000))] (.back 0 [(8, (.bin .add (.var 8) (.lit 1)))])) (.leaf (.tuple [(.int .i64 (.bin .add (.var 7) (.var 8))), (.int .i64 (.lit 0))]))) (.need [(.bin .le (.bin .add (.var 8) (.lit 1)) (.lit 100000000))] (.back 0 [(8, (.bin .add (.var 8) (.lit 1)))])))) (.need [(.bin .le (.bin .add (.var 8) (.lit 1)) (.lit 100000000))] (.back 0 [(8, (.bin .add (.var 8) (.lit 1)))]))) (.leaf (.tuple [(.int .i64 (.lit 0)), (.int .i64 (.lit 7))]))))))
    prog_ok Try.func7 rfl ⟨cGcd_ok, cLcm_ok, trivial⟩ rfl (frG_ok _ _) rfl ?h1 ?h2 ?_
  case h1 => kernel_rfl
  case h2 => kernel_rfl
  intro xs es hlen hpre hrw
  simp only [cMeet, camPre, fromX, meetO, meetX, camX, consX, tup, perX, tM, laterX, RM, mInv, List.range, List.range.loop, List.flatMap_cons, List.flatMap_nil, List.map_cons, List.map_nil, List.cons_append, List.nil_append, List.append_nil, Nat.reduceMul, Nat.reduceAdd, Nat.mul_zero, Nat.mul_one, Nat.add_zero, List.replicate, camSh] at *
  ( simp only [OT.vc, LT.vc, OT.is, AllB, RgB, inR, nthR, idsF, fsOf, List.drop, List.flatMap_cons, List.flatMap_nil, List.append_nil, List.getElem?_cons_zero, List.getElem?_cons_succ, rwFs, rwF, List.nil_append, List.cons_append, mix_v, mix_fn, upd_fn, upd_nil, upd_cons, X.one, X.isL, cond_false, valX_fn, valX_v, setM_v, List.mem_cons, List.not_mem_nil, or_false, false_or, or_true, true_or, if_true, if_false, ite_true, ite_false, Nat.reduceEqDiff, SV.den, AV.int.injEq, AV.bool.injEq, true_and, and_true, X.dB_lt, X.dB_le, X.dB_eq, X.denB_and, X.denB_or, X.denB_not, X.denB_lit0, X.denB_lit1, X.den_lit, X.den_var, X.den_add, X.den_sub, X.den_mul, X.den_app, X.den_ite, X.den_wrap, X.dB_ite, cond_tf, X.denB_app, X.denB_var, X.sem_cons, X.sem_nil, leB_t, ltB_t, eqB_t, leB_f, ltB_f, eqB_f, Bool.and_eq_true, Bool.or_eq_true, Bool.not_eq_true', Bool.and_eq_false_iff, Bool.or_eq_false_iff, Bool.not_eq_false', le, lt, eq, v, lit, ap2, i64, X.den_rem, X.den_quo, SV.dens, AV.tuple.injEq, List.cons.injEq] at *)
  obtain ⟨s0, t0, l0, u0, q0, r0, k0, s1, t1, l1, u1, q1, r1, k1, ha, ha2⟩ := hpre
  have hp := perI2 (x := xs.getD 2 0) (y := xs.getD 3 0) (z := xs.getD 5 0) (u := xs.getD 6 0) s0 s1
  have hb := lcm2 s0 t0 s1 t1
  refine ⟨(per2 s0 t0 s1 t1).2, ?_⟩
  rw [(per2 s0 t0 s1 t1).1]
  refine ⟨fun t h1 h2 => by omega, fun w h0 h1 hi => ⟨fun hy => ?_, fun hy => ?_⟩⟩
  · refine ⟨fun a0 => ⟨fun b0 => ⟨by omega, m_next (out_hi b0) hi, by omega⟩, fun b0 => ⟨fun a1 => ⟨fun b1 => ⟨by omega, m_next (out_in a0 b0 (out_hi b1)) hi, by omega⟩, fun b1 => ?_⟩, fun a1 => ⟨by omega, m_next (out_in a0 b0 (out_lo a1)) hi, by omega⟩⟩⟩, fun a0 => ⟨by omega, m_next (out_lo a0) hi, by omega⟩⟩
    have e := m_some (cams := cams) hp (by omega) hy h0.1 ha ha2 (out_in a0 b0 (out_in a1 b1 (rfl))) hi
    rw [e]; exact ⟨fun h => by omega, fun _ => rfl⟩
  · have e := m_none (cams := cams) hp (by omega) hi
    rw [e]; exact ⟨fun _ => trivial, fun h => absurd rfl h⟩
theorem cMeet3_ok : (cMeet 3).Ok Try.prog (fnG cams) := by
  refine lp1 (l := [cGcd, cLcm]) (R := RM 3) (tps := tM 3) (f := Try.f7) (fuel := 600) (Inv := fun xs _ ρ => mInv 3 xs (ρ.v 11)) (mu := fun xs _ ρ => (100000000 - ρ.v 11).toNat) (fun _ => (.need [(.bin .le (.bin .mul (.bin .quo (.app 93 (.cons (.lit 1) (.cons (.var 1) .nil))) (.app 90 (.cons (.app 93 (.cons (.lit 1) (.cons (.var 1) .nil))) (.cons (.var 4) .nil)))) (.var 4)) (.lit 100000000))] (.need [(.bin .le (.bin .mul (.bin .quo (.app 93 (.cons (.app 93 (.cons (.lit 1) (.cons (.var 1) .nil))) (.cons (.var 4) .nil))) (.app 90 (.cons (.app 93 (.cons (.app 93 (.cons (.lit 1) (.cons (.var 1) .nil))) (.cons (.var 4) .nil))) (.cons (.var 7) .nil)))) (.var 7)) (.lit 100000000))] (.loop 0 [(11, (.lit 0))] (.ask (.bin .lt (.var 11) (.app 93 (.cons (.app 93 (.cons (.app 93 (.cons (.lit 1) (.cons (.var 1) .nil))) (.cons (.var 4) .nil))) (.cons (.var 7) .nil)))) (.ask (.bin .le (.var 2) (.bin .rem (.bin .add (.var 10) (.var 11)) (.var 1))) (.ask (.not (.bin .le (.bin .rem (.bin .add (.var 10) (.var 11)) (.var 1)) (.var 3))) (.need [(.bin .le (.bin .add (.var 11) (.lit 1)) (.lit 100000000))] (.back 0 [(11, (.bin .add (.var 11) (.lit 1)))])) (.ask (.bin .le (.var 5) (.bin .rem (.bin .add (.var 10) (.var 11)) (.var 4))) (.ask (.not (.bin .le (.bin .rem (.bin .add (.var 10) (.var 11)) (.var 4)) (.var 6))) (.need [(.bin .le (.bin .add (.var 11) (.lit 1)) (.lit 100000000))] (.back 0 [(11, (.bin .add (.var 11) (.lit 1)))])) (.ask (.bin .le (.var 8) (.bin .rem (.bin .add (.var 10) (.var 11)) (.var 7))) (.ask (.not (.bin .le (.bin .rem (.bin .add (.var 10) (.var 11)) (.var 7)) (.var 9))) (.need [(.bin .le (.bin .add (.var 11) (.lit 1)) (.lit 100000000))] (.back 0 [(11, (.bin .add (.var 11) (.lit 1)))])) (.leaf (.tuple [(.int .i64 (.bin .add (.var 10) (.var 11))), (.int .i64 (.lit 0))]))) (.need [(.bin .le (.bin .add (.var 11) (.lit 1)) (.lit 100000000))] (.back 0 [(11, (.bin .add (.var 11) (.lit 1)))])))) (.need [(.bin .le (.bin .add (.var 11) (.lit 1)) (.lit 100000000))] (.back 0 [(11, (.bin .add (.var 11) (.lit 1)))])))) (.need [(.bin .le (.bin .add (.var 11) (.lit 1)) (.lit 100000000))] (.back 0 [(11, (.bin .add (.var 11) (.lit 1)))]))) (.leaf (.tuple [(.int .i64 (.lit 0)), (.int .i64 (.lit 7))])))))))
    prog_ok Try.func7 rfl ⟨cGcd_ok, cLcm_ok, trivial⟩ rfl (frG_ok _ _) rfl ?h1 ?h2 ?_
  case h1 => kernel_rfl
  case h2 => kernel_rfl
  intro xs es hlen hpre hrw
  simp only [cMeet, camPre, fromX, meetO, meetX, camX, consX, tup, perX, tM, laterX, RM, mInv, List.range, List.range.loop, List.flatMap_cons, List.flatMap_nil, List.map_cons, List.map_nil, List.cons_append, List.nil_append, List.append_nil, Nat.reduceMul, Nat.reduceAdd, Nat.mul_zero, Nat.mul_one, Nat.add_zero, List.replicate, camSh] at *
  ( simp only [OT.vc, LT.vc, OT.is, AllB, RgB, inR, nthR, idsF, fsOf, List.drop, List.flatMap_cons, List.flatMap_nil, List.append_nil, List.getElem?_cons_zero, List.getElem?_cons_succ, rwFs, rwF, List.nil_append, List.cons_append, mix_v, mix_fn, upd_fn, upd_nil, upd_cons, X.one, X.isL, cond_false, valX_fn, valX_v, setM_v, List.mem_cons, List.not_mem_nil, or_false, false_or, or_true, true_or, if_true, if_false, ite_true, ite_false, Nat.reduceEqDiff, SV.den, AV.int.injEq, AV.bool.injEq, true_and, and_true, X.dB_lt, X.dB_le, X.dB_eq, X.denB_and, X.denB_or, X.denB_not, X.denB_lit0, X.denB_lit1, X.den_lit, X.den_var, X.den_add, X.den_sub, X.den_mul, X.den_app, X.den_ite, X.den_wrap, X.dB_ite, cond_tf, X.denB_app, X.denB_var, X.sem_cons, X.sem_nil, leB_t, ltB_t, eqB_t, leB_f, ltB_f, eqB_f, Bool.and_eq_true, Bool.or_eq_true, Bool.not_eq_true', Bool.and_eq_false_iff, Bool.or_eq_false_iff, Bool.not_eq_false', le, lt, eq, v, lit, ap2, i64, X.den_rem, X.den_quo, SV.dens, AV.tuple.injEq, List.cons.injEq] at *)
  obtain ⟨s0, t0, l0, u0, q0, r0, k0, s1, t1, l1, u1, q1, r1, k1, s2, t2, l2, u2, q2, r2, k2, ha, ha2⟩ := hpre
  have hp := perI3 (x := xs.getD 2 0) (y := xs.getD 3 0) (z := xs.getD 5 0) (u := xs.getD 6 0) (p := xs.getD 8 0) (q := xs.getD 9 0) s0 s1 s2
  have hb := lcm3 s0 t0 s1 t1 s2 t2
  refine ⟨(per2 s0 t0 s1 t1).2, (per3 s0 t0 s1 t1 s2 t2).2, ?_⟩
  rw [(per3 s0 t0 s1 t1 s2 t2).1]
  refine ⟨fun t h1 h2 => by omega, fun w h0 h1 hi => ⟨fun hy => ?_, fun hy => ?_⟩⟩
  · refine ⟨fun a0 => ⟨fun b0 => ⟨by omega, m_next (out_hi b0) hi, by omega⟩, fun b0 => ⟨fun a1 => ⟨fun b1 => ⟨by omega, m_next (out_in a0 b0 (out_hi b1)) hi, by omega⟩, fun b1 => ⟨fun a2 => ⟨fun b2 => ⟨by omega, m_next (out_in a0 b0 (out_in a1 b1 (out_hi b2))) hi, by omega⟩, fun b2 => ?_⟩, fun a2 => ⟨by omega, m_next (out_in a0 b0 (out_in a1 b1 (out_lo a2))) hi, by omega⟩⟩⟩, fun a1 => ⟨by omega, m_next (out_in a0 b0 (out_lo a1)) hi, by omega⟩⟩⟩, fun a0 => ⟨by omega, m_next (out_lo a0) hi, by omega⟩⟩
    have e := m_some (cams := cams) hp (by omega) hy h0.1 ha ha2 (out_in a0 b0 (out_in a1 b1 (out_in a2 b2 (rfl)))) hi
    rw [e]; exact ⟨fun h => by omega, fun _ => rfl⟩
  · have e := m_none (cams := cams) hp (by omega) hi
    rw [e]; exact ⟨fun _ => trivial, fun h => absurd rfl h⟩
end Ch
end Go.Proofs.Ytoecekncncbjgaa
