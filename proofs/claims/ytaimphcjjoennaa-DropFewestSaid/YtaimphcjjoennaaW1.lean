/- Chapter 2: hours that are valid; when a clock stops that is not wound. -/
import Derived.Test.YtaimphcjjoennaaS5
set_option linter.unusedSimpArgs false
set_option linter.unusedVariables false
namespace Go.Proofs.Ytaimphcjjoennaa
open Abs Sx
set_option maxRecDepth 100000
namespace Dw

abbrev Hr := Int × Int
def h0 : Hr := (0, 0)
def okH (p : Hr) : Bool := decide (0 ≤ p.1) && (decide (p.1 ≤ p.2) && decide (p.2 ≤ 3000))
/-- The first number below n that has a property, or -1. -/
def firstN (p : Nat → Bool) : Nat → Int
  | 0 => -1
  | n + 1 => if 0 ≤ firstN p n then firstN p n else cond (p n) (n : Int) (-1)
theorem firstN_in (p : Nat → Bool) : ∀ n : Nat, -1 ≤ firstN p n ∧ firstN p n < n
  | 0 => by simp [firstN]
  | n + 1 => by
    have := firstN_in p n
    simp only [firstN]
    split
    · omega
    · cases p n <;> simp <;> omega
/-- Nothing before has it. -/
theorem firstN_none (p : Nat → Bool) : ∀ n : Nat, (∀ j, j < n → p j = false) → firstN p n = -1
  | 0, _ => rfl
  | n + 1, h => by
    simp only [firstN, firstN_none p n (fun j hj => h j (by omega)), h n (by omega), cond_false]
    rfl
theorem firstN_at (p : Nat → Bool) : ∀ {n k : Nat}, k < n → p k = true → (∀ j, j < k → p j = false) → firstN p n = k
  | 0, k, h, _, _ => by omega
  | n + 1, k, h, h1, h2 => by
    simp only [firstN]
    rcases Nat.lt_or_eq_of_le (Nat.lt_succ_iff.1 h) with h3 | h3
    · rw [firstN_at p h3 h1 h2, if_pos (by omega)]
    · subst h3
      rw [firstN_none p k h2, if_neg (by decide), h1]; rfl
theorem firstN_neg {p : Nat → Bool} : ∀ {n : Nat}, firstN p n < 0 → ∀ j, j < n → p j = false
  | 0, _, j, hj => by omega
  | n + 1, h, j, hj => by
    simp only [firstN] at h
    split at h
    · omega
    · rename_i h3
      rcases Nat.lt_or_eq_of_le (Nat.lt_succ_iff.1 hj) with h4 | h4
      · exact firstN_neg (by omega) j h4
      · subst h4
        cases hp : p j with
        | false => rfl
        | true => rw [hp, cond_true] at h; omega
def at_ (hs : List Hr) (i : Int) : Hr := hs.getD i.toNat h0
/-- From an hour on: when the clock became doubtful, when it stopped: few, many: the most and the least that can be left; d: when it became doubtful. -/
def goes (U : Int → Hr) : Nat → Int → Int → Int → Int → Hr
  | 0, _, _, _, d => (d, 2000)
  | n + 1, h, few, many, d =>
    let u := U (h.tmod 24)
    let d' := if many < u.2 ∧ d = 2000 then h else d
    if few < u.1 then (d', h) else goes U n (h + 1) (few - u.1) (max 0 (many - u.2)) d'
def clampW (x : Int) : Int := max 0 (min 2000 x)
def fnW (hs : List Hr) (f : Nat) (l : List Int) : Int := match f with
  | 0 => (at_ hs (hdI l)).1
  | 1 => (at_ hs (hdI l)).2
  | 60 => clampW (goes (at_ hs) (2000 - hdI l.tail).toNat (hdI l.tail) (hdI l) (hdI l) 2000).1
  | 61 => clampW (goes (at_ hs) (2000 - hdI l.tail).toNat (hdI l.tail) (hdI l) (hdI l) 2000).2
  | 64 => firstN (fun i => !(okH (at_ hs i))) (min (hdI l).toNat 1000)
  | _ => 0
/-- All hours are valid. -/
def AllOk (hs : List Hr) : Prop := ∀ i : Int, okH (at_ hs i) = true
theorem okH_iff {p : Hr} : okH p = true ↔ 0 ≤ p.1 ∧ p.1 ≤ p.2 ∧ p.2 ≤ 3000 := by simp [okH]
def fr60 : List (Option (Int × Int)) := List.replicate 58 none ++ [some (0, 2000), some (0, 2000), none, none, some (-1, 1000)]
def frW : List (Option (Int × Int)) := none :: none :: fr60
def frV : List (Option (Int × Int)) := some (0, 3000) :: some (0, 3000) :: fr60
theorem nth_rep : ∀ (n i : Nat) (l : List (Option (Int × Int))), nthR (List.replicate n none ++ l) i = if i < n then none else nthR l (i - n)
  | 0, i, l => by simp
  | n + 1, 0, l => by simp [List.replicate_succ, nthR]
  | n + 1, i + 1, l => by
    simp only [List.replicate_succ, List.cons_append, nthR, nth_rep n i l, Nat.add_lt_add_iff_right, Nat.add_sub_add_right]
theorem fr60_ok (hs : List Hr) : ∀ (i : Nat) (l : List Int), inR (fnW hs (i + 2) l) (nthR fr60 i) := by
  intro i l
  show inR _ (nthR (List.replicate 58 none ++ _) i)
  rw [nth_rep]
  split
  · trivial
  · rename_i h
    obtain ⟨j, rfl⟩ : ∃ j, i = 58 + j := ⟨i - 58, by omega⟩
    rw [Nat.add_sub_cancel_left]
    match j with
    | 0 => show (0 : Int) ≤ clampW _ ∧ clampW _ ≤ (2000 : Int); unfold clampW; omega
    | 1 => show (0 : Int) ≤ clampW _ ∧ clampW _ ≤ (2000 : Int); unfold clampW; omega
    | 2 => trivial
    | 3 => trivial
    | 4 =>
      show (-1 : Int) ≤ firstN _ _ ∧ firstN _ _ ≤ (1000 : Int)
      have := firstN_in (fun i => !(okH (at_ hs i))) (min (hdI l).toNat 1000)
      omega
    | _ + 5 => trivial
theorem frW_ok (hs : List Hr) (vr : List (Option (Int × Int))) : ∀ i l, inR (fnW hs i l) (nthR (Rgs.mk vr frW).fr i)
  | 0, _ => trivial
  | 1, _ => trivial
  | i + 2, l => fr60_ok hs i l
theorem frV_ok {hs : List Hr} (h : AllOk hs) (vr : List (Option (Int × Int))) : ∀ i l, inR (fnW hs i l) (nthR (Rgs.mk vr frV).fr i)
  | 0, l => by have := okH_iff.1 (h (hdI l)); show (0 : Int) ≤ (at_ hs (hdI l)).1 ∧ (at_ hs (hdI l)).1 ≤ (3000 : Int); omega
  | 1, l => by have := okH_iff.1 (h (hdI l)); show (0 : Int) ≤ (at_ hs (hdI l)).2 ∧ (at_ hs (hdI l)).2 ≤ (3000 : Int); omega
  | i + 2, l => fr60_ok hs i l
def lit (n : Int) : X := .lit n
def v (n : Nat) : X := .var n
def le (a b : X) : X := .bin .le a b
def lt (a b : X) : X := .bin .lt a b
def eq (a b : X) : X := .bin .eq a b
def i64 : Sh := .int .i64
def ap (f : Nat) (x : X) : X := .app f (.cons x .nil)
def ap2 (f : Nat) (x y : X) : X := .app f (.cons x (.cons y .nil))
def cmH : List Cmp := [.int .i64 0, .int .i64 1]
def clkSh : Sh := .agg [i64, .row cmH]
def le30 : List X := [le (v 0) (lit 1000)]
def pIdx : Pr := ⟨82, [.row cmH, .fnc 54], le30, fun _ => .leaf (.int .i64 (ap 64 (v 0)))⟩
def vhO : OT SV := .ask (eq (v 0) (lit 24)) (.leaf (.bool (lt (ap 64 (v 0)) (lit 0)))) (.leaf (.bool (lit 0)))
def pVH : Pr := ⟨36, [.row cmH], le30, fun _ => vhO⟩
def rHrs : Pr := ⟨33, [.row cmH], le30, fun _ => vhO⟩
def Rn (n : Nat) : Rgs := ⟨List.replicate n none ++ [some (0, 1000)], frW⟩
def tIdx (es : List Bool) : List Tpl := [⟨[2], [(0, .slice 0 0 (lit 0) (v 0) (v 1) 2 (hdB es)), (1, .fn 54 [] []), (4, .int .i64 (lit 0)), (6, .slice 0 0 (lit 0) (v 0) (v 1) 2 (hdB es)), (7, .int .i64 (v 0)), (8, .int .i64 (v 2))], [(0, .row false (v 0) .nil cmH)], [], 1, [le (v 2) (v 0)], none⟩]
def tHrs (es : List Bool) : List Tpl := [⟨[2], [(0, .slice 0 0 (lit 0) (v 0) (v 1) 2 (hdB es)), (2, .bool (lit 0)), (3, .int .i64 (v 2))], [(0, .row false (v 0) .nil cmH)], [], 1, [le (v 2) (v 0)], none⟩]

section
variable {hs : List Hr}
def hInv (hs : List Hr) (k : Int) : Prop := ∀ j : Nat, (j : Int) < k → okH (at_ hs j) = true
theorem h_next {k : Int} (h0 : 0 ≤ k) (h : hInv hs k) (ho : okH (at_ hs k) = true) : hInv hs (k + 1) := fun j hj => by
  rcases Int.lt_or_eq_of_le (show (j : Int) ≤ k by omega) with h1 | h1
  · exact h j h1
  · rw [h1]; exact ho
theorem idx_at {n k : Int} (h0 : 0 ≤ k) (h1 : k < n) (h2 : n ≤ 1000) (h : hInv hs k) (ho : okH (at_ hs k) = false) : fnW hs 64 [n] = k := by
  show firstN _ (min n.toNat 1000) = k
  rw [firstN_at (k := k.toNat) _ (by omega) (by simp only [show ((k.toNat : Nat) : Int) = k by omega, ho]; rfl) (fun j hj => by simp only [h j (by omega)]; rfl)]
  omega
theorem idx_none {n k : Int} (h1 : n ≤ k) (h2 : n ≤ 1000) (h : hInv hs k) : fnW hs 64 [n] = -1 := by
  show firstN _ (min n.toNat 1000) = -1
  exact firstN_none _ _ (fun j hj => by simp only [h j (by omega)]; rfl)
theorem nok {p : Hr} (h : p.1 ≤ p.2 → 0 ≤ p.1 → p.2 ≤ 3000 → False) : okH p = false := by
  cases e : okH p with
  | false => rfl
  | true => have := okH_iff.1 e; exact (h this.2.1 this.1 this.2.2).elim
theorem pIdx_ok : pIdx.Ok Try.prog (fnW hs) := by
  refine lp1 (l := []) (R := Rn 2) (tps := tIdx) (f := Try.f82) (fuel := 400) (Inv := fun xs _ ρ => hInv hs (ρ.v 2)) (mu := fun xs _ ρ => (xs.getD 0 0 - ρ.v 2).toNat) (fun _ => (.loop 0 [(2, (.lit 0))] (.ask (.bin .lt (.var 2) (.var 0)) (.ask (.bin .le (.app 0 (.cons (.var 2) .nil)) (.app 1 (.cons (.var 2) .nil))) (.ask (.bin .lt (.app 0 (.cons (.var 2) .nil)) (.lit 0)) (.leaf (.int .i64 (.var 2))) (.ask (.bin .lt (.lit 3000) (.app 0 (.cons (.var 2) .nil))) (.leaf (.int .i64 (.var 2))) (.ask (.bin .lt (.app 1 (.cons (.var 2) .nil)) (.lit 0)) (.leaf (.int .i64 (.var 2))) (.ask (.bin .lt (.lit 3000) (.app 1 (.cons (.var 2) .nil))) (.leaf (.int .i64 (.var 2))) (.need [(.bin .le (.bin .add (.var 2) (.lit 1)) (.lit 1000)), (.bin .le (.bin .add (.var 2) (.lit 1)) (.var 0))] (.back 0 [(2, (.bin .add (.var 2) (.lit 1)))])))))) (.leaf (.int .i64 (.var 2)))) (.leaf (.int .i64 (.lit (-1)))))))
    prog_ok Try.func82 rfl trivial rfl (frW_ok _ _) rfl ?h1 ?h2 ?_
  case h1 => kernel_rfl
  case h2 => kernel_rfl
  intro xs es hlen hpre hrw
  ( simp only [OT.vc, LT.vc, OT.is, AllB, RgB, inR, nthR, idsF, fsOf, List.drop, List.flatMap_cons, List.flatMap_nil, List.append_nil, List.getElem?_cons_zero, List.getElem?_cons_succ, rwFs, rwF, List.nil_append, List.cons_append, mix_v, mix_fn, upd_fn, upd_nil, upd_cons, X.one, X.isL, cond_false, valX_fn, valX_v, setM_v, List.mem_cons, List.not_mem_nil, or_false, false_or, or_true, true_or, if_true, if_false, ite_true, ite_false, Nat.reduceEqDiff, SV.den, AV.int.injEq, AV.bool.injEq, true_and, and_true, X.dB_lt, X.dB_le, X.dB_eq, X.denB_and, X.denB_or, X.denB_not, X.denB_lit0, X.denB_lit1, X.den_lit, X.den_var, X.den_add, X.den_sub, X.den_mul, X.den_app, X.den_ite, X.den_wrap, X.dB_ite, cond_tf, X.denB_app, X.denB_var, X.sem_cons, X.sem_nil, leB_t, ltB_t, eqB_t, leB_f, ltB_f, eqB_f, Bool.and_eq_true, Bool.or_eq_true, Bool.not_eq_true', Bool.and_eq_false_iff, Bool.or_eq_false_iff, Bool.not_eq_false', pIdx, le30, tIdx, le, lt, eq, v, lit, ap, i64, Rn, List.replicate] at *)
  refine ⟨fun j hj => by omega, fun w h0 h1 hi => ⟨fun hy => ?_, fun hy => (idx_none hy hpre hi).symm⟩⟩
  have e0 : fnW hs 0 [w 2] = (at_ hs (w 2)).1 := rfl
  have e1 : fnW hs 1 [w 2] = (at_ hs (w 2)).2 := rfl
  rw [e0, e1]
  have bad : (okH (at_ hs (w 2)) = false) → w 2 = fnW hs 64 [xs.getD 0 0] := fun h => (idx_at h0.1 hy hpre hi h).symm
  refine ⟨fun a => ⟨fun b => bad (nok (by omega)), fun b => ⟨fun c => bad (nok (by omega)), fun c => ⟨fun d => bad (nok (by omega)), fun d => ⟨fun e => bad (nok (by omega)), fun e => ⟨⟨by omega, by omega⟩, h_next h0.1 hi (okH_iff.2 ⟨by omega, by omega, by omega⟩), by omega⟩⟩⟩⟩⟩, fun a => bad (nok (by omega))⟩
theorem pVH_ok : pVH.Ok Try.prog (fnW hs) := by
  refine un1 (l := [pIdx]) (R := Rn 9) (fuel := 200) (fun _ => (.ask (.bin .eq (.var 0) (.lit 24)) (.leaf (.bool (.not (.bin .le (.lit 0) (.app 64 (.cons (.var 0) .nil)))))) (.leaf (.bool (.lit 0))))) prog_ok ⟨pIdx_ok, trivial⟩ rfl (frW_ok _ _) rfl rfl ?h1 ?h2 ?_
  case h1 => kernel_rfl
  case h2 => kernel_rfl
  intro xs es hlen hpre hrw
  ( simp only [OT.vc, LT.vc, OT.is, AllB, RgB, inR, nthR, idsF, fsOf, List.drop, List.flatMap_cons, List.flatMap_nil, List.append_nil, List.getElem?_cons_zero, List.getElem?_cons_succ, rwFs, rwF, List.nil_append, List.cons_append, mix_v, mix_fn, upd_fn, upd_nil, upd_cons, X.one, X.isL, cond_false, valX_fn, valX_v, setM_v, List.mem_cons, List.not_mem_nil, or_false, false_or, or_true, true_or, if_true, if_false, ite_true, ite_false, Nat.reduceEqDiff, SV.den, AV.int.injEq, AV.bool.injEq, true_and, and_true, X.dB_lt, X.dB_le, X.dB_eq, X.denB_and, X.denB_or, X.denB_not, X.denB_lit0, X.denB_lit1, X.den_lit, X.den_var, X.den_add, X.den_sub, X.den_mul, X.den_app, X.den_ite, X.den_wrap, X.dB_ite, cond_tf, X.denB_app, X.denB_var, X.sem_cons, X.sem_nil, leB_t, ltB_t, eqB_t, leB_f, ltB_f, eqB_f, Bool.and_eq_true, Bool.or_eq_true, Bool.not_eq_true', Bool.and_eq_false_iff, Bool.or_eq_false_iff, Bool.not_eq_false', pVH, vhO, le30, le, lt, eq, v, lit, ap, i64] at *)
  refine ⟨fun a => ⟨fun _ => ?_, fun b => absurd a b⟩, fun a => ⟨fun b => absurd b a, fun _ => trivial⟩⟩
  generalize fnW hs 64 [xs.getD 0 0] = x
  by_cases h : 0 ≤ x
  · simp only [leB, ltB, h, show ¬ x < 0 by omega, decide_true, decide_false, Bool.not_true]
  · simp only [leB, ltB, h, show x < 0 by omega, decide_true, decide_false, Bool.not_false]
theorem rHrs_ok : rHrs.Ok Try.prog (fnW hs) := by
  refine lp1 (l := []) (R := Rn 2) (tps := tHrs) (f := Try.f33) (fuel := 400) (Inv := fun xs _ ρ => hInv hs (ρ.v 2)) (mu := fun xs _ ρ => (xs.getD 0 0 - ρ.v 2).toNat) (fun _ => (.loop 0 [(2, (.lit 0))] (.ask (.bin .lt (.var 2) (.var 0)) (.ask (.bin .le (.lit 0) (.app 0 (.cons (.var 2) .nil))) (.ask (.bin .le (.app 0 (.cons (.var 2) .nil)) (.app 1 (.cons (.var 2) .nil))) (.ask (.not (.bin .le (.app 1 (.cons (.var 2) .nil)) (.lit 3000))) (.leaf (.bool (.lit 0))) (.need [(.bin .le (.bin .add (.var 2) (.lit 1)) (.lit 1000)), (.bin .le (.bin .add (.var 2) (.lit 1)) (.var 0))] (.back 0 [(2, (.bin .add (.var 2) (.lit 1)))]))) (.leaf (.bool (.lit 0)))) (.leaf (.bool (.lit 0)))) (.leaf (.bool (.bin .eq (.var 0) (.lit 24)))))))
    prog_ok Try.func33 rfl trivial rfl (frW_ok _ _) rfl ?h1 ?h2 ?_
  case h1 => kernel_rfl
  case h2 => kernel_rfl
  intro xs es hlen hpre hrw
  ( simp only [OT.vc, LT.vc, OT.is, AllB, RgB, inR, nthR, idsF, fsOf, List.drop, List.flatMap_cons, List.flatMap_nil, List.append_nil, List.getElem?_cons_zero, List.getElem?_cons_succ, rwFs, rwF, List.nil_append, List.cons_append, mix_v, mix_fn, upd_fn, upd_nil, upd_cons, X.one, X.isL, cond_false, valX_fn, valX_v, setM_v, List.mem_cons, List.not_mem_nil, or_false, false_or, or_true, true_or, if_true, if_false, ite_true, ite_false, Nat.reduceEqDiff, SV.den, AV.int.injEq, AV.bool.injEq, true_and, and_true, X.dB_lt, X.dB_le, X.dB_eq, X.denB_and, X.denB_or, X.denB_not, X.denB_lit0, X.denB_lit1, X.den_lit, X.den_var, X.den_add, X.den_sub, X.den_mul, X.den_app, X.den_ite, X.den_wrap, X.dB_ite, cond_tf, X.denB_app, X.denB_var, X.sem_cons, X.sem_nil, leB_t, ltB_t, eqB_t, leB_f, ltB_f, eqB_f, Bool.and_eq_true, Bool.or_eq_true, Bool.not_eq_true', Bool.and_eq_false_iff, Bool.or_eq_false_iff, Bool.not_eq_false', rHrs, vhO, le30, tHrs, le, lt, eq, v, lit, ap, i64, Rn, List.replicate] at *)
  refine ⟨fun j hj => by omega, fun w h0 h1 hi => ⟨fun hy => ?_, fun hy => ⟨fun a => ?_, fun a => a⟩⟩⟩
  · have e0 : fnW hs 0 [w 2] = (at_ hs (w 2)).1 := rfl
    have e1 : fnW hs 1 [w 2] = (at_ hs (w 2)).2 := rfl
    rw [e0, e1]
    have bad : (okH (at_ hs (w 2)) = false) → (xs.getD 0 0 = 24 → false = ltB (fnW hs 64 [xs.getD 0 0]) 0) ∧ (xs.getD 0 0 ≠ 24 → True) := fun h => ⟨fun _ => by
      rw [idx_at h0.1 hy hpre hi h]; exact Eq.symm (by rw [ltB_f]; exact h0.1), fun _ => trivial⟩
    exact ⟨fun a => ⟨fun b => ⟨fun c => bad (nok (by omega)), fun c => ⟨⟨by omega, by omega⟩, h_next h0.1 hi (okH_iff.2 ⟨by omega, by omega, by omega⟩), by omega⟩⟩, fun b => bad (nok (by omega))⟩, fun a => bad (nok (by omega))⟩
  · rw [idx_none hy hpre hi, a]; rfl
end
end Dw
end Go.Proofs.Ytaimphcjjoennaa
