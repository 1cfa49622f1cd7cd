/- Chapter 3: rods that are valid; spans, lengths. -/
import Derived.Test.YtocjbjnfpldgcaaS5
set_option linter.unusedSimpArgs false
set_option linter.unusedVariables false
namespace Go.Proofs.Ytocjbjnfpldgcaa
open Abs Sx
set_option maxRecDepth 100000
namespace Be
abbrev Rod := Int × Int × Int × Bool
def d0 : Rod := (1, 0, 0, false)
def okRod (r : Rod) : Bool := decide (1 ≤ r.1) && (decide (r.1 ≤ 100000) && (decide (0 ≤ r.2.1) && (decide (r.2.1 ≤ r.2.2.1) && decide (r.2.2.1 ≤ 40000))))
/-- By how much a rod lowers the bob. -/
def low (r : Rod) : Int := cond r.2.2.2 (-r.1) r.1
def at_ (rods : List Rod) (l : List Int) : Rod := rods.getD (hdI l).toNat d0
def sumN (f : Nat → Int) : Nat → Int
  | 0 => 0
  | n + 1 => sumN f n + f n
/-- The first rod that isn't valid, or -1. -/
def badN (rods : List Rod) : Nat → Int
  | 0 => -1
  | n + 1 => if 0 ≤ badN rods n then badN rods n else cond (okRod (rods.getD n d0)) (-1) n
def lenN (rods : List Rod) (n : Nat) : Int := sumN (fun i => low (rods.getD i d0)) n
/-- The first number below n that has a property, or -1. -/
def firstN (p : Nat → Bool) : Nat → Int
  | 0 => -1
  | n + 1 => if 0 ≤ firstN p n then firstN p n else cond (p n) (n : Int) (-1)
/-- Whether a rod can't grow so. -/
def outP (rods : List Rod) (grow : List Int) (i : Nat) : Bool := decide (grow.getD i 0 < (rods.getD i d0).2.1) || decide ((rods.getD i d0).2.2.1 < grow.getD i 0)
def growN (rods : List Rod) (grow : List Int) (n : Nat) : Int := sumN (fun i => low (rods.getD i d0) * grow.getD i 0) n
/-- What is asked of a clock, and of a truth of it. -/
structure GoodP (rods : List Rod) (x0 x1 n x4 x5 x6 x7 : Int) : Prop where
  all : badN rods (min n.toNat 12) < 0 ∧ n ≠ 0 ∧ (-1000000 ≤ x1 ∧ x1 ≤ 1000000) ∧ (-100 ≤ x4 ∧ x4 ≤ x5 ∧ x5 ≤ 100) ∧ (-1000 ≤ x6 ∧ x6 ≤ x7 ∧ x7 ≤ 1000) ∧ (100 ≤ lenN rods (min n.toNat 12) ∧ lenN rods (min n.toNat 12) ≤ 100000) ∧ (1 ≤ x0 ∧ x0 ≤ 3 ∧ (x0 = 2 → 0 ≤ x6) ∧ (x0 = 3 → x6 = 0 ∧ x7 = 0))
instance (rods : List Rod) (x0 x1 n x4 x5 x6 x7 : Int) : Decidable (GoodP rods x0 x1 n x4 x5 x6 x7) := decidable_of_iff _ ⟨fun h => ⟨h⟩, fun h => h.all⟩
def errB (rods : List Rod) (l : List Int) : Int := if 8 < l.getD 2 0 then 5 else if GoodP rods (l.getD 0 0) (l.getD 1 0) (l.getD 2 0) (l.getD 3 0) (l.getD 4 0) (l.getD 5 0) (l.getD 6 0) then 0 else 2
structure OfL (rods : List Rod) (grow l : List Int) : Prop where
  all : l.getD 5 0 = l.getD 0 0 ∧ firstN (outP rods grow) (min (l.getD 0 0).toNat 12) < 0 ∧ (l.getD 1 0 ≤ l.getD 6 0 ∧ l.getD 6 0 ≤ l.getD 2 0) ∧ (l.getD 3 0 ≤ l.getD 7 0 ∧ l.getD 7 0 ≤ l.getD 4 0) ∧ (-1000 ≤ l.getD 8 0 ∧ l.getD 8 0 ≤ 1000) ∧ (-1000 ≤ l.getD 9 0 ∧ l.getD 9 0 ≤ 1000) ∧ (0 ≤ l.getD 10 0 ∧ l.getD 10 0 ≤ 600) ∧ (-100 ≤ l.getD 11 0 ∧ l.getD 11 0 ≤ 100)
instance (rods : List Rod) (grow l : List Int) : Decidable (OfL rods grow l) := decidable_of_iff _ ⟨fun h => ⟨h⟩, fun h => h.all⟩
/-- The least and the greatest that a pendulum can grow by. -/
def grLo (rods : List Rod) (n : Nat) : Int := sumN (fun i => min ((rods.getD i d0).2.1 * low (rods.getD i d0)) ((rods.getD i d0).2.2.1 * low (rods.getD i d0))) n
def grHi (rods : List Rod) (n : Nat) : Int := sumN (fun i => max ((rods.getD i d0).2.1 * low (rods.getD i d0)) ((rods.getD i d0).2.2.1 * low (rods.getD i d0))) n
structure BndP (l : List Int) : Prop where
  all : (-1000 ≤ l.getD 0 0 ∧ l.getD 0 0 ≤ l.getD 1 0 ∧ l.getD 1 0 ≤ 1000) ∧ (-1000 ≤ l.getD 2 0 ∧ l.getD 2 0 ≤ l.getD 3 0 ∧ l.getD 3 0 ≤ 1000) ∧ (0 ≤ l.getD 4 0 ∧ l.getD 4 0 ≤ l.getD 5 0 ∧ l.getD 5 0 ≤ 600) ∧ (-100 ≤ l.getD 6 0 ∧ l.getD 6 0 ≤ l.getD 7 0 ∧ l.getD 7 0 ≤ 100)
instance (l : List Int) : Decidable (BndP l) := decidable_of_iff _ ⟨fun h => ⟨h⟩, fun h => h.all⟩
def clampB (x : Int) : Int := max (-2305843009213693952) (min 2305843009213693952 x)
def min4 (a b c d : Int) : Int := min (min (min (a * c) (a * d)) (b * c)) (b * d)
def max4 (a b c d : Int) : Int := max (max (max (a * c) (a * d)) (b * c)) (b * d)
/-- The least and the greatest change of a rate, in parts: l: the number of rods, air, drive, the weathers (heat, press, arc, force of each). -/
def chLo (rods : List Rod) (l : List Int) : Int :=
  let n := min (l.getD 0 0).toNat 12
  let u := 10000 * lenN rods n
  max4 (grLo rods n) (grHi rods n) (l.getD 13 0 - l.getD 6 0) (l.getD 14 0 - l.getD 5 0) * -432 + min4 (l.getD 1 0) (l.getD 2 0) (l.getD 15 0 - l.getD 8 0) (l.getD 16 0 - l.getD 7 0) * u
    + (l.getD 18 0 * l.getD 18 0 - l.getD 9 0 * l.getD 9 0) * (-4570 * lenN rods n) + min4 (l.getD 3 0) (l.getD 4 0) (l.getD 19 0 - l.getD 12 0) (l.getD 20 0 - l.getD 11 0) * u
def chHi (rods : List Rod) (l : List Int) : Int :=
  let n := min (l.getD 0 0).toNat 12
  let u := 10000 * lenN rods n
  min4 (grLo rods n) (grHi rods n) (l.getD 13 0 - l.getD 6 0) (l.getD 14 0 - l.getD 5 0) * -432 + max4 (l.getD 1 0) (l.getD 2 0) (l.getD 15 0 - l.getD 8 0) (l.getD 16 0 - l.getD 7 0) * u
    + (l.getD 17 0 * l.getD 17 0 - l.getD 10 0 * l.getD 10 0) * (-4570 * lenN rods n) + max4 (l.getD 3 0) (l.getD 4 0) (l.getD 19 0 - l.getD 12 0) (l.getD 20 0 - l.getD 11 0) * u
def fnB (rods : List Rod) (grow : List Int) (f : Nat) (l : List Int) : Int := match f with
  | 0 => (at_ rods l).1
  | 1 => (at_ rods l).2.1
  | 2 => (at_ rods l).2.2.1
  | 3 => b2i (at_ rods l).2.2.2
  | 4 => grow.getD (hdI l).toNat 0
  | 10 => lenN rods (min (hdI l).toNat 12)
  | 12 => badN rods (min (hdI l).toNat 12)
  | 14 => firstN (outP rods grow) (min (hdI l).toNat 12)
  | 15 => growN rods grow (min (hdI l).toNat 12)
  | 30 => errB rods l
  | 31 => b2i (decide (OfL rods grow l))
  | 33 => b2i (decide (BndP l))
  | 45 => grLo rods (min (hdI l).toNat 12)
  | 46 => grHi rods (min (hdI l).toNat 12)
  | 50 => hdI l / hdI l.tail
  | 60 => clampB (chLo rods l)
  | 61 => clampB (chHi rods l)
  | 20 => (hdI l).tdiv (Int.gcd (hdI l) (hdI l.tail))
  | 21 => (hdI l.tail).tdiv (Int.gcd (hdI l) (hdI l.tail))
  | _ => 0
def i64 : Sh := .int .i64
def spanSh : Sh := .agg [i64, i64]
def cmR : List Cmp := [.int .i64 0, .int .i64 1, .int .i64 2, .bool 3]
def rodSh : Sh := .agg [i64, i64, i64, .bool]
def clkSh : Sh := .agg [i64, i64, .row cmR, i64, i64, i64, i64]
def lit (n : Int) : X := .lit n
def v (n : Nat) : X := .var n
def le (a b : X) : X := .bin .le a b
def lt (a b : X) : X := .bin .lt a b
def an (a b : X) : X := .bin .and a b
def ap (f : Nat) (x : X) : X := .app f (.cons x .nil)
def inB (lo hi x : X) : X := an (le lo x) (le x hi)
def R0 : Rgs := ⟨[], []⟩
theorem R0_ok (fn : Nat → List Int → Int) : ∀ i l, inR (fn i l) (nthR R0.fr i) := fun i l => by cases i <;> trivial
/-- A span that is valid within another one. -/
def pSpan : Pr := ⟨83, [spanSh, spanSh], [], fun _ => .leaf (.bool (an (le (v 0) (v 1)) (an (inB (v 2) (v 3) (v 0)) (inB (v 2) (v 3) (v 1)))))⟩
theorem pSpan_ok (fn : Nat → List Int → Int) : pSpan.Ok Try.prog fn := by
  refine un0 (l := []) (R := R0) (fuel := 60) (fun _ => (.ask (.bin .le (.var 0) (.var 1)) (.ask (.bin .lt (.var 0) (.var 2)) (.leaf (.bool (.lit 0))) (.ask (.bin .lt (.var 3) (.var 0)) (.leaf (.bool (.lit 0))) (.ask (.bin .lt (.var 1) (.var 2)) (.leaf (.bool (.lit 0))) (.ask (.bin .lt (.var 3) (.var 1)) (.leaf (.bool (.lit 0))) (.leaf (.bool (.lit 1))))))) (.leaf (.bool (.lit 0))))) prog_ok trivial rfl (R0_ok fn) rfl rfl ?h ?_
  case h => kernel_rfl
  intro xs es hlen hpre hrw
  simp only [OT.vc, OT.is, pSpan, an, le, inB, v, SV.den, AV.bool.injEq]
  clear hlen hpre hrw
  (repeat' (first | apply And.intro | intro _))
  all_goals (refine bool_iff ?_; ( simp only [X.dB_lt, X.dB_le, X.dB_eq, X.denB_and, X.denB_or, X.denB_not, X.denB_lit0, X.denB_lit1, X.den_lit, X.den_var, X.den_add, X.den_sub, X.den_mul, X.den_app, X.sem_cons, X.sem_nil, leB_t, ltB_t, eqB_t, leB_f, ltB_f, eqB_f, Bool.and_eq_true, Bool.or_eq_true, Bool.not_eq_true', Bool.and_eq_false_iff, Bool.or_eq_false_iff, Bool.not_eq_false', Bool.false_eq_true, false_iff, iff_false, true_iff, iff_true, not_false_eq_true, not_true_eq_false] at *); omega)
end Be
end Go.Proofs.Ytocjbjnfpldgcaa

/- The first rod that isn't valid; the length. -/
namespace Go.Proofs.Ytocjbjnfpldgcaa
open Abs Sx
set_option maxRecDepth 100000
namespace Be
def pIdx : Pr := ⟨97, [.row cmR, .fnc 80], [le (v 0) (lit 12)], fun _ => .leaf (.int .i64 (ap 12 (v 0)))⟩
def tIdx (es : List Bool) : List Tpl := [⟨[2], [(0, .slice 0 0 (lit 0) (v 0) (v 1) 4 (hdB es)), (1, .fn 80 [] []), (7, .int .i64 (v 0)), (8, .int .i64 (v 2))], [(0, .row false (v 0) .nil cmR)], [], 1, [le (lit 0) (v 2), le (v 2) (v 0)]⟩]
def R1 : Rgs := ⟨[none, none, some (0, 12)], []⟩
theorem R1_ok (fn : Nat → List Int → Int) : ∀ i l, inR (fn i l) (nthR R1.fr i) := fun i l => by cases i <;> trivial
theorem badN_stop (rods : List Rod) {k : Nat} (h : 0 ≤ badN rods k) : ∀ {m : Nat}, k ≤ m → badN rods m = badN rods k := by
  intro m hm
  induction hm with
  | refl => rfl
  | step _ ih => simp only [badN, ih, h, if_true]
theorem badN_next (rods : List Rod) {k : Nat} (h : badN rods k = -1) : badN rods (k + 1) = cond (okRod (rods.getD k d0)) (-1) (k : Int) := by
  simp only [badN, h]; rfl
/-- The first rod that isn't valid is found. -/
theorem badN_here (rods : List Rod) (grow : List Int) {i n : Int} (h0 : 0 ≤ i) (h1 : i < n) (h2 : n ≤ 12) (h : badN rods i.toNat = -1) (hb : okRod (rods.getD i.toNat d0) = false) : i = fnB rods grow 12 [n] := by
  have e := badN_next rods h
  rw [hb, cond_false] at e
  have e2 := badN_stop rods (k := i.toNat + 1) (by rw [e]; omega) (m := min n.toNat 12) (by omega)
  show i = badN rods (min n.toNat 12)
  rw [e2, e]; omega
theorem pIdx_ok (rods : List Rod) (grow : List Int) : pIdx.Ok Try.prog (fnB rods grow) := by
  refine lp1 (l := [pSpan]) (R := R1) (tps := tIdx) (f := Try.f97) (fuel := 400) (Inv := fun xs _ ρ => badN rods (ρ.v 2).toNat = -1) (mu := fun xs _ ρ => (12 - ρ.v 2).toNat) (fun _ => (.loop 0 [(2, (.lit 0))] (.ask (.bin .lt (.var 2) (.var 0)) (.ask (.bin .lt (.app 0 (.cons (.var 2) .nil)) (.lit 1)) (.leaf (.int .i64 (.var 2))) (.ask (.bin .lt (.lit 100000) (.app 0 (.cons (.var 2) .nil))) (.leaf (.int .i64 (.var 2))) (.ask (.not (.bin .and (.bin .le (.app 1 (.cons (.var 2) .nil)) (.app 2 (.cons (.var 2) .nil))) (.bin .and (.bin .and (.bin .le (.lit 0) (.app 1 (.cons (.var 2) .nil))) (.bin .le (.app 1 (.cons (.var 2) .nil)) (.lit 40000))) (.bin .and (.bin .le (.lit 0) (.app 2 (.cons (.var 2) .nil))) (.bin .le (.app 2 (.cons (.var 2) .nil)) (.lit 40000)))))) (.leaf (.int .i64 (.var 2))) (.need [(.bin .le (.bin .add (.var 2) (.lit 1)) (.lit 12)), (.bin .le (.bin .add (.var 2) (.lit 1)) (.var 0))] (.back 0 [(2, (.bin .add (.var 2) (.lit 1)))]))))) (.leaf (.int .i64 (.lit (-1)))))))
    prog_ok Try.func97 rfl ⟨pSpan_ok _, trivial⟩ rfl (R1_ok _) rfl ?h ?h' ?_
  case h => kernel_rfl
  case h' => kernel_rfl
  intro xs es hlen hpre hrw
  ( simp only [OT.vc, LT.vc, OT.is, AllB, RgB, inR, nthR, idsF, fsOf, List.drop, List.flatMap_cons, List.flatMap_nil, List.append_nil, List.getElem?_cons_zero, List.getElem?_cons_succ, rwFs, rwF, List.nil_append, List.cons_append, mix_v, mix_fn, upd_fn, upd_nil, upd_cons, X.one, X.isL, cond_false, valX_fn, valX_v, setM_v, List.mem_cons, List.not_mem_nil, or_false, false_or, or_true, true_or, if_true, if_false, ite_true, ite_false, Nat.reduceEqDiff, SV.den, AV.int.injEq, AV.bool.injEq, true_and, and_true, X.dB_lt, X.dB_le, X.dB_eq, X.denB_and, X.denB_or, X.denB_not, X.denB_lit0, X.denB_lit1, X.den_lit, X.den_var, X.den_add, X.den_sub, X.den_mul, X.den_app, X.den_ite, X.den_wrap, X.dB_ite, cond_tf, X.denB_app, X.denB_var, X.sem_cons, X.sem_nil, leB_t, ltB_t, eqB_t, leB_f, ltB_f, eqB_f, Bool.and_eq_true, Bool.or_eq_true, Bool.not_eq_true', Bool.and_eq_false_iff, Bool.or_eq_false_iff, Bool.not_eq_false', pIdx, an, le, inB, v, lit, ap, tIdx, R1, cmR] at *)
  refine ⟨rfl, fun w h0 h1 h2 => ⟨fun h3 => ?_, fun h3 => ?_⟩⟩
  · have hk := badN_here rods grow (i := w 2) (n := xs.getD 0 0) (by omega) h3 hpre h2
    have f0 : fnB rods grow 0 [w 2] = (rods.getD (w 2).toNat d0).1 := rfl
    have f1 : fnB rods grow 1 [w 2] = (rods.getD (w 2).toNat d0).2.1 := rfl
    have f2 : fnB rods grow 2 [w 2] = (rods.getD (w 2).toNat d0).2.2.1 := rfl
    have hok : okRod (rods.getD (w 2).toNat d0) = true ↔ 1 ≤ (rods.getD (w 2).toNat d0).1 ∧ (rods.getD (w 2).toNat d0).1 ≤ 100000 ∧ 0 ≤ (rods.getD (w 2).toNat d0).2.1 ∧ (rods.getD (w 2).toNat d0).2.1 ≤ (rods.getD (w 2).toNat d0).2.2.1 ∧ (rods.getD (w 2).toNat d0).2.2.1 ≤ 40000 := by
      simp only [okRod, Bool.and_eq_true, decide_eq_true_eq]
    have hno := fun (hn : ¬ _) => hk (Bool.eq_false_iff.2 fun e => hn (hok.1 e))
    refine ⟨fun h4 => hno (by omega), fun h4 => ⟨fun h5 => hno (by omega), fun h5 => ⟨fun h6 => hno (by omega), fun h6 => ⟨by omega, ?_, by omega⟩⟩⟩⟩
    have : (w 2 + 1).toNat = (w 2).toNat + 1 := by omega
    rw [this, badN_next rods h2, hok.2 (by omega)]; rfl
  · have : w 2 = xs.getD 0 0 := by omega
    show -1 = badN rods (min (xs.getD 0 0).toNat 12)
    rw [← this, show min (w 2).toNat 12 = (w 2).toNat by omega, h2]
end Be
end Go.Proofs.Ytocjbjnfpldgcaa

/- The length of a pendulum. -/
namespace Go.Proofs.Ytocjbjnfpldgcaa
open Abs Sx
set_option maxRecDepth 100000
namespace Be
theorem badN_neg (rods : List Rod) : ∀ {n : Nat}, badN rods n < 0 → badN rods n = -1 ∧ ∀ i < n, okRod (rods.getD i d0) = true
  | 0, _ => ⟨rfl, fun i h => absurd h (Nat.not_lt_zero i)⟩
  | n + 1, h => by
    by_cases h0 : 0 ≤ badN rods n
    · simp only [badN, h0, if_true] at h; omega
    · have ih := badN_neg rods (n := n) (by omega)
      have e := badN_next rods ih.1
      rw [e] at h ⊢
      cases hk : okRod (rods.getD n d0) with
      | false => rw [hk, cond_false] at h; omega
      | true =>
        refine ⟨rfl, fun i hi => ?_⟩
        rcases Nat.lt_succ_iff_lt_or_eq.1 hi with hi | rfl
        · exact ih.2 i hi
        · exact hk
theorem ok_parts {r : Rod} (h : okRod r = true) : 1 ≤ r.1 ∧ r.1 ≤ 100000 ∧ 0 ≤ r.2.1 ∧ r.2.1 ≤ r.2.2.1 ∧ r.2.2.1 ≤ 40000 := by
  simpa only [okRod, Bool.and_eq_true, decide_eq_true_eq] using h
theorem low_bd {r : Rod} (h : okRod r = true) : -100000 ≤ low r ∧ low r ≤ 100000 := by
  have := ok_parts h
  unfold low; cases r.2.2.2 <;> simp only [cond_true, cond_false] <;> omega
theorem lenN_bd (rods : List Rod) : ∀ {n : Nat}, (∀ i < n, okRod (rods.getD i d0) = true) → -100000 * (n : Int) ≤ lenN rods n ∧ lenN rods n ≤ 100000 * (n : Int)
  | 0, _ => by simp [lenN, sumN]
  | n + 1, h => by
    have ih := lenN_bd rods (n := n) fun i hi => h i (by omega)
    have := low_bd (h n (by omega))
    simp only [lenN, sumN] at ih ⊢
    omega
theorem f10_at (rods : List Rod) (grow : List Int) {n : Int} (h : n ≤ 12) : fnB rods grow 10 [n] = lenN rods n.toNat := by
  show lenN rods (min n.toNat 12) = _
  rw [show min n.toNat 12 = n.toNat by omega]
theorem f12_at (rods : List Rod) (grow : List Int) {n : Int} (h : n ≤ 12) : fnB rods grow 12 [n] = badN rods n.toNat := by
  show badN rods (min n.toNat 12) = _
  rw [show min n.toNat 12 = n.toNat by omega]
/-- A rod more. -/
theorem len_step (rods : List Rod) (grow : List Int) {i n : Int} (h0 : 0 ≤ i) (h1 : i < n) (h2 : n ≤ 12) (hb : fnB rods grow 12 [n] < 0) :
    fnB rods grow 10 [i + 1] = fnB rods grow 10 [i] + low (rods.getD i.toNat d0) ∧ -2000000 ≤ fnB rods grow 10 [i + 1] ∧ fnB rods grow 10 [i + 1] ≤ 2000000 ∧ okRod (rods.getD i.toNat d0) = true := by
  rw [f12_at rods grow h2] at hb
  have hv := (badN_neg rods hb).2
  rw [f10_at rods grow (by omega : i + 1 ≤ 12), f10_at rods grow (by omega : i ≤ 12), show (i + 1).toNat = i.toNat + 1 by omega]
  have := lenN_bd rods (n := i.toNat + 1) fun j hj => hv j (by omega)
  exact ⟨rfl, by omega, by omega, hv _ (by omega)⟩
def pLow : Pr := ⟨93, [rodSh], [le (lit 0) (v 0), le (v 0) (lit 1000000)], fun _ => .leaf (.int .i64 (.ite (v 3) (.bin .sub (lit 0) (v 0)) (v 0)))⟩
theorem pLow_ok (fn : Nat → List Int → Int) : pLow.Ok Try.prog fn := by
  refine un0 (l := []) (R := R0) (fuel := 60) (fun _ => (.ask (.var 3) (.leaf (.int .i64 (.bin .sub (.lit 0) (.var 0)))) (.leaf (.int .i64 (.var 0))))) prog_ok trivial rfl (R0_ok fn) rfl rfl ?h ?_
  case h => kernel_rfl
  intro xs es hlen hpre hrw
  ( simp only [OT.vc, LT.vc, OT.is, AllB, RgB, inR, nthR, idsF, fsOf, List.drop, List.flatMap_cons, List.flatMap_nil, List.append_nil, List.getElem?_cons_zero, List.getElem?_cons_succ, rwFs, rwF, List.nil_append, List.cons_append, mix_v, mix_fn, upd_fn, upd_nil, upd_cons, X.one, X.isL, cond_false, valX_fn, valX_v, setM_v, List.mem_cons, List.not_mem_nil, or_false, false_or, or_true, true_or, if_true, if_false, ite_true, ite_false, Nat.reduceEqDiff, SV.den, AV.int.injEq, AV.bool.injEq, true_and, and_true, X.dB_lt, X.dB_le, X.dB_eq, X.denB_and, X.denB_or, X.denB_not, X.denB_lit0, X.denB_lit1, X.den_lit, X.den_var, X.den_add, X.den_sub, X.den_mul, X.den_app, X.den_ite, X.den_wrap, X.dB_ite, cond_tf, X.denB_app, X.denB_var, X.sem_cons, X.sem_nil, leB_t, ltB_t, eqB_t, leB_f, ltB_f, eqB_f, Bool.and_eq_true, Bool.or_eq_true, Bool.not_eq_true', Bool.and_eq_false_iff, Bool.or_eq_false_iff, Bool.not_eq_false', pLow, an, le, inB, v, lit, ap] at *)
  refine ⟨fun h => ?_, fun h => ?_⟩ <;> simp only [h, cond_true, cond_false] <;> omega
def tLen (es : List Bool) : List Tpl := [⟨[2], [(6, .slice 0 0 (lit 0) (v 0) (v 1) 4 (hdB es)), (7, .int .i64 (v 0)), (8, .int .i64 (v 2)), (3, .int .i64 (ap 10 (v 2)))], [(0, .row false (v 0) .nil cmR)], [], 1, [le (lit 0) (v 2), le (v 2) (v 0)]⟩]
def pLen : Pr := ⟨79, [.row cmR], [le (v 0) (lit 12), lt (ap 12 (v 0)) (lit 0)], fun _ => .leaf (.int .i64 (ap 10 (v 0)))⟩
theorem pLen_ok (rods : List Rod) (grow : List Int) : pLen.Ok Try.prog (fnB rods grow) := by
  refine lp1 (l := [pLow]) (R := R1) (tps := tLen) (f := Try.f79) (fuel := 400) (Inv := fun xs _ ρ => True) (mu := fun xs _ ρ => (12 - ρ.v 2).toNat) (fun _ => (.need [(.bin .eq (.app 10 (.cons (.lit 0) .nil)) (.lit 0))] (.loop 0 [(2, (.lit 0))] (.ask (.bin .lt (.var 2) (.var 0)) (.need [(.bin .le (.lit 0) (.app 0 (.cons (.var 2) .nil))), (.bin .le (.app 0 (.cons (.var 2) .nil)) (.lit 1000000))] (.need [(.bin .eq (.app 10 (.cons (.bin .add (.var 2) (.lit 1)) .nil)) (.wrap .i64 (.bin .add (.app 10 (.cons (.var 2) .nil)) (.ite (.ite (.app 3 (.cons (.var 2) .nil)) (.lit 1) (.lit 0)) (.bin .sub (.lit 0) (.app 0 (.cons (.var 2) .nil))) (.app 0 (.cons (.var 2) .nil)))))), (.bin .le (.bin .add (.var 2) (.lit 1)) (.lit 12)), (.bin .le (.bin .add (.var 2) (.lit 1)) (.var 0))] (.back 0 [(2, (.bin .add (.var 2) (.lit 1)))]))) (.leaf (.int .i64 (.app 10 (.cons (.var 2) .nil))))))))
    prog_ok Try.func79 rfl ⟨pLow_ok _, trivial⟩ rfl (R1_ok _) rfl ?h ?h' ?_
  case h => kernel_rfl
  case h' => kernel_rfl
  intro xs es hlen hpre hrw
  ( simp only [OT.vc, LT.vc, OT.is, AllB, RgB, inR, nthR, idsF, fsOf, List.drop, List.flatMap_cons, List.flatMap_nil, List.append_nil, List.getElem?_cons_zero, List.getElem?_cons_succ, rwFs, rwF, List.nil_append, List.cons_append, mix_v, mix_fn, upd_fn, upd_nil, upd_cons, X.one, X.isL, cond_false, valX_fn, valX_v, setM_v, List.mem_cons, List.not_mem_nil, or_false, false_or, or_true, true_or, if_true, if_false, ite_true, ite_false, Nat.reduceEqDiff, SV.den, AV.int.injEq, AV.bool.injEq, true_and, and_true, X.dB_lt, X.dB_le, X.dB_eq, X.denB_and, X.denB_or, X.denB_not, X.denB_lit0, X.denB_lit1, X.den_lit, X.den_var, X.den_add, X.den_sub, X.den_mul, X.den_app, X.den_ite, X.den_wrap, X.dB_ite, cond_tf, X.denB_app, X.denB_var, X.sem_cons, X.sem_nil, leB_t, ltB_t, eqB_t, leB_f, ltB_f, eqB_f, Bool.and_eq_true, Bool.or_eq_true, Bool.not_eq_true', Bool.and_eq_false_iff, Bool.or_eq_false_iff, Bool.not_eq_false', pLen, an, le, lt, inB, v, lit, ap, tLen, R1, cmR] at *)
  refine ⟨rfl, fun w h0 h1 _ => ⟨fun h3 => ?_, fun h3 => ?_⟩⟩
  · have hs := len_step rods grow (i := w 2) (n := xs.getD 0 0) (by omega) h3 hpre.1 hpre.2
    have f0 : fnB rods grow 0 [w 2] = (rods.getD (w 2).toNat d0).1 := rfl
    have f3 : i2b (fnB rods grow 3 [w 2]) = (rods.getD (w 2).toNat d0).2.2.2 := i2b_b2i _
    have hp := ok_parts hs.2.2.2
    refine ⟨by omega, ⟨?_, by omega, by omega⟩, by omega⟩
    have e : low (rods.getD (w 2).toNat d0) = cond (i2b (fnB rods grow 3 [w 2])) (0 - fnB rods grow 0 [w 2]) (fnB rods grow 0 [w 2]) := by
      rw [f3, f0]; unfold low; cases (rods.getD (w 2).toNat d0).2.2.2 <;> simp only [cond_true, cond_false] <;> omega
    rw [← e, ← hs.1, wrap64 (by omega) (by omega)]
  · have : w 2 = xs.getD 0 0 := by omega
    rw [this]
/-- The same by the reference. -/
def boxC (es : List Bool) : SO := .cells true [.int .i64 (v 0), .int .i64 (v 1), .slice 0 0 (lit 0) (v 2) (v 3) 4 (hdB es), .int .i64 (v 4), .int .i64 (v 5), .int .i64 (v 6), .int .i64 (v 7)]
def R2 : Rgs := ⟨[none, none, none, none, none, none, none, none, some (0, 12)], []⟩
theorem R2_ok (fn : Nat → List Int → Int) : ∀ i l, inR (fn i l) (nthR R2.fr i) := fun i l => by cases i <;> trivial
def rLen : Pr := ⟨21, [clkSh], [le (v 2) (lit 12), lt (ap 12 (v 2)) (lit 0)], fun _ => .leaf (.int .i64 (ap 10 (v 2)))⟩
def tRLen (es : List Bool) : List Tpl := [⟨[8], [(1, .ptr 1 0), (3, .int .i64 (ap 10 (v 8))), (4, .int .i64 (v 8))], [(0, .row false (v 2) .nil cmR), (1, boxC es)], [], 2, [le (lit 0) (v 8), le (v 8) (v 2)]⟩]
theorem rLen_ok (rods : List Rod) (grow : List Int) : rLen.Ok Try.prog (fnB rods grow) := by
  refine lp1 (l := []) (R := R2) (tps := tRLen) (f := Try.f21) (fuel := 400) (Inv := fun xs _ ρ => True) (mu := fun xs _ ρ => (12 - ρ.v 8).toNat) (fun _ => (.need [(.bin .eq (.app 10 (.cons (.lit 0) .nil)) (.lit 0))] (.loop 0 [(8, (.lit 0))] (.ask (.bin .lt (.var 8) (.var 2)) (.ask (.app 3 (.cons (.var 8) .nil)) (.need [(.bin .eq (.app 10 (.cons (.bin .add (.var 8) (.lit 1)) .nil)) (.wrap .i64 (.bin .sub (.app 10 (.cons (.var 8) .nil)) (.app 0 (.cons (.var 8) .nil))))), (.bin .le (.bin .add (.var 8) (.lit 1)) (.lit 12)), (.bin .le (.bin .add (.var 8) (.lit 1)) (.var 2))] (.back 0 [(8, (.bin .add (.var 8) (.lit 1)))])) (.need [(.bin .eq (.app 10 (.cons (.bin .add (.var 8) (.lit 1)) .nil)) (.wrap .i64 (.bin .add (.app 10 (.cons (.var 8) .nil)) (.app 0 (.cons (.var 8) .nil))))), (.bin .le (.bin .add (.var 8) (.lit 1)) (.lit 12)), (.bin .le (.bin .add (.var 8) (.lit 1)) (.var 2))] (.back 0 [(8, (.bin .add (.var 8) (.lit 1)))]))) (.leaf (.int .i64 (.app 10 (.cons (.var 8) .nil))))))))
    prog_ok Try.func21 rfl trivial rfl (R2_ok _) rfl ?h ?h' ?_
  case h => kernel_rfl
  case h' => kernel_rfl
  intro xs es hlen hpre hrw
  ( simp only [OT.vc, LT.vc, OT.is, AllB, RgB, inR, nthR, idsF, fsOf, List.drop, List.flatMap_cons, List.flatMap_nil, List.append_nil, List.getElem?_cons_zero, List.getElem?_cons_succ, rwFs, rwF, List.nil_append, List.cons_append, mix_v, mix_fn, upd_fn, upd_nil, upd_cons, X.one, X.isL, cond_false, valX_fn, valX_v, setM_v, List.mem_cons, List.not_mem_nil, or_false, false_or, or_true, true_or, if_true, if_false, ite_true, ite_false, Nat.reduceEqDiff, SV.den, AV.int.injEq, AV.bool.injEq, true_and, and_true, X.dB_lt, X.dB_le, X.dB_eq, X.denB_and, X.denB_or, X.denB_not, X.denB_lit0, X.denB_lit1, X.den_lit, X.den_var, X.den_add, X.den_sub, X.den_mul, X.den_app, X.den_ite, X.den_wrap, X.dB_ite, cond_tf, X.denB_app, X.denB_var, X.sem_cons, X.sem_nil, leB_t, ltB_t, eqB_t, leB_f, ltB_f, eqB_f, Bool.and_eq_true, Bool.or_eq_true, Bool.not_eq_true', Bool.and_eq_false_iff, Bool.or_eq_false_iff, Bool.not_eq_false', rLen, an, le, lt, inB, v, lit, ap, tRLen, R2, cmR, clkSh, i64] at *)
  refine ⟨rfl, fun w h0 h1 _ => ⟨fun h3 => ?_, fun h3 => ?_⟩⟩
  · have hs := len_step rods grow (i := w 8) (n := xs.getD 2 0) (by omega) h3 hpre.1 hpre.2
    have f0 : fnB rods grow 0 [w 8] = (rods.getD (w 8).toNat d0).1 := rfl
    have f3 : i2b (fnB rods grow 3 [w 8]) = (rods.getD (w 8).toNat d0).2.2.2 := i2b_b2i _
    have e : low (rods.getD (w 8).toNat d0) = cond (i2b (fnB rods grow 3 [w 8])) (- fnB rods grow 0 [w 8]) (fnB rods grow 0 [w 8]) := by
      rw [f3, f0]; rfl
    refine ⟨fun h4 => ⟨⟨?_, by omega, by omega⟩, by omega⟩, fun h4 => ⟨⟨?_, by omega, by omega⟩, by omega⟩⟩
    · rw [h4, cond_true] at e
      rw [hs.1, e, ← Int.sub_eq_add_neg, wrap64 (by omega) (by omega)]
    · rw [h4, cond_false] at e
      rw [hs.1, e, wrap64 (by omega) (by omega)]
  · have : w 8 = xs.getD 2 0 := by omega
    rw [this]
end Be
end Go.Proofs.Ytocjbjnfpldgcaa

/- The error of a clock. -/
namespace Go.Proofs.Ytocjbjnfpldgcaa
open Abs Sx
set_option maxRecDepth 100000
namespace Be
/-- What a clock is asked for; e5, e2, ok: what comes of it. -/
def chkT (e5 e2 ok : OT SV) : OT SV :=
  .ask (lt (lit 8) (v 2)) e5 (.ask (le (lit 0) (ap 12 (v 2))) e2 (.ask (.bin .eq (v 2) (lit 0)) e2
  (.ask (lt (v 1) (lit (-1000000))) e2 (.ask (lt (lit 1000000) (v 1)) e2
  (.ask (lt (v 4) (lit (-100))) e2 (.ask (lt (v 5) (v 4)) e2 (.ask (lt (lit 100) (v 5)) e2
  (.ask (lt (v 6) (lit (-1000))) e2 (.ask (lt (v 7) (v 6)) e2 (.ask (lt (lit 1000) (v 7)) e2
  (.ask (lt (ap 10 (v 2)) (lit 100)) e2 (.ask (lt (lit 100000) (ap 10 (v 2))) e2
  (.ask (lt (v 0) (lit 1)) e2 (.ask (lt (lit 3) (v 0)) e2
  (.ask (.bin .eq (v 0) (lit 2)) (.ask (lt (v 6) (lit 0)) e2 ok)
  (.ask (.bin .eq (v 0) (lit 3)) (.ask (.bin .eq (v 6) (lit 0)) (.ask (.bin .eq (v 7) (lit 0)) ok e2) e2) ok))))))))))))))))
structure Good (ρ : Val) : Prop where
  rods : ρ.fn 12 [ρ.v 2] < 0
  some : ρ.v 2 ≠ 0
  base : -1000000 ≤ ρ.v 1 ∧ ρ.v 1 ≤ 1000000
  air : -100 ≤ ρ.v 4 ∧ ρ.v 4 ≤ ρ.v 5 ∧ ρ.v 5 ≤ 100
  drive : -1000 ≤ ρ.v 6 ∧ ρ.v 6 ≤ ρ.v 7 ∧ ρ.v 7 ≤ 1000
  len : 100 ≤ ρ.fn 10 [ρ.v 2] ∧ ρ.fn 10 [ρ.v 2] ≤ 100000
  kind : 1 ≤ ρ.v 0 ∧ ρ.v 0 ≤ 3 ∧ (ρ.v 0 = 2 → 0 ≤ ρ.v 6) ∧ (ρ.v 0 = 3 → ρ.v 6 = 0 ∧ ρ.v 7 = 0)
theorem good_iff (ρ : Val) : Good ρ ↔ ρ.fn 12 [ρ.v 2] < 0 ∧ ρ.v 2 ≠ 0 ∧ (-1000000 ≤ ρ.v 1 ∧ ρ.v 1 ≤ 1000000) ∧ (-100 ≤ ρ.v 4 ∧ ρ.v 4 ≤ ρ.v 5 ∧ ρ.v 5 ≤ 100) ∧ (-1000 ≤ ρ.v 6 ∧ ρ.v 6 ≤ ρ.v 7 ∧ ρ.v 7 ≤ 1000) ∧ (100 ≤ ρ.fn 10 [ρ.v 2] ∧ ρ.fn 10 [ρ.v 2] ≤ 100000) ∧ (1 ≤ ρ.v 0 ∧ ρ.v 0 ≤ 3 ∧ (ρ.v 0 = 2 → 0 ≤ ρ.v 6) ∧ (ρ.v 0 = 3 → ρ.v 6 = 0 ∧ ρ.v 7 = 0)) :=
  ⟨fun h => ⟨h.1, h.2, h.3, h.4, h.5, h.6, h.7⟩, fun ⟨a, b, c, d, e, f, g⟩ => ⟨a, b, c, d, e, f, g⟩⟩
theorem is_chk {ρ : Val} {w : AV} {e5 e2 ok : OT SV} (h5 : 8 < ρ.v 2 → OT.is ρ w e5) (h2 : ρ.v 2 ≤ 8 → ¬ Good ρ → OT.is ρ w e2) (hok : ρ.v 2 ≤ 8 → Good ρ → OT.is ρ w ok) : OT.is ρ w (chkT e5 e2 ok) := by
  simp only [good_iff] at h2 hok
  simp only [chkT, OT.is, le, lt, lit, v, ap, X.dB_lt, X.dB_le, X.dB_eq, X.den_lit, X.den_var, X.den_app, X.sem_cons, X.sem_nil, leB_t, ltB_t, eqB_t, leB_f, ltB_f, eqB_f]
  generalize OT.is ρ w e5 = p5 at *
  generalize OT.is ρ w e2 = p2 at *
  generalize OT.is ρ w ok = pk at *
  (repeat' (first | apply And.intro | intro _))
  all_goals first | exact h5 (by omega) | exact h2 (by omega) (by omega) | exact hok (by omega) (by omega)
attribute [irreducible] chkT
def E (n : Int) : OT SV := .leaf (.int .i64 (.lit n))
theorem is_E (ρ : Val) (n : Int) : OT.is ρ (.int .i64 n) (E n) := rfl
def pCheck : Pr := ⟨17, [clkSh], [le (v 2) (lit 12)], fun _ => chkT (E 5) (E 2) (E 0)⟩
theorem pCheck_ok (rods : List Rod) (grow : List Int) : pCheck.Ok Try.prog (fnB rods grow) := by
  refine un1 (l := [pSpan, pIdx, pLen]) (R := R0) (fuel := 200) (fun _ => (.ask (.bin .lt (.lit 8) (.var 2)) (.leaf (.int .i64 (.lit 5))) (.ask (.bin .eq (.var 2) (.lit 0)) (.leaf (.int .i64 (.lit 2))) (.ask (.bin .le (.lit 0) (.app 12 (.cons (.var 2) .nil))) (.leaf (.int .i64 (.lit 2))) (.ask (.bin .lt (.var 1) (.lit (-1000000))) (.leaf (.int .i64 (.lit 2))) (.ask (.bin .lt (.lit 1000000) (.var 1)) (.leaf (.int .i64 (.lit 2))) (.ask (.bin .and (.bin .le (.var 4) (.var 5)) (.bin .and (.bin .and (.bin .le (.lit (-100)) (.var 4)) (.bin .le (.var 4) (.lit 100))) (.bin .and (.bin .le (.lit (-100)) (.var 5)) (.bin .le (.var 5) (.lit 100))))) (.ask (.bin .eq (.var 0) (.lit 3)) (.ask (.not (.bin .eq (.var 7) (.lit 0))) (.leaf (.int .i64 (.lit 2))) (.ask (.bin .lt (.var 6) (.lit 0)) (.leaf (.int .i64 (.lit 2))) (.ask (.bin .and (.bin .le (.var 6) (.var 7)) (.bin .and (.bin .and (.bin .le (.lit (-1000)) (.var 6)) (.bin .le (.var 6) (.lit 1000))) (.bin .and (.bin .le (.lit (-1000)) (.var 7)) (.bin .le (.var 7) (.lit 1000))))) (.ask (.bin .lt (.app 10 (.cons (.var 2) .nil)) (.lit 100)) (.leaf (.int .i64 (.lit 2))) (.ask (.bin .lt (.lit 100000) (.app 10 (.cons (.var 2) .nil))) (.leaf (.int .i64 (.lit 2))) (.leaf (.int .i64 (.lit 0))))) (.leaf (.int .i64 (.lit 2)))))) (.ask (.bin .eq (.var 0) (.lit 2)) (.ask (.bin .lt (.var 6) (.lit 0)) (.leaf (.int .i64 (.lit 2))) (.ask (.bin .and (.bin .le (.var 6) (.var 7)) (.bin .and (.bin .and (.bin .le (.lit (-1000)) (.var 6)) (.bin .le (.var 6) (.lit 1000))) (.bin .and (.bin .le (.lit (-1000)) (.var 7)) (.bin .le (.var 7) (.lit 1000))))) (.ask (.bin .lt (.app 10 (.cons (.var 2) .nil)) (.lit 100)) (.leaf (.int .i64 (.lit 2))) (.ask (.bin .lt (.lit 100000) (.app 10 (.cons (.var 2) .nil))) (.leaf (.int .i64 (.lit 2))) (.leaf (.int .i64 (.lit 0))))) (.leaf (.int .i64 (.lit 2))))) (.ask (.bin .eq (.var 0) (.lit 1)) (.ask (.bin .and (.bin .le (.var 6) (.var 7)) (.bin .and (.bin .and (.bin .le (.lit (-1000)) (.var 6)) (.bin .le (.var 6) (.lit 1000))) (.bin .and (.bin .le (.lit (-1000)) (.var 7)) (.bin .le (.var 7) (.lit 1000))))) (.ask (.bin .lt (.app 10 (.cons (.var 2) .nil)) (.lit 100)) (.leaf (.int .i64 (.lit 2))) (.ask (.bin .lt (.lit 100000) (.app 10 (.cons (.var 2) .nil))) (.leaf (.int .i64 (.lit 2))) (.leaf (.int .i64 (.lit 0))))) (.leaf (.int .i64 (.lit 2)))) (.leaf (.int .i64 (.lit 2)))))) (.leaf (.int .i64 (.lit 2)))))))))) prog_ok ⟨pSpan_ok _, pIdx_ok _ _, pLen_ok _ _, trivial⟩ rfl (R0_ok _) rfl rfl ?h ?h' ?_
  case h => kernel_rfl
  case h' => kernel_rfl
  intro xs es hlen hpre hrw
  clear hpre hrw hlen
  ( simp only [OT.vc, LT.vc, OT.is, AllB, RgB, inR, nthR, idsF, fsOf, List.drop, List.flatMap_cons, List.flatMap_nil, List.append_nil, List.getElem?_cons_zero, List.getElem?_cons_succ, rwFs, rwF, List.nil_append, List.cons_append, mix_v, mix_fn, upd_fn, upd_nil, upd_cons, X.one, X.isL, cond_false, valX_fn, valX_v, setM_v, List.mem_cons, List.not_mem_nil, or_false, false_or, or_true, true_or, if_true, if_false, ite_true, ite_false, Nat.reduceEqDiff, SV.den, AV.int.injEq, AV.bool.injEq, true_and, and_true, X.dB_lt, X.dB_le, X.dB_eq, X.denB_and, X.denB_or, X.denB_not, X.denB_lit0, X.denB_lit1, X.den_lit, X.den_var, X.den_add, X.den_sub, X.den_mul, X.den_app, X.den_ite, X.den_wrap, X.dB_ite, cond_tf, X.denB_app, X.denB_var, X.sem_cons, X.sem_nil, leB_t, ltB_t, eqB_t, leB_f, ltB_f, eqB_f, Bool.and_eq_true, Bool.or_eq_true, Bool.not_eq_true', Bool.and_eq_false_iff, Bool.or_eq_false_iff, Bool.not_eq_false', pCheck, an, le, inB, v, lit, ap] at *)
  (repeat' (first | apply And.intro | intro _))
  all_goals (
    refine is_chk (fun h5 => ?_) (fun h5 h2 => ?_) (fun h5 hk => ?_)
    · first | exact is_E _ _ | (exfalso; ( simp only [OT.vc, LT.vc, OT.is, AllB, RgB, inR, nthR, idsF, fsOf, List.drop, List.flatMap_cons, List.flatMap_nil, List.append_nil, List.getElem?_cons_zero, List.getElem?_cons_succ, rwFs, rwF, List.nil_append, List.cons_append, mix_v, mix_fn, upd_fn, upd_nil, upd_cons, X.one, X.isL, cond_false, valX_fn, valX_v, setM_v, List.mem_cons, List.not_mem_nil, or_false, false_or, or_true, true_or, if_true, if_false, ite_true, ite_false, Nat.reduceEqDiff, SV.den, AV.int.injEq, AV.bool.injEq, true_and, and_true, X.dB_lt, X.dB_le, X.dB_eq, X.denB_and, X.denB_or, X.denB_not, X.denB_lit0, X.denB_lit1, X.den_lit, X.den_var, X.den_add, X.den_sub, X.den_mul, X.den_app, X.den_ite, X.den_wrap, X.dB_ite, cond_tf, X.denB_app, X.denB_var, X.sem_cons, X.sem_nil, leB_t, ltB_t, eqB_t, leB_f, ltB_f, eqB_f, Bool.and_eq_true, Bool.or_eq_true, Bool.not_eq_true', Bool.and_eq_false_iff, Bool.or_eq_false_iff, Bool.not_eq_false', good_iff] at *); omega)
    · first | exact is_E _ _ | (exfalso; ( simp only [OT.vc, LT.vc, OT.is, AllB, RgB, inR, nthR, idsF, fsOf, List.drop, List.flatMap_cons, List.flatMap_nil, List.append_nil, List.getElem?_cons_zero, List.getElem?_cons_succ, rwFs, rwF, List.nil_append, List.cons_append, mix_v, mix_fn, upd_fn, upd_nil, upd_cons, X.one, X.isL, cond_false, valX_fn, valX_v, setM_v, List.mem_cons, List.not_mem_nil, or_false, false_or, or_true, true_or, if_true, if_false, ite_true, ite_false, Nat.reduceEqDiff, SV.den, AV.int.injEq, AV.bool.injEq, true_and, and_true, X.dB_lt, X.dB_le, X.dB_eq, X.denB_and, X.denB_or, X.denB_not, X.denB_lit0, X.denB_lit1, X.den_lit, X.den_var, X.den_add, X.den_sub, X.den_mul, X.den_app, X.den_ite, X.den_wrap, X.dB_ite, cond_tf, X.denB_app, X.denB_var, X.sem_cons, X.sem_nil, leB_t, ltB_t, eqB_t, leB_f, ltB_f, eqB_f, Bool.and_eq_true, Bool.or_eq_true, Bool.not_eq_true', Bool.and_eq_false_iff, Bool.or_eq_false_iff, Bool.not_eq_false', good_iff] at *); omega)
    · first | exact is_E _ _ | (exfalso; ( simp only [OT.vc, LT.vc, OT.is, AllB, RgB, inR, nthR, idsF, fsOf, List.drop, List.flatMap_cons, List.flatMap_nil, List.append_nil, List.getElem?_cons_zero, List.getElem?_cons_succ, rwFs, rwF, List.nil_append, List.cons_append, mix_v, mix_fn, upd_fn, upd_nil, upd_cons, X.one, X.isL, cond_false, valX_fn, valX_v, setM_v, List.mem_cons, List.not_mem_nil, or_false, false_or, or_true, true_or, if_true, if_false, ite_true, ite_false, Nat.reduceEqDiff, SV.den, AV.int.injEq, AV.bool.injEq, true_and, and_true, X.dB_lt, X.dB_le, X.dB_eq, X.denB_and, X.denB_or, X.denB_not, X.denB_lit0, X.denB_lit1, X.den_lit, X.den_var, X.den_add, X.den_sub, X.den_mul, X.den_app, X.den_ite, X.den_wrap, X.dB_ite, cond_tf, X.denB_app, X.denB_var, X.sem_cons, X.sem_nil, leB_t, ltB_t, eqB_t, leB_f, ltB_f, eqB_f, Bool.and_eq_true, Bool.or_eq_true, Bool.not_eq_true', Bool.and_eq_false_iff, Bool.or_eq_false_iff, Bool.not_eq_false', good_iff] at *); omega))
end Be
end Go.Proofs.Ytocjbjnfpldgcaa
