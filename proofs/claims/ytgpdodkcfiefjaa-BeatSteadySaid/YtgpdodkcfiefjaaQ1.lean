/- Chapter 3 without the reference: numbers by functions, rods, spans, lowest terms. -/
import Derived.Test.YtgpdodkcfiefjaaFl
set_option linter.unusedSimpArgs false
set_option linter.unusedVariables false
namespace Go.Proofs.Ytgpdodkcfiefjaa
open Abs Sx
set_option maxRecDepth 100000
namespace Be
abbrev Rod := Int × Int × Int × Bool
def d0 : Rod := (1, 0, 0, false)
def okRod (r : Rod) : Bool := decide (1 ≤ r.1) && (decide (r.1 ≤ 100000) && (decide (0 ≤ r.2.1) && (decide (r.2.1 ≤ r.2.2.1) && decide (r.2.2.1 ≤ 40000))))
def low (r : Rod) : Int := cond r.2.2.2 (-r.1) r.1
def at_ (rods : List Rod) (l : List Int) : Rod := rods.getD (hdI l).toNat d0
def sumN (f : Nat → Int) : Nat → Int
  | 0 => 0
  | n + 1 => sumN f n + f n
def badN (rods : List Rod) : Nat → Int
  | 0 => -1
  | n + 1 => if 0 ≤ badN rods n then badN rods n else cond (okRod (rods.getD n d0)) (-1) n
def lenN (rods : List Rod) (n : Nat) : Int := sumN (fun i => low (rods.getD i d0)) n
def firstN (p : Nat → Bool) : Nat → Int
  | 0 => -1
  | n + 1 => if 0 ≤ firstN p n then firstN p n else cond (p n) (n : Int) (-1)
def outP (rods : List Rod) (grow : List Int) (i : Nat) : Bool := decide (grow.getD i 0 < (rods.getD i d0).2.1) || decide ((rods.getD i d0).2.2.1 < grow.getD i 0)
def growN (rods : List Rod) (grow : List Int) (n : Nat) : Int := sumN (fun i => low (rods.getD i d0) * grow.getD i 0) n
structure GoodP (rods : List Rod) (x0 x1 n x4 x5 x6 x7 : Int) : Prop where
  all : badN rods (min n.toNat 12) < 0 ∧ n ≠ 0 ∧ (-1000000 ≤ x1 ∧ x1 ≤ 1000000) ∧ (-100 ≤ x4 ∧ x4 ≤ x5 ∧ x5 ≤ 100) ∧ (-1000 ≤ x6 ∧ x6 ≤ x7 ∧ x7 ≤ 1000) ∧ (100 ≤ lenN rods (min n.toNat 12) ∧ lenN rods (min n.toNat 12) ≤ 100000) ∧ (1 ≤ x0 ∧ x0 ≤ 3 ∧ (x0 = 2 → 0 ≤ x6) ∧ (x0 = 3 → x6 = 0 ∧ x7 = 0))
instance (rods : List Rod) (x0 x1 n x4 x5 x6 x7 : Int) : Decidable (GoodP rods x0 x1 n x4 x5 x6 x7) := decidable_of_iff _ ⟨fun h => ⟨h⟩, fun h => h.all⟩
def errB (rods : List Rod) (l : List Int) : Int := if 8 < l.getD 2 0 then 5 else if GoodP rods (l.getD 0 0) (l.getD 1 0) (l.getD 2 0) (l.getD 3 0) (l.getD 4 0) (l.getD 5 0) (l.getD 6 0) then 0 else 2
structure OfL (rods : List Rod) (grow l : List Int) : Prop where
  all : l.getD 5 0 = l.getD 0 0 ∧ firstN (outP rods grow) (min (l.getD 0 0).toNat 12) < 0 ∧ (l.getD 1 0 ≤ l.getD 6 0 ∧ l.getD 6 0 ≤ l.getD 2 0) ∧ (l.getD 3 0 ≤ l.getD 7 0 ∧ l.getD 7 0 ≤ l.getD 4 0) ∧ (-1000 ≤ l.getD 8 0 ∧ l.getD 8 0 ≤ 1000) ∧ (-1000 ≤ l.getD 9 0 ∧ l.getD 9 0 ≤ 1000) ∧ (0 ≤ l.getD 10 0 ∧ l.getD 10 0 ≤ 600) ∧ (-100 ≤ l.getD 11 0 ∧ l.getD 11 0 ≤ 100)
instance (rods : List Rod) (grow l : List Int) : Decidable (OfL rods grow l) := decidable_of_iff _ ⟨fun h => ⟨h⟩, fun h => h.all⟩
def grLo (rods : List Rod) (n : Nat) : Int := sumN (fun i => min ((rods.getD i d0).2.1 * low (rods.getD i d0)) ((rods.getD i d0).2.2.1 * low (rods.getD i d0))) n
def grHi (rods : List Rod) (n : Nat) : Int := sumN (fun i => max ((rods.getD i d0).2.1 * low (rods.getD i d0)) ((rods.getD i d0).2.2.1 * low (rods.getD i d0))) n
structure BndP (l : List Int) : Prop where
  all : (-1000 ≤ l.getD 0 0 ∧ l.getD 0 0 ≤ l.getD 1 0 ∧ l.getD 1 0 ≤ 1000) ∧ (-1000 ≤ l.getD 2 0 ∧ l.getD 2 0 ≤ l.getD 3 0 ∧ l.getD 3 0 ≤ 1000) ∧ (0 ≤ l.getD 4 0 ∧ l.getD 4 0 ≤ l.getD 5 0 ∧ l.getD 5 0 ≤ 600) ∧ (-100 ≤ l.getD 6 0 ∧ l.getD 6 0 ≤ l.getD 7 0 ∧ l.getD 7 0 ≤ 100)
instance (l : List Int) : Decidable (BndP l) := decidable_of_iff _ ⟨fun h => ⟨h⟩, fun h => h.all⟩
def clampB (x : Int) : Int := max (-2305843009213693952) (min 2305843009213693952 x)
def min4 (a b c d : Int) : Int := min (min (min (a * c) (a * d)) (b * c)) (b * d)
def max4 (a b c d : Int) : Int := max (max (max (a * c) (a * d)) (b * c)) (b * d)
def chLo (rods : List Rod) (l : List Int) : Int :=
  let n := min (l.getD 0 0).toNat 12
  let u := 10000 * lenN rods n
  max4 (grLo rods n) (grHi rods n) (l.getD 13 0 - l.getD 6 0) (l.getD 14 0 - l.getD 5 0) * -432 + min4 (l.getD 1 0) (l.getD 2 0) (l.getD 15 0 - l.getD 8 0) (l.getD 16 0 - l.getD 7 0) * u
    + (l.getD 18 0 * l.getD 18 0 - l.getD 9 0 * l.getD 9 0) * (-4570 * lenN rods n) + min4 (l.getD 3 0) (l.getD 4 0) (l.getD 19 0 - l.getD 12 0) (l.getD 20 0 - l.getD 11 0) * u
def chHi (rods : List Rod) (l : List Int) : Int :=
  let n := min (l.getD 0 0).toNat 12
  let u := 10000 * lenN rods n
  min4 (grLo rods n) (grHi rods n) (l.getD 13 0 - l.getD 6 0) (l.getD 14 0 - l.getD 5 0) * -432 + max4 (l.getD 1 0) (l.getD 2 0) (l.getD 15 0 - l.getD 8 0) (l.getD 16 0 - l.getD 7 0) * u
    + (l.getD 17 0 * l.getD 17 0 - l.getD 10 0 * l.getD 10 0) * (-4570 * lenN rods n) + max4 (l.getD 3 0) (l.getD 4 0) (l.getD 19 0 - l.getD 12 0) (l.getD 20 0 - l.getD 11 0) * u
def lowI (len up : Int) : Int := cond (i2b up) (0 - len) len
def gLoL : List Int → Int
  | lo :: hi :: len :: up :: l => min (lo * lowI len up) (hi * lowI len up) + gLoL l
  | _ => 0
def gHiL : List Int → Int
  | lo :: hi :: len :: up :: l => max (lo * lowI len up) (hi * lowI len up) + gHiL l
  | _ => 0
def lnL : List Int → Int
  | len :: up :: l => lowI len up + lnL l
  | _ => 0
def clampM (m x : Int) : Int := max (-m) (min m x)
def raLo : List Int → Int
  | [b, L, gl, gh, al, ah, dl, dh, hl, hh, pl, ph, rl, rh, fl, fh] => b * (10000 * L) + (((max4 gl gh hl hh * -432 + min4 al ah pl ph * (10000 * L)) + max4 rl rh rl rh * (-457 * (10000 * L).tdiv 1000)) + min4 dl dh fl fh * (10000 * L))
  | _ => 0
def raHi : List Int → Int
  | [b, L, gl, gh, al, ah, dl, dh, hl, hh, pl, ph, rl, rh, fl, fh] => b * (10000 * L) + (((min4 gl gh hl hh * -432 + max4 al ah pl ph * (10000 * L)) + min4 rl rh rl rh * (-457 * (10000 * L).tdiv 1000)) + max4 dl dh fl fh * (10000 * L))
  | _ => 0
def cgLo : List Int → Int
  | [L, gl, gh, al, ah, dl, dh, fhl, fhh, fpl, fph, frl, frh, ffl, ffh, thl, thh, tpl, tph, trl, trh, tfl, tfh] => ((max4 gl gh (thl - fhh) (thh - fhl) * -432 + min4 al ah (tpl - fph) (tph - fpl) * (10000 * L)) + (max4 trl trh trl trh - min4 frl frh frl frh) * (-457 * (10000 * L).tdiv 1000)) + min4 dl dh (tfl - ffh) (tfh - ffl) * (10000 * L)
  | _ => 0
def cgHi : List Int → Int
  | [L, gl, gh, al, ah, dl, dh, fhl, fhh, fpl, fph, frl, frh, ffl, ffh, thl, thh, tpl, tph, trl, trh, tfl, tfh] => ((min4 gl gh (thl - fhh) (thh - fhl) * -432 + max4 al ah (tpl - fph) (tph - fpl) * (10000 * L)) + (min4 trl trh trl trh - max4 frl frh frl frh) * (-457 * (10000 * L).tdiv 1000)) + max4 dl dh (tfl - ffh) (tfh - ffl) * (10000 * L)
  | _ => 0
def wLo (least most : Int) : List Int → Int
  | from_ :: _ => max least (min most (least + (from_ * (most - least)).tdiv 255))
  | _ => least
def wHi (least most : Int) : List Int → Int
  | from_ :: wide :: _ => max least (min most (least + (from_ * (most - least)).tdiv 255 + (wide * (most - least)).tdiv 600))
  | _ => least
def inI : List Int → Int
  | lo :: hi :: n :: _ => lo + (n * (hi - lo)).tdiv 255
  | _ => 0
def halfI : List Int → Int
  | a :: b :: _ => (a + b) / 2
  | _ => 0
def lnA (r : Rod) : Int := max 1 (min 4000 (1 + r.1.tmod 4000))
def leftA (rods : List Rod) : Nat → Int
  | 0 => 8000
  | i + 1 => leftA rods i - (if (rods.getD i d0).2.2.2 = true ∧ lnA (rods.getD i d0) ≤ leftA rods i then lnA (rods.getD i d0) else 0)
def upA (rods : List Rod) (i : Nat) : Int := if (rods.getD i d0).2.2.2 = true ∧ lnA (rods.getD i d0) ≤ leftA rods i then 1 else 0
def arLo : List Int → Int
  | x :: _ => max (-50) (min 49 (x.tmod 100 - 50))
  | _ => 0
def arHi : List Int → Int
  | x :: y :: _ => max (-50) (min 98 (x.tmod 100 - 50 + y.tmod 50))
  | _ => 0
def drLo : List Int → Int
  | k :: x :: _ => max (-200) (min 255 (if k.tmod 3 = 2 then 0 else if k.tmod 3 = 0 then x - 200 else x))
  | _ => 0
def drHi : List Int → Int
  | k :: x :: y :: _ => max 0 (min 510 (if k.tmod 3 = 2 then 0 else x + y))
  | _ => 0
def byA (f : Int → Int) : List Int → Int
  | n :: i :: _ => max 0 (min 255 (if n = 0 then 0 else f (i.tmod n)))
  | _ => 0
def blSet (k : Nat) (x : Int) (l : List Int) : List Int := l.set (4 * k + 2) x
def blEff (k : Nat) (l : List Int) (x : Int) : Int := max (gHiL (blSet k x l)) (0 - gLoL (blSet k x l))
def blLen : List Int → Int
  | _ :: _ :: len :: up :: l => lowI len up + blLen l
  | _ => 0
def blLo (k : Nat) (l : List Int) : Int := max (bif i2b (l.getD (4 * k + 3) 0) then blLen (blSet k 0 l) - 100000 else 100 - blLen (blSet k 0 l)) 1
def blHi (k : Nat) (l : List Int) : Int := min (bif i2b (l.getD (4 * k + 3) 0) then blLen (blSet k 0 l) - 100 else 100000 - blLen (blSet k 0 l)) 100000
def firstI (f : Int → Bool) (a : Int) : Nat → Int
  | 0 => a
  | n + 1 => bif f a then a else firstI f (a + 1) n
def balN : List Int → Int
  | k :: l => firstI (fun x => decide (blEff k.toNat l x ≤ blEff k.toNat l (x + 1))) (blLo k.toNat l) (blHi k.toNat l - blLo k.toNat l).toNat
  | _ => 1
def fnB (rods : List Rod) (grow : List Int) (f : Nat) (l : List Int) : Int := match f with
  | 0 => (at_ rods l).1
  | 1 => (at_ rods l).2.1
  | 2 => (at_ rods l).2.2.1
  | 3 => b2i (at_ rods l).2.2.2
  | 4 => grow.getD (hdI l).toNat 0
  | 10 => lenN rods (min (hdI l).toNat 12)
  | 12 => badN rods (min (hdI l).toNat 12)
  | 14 => firstN (outP rods grow) (min (hdI l).toNat 12)
  | 15 => growN rods grow (min (hdI l).toNat 12)
  | 30 => errB rods l
  | 31 => b2i (decide (OfL rods grow l))
  | 33 => b2i (decide (BndP l))
  | 45 => grLo rods (min (hdI l).toNat 12)
  | 46 => grHi rods (min (hdI l).toNat 12)
  | 50 => clampB (hdI l / hdI l.tail)
  | 60 => clampB (chLo rods l)
  | 61 => clampB (chHi rods l)
  | 71 => clampM 20000000000 (gLoL l)
  | 72 => clampM 20000000000 (gHiL l)
  | 73 => clampM 400000 (lnL l)
  | 75 => clampB (cgLo l)
  | 76 => clampB (cgHi l)
  | 77 => clampB (raLo l)
  | 78 => clampB (raHi l)
  | 80 => clampB ((hdI l).tdiv (Int.gcd (hdI l) (hdI l.tail)))
  | 81 => max 1 (clampB ((hdI l.tail).tdiv (Int.gcd (hdI l) (hdI l.tail))))
  | 91 => clampM 40000 (inI l)
  | 92 => clampM 40000 (halfI l)
  | 101 => wLo (-400) 400 l
  | 102 => wHi (-400) 400 l
  | 103 => wLo (-300) 300 l
  | 104 => wHi (-300) 300 l
  | 105 => wLo 0 300 l
  | 106 => wHi 0 300 l
  | 107 => wLo (-40) 40 l
  | 108 => wHi (-40) 40 l
  | 110 => max 1 (min 3 (1 + (hdI l).tmod 3))
  | 111 => arLo l
  | 112 => arHi l
  | 113 => drLo l
  | 114 => drHi l
  | 115 => lnA (at_ rods l)
  | 116 => max 0 (min 5100 (20 * (at_ rods l).2.1))
  | 117 => max 0 (min 5865 (20 * (at_ rods l).2.1 + 3 * (at_ rods l).2.2.1))
  | 118 => upA rods (hdI l).toNat
  | 119 => byA (fun i => grow.getD i.toNat 0) l
  | 5 => grow.getD (2 * (hdI l).toNat) 0
  | 6 => grow.getD (2 * (hdI l).toNat + 1) 0
  | 120 => byA (fun i => grow.getD (2 * i.toNat) 0) l
  | 121 => byA (fun i => grow.getD (2 * i.toNat + 1) 0) l
  | 122 => max 1 (min 100000 (balN l))
  | 20 => (hdI l).tdiv (Int.gcd (hdI l) (hdI l.tail))
  | 21 => (hdI l.tail).tdiv (Int.gcd (hdI l) (hdI l.tail))
  | _ => 0
def i64 : Sh := .int .i64
def spanSh : Sh := .agg [i64, i64]
def rodSh : Sh := .agg [i64, i64, i64, .bool]
def lit (n : Int) : X := .lit n
def v (n : Nat) : X := .var n
def le (a b : X) : X := .bin .le a b
def lt (a b : X) : X := .bin .lt a b
def an (a b : X) : X := .bin .and a b
def ap (f : Nat) (x : X) : X := .app f (.cons x .nil)
def inB (lo hi x : X) : X := an (le lo x) (le x hi)
def R0 : Rgs := ⟨[], []⟩
theorem R0_ok (fn : Nat → List Int → Int) : ∀ i l, inR (fn i l) (nthR R0.fr i) := fun i l => by cases i <;> trivial
def pSpan : Pr := ⟨63, [spanSh, spanSh], [], fun _ => .leaf (.bool (an (le (v 0) (v 1)) (an (inB (v 2) (v 3) (v 0)) (inB (v 2) (v 3) (v 1)))))⟩
theorem pSpan_ok (fn : Nat → List Int → Int) : pSpan.Ok Try.prog fn := by
  refine un0 (l := []) (R := R0) (fuel := 60) (fun _ => (.ask (.bin .le (.var 0) (.var 1)) (.ask (.bin .lt (.var 0) (.var 2)) (.leaf (.bool (.lit 0))) (.ask (.bin .lt (.var 3) (.var 0)) (.leaf (.bool (.lit 0))) (.ask (.bin .lt (.var 1) (.var 2)) (.leaf (.bool (.lit 0))) (.ask (.bin .lt (.var 3) (.var 1)) (.leaf (.bool (.lit 0))) (.leaf (.bool (.lit 1))))))) (.leaf (.bool (.lit 0))))) prog_ok trivial rfl (R0_ok fn) rfl rfl ?h ?_
  case h => kernel_rfl
  intro xs es hlen hpre hrw
  simp only [OT.vc, OT.is, pSpan, an, le, inB, v, SV.den, AV.bool.injEq]
  clear hlen hpre hrw
  (repeat' (first | apply And.intro | intro _))
  all_goals (refine bool_iff ?_; ( simp only [X.dB_lt, X.dB_le, X.dB_eq, X.denB_and, X.denB_or, X.denB_not, X.denB_lit0, X.denB_lit1, X.den_lit, X.den_var, X.den_add, X.den_sub, X.den_mul, X.den_app, X.sem_cons, X.sem_nil, leB_t, ltB_t, eqB_t, leB_f, ltB_f, eqB_f, Bool.and_eq_true, Bool.or_eq_true, Bool.not_eq_true', Bool.and_eq_false_iff, Bool.or_eq_false_iff, Bool.not_eq_false', Bool.false_eq_true, false_iff, iff_false, true_iff, iff_true, not_false_eq_true, not_true_eq_false] at *); omega)
def pLow : Pr := ⟨59, [rodSh], [le (lit 0) (v 0), le (v 0) (lit 1000000)], fun _ => .leaf (.int .i64 (.ite (v 3) (.bin .sub (lit 0) (v 0)) (v 0)))⟩
theorem pLow_ok (fn : Nat → List Int → Int) : pLow.Ok Try.prog fn := by
  refine un0 (l := []) (R := R0) (fuel := 60) (fun _ => (.ask (.var 3) (.leaf (.int .i64 (.bin .sub (.lit 0) (.var 0)))) (.leaf (.int .i64 (.var 0))))) prog_ok trivial rfl (R0_ok fn) rfl rfl ?h ?_
  case h => kernel_rfl
  intro xs es hlen hpre hrw
  ( simp only [OT.vc, LT.vc, OT.is, AllB, RgB, inR, nthR, idsF, fsOf, List.drop, List.flatMap_cons, List.flatMap_nil, List.append_nil, List.getElem?_cons_zero, List.getElem?_cons_succ, rwFs, rwF, List.nil_append, List.cons_append, mix_v, mix_fn, upd_fn, upd_nil, upd_cons, X.one, X.isL, cond_false, valX_fn, valX_v, setM_v, List.mem_cons, List.not_mem_nil, or_false, false_or, or_true, true_or, if_true, if_false, ite_true, ite_false, Nat.reduceEqDiff, SV.den, AV.int.injEq, AV.bool.injEq, true_and, and_true, X.dB_lt, X.dB_le, X.dB_eq, X.denB_and, X.denB_or, X.denB_not, X.denB_lit0, X.denB_lit1, X.den_lit, X.den_var, X.den_add, X.den_sub, X.den_mul, X.den_app, X.den_ite, X.den_wrap, X.dB_ite, cond_tf, X.denB_app, X.denB_var, X.sem_cons, X.sem_nil, leB_t, ltB_t, eqB_t, leB_f, ltB_f, eqB_f, Bool.and_eq_true, Bool.or_eq_true, Bool.not_eq_true', Bool.and_eq_false_iff, Bool.or_eq_false_iff, Bool.not_eq_false', pLow, an, le, inB, v, lit, ap] at *)
  refine ⟨fun h => ?_, fun h => ?_⟩ <;> simp only [h, cond_true, cond_false] <;> omega
def eq (a b : X) : X := .bin .eq a b
def ap2 (f : Nat) (x y : X) : X := .app f (.cons x (.cons y .nil))
def apl (f : Nat) (l : List X) : X := .app f (l.foldr .cons .nil)
def bdS (x : X) : List X := [le (lit (-2305843009213693952)) x, le x (lit 2305843009213693952)]
def mn2 (a b : X) : X := .bin .min a b
def mx2 (a b : X) : X := .bin .max a b
def spO (a b : X) : SV := .agg [.int .i64 a, .int .i64 b]
def mul (a b : X) : X := .bin .mul a b
def add (a b : X) : X := .bin .add a b
def sub (a b : X) : X := .bin .sub a b
def pPlus : Pr := ⟨47, [spanSh, spanSh], [le (v 0) (v 1), le (v 2) (v 3)] ++ (bdS (add (v 0) (v 2)) ++ bdS (add (v 1) (v 3))), fun _ => .leaf (spO (add (v 0) (v 2)) (add (v 1) (v 3)))⟩
def pMinus : Pr := ⟨51, [spanSh, spanSh], [le (v 0) (v 1), le (v 2) (v 3)] ++ (bdS (sub (v 0) (v 3)) ++ bdS (sub (v 1) (v 2))), fun _ => .leaf (spO (sub (v 0) (v 3)) (sub (v 1) (v 2)))⟩
def mn4 (a b c d : X) : X := mn2 (mn2 (mn2 a b) c) d
def mx4 (a b c d : X) : X := mx2 (mx2 (mx2 a b) c) d
def pTimes : Pr := ⟨49, [spanSh, spanSh], bdS (mul (v 0) (v 2)) ++ (bdS (mul (v 0) (v 3)) ++ (bdS (mul (v 1) (v 2)) ++ bdS (mul (v 1) (v 3)))), fun _ => .leaf (spO (mn4 (mul (v 0) (v 2)) (mul (v 0) (v 3)) (mul (v 1) (v 2)) (mul (v 1) (v 3))) (mx4 (mul (v 0) (v 2)) (mul (v 0) (v 3)) (mul (v 1) (v 2)) (mul (v 1) (v 3))))⟩
def pScA : Pr := ⟨50, [spanSh, i64], bdS (mul (v 0) (v 2)) ++ bdS (mul (v 1) (v 2)), fun _ => .leaf (spO (mn2 (mul (v 0) (v 2)) (mul (v 1) (v 2))) (mx2 (mul (v 0) (v 2)) (mul (v 1) (v 2))))⟩
def pScS : Pr := ⟨50, [spanSh, i64], le (v 0) (v 1) :: (bdS (mul (v 0) (v 2)) ++ bdS (mul (v 1) (v 2))), fun _ => .ask (lt (v 2) (lit 0)) (.leaf (spO (mul (v 1) (v 2)) (mul (v 0) (v 2)))) (.leaf (spO (mul (v 0) (v 2)) (mul (v 1) (v 2))))⟩
def pFloor : Pr := ⟨52, [i64, i64], le (lit 1) (v 1) :: (bdS (v 0) ++ bdS (v 1)), fun _ => .leaf (.int .i64 (ap2 50 (v 0) (v 1)))⟩
def bndSh : Sh := .agg [i64, i64, i64, i64, i64, i64, i64, i64]
theorem pPlus_ok (fn : Nat → List Int → Int) : pPlus.Ok Try.prog fn := by
  refine un0 (l := []) (R := R0) (fuel := 200) (fun _ => (.leaf (.agg [(.int .i64 (.bin .min (.bin .add (.var 0) (.var 2)) (.bin .add (.var 1) (.var 3)))), (.int .i64 (.bin .max (.bin .add (.var 0) (.var 2)) (.bin .add (.var 1) (.var 3))))]))) prog_ok trivial rfl (R0_ok fn) rfl rfl ?h ?_
  case h => kernel_rfl
  intro xs es hlen hpre hrw
  ( simp only [OT.vc, LT.vc, OT.is, AllB, RgB, inR, nthR, idsF, fsOf, List.drop, List.flatMap_cons, List.flatMap_nil, List.append_nil, List.getElem?_cons_zero, List.getElem?_cons_succ, rwFs, rwF, List.nil_append, List.cons_append, mix_v, mix_fn, upd_fn, upd_nil, upd_cons, X.one, X.isL, cond_false, valX_fn, valX_v, setM_v, List.mem_cons, List.not_mem_nil, or_false, false_or, or_true, true_or, if_true, if_false, ite_true, ite_false, Nat.reduceEqDiff, SV.den, AV.int.injEq, AV.bool.injEq, true_and, and_true, X.dB_lt, X.dB_le, X.dB_eq, X.denB_and, X.denB_or, X.denB_not, X.denB_lit0, X.denB_lit1, X.den_lit, X.den_var, X.den_add, X.den_sub, X.den_mul, X.den_app, X.den_ite, X.den_wrap, X.dB_ite, cond_tf, X.denB_app, X.denB_var, X.sem_cons, X.sem_nil, leB_t, ltB_t, eqB_t, leB_f, ltB_f, eqB_f, Bool.and_eq_true, Bool.or_eq_true, Bool.not_eq_true', Bool.and_eq_false_iff, Bool.or_eq_false_iff, Bool.not_eq_false', pPlus, bdS, spO, mul, add, sub, mn2, mx2, le, v, lit, SV.dens, AV.agg.injEq, List.cons.injEq, X.den_max, X.den_min] at *)
  omega
theorem pMinus_ok (fn : Nat → List Int → Int) : pMinus.Ok Try.prog fn := by
  refine un0 (l := []) (R := R0) (fuel := 200) (fun _ => (.leaf (.agg [(.int .i64 (.bin .min (.bin .sub (.var 0) (.var 3)) (.bin .sub (.var 1) (.var 2)))), (.int .i64 (.bin .max (.bin .sub (.var 0) (.var 3)) (.bin .sub (.var 1) (.var 2))))]))) prog_ok trivial rfl (R0_ok fn) rfl rfl ?h ?_
  case h => kernel_rfl
  intro xs es hlen hpre hrw
  ( simp only [OT.vc, LT.vc, OT.is, AllB, RgB, inR, nthR, idsF, fsOf, List.drop, List.flatMap_cons, List.flatMap_nil, List.append_nil, List.getElem?_cons_zero, List.getElem?_cons_succ, rwFs, rwF, List.nil_append, List.cons_append, mix_v, mix_fn, upd_fn, upd_nil, upd_cons, X.one, X.isL, cond_false, valX_fn, valX_v, setM_v, List.mem_cons, List.not_mem_nil, or_false, false_or, or_true, true_or, if_true, if_false, ite_true, ite_false, Nat.reduceEqDiff, SV.den, AV.int.injEq, AV.bool.injEq, true_and, and_true, X.dB_lt, X.dB_le, X.dB_eq, X.denB_and, X.denB_or, X.denB_not, X.denB_lit0, X.denB_lit1, X.den_lit, X.den_var, X.den_add, X.den_sub, X.den_mul, X.den_app, X.den_ite, X.den_wrap, X.dB_ite, cond_tf, X.denB_app, X.denB_var, X.sem_cons, X.sem_nil, leB_t, ltB_t, eqB_t, leB_f, ltB_f, eqB_f, Bool.and_eq_true, Bool.or_eq_true, Bool.not_eq_true', Bool.and_eq_false_iff, Bool.or_eq_false_iff, Bool.not_eq_false', pMinus, bdS, spO, mul, add, sub, mn2, mx2, le, v, lit, SV.dens, AV.agg.injEq, List.cons.injEq, X.den_max, X.den_min] at *)
  omega
theorem pTimes_ok (fn : Nat → List Int → Int) : pTimes.Ok Try.prog fn := by
  refine un0 (l := []) (R := R0) (fuel := 200) (fun _ => (.leaf (.agg [(.int .i64 (.bin .min (.bin .min (.bin .min (.bin .mul (.var 0) (.var 2)) (.bin .mul (.var 0) (.var 3))) (.bin .mul (.var 1) (.var 2))) (.bin .mul (.var 1) (.var 3)))), (.int .i64 (.bin .max (.bin .max (.bin .max (.bin .mul (.var 0) (.var 2)) (.bin .mul (.var 0) (.var 3))) (.bin .mul (.var 1) (.var 2))) (.bin .mul (.var 1) (.var 3))))]))) prog_ok trivial rfl (R0_ok fn) rfl rfl ?h ?_
  case h => kernel_rfl
  intro xs es hlen hpre hrw
  rfl
theorem pScA_ok (fn : Nat → List Int → Int) : pScA.Ok Try.prog fn := by
  refine un0 (l := []) (R := R0) (fuel := 200) (fun _ => (.leaf (.agg [(.int .i64 (.bin .min (.bin .mul (.var 0) (.var 2)) (.bin .mul (.var 1) (.var 2)))), (.int .i64 (.bin .max (.bin .mul (.var 0) (.var 2)) (.bin .mul (.var 1) (.var 2))))]))) prog_ok trivial rfl (R0_ok fn) rfl rfl ?h ?_
  case h => kernel_rfl
  intro xs es hlen hpre hrw
  rfl
theorem pScS_ok (fn : Nat → List Int → Int) : pScS.Ok Try.prog fn := by
  refine un0 (l := []) (R := R0) (fuel := 200) (fun _ => (.leaf (.agg [(.int .i64 (.bin .min (.bin .mul (.var 0) (.var 2)) (.bin .mul (.var 1) (.var 2)))), (.int .i64 (.bin .max (.bin .mul (.var 0) (.var 2)) (.bin .mul (.var 1) (.var 2))))]))) prog_ok trivial rfl (R0_ok fn) rfl rfl ?h ?_
  case h => kernel_rfl
  intro xs es hlen hpre hrw
  ( simp only [OT.vc, LT.vc, OT.is, AllB, RgB, inR, nthR, idsF, fsOf, List.drop, List.flatMap_cons, List.flatMap_nil, List.append_nil, List.getElem?_cons_zero, List.getElem?_cons_succ, rwFs, rwF, List.nil_append, List.cons_append, mix_v, mix_fn, upd_fn, upd_nil, upd_cons, X.one, X.isL, cond_false, valX_fn, valX_v, setM_v, List.mem_cons, List.not_mem_nil, or_false, false_or, or_true, true_or, if_true, if_false, ite_true, ite_false, Nat.reduceEqDiff, SV.den, AV.int.injEq, AV.bool.injEq, true_and, and_true, X.dB_lt, X.dB_le, X.dB_eq, X.denB_and, X.denB_or, X.denB_not, X.denB_lit0, X.denB_lit1, X.den_lit, X.den_var, X.den_add, X.den_sub, X.den_mul, X.den_app, X.den_ite, X.den_wrap, X.dB_ite, cond_tf, X.denB_app, X.denB_var, X.sem_cons, X.sem_nil, leB_t, ltB_t, eqB_t, leB_f, ltB_f, eqB_f, Bool.and_eq_true, Bool.or_eq_true, Bool.not_eq_true', Bool.and_eq_false_iff, Bool.or_eq_false_iff, Bool.not_eq_false', pScS, bdS, spO, mul, add, sub, mn2, mx2, le, lt, v, lit, SV.dens, AV.agg.injEq, List.cons.injEq, X.den_max, X.den_min] at *)
  refine ⟨fun h => ?_, fun h => ?_⟩
  · have := Int.mul_le_mul_of_nonpos_right hpre.1 (Int.le_of_lt h)
    omega
  · have := Int.mul_le_mul_of_nonneg_right hpre.1 h
    omega
theorem clampM_in {m x : Int} (h : 0 ≤ m) : -m ≤ clampM m x ∧ clampM m x ≤ m := by unfold clampM; omega
theorem clampM_id {m x : Int} (h : -m ≤ x) (k : x ≤ m) : clampM m x = x := by unfold clampM; omega
theorem clampB_in (x : Int) : -2305843009213693952 ≤ clampB x ∧ clampB x ≤ 2305843009213693952 := by unfold clampB; omega
theorem clampB_id {x : Int} (h : -2305843009213693952 ≤ x) (k : x ≤ 2305843009213693952) : clampB x = x := by unfold clampB; omega
theorem ediv_bd {a b B : Int} (hb : 1 ≤ b) (hB : 0 ≤ B) (h1 : -B ≤ a) (h2 : a ≤ B) : -B ≤ a / b ∧ a / b ≤ B := by
  have hBb : B * 1 ≤ B * b := Int.mul_le_mul_of_nonneg_left hb hB
  refine ⟨(Int.le_ediv_iff_mul_le (by omega)).2 ?_, Int.ediv_le_of_le_mul (by omega) (by omega)⟩
  rw [Int.neg_mul]; omega
theorem f50_at (rods : List Rod) (grow : List Int) {a b : Int} (hb : 1 ≤ b) (h1 : -2305843009213693952 ≤ a) (h2 : a ≤ 2305843009213693952) : fnB rods grow 50 [a, b] = a / b := by
  have := ediv_bd hb (by decide) h1 h2
  exact clampB_id this.1 this.2
theorem floor_eq {a b : Int} (hb : 1 ≤ b) : a / b = if a.tmod b < 0 then a.tdiv b + -1 else a.tdiv b := by
  have h1 := Int.mul_tdiv_add_tmod a b
  have h2 := Int.tmod_lt_of_pos a (show 0 < b by omega)
  have h3 := Int.lt_tmod_of_pos a (show 0 < b by omega)
  split
  · refine ((Int.ediv_emod_unique (r := a.tmod b + b) (show 0 < b by omega)).2 ⟨?_, by omega, by omega⟩).1
    rw [Int.mul_add]; omega
  · exact ((Int.ediv_emod_unique (r := a.tmod b) (show 0 < b by omega)).2 ⟨by omega, by omega, by omega⟩).1
theorem pFloor_ok (rods : List Rod) (grow : List Int) : pFloor.Ok Try.prog (fnB rods grow) := by
  refine un0 (l := []) (R := R0) (fuel := 200) (fun _ => (.ask (.bin .lt (.bin .rem (.var 0) (.var 1)) (.lit 0)) (.leaf (.int .i64 (.bin .add (.bin .quo (.var 0) (.var 1)) (.lit (-1))))) (.leaf (.int .i64 (.bin .quo (.var 0) (.var 1)))))) prog_ok trivial rfl (R0_ok _) rfl rfl ?h ?_
  case h => kernel_rfl
  intro xs es hlen hpre hrw
  ( simp only [OT.vc, LT.vc, OT.is, AllB, RgB, inR, nthR, idsF, fsOf, List.drop, List.flatMap_cons, List.flatMap_nil, List.append_nil, List.getElem?_cons_zero, List.getElem?_cons_succ, rwFs, rwF, List.nil_append, List.cons_append, mix_v, mix_fn, upd_fn, upd_nil, upd_cons, X.one, X.isL, cond_false, valX_fn, valX_v, setM_v, List.mem_cons, List.not_mem_nil, or_false, false_or, or_true, true_or, if_true, if_false, ite_true, ite_false, Nat.reduceEqDiff, SV.den, AV.int.injEq, AV.bool.injEq, true_and, and_true, X.dB_lt, X.dB_le, X.dB_eq, X.denB_and, X.denB_or, X.denB_not, X.denB_lit0, X.denB_lit1, X.den_lit, X.den_var, X.den_add, X.den_sub, X.den_mul, X.den_app, X.den_ite, X.den_wrap, X.dB_ite, cond_tf, X.denB_app, X.denB_var, X.sem_cons, X.sem_nil, leB_t, ltB_t, eqB_t, leB_f, ltB_f, eqB_f, Bool.and_eq_true, Bool.or_eq_true, Bool.not_eq_true', Bool.and_eq_false_iff, Bool.or_eq_false_iff, Bool.not_eq_false', pFloor, bdS, le, lt, v, lit, ap2, X.den_quo, X.den_rem] at *)
  have e : fnB rods grow 50 [xs.getD 0 0, xs.getD 1 0] = xs.getD 0 0 / xs.getD 1 0 := f50_at rods grow hpre.1 (by omega) (by omega)
  rw [e, floor_eq hpre.1]
  refine ⟨fun h => ?_, fun h => ?_⟩
  · rw [if_pos h]
  · rw [if_neg (by omega)]
end Be
end Go.Proofs.Ytgpdodkcfiefjaa
