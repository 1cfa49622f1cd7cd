/- DialSteady: numbers and facts of the law over rows. -/
import Derived.Test.YtncfikkeagflkaaDo2
set_option linter.unusedSimpArgs false
set_option linter.unusedVariables false
namespace Go.Proofs.Ytncfikkeagflkaa
open Abs Sx
set_option maxRecDepth 100000
namespace Dd
theorem slA {s d q t : Int} (hs : 0 ≤ s ∧ s ≤ 39) (hd : 1 ≤ d ∧ d ≤ 3) (hq : 1 ≤ q) (ht : 0 ≤ t ∧ t ≤ 29) : 0 ≤ (s * 3600 * d + t * 3600 * q + q * 1000 + -1).tdiv (q * 1000) ∧ (s * 3600 * d + t * 3600 * q + q * 1000 + -1).tdiv (q * 1000) ≤ 3600 := by
  have e : t * 3600 * q = 3600 * (t * q) := by rw [Int.mul_comm t 3600, Int.mul_assoc]
  have h1 : 0 ≤ t * q := Int.mul_nonneg ht.1 (by omega)
  have h2 : t * q ≤ 29 * q := Int.mul_le_mul_of_nonneg_right ht.2 (by omega)
  rw [e]
  generalize t * q = p at *
  have hd' : d = 1 ∨ d = 2 ∨ d = 3 := by omega
  have h3 : 0 ≤ s * 3600 * d ∧ s * 3600 * d ≤ 421200 := by rcases hd' with rfl | rfl | rfl <;> omega
  generalize s * 3600 * d = u at *
  have h4 : 0 ≤ u + 3600 * p + q * 1000 + -1 := by omega
  rw [Int.tdiv_eq_ediv_of_nonneg h4]
  exact ⟨Int.ediv_nonneg h4 (by omega), Int.ediv_le_of_le_mul (by omega) (by omega)⟩
theorem m_b {x : Int} (n : Int) (h : 0 ≤ x) (hn : 0 < n) : 0 ≤ x.tmod n ∧ x.tmod n ≤ n - 1 := ⟨Int.tmod_nonneg n h, by have := Int.tmod_lt_of_pos x hn; omega⟩
theorem sl2 {a b c : Int} (hb : 0 ≤ b) (ha : 0 ≤ a) (hc : 0 ≤ c) : 0 ≤ (a.tmod 40 * 3600 * (1 + (c.tdiv 12).tmod 3) + b.tmod 30 * 3600 * (1 + c.tmod 12) + (1 + c.tmod 12) * 1000 + -1).tdiv ((1 + c.tmod 12) * 1000) ∧ (a.tmod 40 * 3600 * (1 + (c.tdiv 12).tmod 3) + b.tmod 30 * 3600 * (1 + c.tmod 12) + (1 + c.tmod 12) * 1000 + -1).tdiv ((1 + c.tmod 12) * 1000) ≤ 3600 := by
  have h1 := m_b 40 ha (by decide)
  have h2 := m_b 3 (Int.tdiv_nonneg hc (show (0 : Int) ≤ 12 by decide)) (by decide)
  have h3 := m_b 12 hc (by decide)
  have h4 := m_b 30 hb (by decide)
  exact slA (by omega) (by omega) (by omega) (by omega)
theorem sl1 {a c : Int} (ha : 0 ≤ a) (hc : 0 ≤ c) : 0 ≤ (a.tmod 40 * 3600 * (1 + (c.tdiv 12).tmod 3) + (1 + c.tmod 12) * 1000 + -1).tdiv ((1 + c.tmod 12) * 1000) ∧ (a.tmod 40 * 3600 * (1 + (c.tdiv 12).tmod 3) + (1 + c.tmod 12) * 1000 + -1).tdiv ((1 + c.tmod 12) * 1000) ≤ 3600 := by
  have h := sl2 (b := 0) (Int.le_refl 0) ha hc
  simpa using h
def rwP : List X := (rg 0 255 (v 0) ++ rg 0 255 (v 1) ++ rg 0 255 (v 2) ++ rg 0 255 (v 3) ++ rg 0 65535 (v 6) ++ rg 0 255 (v 7) ++ rg 0 255 (v 8) ++ rg 0 255 (v 9) ++ rg 0 255 (v 10))
def facO : Nat × SO := (0, .row false (v 4) .nil ((List.range 6).map fun i => .int .u8 i))
def ap1 (f : Nat) (i : Int) : X := .app f (.cons (lit i) .nil)
def jX : X := .ite (eq (rem (v 0) (lit 6)) (lit 0)) (lit 1) (.ite (eq (rem (v 0) (lit 6)) (lit 1)) (lit 2) (.ite (eq (rem (v 0) (lit 6)) (lit 2)) (lit 10) (.ite (eq (rem (v 0) (lit 6)) (lit 3)) (lit 30) (.ite (eq (rem (v 0) (lit 6)) (lit 4)) (lit 60) (lit 120)))))
def tX (t : Int) : X := add (lit t) (add (rem (v 2) (lit 60)) (lit (-30)))
def pdX (t : Int) : X := sub (tX t) (rem (add (rem (tX t) jX) jX) jX)
def wlX : X := add (v 7) (lit (-128))
def whX : X := add wlX (rem (v 8) (lit 100))
def hvX (FR : X) : X := add (add FR (.bin .max (sub (lit 0) wlX) whX)) (lit 1)
def pull (t : Int) (W : X) : X := .ite (lt (rem (add (rem (pdX t) (lit 3600)) (lit 3600)) (lit 3600)) (lit 1800)) W (sub (lit 0) W)
def wdt (SL SO FR : X) (t : Int) (W : X) : X := sub (add (sub (add (pdX t) SO) (.ite (lt (add whX (pull t W)) (sub (lit 0) FR)) SL (lit 0))) (lit (-t))) (add (sub (add (pdX t) SO) (.ite (le (add wlX (pull t W)) FR) SL (lit 0))) (lit (-t)))
def wide (SL SO FR W : X) : X := .bin .max (.bin .max (lit 0) (wdt SL SO FR 87300 W)) (wdt SL SO FR 89100 W)
def dF : OT SV := .leaf (.bool (lit 0))
def dY : OT SV := .leaf (.bool (lit 1))
def dsC (SL SO FR : X) (N : List X) : OT SV :=
  let H := hvX FR
  let D := add (sub H (sub (lit 0) H)) (lit (-1))
  let W3 : X := .wrap .i64 (add (add (sub (lit 0) H) (lit 1)) (rem (v 10) D))
  .ask (le SL (lit 3600)) (.ask (le wlX whX) (.ask (lt H (lit 1)) dF (.ask (lt (lit (-1)) (sub (lit 0) H)) dF (.need [X.not (eq D (lit 0))] (.need ([le (pdX 87300) (tX 87300), lt (tX 87300) (add (pdX 87300) jX), eq (rem (lit 3600) jX) (lit 0)] ++ N) (.need [le (pdX 89100) (tX 89100), lt (tX 89100) (add (pdX 89100) jX)]
    (.ask (X.not (eq (wide SL SO FR (add H (v 10))) (lit 0))) dF (.ask (X.not (eq (wide SL SO FR (sub (sub (lit 0) H) (v 10))) (lit 0))) dF (.need [le (lit (-10000)) W3, le W3 (lit 10000)]
      (.ask (le wlX (lit 0)) (.ask (le (lit 0) whX) (.ask (X.not (eq (wide SL SO FR W3) SL)) dF dY) dY) dY)))))))))  dF) dF
set_option maxHeartbeats 4000000 in
theorem dsC_vc {SL SO FR : X} {N : List X} {fn : Nat → List Int → Int} {xs : List Int} (hpre : AllB (valX fn xs) rwP) (hs : 0 ≤ SL.den (valX fn xs) ∧ SL.den (valX fn xs) ≤ 3600) (fr : 0 ≤ FR.den (valX fn xs) ∧ FR.den (valX fn xs) < 60) (hN : AllB (valX fn xs) N) : OT.vc (valX fn xs) (fun w => w.den (valX fn xs) = .bool true) (dsC SL SO FR N) := by
  ( simp only [OT.vc, LT.vc, OT.is, AllB, RgB, inR, nthR, idsF, fsOf, List.drop, List.flatMap_cons, List.flatMap_nil, List.append_nil, List.getElem?_cons_zero, List.getElem?_cons_succ, rwFs, rwF, List.nil_append, List.cons_append, mix_v, mix_fn, upd_fn, upd_nil, upd_cons, X.one, X.isL, cond_false, valX_fn, valX_v, setM_v, List.mem_cons, List.not_mem_nil, or_false, false_or, or_true, true_or, if_true, if_false, ite_true, ite_false, Nat.reduceEqDiff, SV.den, AV.int.injEq, AV.bool.injEq, true_and, and_true, X.dB_lt, X.dB_le, X.dB_eq, X.denB_and, X.denB_or, X.denB_not, X.denB_lit0, X.denB_lit1, X.den_lit, X.den_var, X.den_add, X.den_sub, X.den_mul, X.den_app, X.den_ite, X.den_wrap, X.dB_ite, cond_tf, X.denB_app, X.denB_var, X.sem_cons, X.sem_nil, leB_t, ltB_t, eqB_t, leB_f, ltB_f, eqB_f, Bool.and_eq_true, Bool.or_eq_true, Bool.not_eq_true', Bool.and_eq_false_iff, Bool.or_eq_false_iff, Bool.not_eq_false', dsC, dF, dY, jX, tX, pdX, wlX, whX, hvX, pull, wdt, wide, rwP, rg, le, lt, eq, rem, add, sub, lit, v, X.den_rem, X.den_quo, X.den_max] at *)
  generalize SL.den (valX fn xs) = z0 at *
  generalize SO.den (valX fn xs) = S0 at *
  generalize FR.den (valX fn xs) = F at *
  have e1 := Int.tmod_nonneg 60 hpre.2.2.2.2.1
  have e2 := Int.tmod_lt_of_pos (xs.getD 2 0) (show (0 : Int) < 60 by decide)
  have j := j6_ok (xs.getD 0 0) _ rfl
  generalize (xs.getD 2 0).tmod 60 = er at *
  generalize (bif eqB ((xs.getD 0 0).tmod 6) 0 then (1 : Int) else bif eqB ((xs.getD 0 0).tmod 6) 1 then 2 else bif eqB ((xs.getD 0 0).tmod 6) 2 then 10 else bif eqB ((xs.getD 0 0).tmod 6) 3 then 30 else bif eqB ((xs.getD 0 0).tmod 6) 4 then 60 else 120) = J at *
  have j0 : 0 < J ∧ J ≤ 120 := by omega
  have j3 : Int.tmod 3600 J = 0 := by rcases j with rfl | rfl | rfl | rfl | rfl | rfl <;> decide
  have q0 : 0 ≤ xs.getD 7 0 ∧ xs.getD 7 0 ≤ 255 ∧ 0 ≤ xs.getD 8 0 ∧ 0 ≤ xs.getD 10 0 ∧ xs.getD 10 0 ≤ 255 := by omega
  clear hpre j
  obtain ⟨q1, q2, q3, q4, q5⟩ := q0
  have wd1 := Int.tmod_nonneg 100 q3
  have wd2 := Int.tmod_lt_of_pos (xs.getD 8 0) (show (0 : Int) < 100 by decide)
  generalize (xs.getD 8 0).tmod 100 = wd at *
  have hw : -128 ≤ xs.getD 7 0 + -128 ∧ xs.getD 7 0 + -128 ≤ 127 := by omega
  generalize xs.getD 7 0 + -128 = wl at *
  have r0 : 0 ≤ ((87300 + (er + -30)).tmod J + J).tmod J ∧ ((87300 + (er + -30)).tmod J + J).tmod J < J := by
    rw [mod_n (by omega) j0.1]
    exact ⟨Int.emod_nonneg _ (by omega), Int.emod_lt_of_pos _ j0.1⟩
  have r1 : 0 ≤ ((89100 + (er + -30)).tmod J + J).tmod J ∧ ((89100 + (er + -30)).tmod J + J).tmod J < J := by
    rw [mod_n (by omega) j0.1]
    exact ⟨Int.emod_nonneg _ (by omega), Int.emod_lt_of_pos _ j0.1⟩
  generalize ((87300 + (er + -30)).tmod J + J).tmod J = m0 at *
  generalize ((89100 + (er + -30)).tmod J + J).tmod J = m1 at *
  have p0 : ((87300 + (er + -30) - m0).tmod 3600 + 3600).tmod 3600 < 1800 := by rw [mod_n (by omega) (by decide)]; omega
  have p1 : 1800 ≤ ((89100 + (er + -30) - m1).tmod 3600 + 3600).tmod 3600 := by rw [mod_n (by omega) (by decide)]; omega
  generalize ((87300 + (er + -30) - m0).tmod 3600 + 3600).tmod 3600 = ph0 at *
  generalize ((89100 + (er + -30) - m1).tmod 3600 + 3600).tmod 3600 = ph1 at *
  have hH : 1 ≤ F + max (0 - wl) (wl + wd) + 1 ∧ F + max (0 - wl) (wl + wd) + 1 ≤ 360 ∧ F + -wl < F + max (0 - wl) (wl + wd) + 1 ∧ F + (wl + wd) < F + max (0 - wl) (wl + wd) + 1 ∧ (F + max (0 - wl) (wl + wd) + 1 = F + -wl + 1 ∨ F + max (0 - wl) (wl + wd) + 1 = F + (wl + wd) + 1) := by omega
  generalize F + max (0 - wl) (wl + wd) + 1 = H at *
  have t1 := Int.tmod_nonneg (H - (0 - H) + -1) q4
  have t2 := Int.tmod_lt_of_pos (xs.getD 10 0) (show 0 < H - (0 - H) + -1 by omega)
  have w : IntKind.i64.wrap (0 - H + 1 + (xs.getD 10 0).tmod (H - (0 - H) + -1)) = 0 - H + 1 + (xs.getD 10 0).tmod (H - (0 - H) + -1) := wrap64 (by omega) (by omega)
  rw [w]
  generalize (xs.getD 10 0).tmod (H - (0 - H) + -1) = q at *
  simp only [bif_le, bif_lt, if_pos p0, if_neg (Int.not_lt.2 p1)]
  clear w
  generalize xs.getD 10 0 = mo at *
  have c0 : ¬ (wl + (0 - (0 - H - mo)) ≤ F) := by omega
  have c1 : wl + (0 - (H + mo)) ≤ F := by omega
  have c2 : wl + (0 - H - mo) ≤ F := by omega
  have c3 : ¬ (wl + (H + mo) ≤ F) := by omega
  have c4 : ¬ (wl + wd + (0 - (0 - H - mo)) < 0 - F) := by omega
  have c5 : wl + wd + (0 - (H + mo)) < 0 - F := by omega
  have c6 : wl + wd + (0 - H - mo) < 0 - F := by omega
  have c7 : ¬ (wl + wd + (H + mo) < 0 - F) := by omega
  simp only [if_neg c0, if_pos c1, if_pos c2, if_neg c3, if_neg c4, if_pos c5, if_pos c6, if_neg c7]
  clear c0 c1 c2 c3 c4 c5 c6 c7
  rcases Decidable.em (wl + (0 - (0 - H + 1 + q)) ≤ F) with w0 | w0 <;> rcases Decidable.em (wl + (0 - H + 1 + q) ≤ F) with w1 | w1 <;> rcases Decidable.em (wl + wd + (0 - (0 - H + 1 + q)) < 0 - F) with w2 | w2 <;> rcases Decidable.em (wl + wd + (0 - H + 1 + q) < 0 - F) with w3 | w3 <;>
    simp only [w0, w1, w2, w3, if_true, if_false] <;>
    (repeat' (first | apply And.intro | intro _)) <;> first | trivial | assumption | omega
end Dd
end Go.Proofs.Ytncfikkeagflkaa
