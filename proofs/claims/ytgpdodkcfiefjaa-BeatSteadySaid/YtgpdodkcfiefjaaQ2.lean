/- Clocks whose rods are written out: lengths, checks, growing. -/
import Derived.Test.YtgpdodkcfiefjaaQ1
set_option linter.unusedSimpArgs false
set_option linter.unusedVariables false
namespace Go.Proofs.Ytgpdodkcfiefjaa
open Abs Sx
set_option maxRecDepth 100000
namespace Be
def rodL : List Sh := [i64, i64, i64, .bool]
def rodsL (n : Nat) : Sh := .lst 4 ((List.range n).flatMap fun _ => rodL)
def lClk (n : Nat) : Sh := .agg [i64, i64, rodsL n, i64, i64, i64, i64]
def rg (a b : Int) (x : X) : List X := [le (lit a) x, le x (lit b)]
def rg2 (a b : Int) (x y : X) : List X := rg a b x ++ (rg a b y ++ [le x y])
def lnX (o n : Nat) : X := apl 73 ((List.range n).flatMap fun i => [v (o + 4 * i), v (o + 3 + 4 * i)])
def rodP (o n : Nat) : List X := (List.range n).flatMap fun i => rg 1 100000 (v (o + 4 * i)) ++ rg2 0 40000 (v (o + 1 + 4 * i)) (v (o + 2 + 4 * i))
def lenP (o n : Nat) : List X := (List.range n).flatMap fun i => rg 1 100000 (v (o + 4 * i))
def frL : List (Option (Int × Int)) := List.replicate 50 none ++ ([some (-2305843009213693952, 2305843009213693952)] ++ (List.replicate 20 none ++ [some (-20000000000, 20000000000), some (-20000000000, 20000000000), some (-400000, 400000), none, some (-2305843009213693952, 2305843009213693952), some (-2305843009213693952, 2305843009213693952), some (-2305843009213693952, 2305843009213693952), some (-2305843009213693952, 2305843009213693952), none, some (-2305843009213693952, 2305843009213693952), some (1, 2305843009213693952)]))
def RL : Rgs := ⟨[], frL⟩
theorem nth_rep : ∀ (n i : Nat) (l : List (Option (Int × Int))), nthR (List.replicate n none ++ l) i = if i < n then none else nthR l (i - n)
  | 0, i, l => by simp
  | n + 1, 0, l => by simp [List.replicate_succ, nthR]
  | n + 1, i + 1, l => by
    simp only [List.replicate_succ, List.cons_append, nthR, nth_rep n i l, Nat.add_lt_add_iff_right, Nat.add_sub_add_right]
theorem RL_ok (rods : List Rod) (grow : List Int) : ∀ i l, inR (fnB rods grow i l) (nthR RL.fr i) := by
  intro i l
  show inR _ (nthR (List.replicate 50 none ++ _) i)
  rw [nth_rep]
  split
  · trivial
  · rename_i h
    obtain ⟨j, rfl⟩ : ∃ j, i = 50 + j := ⟨i - 50, by omega⟩
    rw [Nat.add_sub_cancel_left]
    match j with
    | 0 => exact clampB_in _
    | j + 1 =>
      show inR _ (nthR (List.replicate 20 none ++ _) j)
      rw [nth_rep]
      split
      · trivial
      · rename_i h
        obtain ⟨j, rfl⟩ : ∃ k, j = 20 + k := ⟨j - 20, by omega⟩
        rw [Nat.add_sub_cancel_left]
        match j with
        | 0 => exact clampM_in (by decide)
        | 1 => exact clampM_in (by decide)
        | 2 => exact clampM_in (by decide)
        | 3 => trivial
        | 4 => exact clampB_in _
        | 5 => exact clampB_in _
        | 6 => exact clampB_in _
        | 7 => exact clampB_in _
        | 8 => trivial
        | 9 => exact clampB_in _
        | 10 =>
          have := clampB_in ((hdI l.tail).tdiv (Int.gcd (hdI l) (hdI l.tail)))
          show 1 ≤ max 1 (clampB _) ∧ max 1 (clampB _) ≤ 2305843009213693952
          omega
        | _ + 11 => trivial
def pLenL (n : Nat) : Pr := ⟨48, [rodsL n], lenP 1 n, fun _ => .leaf (.int .i64 (lnX 1 n))⟩
def clkP (n : Nat) : List X := rg 1 3 (v 0) ++ (rg (-1000000) 1000000 (v 1) ++ (rg2 (-100) 100 (v (3 + 4 * n)) (v (4 + 4 * n)) ++ (rg2 (-1000) 1000 (v (5 + 4 * n)) (v (6 + 4 * n)) ++ (rg 100 100000 (lnX 3 n) ++ ([.bin .or (.not (eq (v 0) (lit 2))) (le (lit 0) (v (5 + 4 * n))), .bin .or (.not (eq (v 0) (lit 3))) (an (eq (v (5 + 4 * n)) (lit 0)) (eq (v (6 + 4 * n)) (lit 0)))] ++ rodP 3 n)))))
def pChkL (n : Nat) : Pr := ⟨14, [lClk n], clkP n, fun _ => .leaf (.int .i64 (lit 0))⟩
def lKn (n : Nat) : Sh := .agg ([i64, i64, rodsL n, i64, i64, i64, i64] ++ List.replicate 28 i64)
def sp (n i : Nat) : Nat := 7 + 4 * n + 2 * i
def grP (n : Nat) : List X := (List.range n).flatMap fun i => rg 1 100000 (v (3 + 4 * i)) ++ rg2 0 40000 (v (sp n i)) (v (sp n i + 1))
def grA (n : Nat) : List X := (List.range n).flatMap fun i => [v (sp n i), v (sp n i + 1), v (3 + 4 * i), v (6 + 4 * i)]
def pGrL (n : Nat) : Pr := ⟨37, [lKn n], grP n, fun _ => .leaf (spO (apl 71 (grA n)) (apl 72 (grA n)))⟩
def bdP (k : Nat) : List X := rg2 (-1000) 1000 (v k) (v (k + 1)) ++ (rg2 (-1000) 1000 (v (k + 2)) (v (k + 3)) ++ (rg2 0 600 (v (k + 4)) (v (k + 5)) ++ rg2 (-100) 100 (v (k + 6)) (v (k + 7))))
def ownA (n : Nat) : List X := (List.range n).flatMap fun i => [v (4 + 4 * i), v (5 + 4 * i), v (3 + 4 * i), v (6 + 4 * i)]
def raA (n k : Nat) : List X := [v 1, lnX 3 n, apl 71 (ownA n), apl 72 (ownA n), v (3 + 4 * n), v (4 + 4 * n), v (5 + 4 * n), v (6 + 4 * n), v k, v (k + 1), v (k + 2), v (k + 3), v (k + 4), v (k + 5), v (k + 6), v (k + 7)]
def unX (n : Nat) : X := mul (lit 10000) (lnX 3 n)
def raO (n : Nat) : OT SV := .leaf (.tuple [spO (ap2 50 (apl 77 (raA n (7 + 4 * n))) (unX n)) (sub (lit 0) (ap2 50 (sub (lit 0) (apl 78 (raA n (7 + 4 * n)))) (unX n))), .int .i64 (lit 0)])
def pRaL (n : Nat) : Pr := ⟨15, [lClk n, bndSh], clkP n ++ bdP (7 + 4 * n), fun _ => raO n⟩
def m4 (o : Bo) (a b c d : X) : X := .bin o (.bin o (.bin o (mul a c) (mul a d)) (mul b c)) (mul b d)
def raT (n k : Nat) : OT SV :=
  let gl := apl 71 (ownA n); let gh := apl 72 (ownA n); let U := unX n
  let h1 := m4 .min gl gh (v k) (v (k + 1)); let h2 := m4 .max gl gh (v k) (v (k + 1))
  let a1 := m4 .min (v (3 + 4 * n)) (v (4 + 4 * n)) (v (k + 2)) (v (k + 3)); let a2 := m4 .max (v (3 + 4 * n)) (v (4 + 4 * n)) (v (k + 2)) (v (k + 3))
  let r1 := m4 .min (v (k + 4)) (v (k + 5)) (v (k + 4)) (v (k + 5)); let r2 := m4 .max (v (k + 4)) (v (k + 5)) (v (k + 4)) (v (k + 5))
  let f1 := m4 .min (v (5 + 4 * n)) (v (6 + 4 * n)) (v (k + 6)) (v (k + 7)); let f2 := m4 .max (v (5 + 4 * n)) (v (6 + 4 * n)) (v (k + 6)) (v (k + 7))
  let c := mul (lit (-457)) (.bin .quo U (lit 1000))
  let s1 := add (mul h2 (lit (-432))) (mul a1 U); let s2 := add (mul h1 (lit (-432))) (mul a2 U)
  let way (x y : X) : OT SV :=
    let t1 := add s1 x; let t2 := add s2 y
    let e1 := add t1 (mul f1 U); let e2 := add t2 (mul f2 U)
    .need [le s1 s2, le x y] (.need [le f1 f2] (.need [le t1 t2, le (mul f1 U) (mul f2 U)] (.need [le e1 e2] (.leaf (.tuple [spO (ap2 50 (add (mul (v 1) U) e1) U) (sub (lit 0) (ap2 50 (sub (lit 0) (add (mul (v 1) U) e2)) U)), .int .i64 (lit 0)])))))
  .need [le h1 h2] (.need [le a1 a2] (.need [le (mul h2 (lit (-432))) (mul h1 (lit (-432))), le (mul a1 U) (mul a2 U)] (.need [le r1 r2] (.ask (lt c (lit 0)) (way (mul r2 c) (mul r1 c)) (way (mul r1 c) (mul r2 c))))))
theorem lowI_bd {len : Int} (up : Int) (h : 1 ≤ len) (k : len ≤ 100000) : -100000 ≤ lowI len up ∧ lowI len up ≤ 100000 := by
  unfold lowI; cases i2b up <;> simp only [cond_true, cond_false] <;> omega
theorem low_mul {g len : Int} (up : Int) (h : 1 ≤ len) (k : len ≤ 100000) (h0 : 0 ≤ g) (h1 : g ≤ 40000) : -4000000000 ≤ g * lowI len up ∧ g * lowI len up ≤ 4000000000 := by
  have := lowI_bd up h k
  have a := Int.mul_le_mul_of_nonneg_left this.1 h0
  have b := Int.mul_le_mul_of_nonneg_left this.2 h0
  omega
theorem cond_low (len up : Int) : cond (i2b up) (0 - len) len = lowI len up := rfl
theorem m4_le (a b c d : Int) : min4 a b c d ≤ max4 a b c d := by unfold min4 max4; omega
section
variable {ρ : Val}
theorem m4_min (a b c d : X) : (m4 .min a b c d).den ρ = min4 (a.den ρ) (b.den ρ) (c.den ρ) (d.den ρ) := by simp only [m4, mul, X.den_min, X.den_mul, min4]
theorem m4_max (a b c d : X) : (m4 .max a b c d).den ρ = max4 (a.den ρ) (b.den ρ) (c.den ρ) (d.den ρ) := by simp only [m4, mul, X.den_max, X.den_mul, max4]
theorem le_den {a b : X} (h : a.den ρ ≤ b.den ρ) : X.denB ρ (le a b) = true := by simp only [le, X.dB_le, leB_t]; exact h
theorem mulU {a b c : Int} (h : a ≤ b) (hc : 0 ≤ c) : a * c ≤ b * c := Int.mul_le_mul_of_nonneg_right h hc
theorem mulN {a b c : Int} (h : a ≤ b) (hc : c ≤ 0) : b * c ≤ a * c := Int.mul_le_mul_of_nonpos_right h hc
theorem raT_vc {Q : SV → Prop} (n k : Nat) (hL : 100 ≤ (lnX 3 n).den ρ ∧ (lnX 3 n).den ρ ≤ 100000)
    (hQ : Q (.tuple [spO (ap2 50 (add (mul (v 1) (unX n)) (add (add (add (mul (m4 .max (apl 71 (ownA n)) (apl 72 (ownA n)) (v k) (v (k + 1))) (lit (-432))) (mul (m4 .min (v (3 + 4 * n)) (v (4 + 4 * n)) (v (k + 2)) (v (k + 3))) (unX n))) (mul (m4 .max (v (k + 4)) (v (k + 5)) (v (k + 4)) (v (k + 5))) (mul (lit (-457)) (.bin .quo (unX n) (lit 1000))))) (mul (m4 .min (v (5 + 4 * n)) (v (6 + 4 * n)) (v (k + 6)) (v (k + 7))) (unX n)))) (unX n))
      (sub (lit 0) (ap2 50 (sub (lit 0) (add (mul (v 1) (unX n)) (add (add (add (mul (m4 .min (apl 71 (ownA n)) (apl 72 (ownA n)) (v k) (v (k + 1))) (lit (-432))) (mul (m4 .max (v (3 + 4 * n)) (v (4 + 4 * n)) (v (k + 2)) (v (k + 3))) (unX n))) (mul (m4 .min (v (k + 4)) (v (k + 5)) (v (k + 4)) (v (k + 5))) (mul (lit (-457)) (.bin .quo (unX n) (lit 1000))))) (mul (m4 .max (v (5 + 4 * n)) (v (6 + 4 * n)) (v (k + 6)) (v (k + 7))) (unX n))))) (unX n))), .int .i64 (lit 0)])) : OT.vc ρ Q (raT n k) := by
  have hU : (unX n).den ρ = 10000 * (lnX 3 n).den ρ := by simp only [unX, mul, lit, X.den_mul, X.den_lit]
  have hq : ((10000 * (lnX 3 n).den ρ).tdiv 1000) = 10 * (lnX 3 n).den ρ := by rw [Int.tdiv_eq_ediv_of_nonneg (by omega)]; omega
  have hc : (mul (lit (-457)) (.bin .quo (unX n) (lit 1000))).den ρ = -4570 * (lnX 3 n).den ρ := by
    simp only [mul, lit, X.den_mul, X.den_lit, X.den_quo, hU, hq]; omega
  have U0 : 0 ≤ (unX n).den ρ := by omega
  have c0 : (mul (lit (-457)) (.bin .quo (unX n) (lit 1000))).den ρ ≤ 0 := by omega
  have d (o : Bo) (a b : X) : (mul a b).den ρ = a.den ρ * b.den ρ := rfl
  have da (a b : X) : (add a b).den ρ = a.den ρ + b.den ρ := rfl
  have dl (z : Int) : (lit z).den ρ = z := rfl
  have hh := m4_le ((apl 71 (ownA n)).den ρ) ((apl 72 (ownA n)).den ρ) ((v k).den ρ) ((v (k + 1)).den ρ)
  have ha := m4_le ((v (3 + 4 * n)).den ρ) ((v (4 + 4 * n)).den ρ) ((v (k + 2)).den ρ) ((v (k + 3)).den ρ)
  have hr := m4_le ((v (k + 4)).den ρ) ((v (k + 5)).den ρ) ((v (k + 4)).den ρ) ((v (k + 5)).den ρ)
  have hf := m4_le ((v (5 + 4 * n)).den ρ) ((v (6 + 4 * n)).den ρ) ((v (k + 6)).den ρ) ((v (k + 7)).den ρ)
  simp only [← m4_min, ← m4_max] at hh ha hr hf
  have hh2 := mulN hh (show (-432 : Int) ≤ 0 by decide)
  have ha2 := mulU ha U0
  have hr2 := mulN hr c0
  have hf2 := mulU hf U0
  unfold raT
  refine ⟨⟨le_den hh, trivial⟩, ⟨le_den ha, trivial⟩, ⟨le_den hh2, le_den ha2, trivial⟩, ⟨le_den hr, trivial⟩, fun _ => ⟨⟨le_den ?_, le_den hr2, trivial⟩, ⟨le_den hf, trivial⟩, ⟨le_den ?_, le_den hf2, trivial⟩, ⟨le_den ?_, trivial⟩, hQ⟩, fun h => ?_⟩
  · exact Int.add_le_add hh2 ha2
  · exact Int.add_le_add (Int.add_le_add hh2 ha2) hr2
  · exact Int.add_le_add (Int.add_le_add (Int.add_le_add hh2 ha2) hr2) hf2
  · exfalso
    simp only [lt, X.dB_lt, ltB_f] at h
    rw [hc] at h
    have hz : (lit 0).den ρ = 0 := rfl
    omega
end
theorem dec_t {R : Rgs} {ρ : Val} {fs : List X} {x : X} (hR : R.ok ρ) (hf : Fcs ρ fs) (h : x.dec R fs = some true) : x.denB ρ = true := X.dec_ok hR hf x h
theorem RL_at (rods : List Rod) (grow xs : List Int) : RL.ok (valX (fnB rods grow) xs) := ⟨fun i => by cases i <;> trivial, RL_ok rods grow⟩
def nmX (n k : Nat) : X := add (mul (v 1) (unX n)) (add (add (add (mul (m4 .max (apl 71 (ownA n)) (apl 72 (ownA n)) (v k) (v (k + 1))) (lit (-432))) (mul (m4 .min (v (3 + 4 * n)) (v (4 + 4 * n)) (v (k + 2)) (v (k + 3))) (unX n))) (mul (m4 .max (v (k + 4)) (v (k + 5)) (v (k + 4)) (v (k + 5))) (mul (lit (-457)) (.bin .quo (unX n) (lit 1000))))) (mul (m4 .min (v (5 + 4 * n)) (v (6 + 4 * n)) (v (k + 6)) (v (k + 7))) (unX n)))
def nxX (n k : Nat) : X := add (mul (v 1) (unX n)) (add (add (add (mul (m4 .min (apl 71 (ownA n)) (apl 72 (ownA n)) (v k) (v (k + 1))) (lit (-432))) (mul (m4 .max (v (3 + 4 * n)) (v (4 + 4 * n)) (v (k + 2)) (v (k + 3))) (unX n))) (mul (m4 .min (v (k + 4)) (v (k + 5)) (v (k + 4)) (v (k + 5))) (mul (lit (-457)) (.bin .quo (unX n) (lit 1000))))) (mul (m4 .max (v (5 + 4 * n)) (v (6 + 4 * n)) (v (k + 6)) (v (k + 7))) (unX n)))
theorem ra77 (rods : List Rod) (grow xs : List Int) (n k : Nat) (h1 : X.denB (valX (fnB rods grow) xs) (le (lit (-2305843009213693952)) (nmX n k)) = true) (h2 : X.denB (valX (fnB rods grow) xs) (le (nmX n k) (lit 2305843009213693952)) = true) :
    (apl 77 (raA n k)).den (valX (fnB rods grow) xs) = (nmX n k).den (valX (fnB rods grow) xs) := by
  simp only [le, lit, X.dB_le, leB_t, X.den_lit] at h1 h2
  have e : (nmX n k).den (valX (fnB rods grow) xs) = raLo ((raA n k).map fun x => x.den (valX (fnB rods grow) xs)) := by
    simp only [nmX, unX, add, mul, lit, m4_min, m4_max, X.den_add, X.den_mul, X.den_lit, X.den_quo, raA, List.map_cons, List.map_nil, raLo]
  rw [e] at h1 h2 ⊢
  exact clampB_id h1 h2
theorem ra78 (rods : List Rod) (grow xs : List Int) (n k : Nat) (h1 : X.denB (valX (fnB rods grow) xs) (le (lit (-2305843009213693952)) (nxX n k)) = true) (h2 : X.denB (valX (fnB rods grow) xs) (le (nxX n k) (lit 2305843009213693952)) = true) :
    (apl 78 (raA n k)).den (valX (fnB rods grow) xs) = (nxX n k).den (valX (fnB rods grow) xs) := by
  simp only [le, lit, X.dB_le, leB_t, X.den_lit] at h1 h2
  have e : (nxX n k).den (valX (fnB rods grow) xs) = raHi ((raA n k).map fun x => x.den (valX (fnB rods grow) xs)) := by
    simp only [nxX, unX, add, mul, lit, m4_min, m4_max, X.den_add, X.den_mul, X.den_lit, X.den_quo, raA, List.map_cons, List.map_nil, raHi]
  rw [e] at h1 h2 ⊢
  exact clampB_id h1 h2
theorem pLenL1_ok (rods : List Rod) (grow : List Int) : (pLenL 1).Ok Try.prog (fnB rods grow) := by
  refine un1 (l := [pLow]) (R := RL) (fuel := 200) (fun _ => (.leaf (.int .i64 (.ite (.var 4) (.bin .sub (.lit 0) (.var 1)) (.var 1))))) prog_ok ⟨pLow_ok _, trivial⟩ rfl (RL_ok _ _) rfl rfl ?h ?h' ?_
  case h => kernel_rfl
  case h' => kernel_rfl
  intro xs es hlen hpre hrw
  clear hrw hlen
  ( simp only [OT.vc, LT.vc, OT.is, AllB, RgB, inR, nthR, idsF, fsOf, List.drop, List.flatMap_cons, List.flatMap_nil, List.append_nil, List.getElem?_cons_zero, List.getElem?_cons_succ, rwFs, rwF, List.nil_append, List.cons_append, mix_v, mix_fn, upd_fn, upd_nil, upd_cons, X.one, X.isL, cond_false, valX_fn, valX_v, setM_v, List.mem_cons, List.not_mem_nil, or_false, false_or, or_true, true_or, if_true, if_false, ite_true, ite_false, Nat.reduceEqDiff, SV.den, AV.int.injEq, AV.bool.injEq, true_and, and_true, X.dB_lt, X.dB_le, X.dB_eq, X.denB_and, X.denB_or, X.denB_not, X.denB_lit0, X.denB_lit1, X.den_lit, X.den_var, X.den_add, X.den_sub, X.den_mul, X.den_app, X.den_ite, X.den_wrap, X.dB_ite, cond_tf, X.denB_app, X.denB_var, X.sem_cons, X.sem_nil, leB_t, ltB_t, eqB_t, leB_f, ltB_f, eqB_f, Bool.and_eq_true, Bool.or_eq_true, Bool.not_eq_true', Bool.and_eq_false_iff, Bool.or_eq_false_iff, Bool.not_eq_false', pLenL, lenP, rg, lnX, apl, le, v, lit, i64, List.range, List.range.loop, List.flatMap_cons, List.flatMap_nil, List.foldr, Nat.reduceMul, Nat.reduceAdd, Nat.mul_zero, Nat.add_zero] at *)
  have b0 := lowI_bd (xs.getD 4 0) (len := xs.getD 1 0) (by omega) (by omega)
  have e : fnB rods grow 73 [xs.getD 1 0, xs.getD 4 0] = clampM 400000 (lnL [xs.getD 1 0, xs.getD 4 0]) := rfl
  rw [e, clampM_id (by simp only [lnL]; omega) (by simp only [lnL]; omega)]
  simp only [lnL, lowI]
  omega
theorem pChkL1_ok (rods : List Rod) (grow : List Int) : (pChkL 1).Ok Try.prog (fnB rods grow) := by
  refine un1 (l := [pLow, pSpan, pLenL 1]) (R := RL) (fuel := 200) (fun _ => (.ask (.bin .eq (.var 0) (.lit 3)) (.ask (.not (.bin .eq (.var 10) (.lit 0))) (.leaf (.int .i64 (.lit 2))) (.ask (.bin .lt (.var 9) (.lit 0)) (.leaf (.int .i64 (.lit 2))) (.leaf (.int .i64 (.lit 0))))) (.ask (.bin .eq (.var 0) (.lit 2)) (.ask (.bin .lt (.var 9) (.lit 0)) (.leaf (.int .i64 (.lit 2))) (.leaf (.int .i64 (.lit 0)))) (.ask (.bin .eq (.var 0) (.lit 1)) (.leaf (.int .i64 (.lit 0))) (.leaf (.int .i64 (.lit 2))))))) prog_ok ⟨pLow_ok _, pSpan_ok _, pLenL1_ok _ _, trivial⟩ rfl (RL_ok _ _) rfl rfl ?h ?h' ?_
  case h => kernel_rfl
  case h' => kernel_rfl
  intro xs es hlen hpre hrw
  clear hrw hlen
  ( simp only [OT.vc, LT.vc, OT.is, AllB, RgB, inR, nthR, idsF, fsOf, List.drop, List.flatMap_cons, List.flatMap_nil, List.append_nil, List.getElem?_cons_zero, List.getElem?_cons_succ, rwFs, rwF, List.nil_append, List.cons_append, mix_v, mix_fn, upd_fn, upd_nil, upd_cons, X.one, X.isL, cond_false, valX_fn, valX_v, setM_v, List.mem_cons, List.not_mem_nil, or_false, false_or, or_true, true_or, if_true, if_false, ite_true, ite_false, Nat.reduceEqDiff, SV.den, AV.int.injEq, AV.bool.injEq, true_and, and_true, X.dB_lt, X.dB_le, X.dB_eq, X.denB_and, X.denB_or, X.denB_not, X.denB_lit0, X.denB_lit1, X.den_lit, X.den_var, X.den_add, X.den_sub, X.den_mul, X.den_app, X.den_ite, X.den_wrap, X.dB_ite, cond_tf, X.denB_app, X.denB_var, X.sem_cons, X.sem_nil, leB_t, ltB_t, eqB_t, leB_f, ltB_f, eqB_f, Bool.and_eq_true, Bool.or_eq_true, Bool.not_eq_true', Bool.and_eq_false_iff, Bool.or_eq_false_iff, Bool.not_eq_false', pChkL, clkP, rg, rg2, rodP, lnX, apl, le, eq, an, v, lit, i64, List.range, List.range.loop, List.flatMap_cons, List.flatMap_nil, List.foldr, Nat.reduceMul, Nat.reduceAdd, Nat.mul_zero, Nat.add_zero] at *)
  (repeat' (first | apply And.intro | intro _))
  all_goals first | trivial | omega
theorem pGrL1_ok (rods : List Rod) (grow : List Int) : (pGrL 1).Ok Try.prog (fnB rods grow) := by
  refine un1 (l := [pLow, pScA, pPlus]) (R := RL) (fuel := 200) (fun _ => (.need [(.bin .le (.bin .min (.bin .mul (.var 11) (.ite (.var 6) (.bin .sub (.lit 0) (.var 3)) (.var 3))) (.bin .mul (.var 12) (.ite (.var 6) (.bin .sub (.lit 0) (.var 3)) (.var 3)))) (.bin .max (.bin .mul (.var 11) (.ite (.var 6) (.bin .sub (.lit 0) (.var 3)) (.var 3))) (.bin .mul (.var 12) (.ite (.var 6) (.bin .sub (.lit 0) (.var 3)) (.var 3)))))] (.leaf (.agg [(.int .i64 (.bin .min (.bin .mul (.var 11) (.ite (.var 6) (.bin .sub (.lit 0) (.var 3)) (.var 3))) (.bin .mul (.var 12) (.ite (.var 6) (.bin .sub (.lit 0) (.var 3)) (.var 3))))), (.int .i64 (.bin .max (.bin .mul (.var 11) (.ite (.var 6) (.bin .sub (.lit 0) (.var 3)) (.var 3))) (.bin .mul (.var 12) (.ite (.var 6) (.bin .sub (.lit 0) (.var 3)) (.var 3)))))])))) prog_ok ⟨pLow_ok _, pScA_ok _, pPlus_ok _, trivial⟩ rfl (RL_ok _ _) rfl rfl ?h ?h' ?_
  case h => kernel_rfl
  case h' => kernel_rfl
  intro xs es hlen hpre hrw
  clear hrw hlen
  ( simp only [OT.vc, LT.vc, OT.is, AllB, RgB, inR, nthR, idsF, fsOf, List.drop, List.flatMap_cons, List.flatMap_nil, List.append_nil, List.getElem?_cons_zero, List.getElem?_cons_succ, rwFs, rwF, List.nil_append, List.cons_append, mix_v, mix_fn, upd_fn, upd_nil, upd_cons, X.one, X.isL, cond_false, valX_fn, valX_v, setM_v, List.mem_cons, List.not_mem_nil, or_false, false_or, or_true, true_or, if_true, if_false, ite_true, ite_false, Nat.reduceEqDiff, SV.den, AV.int.injEq, AV.bool.injEq, true_and, and_true, X.dB_lt, X.dB_le, X.dB_eq, X.denB_and, X.denB_or, X.denB_not, X.denB_lit0, X.denB_lit1, X.den_lit, X.den_var, X.den_add, X.den_sub, X.den_mul, X.den_app, X.den_ite, X.den_wrap, X.dB_ite, cond_tf, X.denB_app, X.denB_var, X.sem_cons, X.sem_nil, leB_t, ltB_t, eqB_t, leB_f, ltB_f, eqB_f, Bool.and_eq_true, Bool.or_eq_true, Bool.not_eq_true', Bool.and_eq_false_iff, Bool.or_eq_false_iff, Bool.not_eq_false', pGrL, grP, grA, sp, rg, rg2, spO, apl, le, v, lit, i64, List.range, List.range.loop, List.flatMap_cons, List.flatMap_nil, List.foldr, Nat.reduceMul, Nat.reduceAdd, Nat.mul_zero, Nat.add_zero, SV.dens, AV.agg.injEq, List.cons.injEq, X.den_min, X.den_max] at *)
  have b0 := low_mul (xs.getD 6 0) (len := xs.getD 3 0) (g := xs.getD 11 0) (by omega) (by omega) (by omega) (by omega)
  have c0 := low_mul (xs.getD 6 0) (len := xs.getD 3 0) (g := xs.getD 12 0) (by omega) (by omega) (by omega) (by omega)
  have e1 : fnB rods grow 71 [xs.getD 11 0, xs.getD 12 0, xs.getD 3 0, xs.getD 6 0] = clampM 20000000000 (gLoL [xs.getD 11 0, xs.getD 12 0, xs.getD 3 0, xs.getD 6 0]) := rfl
  have e2 : fnB rods grow 72 [xs.getD 11 0, xs.getD 12 0, xs.getD 3 0, xs.getD 6 0] = clampM 20000000000 (gHiL [xs.getD 11 0, xs.getD 12 0, xs.getD 3 0, xs.getD 6 0]) := rfl
  rw [e1, e2, clampM_id (by simp only [gLoL]; omega) (by simp only [gLoL]; omega), clampM_id (by simp only [gHiL]; omega) (by simp only [gHiL]; omega)]
  simp only [gLoL, gHiL, cond_low]
  generalize xs.getD 11 0 * lowI (xs.getD 3 0) (xs.getD 6 0) = p0 at *
  generalize xs.getD 12 0 * lowI (xs.getD 3 0) (xs.getD 6 0) = q0 at *
  omega
theorem pRaL1_ok (rods : List Rod) (grow : List Int) : (pRaL 1).Ok Try.prog (fnB rods grow) := by
  refine un1 (l := [pChkL 1, pSpan, pLow, pLenL 1, pGrL 1, pTimes, pPlus, pScS, pFloor]) (R := RL) (fuel := 400) (fun _ => raT 1 11) prog_ok ⟨pChkL1_ok _ _, pSpan_ok _, pLow_ok _, pLenL1_ok _ _, pGrL1_ok _ _, pTimes_ok _, pPlus_ok _, pScS_ok _, pFloor_ok _ _, trivial⟩ rfl (RL_ok _ _) rfl rfl ?h ?h' ?_
  case h => kernel_rfl
  case h' => kernel_rfl
  intro xs es hlen hpre hrw
  have hR := RL_at rods grow xs
  have hf := allB_fcs hpre
  have d (x : X) (h : x.dec RL (pRaL 1).pre = some true) : x.denB (valX (fnB rods grow) xs) = true := dec_t hR hf h
  have hL1 := d (le (lit 100) (lnX 3 1)) (by kernel_rfl)
  have hL2 := d (le (lnX 3 1) (lit 100000)) (by kernel_rfl)
  simp only [le, lit, X.dB_le, leB_t, X.den_lit] at hL1 hL2
  have e1 := ra77 rods grow xs 1 11 (d _ (by kernel_rfl)) (d _ (by kernel_rfl))
  have e2 := ra78 rods grow xs 1 11 (d _ (by kernel_rfl)) (d _ (by kernel_rfl))
  refine raT_vc 1 11 ⟨hL1, hL2⟩ ?_
  show OT.is _ _ (raO 1)
  simp only [OT.is, raO, spO, SV.den, SV.dens, sub, lit, ap2, X.den_sub, X.den_app, X.den_lit, X.sem_cons, X.sem_nil, e1, e2, nmX, nxX]
theorem pLenL2_ok (rods : List Rod) (grow : List Int) : (pLenL 2).Ok Try.prog (fnB rods grow) := by
  refine un1 (l := [pLow]) (R := RL) (fuel := 200) (fun _ => (.leaf (.int .i64 (.bin .add (.ite (.var 4) (.bin .sub (.lit 0) (.var 1)) (.var 1)) (.ite (.var 8) (.bin .sub (.lit 0) (.var 5)) (.var 5)))))) prog_ok ⟨pLow_ok _, trivial⟩ rfl (RL_ok _ _) rfl rfl ?h ?h' ?_
  case h => kernel_rfl
  case h' => kernel_rfl
  intro xs es hlen hpre hrw
  clear hrw hlen
  ( simp only [OT.vc, LT.vc, OT.is, AllB, RgB, inR, nthR, idsF, fsOf, List.drop, List.flatMap_cons, List.flatMap_nil, List.append_nil, List.getElem?_cons_zero, List.getElem?_cons_succ, rwFs, rwF, List.nil_append, List.cons_append, mix_v, mix_fn, upd_fn, upd_nil, upd_cons, X.one, X.isL, cond_false, valX_fn, valX_v, setM_v, List.mem_cons, List.not_mem_nil, or_false, false_or, or_true, true_or, if_true, if_false, ite_true, ite_false, Nat.reduceEqDiff, SV.den, AV.int.injEq, AV.bool.injEq, true_and, and_true, X.dB_lt, X.dB_le, X.dB_eq, X.denB_and, X.denB_or, X.denB_not, X.denB_lit0, X.denB_lit1, X.den_lit, X.den_var, X.den_add, X.den_sub, X.den_mul, X.den_app, X.den_ite, X.den_wrap, X.dB_ite, cond_tf, X.denB_app, X.denB_var, X.sem_cons, X.sem_nil, leB_t, ltB_t, eqB_t, leB_f, ltB_f, eqB_f, Bool.and_eq_true, Bool.or_eq_true, Bool.not_eq_true', Bool.and_eq_false_iff, Bool.or_eq_false_iff, Bool.not_eq_false', pLenL, lenP, rg, lnX, apl, le, v, lit, i64, List.range, List.range.loop, List.flatMap_cons, List.flatMap_nil, List.foldr, Nat.reduceMul, Nat.reduceAdd, Nat.mul_zero, Nat.add_zero] at *)
  have b0 := lowI_bd (xs.getD 4 0) (len := xs.getD 1 0) (by omega) (by omega)
  have b1 := lowI_bd (xs.getD 8 0) (len := xs.getD 5 0) (by omega) (by omega)
  have e : fnB rods grow 73 [xs.getD 1 0, xs.getD 4 0, xs.getD 5 0, xs.getD 8 0] = clampM 400000 (lnL [xs.getD 1 0, xs.getD 4 0, xs.getD 5 0, xs.getD 8 0]) := rfl
  rw [e, clampM_id (by simp only [lnL]; omega) (by simp only [lnL]; omega)]
  simp only [lnL, lowI]
  omega
theorem pChkL2_ok (rods : List Rod) (grow : List Int) : (pChkL 2).Ok Try.prog (fnB rods grow) := by
  refine un1 (l := [pLow, pSpan, pLenL 2]) (R := RL) (fuel := 200) (fun _ => (.ask (.bin .eq (.var 0) (.lit 3)) (.ask (.not (.bin .eq (.var 14) (.lit 0))) (.leaf (.int .i64 (.lit 2))) (.ask (.bin .lt (.var 13) (.lit 0)) (.leaf (.int .i64 (.lit 2))) (.leaf (.int .i64 (.lit 0))))) (.ask (.bin .eq (.var 0) (.lit 2)) (.ask (.bin .lt (.var 13) (.lit 0)) (.leaf (.int .i64 (.lit 2))) (.leaf (.int .i64 (.lit 0)))) (.ask (.bin .eq (.var 0) (.lit 1)) (.leaf (.int .i64 (.lit 0))) (.leaf (.int .i64 (.lit 2))))))) prog_ok ⟨pLow_ok _, pSpan_ok _, pLenL2_ok _ _, trivial⟩ rfl (RL_ok _ _) rfl rfl ?h ?h' ?_
  case h => kernel_rfl
  case h' => kernel_rfl
  intro xs es hlen hpre hrw
  clear hrw hlen
  ( simp only [OT.vc, LT.vc, OT.is, AllB, RgB, inR, nthR, idsF, fsOf, List.drop, List.flatMap_cons, List.flatMap_nil, List.append_nil, List.getElem?_cons_zero, List.getElem?_cons_succ, rwFs, rwF, List.nil_append, List.cons_append, mix_v, mix_fn, upd_fn, upd_nil, upd_cons, X.one, X.isL, cond_false, valX_fn, valX_v, setM_v, List.mem_cons, List.not_mem_nil, or_false, false_or, or_true, true_or, if_true, if_false, ite_true, ite_false, Nat.reduceEqDiff, SV.den, AV.int.injEq, AV.bool.injEq, true_and, and_true, X.dB_lt, X.dB_le, X.dB_eq, X.denB_and, X.denB_or, X.denB_not, X.denB_lit0, X.denB_lit1, X.den_lit, X.den_var, X.den_add, X.den_sub, X.den_mul, X.den_app, X.den_ite, X.den_wrap, X.dB_ite, cond_tf, X.denB_app, X.denB_var, X.sem_cons, X.sem_nil, leB_t, ltB_t, eqB_t, leB_f, ltB_f, eqB_f, Bool.and_eq_true, Bool.or_eq_true, Bool.not_eq_true', Bool.and_eq_false_iff, Bool.or_eq_false_iff, Bool.not_eq_false', pChkL, clkP, rg, rg2, rodP, lnX, apl, le, eq, an, v, lit, i64, List.range, List.range.loop, List.flatMap_cons, List.flatMap_nil, List.foldr, Nat.reduceMul, Nat.reduceAdd, Nat.mul_zero, Nat.add_zero] at *)
  (repeat' (first | apply And.intro | intro _))
  all_goals first | trivial | omega
theorem pGrL2_ok (rods : List Rod) (grow : List Int) : (pGrL 2).Ok Try.prog (fnB rods grow) := by
  refine un1 (l := [pLow, pScA, pPlus]) (R := RL) (fuel := 200) (fun _ => (.need [(.bin .le (.bin .min (.bin .mul (.var 15) (.ite (.var 6) (.bin .sub (.lit 0) (.var 3)) (.var 3))) (.bin .mul (.var 16) (.ite (.var 6) (.bin .sub (.lit 0) (.var 3)) (.var 3)))) (.bin .max (.bin .mul (.var 15) (.ite (.var 6) (.bin .sub (.lit 0) (.var 3)) (.var 3))) (.bin .mul (.var 16) (.ite (.var 6) (.bin .sub (.lit 0) (.var 3)) (.var 3)))))] (.need [(.bin .le (.bin .min (.bin .mul (.var 17) (.ite (.var 10) (.bin .sub (.lit 0) (.var 7)) (.var 7))) (.bin .mul (.var 18) (.ite (.var 10) (.bin .sub (.lit 0) (.var 7)) (.var 7)))) (.bin .max (.bin .mul (.var 17) (.ite (.var 10) (.bin .sub (.lit 0) (.var 7)) (.var 7))) (.bin .mul (.var 18) (.ite (.var 10) (.bin .sub (.lit 0) (.var 7)) (.var 7)))))] (.leaf (.agg [(.int .i64 (.bin .add (.bin .min (.bin .mul (.var 15) (.ite (.var 6) (.bin .sub (.lit 0) (.var 3)) (.var 3))) (.bin .mul (.var 16) (.ite (.var 6) (.bin .sub (.lit 0) (.var 3)) (.var 3)))) (.bin .min (.bin .mul (.var 17) (.ite (.var 10) (.bin .sub (.lit 0) (.var 7)) (.var 7))) (.bin .mul (.var 18) (.ite (.var 10) (.bin .sub (.lit 0) (.var 7)) (.var 7)))))), (.int .i64 (.bin .add (.bin .max (.bin .mul (.var 15) (.ite (.var 6) (.bin .sub (.lit 0) (.var 3)) (.var 3))) (.bin .mul (.var 16) (.ite (.var 6) (.bin .sub (.lit 0) (.var 3)) (.var 3)))) (.bin .max (.bin .mul (.var 17) (.ite (.var 10) (.bin .sub (.lit 0) (.var 7)) (.var 7))) (.bin .mul (.var 18) (.ite (.var 10) (.bin .sub (.lit 0) (.var 7)) (.var 7))))))]))))) prog_ok ⟨pLow_ok _, pScA_ok _, pPlus_ok _, trivial⟩ rfl (RL_ok _ _) rfl rfl ?h ?h' ?_
  case h => kernel_rfl
  case h' => kernel_rfl
  intro xs es hlen hpre hrw
  clear hrw hlen
  ( simp only [OT.vc, LT.vc, OT.is, AllB, RgB, inR, nthR, idsF, fsOf, List.drop, List.flatMap_cons, List.flatMap_nil, List.append_nil, List.getElem?_cons_zero, List.getElem?_cons_succ, rwFs, rwF, List.nil_append, List.cons_append, mix_v, mix_fn, upd_fn, upd_nil, upd_cons, X.one, X.isL, cond_false, valX_fn, valX_v, setM_v, List.mem_cons, List.not_mem_nil, or_false, false_or, or_true, true_or, if_true, if_false, ite_true, ite_false, Nat.reduceEqDiff, SV.den, AV.int.injEq, AV.bool.injEq, true_and, and_true, X.dB_lt, X.dB_le, X.dB_eq, X.denB_and, X.denB_or, X.denB_not, X.denB_lit0, X.denB_lit1, X.den_lit, X.den_var, X.den_add, X.den_sub, X.den_mul, X.den_app, X.den_ite, X.den_wrap, X.dB_ite, cond_tf, X.denB_app, X.denB_var, X.sem_cons, X.sem_nil, leB_t, ltB_t, eqB_t, leB_f, ltB_f, eqB_f, Bool.and_eq_true, Bool.or_eq_true, Bool.not_eq_true', Bool.and_eq_false_iff, Bool.or_eq_false_iff, Bool.not_eq_false', pGrL, grP, grA, sp, rg, rg2, spO, apl, le, v, lit, i64, List.range, List.range.loop, List.flatMap_cons, List.flatMap_nil, List.foldr, Nat.reduceMul, Nat.reduceAdd, Nat.mul_zero, Nat.add_zero, SV.dens, AV.agg.injEq, List.cons.injEq, X.den_min, X.den_max] at *)
  have b0 := low_mul (xs.getD 6 0) (len := xs.getD 3 0) (g := xs.getD 15 0) (by omega) (by omega) (by omega) (by omega)
  have c0 := low_mul (xs.getD 6 0) (len := xs.getD 3 0) (g := xs.getD 16 0) (by omega) (by omega) (by omega) (by omega)
  have b1 := low_mul (xs.getD 10 0) (len := xs.getD 7 0) (g := xs.getD 17 0) (by omega) (by omega) (by omega) (by omega)
  have c1 := low_mul (xs.getD 10 0) (len := xs.getD 7 0) (g := xs.getD 18 0) (by omega) (by omega) (by omega) (by omega)
  have e1 : fnB rods grow 71 [xs.getD 15 0, xs.getD 16 0, xs.getD 3 0, xs.getD 6 0, xs.getD 17 0, xs.getD 18 0, xs.getD 7 0, xs.getD 10 0] = clampM 20000000000 (gLoL [xs.getD 15 0, xs.getD 16 0, xs.getD 3 0, xs.getD 6 0, xs.getD 17 0, xs.getD 18 0, xs.getD 7 0, xs.getD 10 0]) := rfl
  have e2 : fnB rods grow 72 [xs.getD 15 0, xs.getD 16 0, xs.getD 3 0, xs.getD 6 0, xs.getD 17 0, xs.getD 18 0, xs.getD 7 0, xs.getD 10 0] = clampM 20000000000 (gHiL [xs.getD 15 0, xs.getD 16 0, xs.getD 3 0, xs.getD 6 0, xs.getD 17 0, xs.getD 18 0, xs.getD 7 0, xs.getD 10 0]) := rfl
  rw [e1, e2, clampM_id (by simp only [gLoL]; omega) (by simp only [gLoL]; omega), clampM_id (by simp only [gHiL]; omega) (by simp only [gHiL]; omega)]
  simp only [gLoL, gHiL, cond_low]
  generalize xs.getD 15 0 * lowI (xs.getD 3 0) (xs.getD 6 0) = p0 at *
  generalize xs.getD 16 0 * lowI (xs.getD 3 0) (xs.getD 6 0) = q0 at *
  generalize xs.getD 17 0 * lowI (xs.getD 7 0) (xs.getD 10 0) = p1 at *
  generalize xs.getD 18 0 * lowI (xs.getD 7 0) (xs.getD 10 0) = q1 at *
  omega
theorem pRaL2_ok (rods : List Rod) (grow : List Int) : (pRaL 2).Ok Try.prog (fnB rods grow) := by
  refine un1 (l := [pChkL 2, pSpan, pLow, pLenL 2, pGrL 2, pTimes, pPlus, pScS, pFloor]) (R := RL) (fuel := 400) (fun _ => raT 2 15) prog_ok ⟨pChkL2_ok _ _, pSpan_ok _, pLow_ok _, pLenL2_ok _ _, pGrL2_ok _ _, pTimes_ok _, pPlus_ok _, pScS_ok _, pFloor_ok _ _, trivial⟩ rfl (RL_ok _ _) rfl rfl ?h ?h' ?_
  case h => kernel_rfl
  case h' => kernel_rfl
  intro xs es hlen hpre hrw
  have hR := RL_at rods grow xs
  have hf := allB_fcs hpre
  have d (x : X) (h : x.dec RL (pRaL 2).pre = some true) : x.denB (valX (fnB rods grow) xs) = true := dec_t hR hf h
  have hL1 := d (le (lit 100) (lnX 3 2)) (by kernel_rfl)
  have hL2 := d (le (lnX 3 2) (lit 100000)) (by kernel_rfl)
  simp only [le, lit, X.dB_le, leB_t, X.den_lit] at hL1 hL2
  have e1 := ra77 rods grow xs 2 15 (d _ (by kernel_rfl)) (d _ (by kernel_rfl))
  have e2 := ra78 rods grow xs 2 15 (d _ (by kernel_rfl)) (d _ (by kernel_rfl))
  refine raT_vc 2 15 ⟨hL1, hL2⟩ ?_
  show OT.is _ _ (raO 2)
  simp only [OT.is, raO, spO, SV.den, SV.dens, sub, lit, ap2, X.den_sub, X.den_app, X.den_lit, X.sem_cons, X.sem_nil, e1, e2, nmX, nxX]
theorem pLenL3_ok (rods : List Rod) (grow : List Int) : (pLenL 3).Ok Try.prog (fnB rods grow) := by
  refine un1 (l := [pLow]) (R := RL) (fuel := 200) (fun _ => (.leaf (.int .i64 (.bin .add (.bin .add (.ite (.var 4) (.bin .sub (.lit 0) (.var 1)) (.var 1)) (.ite (.var 8) (.bin .sub (.lit 0) (.var 5)) (.var 5))) (.ite (.var 12) (.bin .sub (.lit 0) (.var 9)) (.var 9)))))) prog_ok ⟨pLow_ok _, trivial⟩ rfl (RL_ok _ _) rfl rfl ?h ?h' ?_
  case h => kernel_rfl
  case h' => kernel_rfl
  intro xs es hlen hpre hrw
  clear hrw hlen
  ( simp only [OT.vc, LT.vc, OT.is, AllB, RgB, inR, nthR, idsF, fsOf, List.drop, List.flatMap_cons, List.flatMap_nil, List.append_nil, List.getElem?_cons_zero, List.getElem?_cons_succ, rwFs, rwF, List.nil_append, List.cons_append, mix_v, mix_fn, upd_fn, upd_nil, upd_cons, X.one, X.isL, cond_false, valX_fn, valX_v, setM_v, List.mem_cons, List.not_mem_nil, or_false, false_or, or_true, true_or, if_true, if_false, ite_true, ite_false, Nat.reduceEqDiff, SV.den, AV.int.injEq, AV.bool.injEq, true_and, and_true, X.dB_lt, X.dB_le, X.dB_eq, X.denB_and, X.denB_or, X.denB_not, X.denB_lit0, X.denB_lit1, X.den_lit, X.den_var, X.den_add, X.den_sub, X.den_mul, X.den_app, X.den_ite, X.den_wrap, X.dB_ite, cond_tf, X.denB_app, X.denB_var, X.sem_cons, X.sem_nil, leB_t, ltB_t, eqB_t, leB_f, ltB_f, eqB_f, Bool.and_eq_true, Bool.or_eq_true, Bool.not_eq_true', Bool.and_eq_false_iff, Bool.or_eq_false_iff, Bool.not_eq_false', pLenL, lenP, rg, lnX, apl, le, v, lit, i64, List.range, List.range.loop, List.flatMap_cons, List.flatMap_nil, List.foldr, Nat.reduceMul, Nat.reduceAdd, Nat.mul_zero, Nat.add_zero] at *)
  have b0 := lowI_bd (xs.getD 4 0) (len := xs.getD 1 0) (by omega) (by omega)
  have b1 := lowI_bd (xs.getD 8 0) (len := xs.getD 5 0) (by omega) (by omega)
  have b2 := lowI_bd (xs.getD 12 0) (len := xs.getD 9 0) (by omega) (by omega)
  have e : fnB rods grow 73 [xs.getD 1 0, xs.getD 4 0, xs.getD 5 0, xs.getD 8 0, xs.getD 9 0, xs.getD 12 0] = clampM 400000 (lnL [xs.getD 1 0, xs.getD 4 0, xs.getD 5 0, xs.getD 8 0, xs.getD 9 0, xs.getD 12 0]) := rfl
  rw [e, clampM_id (by simp only [lnL]; omega) (by simp only [lnL]; omega)]
  simp only [lnL, lowI]
  omega
theorem pChkL3_ok (rods : List Rod) (grow : List Int) : (pChkL 3).Ok Try.prog (fnB rods grow) := by
  refine un1 (l := [pLow, pSpan, pLenL 3]) (R := RL) (fuel := 200) (fun _ => (.ask (.bin .eq (.var 0) (.lit 3)) (.ask (.not (.bin .eq (.var 18) (.lit 0))) (.leaf (.int .i64 (.lit 2))) (.ask (.bin .lt (.var 17) (.lit 0)) (.leaf (.int .i64 (.lit 2))) (.leaf (.int .i64 (.lit 0))))) (.ask (.bin .eq (.var 0) (.lit 2)) (.ask (.bin .lt (.var 17) (.lit 0)) (.leaf (.int .i64 (.lit 2))) (.leaf (.int .i64 (.lit 0)))) (.ask (.bin .eq (.var 0) (.lit 1)) (.leaf (.int .i64 (.lit 0))) (.leaf (.int .i64 (.lit 2))))))) prog_ok ⟨pLow_ok _, pSpan_ok _, pLenL3_ok _ _, trivial⟩ rfl (RL_ok _ _) rfl rfl ?h ?h' ?_
  case h => kernel_rfl
  case h' => kernel_rfl
  intro xs es hlen hpre hrw
  clear hrw hlen
  ( simp only [OT.vc, LT.vc, OT.is, AllB, RgB, inR, nthR, idsF, fsOf, List.drop, List.flatMap_cons, List.flatMap_nil, List.append_nil, List.getElem?_cons_zero, List.getElem?_cons_succ, rwFs, rwF, List.nil_append, List.cons_append, mix_v, mix_fn, upd_fn, upd_nil, upd_cons, X.one, X.isL, cond_false, valX_fn, valX_v, setM_v, List.mem_cons, List.not_mem_nil, or_false, false_or, or_true, true_or, if_true, if_false, ite_true, ite_false, Nat.reduceEqDiff, SV.den, AV.int.injEq, AV.bool.injEq, true_and, and_true, X.dB_lt, X.dB_le, X.dB_eq, X.denB_and, X.denB_or, X.denB_not, X.denB_lit0, X.denB_lit1, X.den_lit, X.den_var, X.den_add, X.den_sub, X.den_mul, X.den_app, X.den_ite, X.den_wrap, X.dB_ite, cond_tf, X.denB_app, X.denB_var, X.sem_cons, X.sem_nil, leB_t, ltB_t, eqB_t, leB_f, ltB_f, eqB_f, Bool.and_eq_true, Bool.or_eq_true, Bool.not_eq_true', Bool.and_eq_false_iff, Bool.or_eq_false_iff, Bool.not_eq_false', pChkL, clkP, rg, rg2, rodP, lnX, apl, le, eq, an, v, lit, i64, List.range, List.range.loop, List.flatMap_cons, List.flatMap_nil, List.foldr, Nat.reduceMul, Nat.reduceAdd, Nat.mul_zero, Nat.add_zero] at *)
  (repeat' (first | apply And.intro | intro _))
  all_goals first | trivial | omega
theorem pGrL3_ok (rods : List Rod) (grow : List Int) : (pGrL 3).Ok Try.prog (fnB rods grow) := by
  refine un1 (l := [pLow, pScA, pPlus]) (R := RL) (fuel := 200) (fun _ => (.need [(.bin .le (.bin .min (.bin .mul (.var 19) (.ite (.var 6) (.bin .sub (.lit 0) (.var 3)) (.var 3))) (.bin .mul (.var 20) (.ite (.var 6) (.bin .sub (.lit 0) (.var 3)) (.var 3)))) (.bin .max (.bin .mul (.var 19) (.ite (.var 6) (.bin .sub (.lit 0) (.var 3)) (.var 3))) (.bin .mul (.var 20) (.ite (.var 6) (.bin .sub (.lit 0) (.var 3)) (.var 3)))))] (.need [(.bin .le (.bin .min (.bin .mul (.var 21) (.ite (.var 10) (.bin .sub (.lit 0) (.var 7)) (.var 7))) (.bin .mul (.var 22) (.ite (.var 10) (.bin .sub (.lit 0) (.var 7)) (.var 7)))) (.bin .max (.bin .mul (.var 21) (.ite (.var 10) (.bin .sub (.lit 0) (.var 7)) (.var 7))) (.bin .mul (.var 22) (.ite (.var 10) (.bin .sub (.lit 0) (.var 7)) (.var 7)))))] (.need [(.bin .le (.bin .add (.bin .min (.bin .mul (.var 19) (.ite (.var 6) (.bin .sub (.lit 0) (.var 3)) (.var 3))) (.bin .mul (.var 20) (.ite (.var 6) (.bin .sub (.lit 0) (.var 3)) (.var 3)))) (.bin .min (.bin .mul (.var 21) (.ite (.var 10) (.bin .sub (.lit 0) (.var 7)) (.var 7))) (.bin .mul (.var 22) (.ite (.var 10) (.bin .sub (.lit 0) (.var 7)) (.var 7))))) (.bin .add (.bin .max (.bin .mul (.var 19) (.ite (.var 6) (.bin .sub (.lit 0) (.var 3)) (.var 3))) (.bin .mul (.var 20) (.ite (.var 6) (.bin .sub (.lit 0) (.var 3)) (.var 3)))) (.bin .max (.bin .mul (.var 21) (.ite (.var 10) (.bin .sub (.lit 0) (.var 7)) (.var 7))) (.bin .mul (.var 22) (.ite (.var 10) (.bin .sub (.lit 0) (.var 7)) (.var 7)))))), (.bin .le (.bin .min (.bin .mul (.var 23) (.ite (.var 14) (.bin .sub (.lit 0) (.var 11)) (.var 11))) (.bin .mul (.var 24) (.ite (.var 14) (.bin .sub (.lit 0) (.var 11)) (.var 11)))) (.bin .max (.bin .mul (.var 23) (.ite (.var 14) (.bin .sub (.lit 0) (.var 11)) (.var 11))) (.bin .mul (.var 24) (.ite (.var 14) (.bin .sub (.lit 0) (.var 11)) (.var 11)))))] (.leaf (.agg [(.int .i64 (.bin .add (.bin .add (.bin .min (.bin .mul (.var 19) (.ite (.var 6) (.bin .sub (.lit 0) (.var 3)) (.var 3))) (.bin .mul (.var 20) (.ite (.var 6) (.bin .sub (.lit 0) (.var 3)) (.var 3)))) (.bin .min (.bin .mul (.var 21) (.ite (.var 10) (.bin .sub (.lit 0) (.var 7)) (.var 7))) (.bin .mul (.var 22) (.ite (.var 10) (.bin .sub (.lit 0) (.var 7)) (.var 7))))) (.bin .min (.bin .mul (.var 23) (.ite (.var 14) (.bin .sub (.lit 0) (.var 11)) (.var 11))) (.bin .mul (.var 24) (.ite (.var 14) (.bin .sub (.lit 0) (.var 11)) (.var 11)))))), (.int .i64 (.bin .add (.bin .add (.bin .max (.bin .mul (.var 19) (.ite (.var 6) (.bin .sub (.lit 0) (.var 3)) (.var 3))) (.bin .mul (.var 20) (.ite (.var 6) (.bin .sub (.lit 0) (.var 3)) (.var 3)))) (.bin .max (.bin .mul (.var 21) (.ite (.var 10) (.bin .sub (.lit 0) (.var 7)) (.var 7))) (.bin .mul (.var 22) (.ite (.var 10) (.bin .sub (.lit 0) (.var 7)) (.var 7))))) (.bin .max (.bin .mul (.var 23) (.ite (.var 14) (.bin .sub (.lit 0) (.var 11)) (.var 11))) (.bin .mul (.var 24) (.ite (.var 14) (.bin .sub (.lit 0) (.var 11)) (.var 11))))))])))))) prog_ok ⟨pLow_ok _, pScA_ok _, pPlus_ok _, trivial⟩ rfl (RL_ok _ _) rfl rfl ?h ?h' ?_
  case h => kernel_rfl
  case h' => kernel_rfl
  intro xs es hlen hpre hrw
  clear hrw hlen
  ( simp only [OT.vc, LT.vc, OT.is, AllB, RgB, inR, nthR, idsF, fsOf, List.drop, List.flatMap_cons, List.flatMap_nil, List.append_nil, List.getElem?_cons_zero, List.getElem?_cons_succ, rwFs, rwF, List.nil_append, List.cons_append, mix_v, mix_fn, upd_fn, upd_nil, upd_cons, X.one, X.isL, cond_false, valX_fn, valX_v, setM_v, List.mem_cons, List.not_mem_nil, or_false, false_or, or_true, true_or, if_true, if_false, ite_true, ite_false, Nat.reduceEqDiff, SV.den, AV.int.injEq, AV.bool.injEq, true_and, and_true, X.dB_lt, X.dB_le, X.dB_eq, X.denB_and, X.denB_or, X.denB_not, X.denB_lit0, X.denB_lit1, X.den_lit, X.den_var, X.den_add, X.den_sub, X.den_mul, X.den_app, X.den_ite, X.den_wrap, X.dB_ite, cond_tf, X.denB_app, X.denB_var, X.sem_cons, X.sem_nil, leB_t, ltB_t, eqB_t, leB_f, ltB_f, eqB_f, Bool.and_eq_true, Bool.or_eq_true, Bool.not_eq_true', Bool.and_eq_false_iff, Bool.or_eq_false_iff, Bool.not_eq_false', pGrL, grP, grA, sp, rg, rg2, spO, apl, le, v, lit, i64, List.range, List.range.loop, List.flatMap_cons, List.flatMap_nil, List.foldr, Nat.reduceMul, Nat.reduceAdd, Nat.mul_zero, Nat.add_zero, SV.dens, AV.agg.injEq, List.cons.injEq, X.den_min, X.den_max] at *)
  have b0 := low_mul (xs.getD 6 0) (len := xs.getD 3 0) (g := xs.getD 19 0) (by omega) (by omega) (by omega) (by omega)
  have c0 := low_mul (xs.getD 6 0) (len := xs.getD 3 0) (g := xs.getD 20 0) (by omega) (by omega) (by omega) (by omega)
  have b1 := low_mul (xs.getD 10 0) (len := xs.getD 7 0) (g := xs.getD 21 0) (by omega) (by omega) (by omega) (by omega)
  have c1 := low_mul (xs.getD 10 0) (len := xs.getD 7 0) (g := xs.getD 22 0) (by omega) (by omega) (by omega) (by omega)
  have b2 := low_mul (xs.getD 14 0) (len := xs.getD 11 0) (g := xs.getD 23 0) (by omega) (by omega) (by omega) (by omega)
  have c2 := low_mul (xs.getD 14 0) (len := xs.getD 11 0) (g := xs.getD 24 0) (by omega) (by omega) (by omega) (by omega)
  have e1 : fnB rods grow 71 [xs.getD 19 0, xs.getD 20 0, xs.getD 3 0, xs.getD 6 0, xs.getD 21 0, xs.getD 22 0, xs.getD 7 0, xs.getD 10 0, xs.getD 23 0, xs.getD 24 0, xs.getD 11 0, xs.getD 14 0] = clampM 20000000000 (gLoL [xs.getD 19 0, xs.getD 20 0, xs.getD 3 0, xs.getD 6 0, xs.getD 21 0, xs.getD 22 0, xs.getD 7 0, xs.getD 10 0, xs.getD 23 0, xs.getD 24 0, xs.getD 11 0, xs.getD 14 0]) := rfl
  have e2 : fnB rods grow 72 [xs.getD 19 0, xs.getD 20 0, xs.getD 3 0, xs.getD 6 0, xs.getD 21 0, xs.getD 22 0, xs.getD 7 0, xs.getD 10 0, xs.getD 23 0, xs.getD 24 0, xs.getD 11 0, xs.getD 14 0] = clampM 20000000000 (gHiL [xs.getD 19 0, xs.getD 20 0, xs.getD 3 0, xs.getD 6 0, xs.getD 21 0, xs.getD 22 0, xs.getD 7 0, xs.getD 10 0, xs.getD 23 0, xs.getD 24 0, xs.getD 11 0, xs.getD 14 0]) := rfl
  rw [e1, e2, clampM_id (by simp only [gLoL]; omega) (by simp only [gLoL]; omega), clampM_id (by simp only [gHiL]; omega) (by simp only [gHiL]; omega)]
  simp only [gLoL, gHiL, cond_low]
  generalize xs.getD 19 0 * lowI (xs.getD 3 0) (xs.getD 6 0) = p0 at *
  generalize xs.getD 20 0 * lowI (xs.getD 3 0) (xs.getD 6 0) = q0 at *
  generalize xs.getD 21 0 * lowI (xs.getD 7 0) (xs.getD 10 0) = p1 at *
  generalize xs.getD 22 0 * lowI (xs.getD 7 0) (xs.getD 10 0) = q1 at *
  generalize xs.getD 23 0 * lowI (xs.getD 11 0) (xs.getD 14 0) = p2 at *
  generalize xs.getD 24 0 * lowI (xs.getD 11 0) (xs.getD 14 0) = q2 at *
  omega
theorem pRaL3_ok (rods : List Rod) (grow : List Int) : (pRaL 3).Ok Try.prog (fnB rods grow) := by
  refine un1 (l := [pChkL 3, pSpan, pLow, pLenL 3, pGrL 3, pTimes, pPlus, pScS, pFloor]) (R := RL) (fuel := 400) (fun _ => raT 3 19) prog_ok ⟨pChkL3_ok _ _, pSpan_ok _, pLow_ok _, pLenL3_ok _ _, pGrL3_ok _ _, pTimes_ok _, pPlus_ok _, pScS_ok _, pFloor_ok _ _, trivial⟩ rfl (RL_ok _ _) rfl rfl ?h ?h' ?_
  case h => kernel_rfl
  case h' => kernel_rfl
  intro xs es hlen hpre hrw
  have hR := RL_at rods grow xs
  have hf := allB_fcs hpre
  have d (x : X) (h : x.dec RL (pRaL 3).pre = some true) : x.denB (valX (fnB rods grow) xs) = true := dec_t hR hf h
  have hL1 := d (le (lit 100) (lnX 3 3)) (by kernel_rfl)
  have hL2 := d (le (lnX 3 3) (lit 100000)) (by kernel_rfl)
  simp only [le, lit, X.dB_le, leB_t, X.den_lit] at hL1 hL2
  have e1 := ra77 rods grow xs 3 19 (d _ (by kernel_rfl)) (d _ (by kernel_rfl))
  have e2 := ra78 rods grow xs 3 19 (d _ (by kernel_rfl)) (d _ (by kernel_rfl))
  refine raT_vc 3 19 ⟨hL1, hL2⟩ ?_
  show OT.is _ _ (raO 3)
  simp only [OT.is, raO, spO, SV.den, SV.dens, sub, lit, ap2, X.den_sub, X.den_app, X.den_lit, X.sem_cons, X.sem_nil, e1, e2, nmX, nxX]
theorem pLenL4_ok (rods : List Rod) (grow : List Int) : (pLenL 4).Ok Try.prog (fnB rods grow) := by
  refine un1 (l := [pLow]) (R := RL) (fuel := 200) (fun _ => (.leaf (.int .i64 (.bin .add (.bin .add (.bin .add (.ite (.var 4) (.bin .sub (.lit 0) (.var 1)) (.var 1)) (.ite (.var 8) (.bin .sub (.lit 0) (.var 5)) (.var 5))) (.ite (.var 12) (.bin .sub (.lit 0) (.var 9)) (.var 9))) (.ite (.var 16) (.bin .sub (.lit 0) (.var 13)) (.var 13)))))) prog_ok ⟨pLow_ok _, trivial⟩ rfl (RL_ok _ _) rfl rfl ?h ?h' ?_
  case h => kernel_rfl
  case h' => kernel_rfl
  intro xs es hlen hpre hrw
  clear hrw hlen
  ( simp only [OT.vc, LT.vc, OT.is, AllB, RgB, inR, nthR, idsF, fsOf, List.drop, List.flatMap_cons, List.flatMap_nil, List.append_nil, List.getElem?_cons_zero, List.getElem?_cons_succ, rwFs, rwF, List.nil_append, List.cons_append, mix_v, mix_fn, upd_fn, upd_nil, upd_cons, X.one, X.isL, cond_false, valX_fn, valX_v, setM_v, List.mem_cons, List.not_mem_nil, or_false, false_or, or_true, true_or, if_true, if_false, ite_true, ite_false, Nat.reduceEqDiff, SV.den, AV.int.injEq, AV.bool.injEq, true_and, and_true, X.dB_lt, X.dB_le, X.dB_eq, X.denB_and, X.denB_or, X.denB_not, X.denB_lit0, X.denB_lit1, X.den_lit, X.den_var, X.den_add, X.den_sub, X.den_mul, X.den_app, X.den_ite, X.den_wrap, X.dB_ite, cond_tf, X.denB_app, X.denB_var, X.sem_cons, X.sem_nil, leB_t, ltB_t, eqB_t, leB_f, ltB_f, eqB_f, Bool.and_eq_true, Bool.or_eq_true, Bool.not_eq_true', Bool.and_eq_false_iff, Bool.or_eq_false_iff, Bool.not_eq_false', pLenL, lenP, rg, lnX, apl, le, v, lit, i64, List.range, List.range.loop, List.flatMap_cons, List.flatMap_nil, List.foldr, Nat.reduceMul, Nat.reduceAdd, Nat.mul_zero, Nat.add_zero] at *)
  have b0 := lowI_bd (xs.getD 4 0) (len := xs.getD 1 0) (by omega) (by omega)
  have b1 := lowI_bd (xs.getD 8 0) (len := xs.getD 5 0) (by omega) (by omega)
  have b2 := lowI_bd (xs.getD 12 0) (len := xs.getD 9 0) (by omega) (by omega)
  have b3 := lowI_bd (xs.getD 16 0) (len := xs.getD 13 0) (by omega) (by omega)
  have e : fnB rods grow 73 [xs.getD 1 0, xs.getD 4 0, xs.getD 5 0, xs.getD 8 0, xs.getD 9 0, xs.getD 12 0, xs.getD 13 0, xs.getD 16 0] = clampM 400000 (lnL [xs.getD 1 0, xs.getD 4 0, xs.getD 5 0, xs.getD 8 0, xs.getD 9 0, xs.getD 12 0, xs.getD 13 0, xs.getD 16 0]) := rfl
  rw [e, clampM_id (by simp only [lnL]; omega) (by simp only [lnL]; omega)]
  simp only [lnL, lowI]
  omega
theorem pChkL4_ok (rods : List Rod) (grow : List Int) : (pChkL 4).Ok Try.prog (fnB rods grow) := by
  refine un1 (l := [pLow, pSpan, pLenL 4]) (R := RL) (fuel := 200) (fun _ => (.ask (.bin .eq (.var 0) (.lit 3)) (.ask (.not (.bin .eq (.var 22) (.lit 0))) (.leaf (.int .i64 (.lit 2))) (.ask (.bin .lt (.var 21) (.lit 0)) (.leaf (.int .i64 (.lit 2))) (.leaf (.int .i64 (.lit 0))))) (.ask (.bin .eq (.var 0) (.lit 2)) (.ask (.bin .lt (.var 21) (.lit 0)) (.leaf (.int .i64 (.lit 2))) (.leaf (.int .i64 (.lit 0)))) (.ask (.bin .eq (.var 0) (.lit 1)) (.leaf (.int .i64 (.lit 0))) (.leaf (.int .i64 (.lit 2))))))) prog_ok ⟨pLow_ok _, pSpan_ok _, pLenL4_ok _ _, trivial⟩ rfl (RL_ok _ _) rfl rfl ?h ?h' ?_
  case h => kernel_rfl
  case h' => kernel_rfl
  intro xs es hlen hpre hrw
  clear hrw hlen
  ( simp only [OT.vc, LT.vc, OT.is, AllB, RgB, inR, nthR, idsF, fsOf, List.drop, List.flatMap_cons, List.flatMap_nil, List.append_nil, List.getElem?_cons_zero, List.getElem?_cons_succ, rwFs, rwF, List.nil_append, List.cons_append, mix_v, mix_fn, upd_fn, upd_nil, upd_cons, X.one, X.isL, cond_false, valX_fn, valX_v, setM_v, List.mem_cons, List.not_mem_nil, or_false, false_or, or_true, true_or, if_true, if_false, ite_true, ite_false, Nat.reduceEqDiff, SV.den, AV.int.injEq, AV.bool.injEq, true_and, and_true, X.dB_lt, X.dB_le, X.dB_eq, X.denB_and, X.denB_or, X.denB_not, X.denB_lit0, X.denB_lit1, X.den_lit, X.den_var, X.den_add, X.den_sub, X.den_mul, X.den_app, X.den_ite, X.den_wrap, X.dB_ite, cond_tf, X.denB_app, X.denB_var, X.sem_cons, X.sem_nil, leB_t, ltB_t, eqB_t, leB_f, ltB_f, eqB_f, Bool.and_eq_true, Bool.or_eq_true, Bool.not_eq_true', Bool.and_eq_false_iff, Bool.or_eq_false_iff, Bool.not_eq_false', pChkL, clkP, rg, rg2, rodP, lnX, apl, le, eq, an, v, lit, i64, List.range, List.range.loop, List.flatMap_cons, List.flatMap_nil, List.foldr, Nat.reduceMul, Nat.reduceAdd, Nat.mul_zero, Nat.add_zero] at *)
  (repeat' (first | apply And.intro | intro _))
  all_goals first | trivial | omega
theorem pGrL4_ok (rods : List Rod) (grow : List Int) : (pGrL 4).Ok Try.prog (fnB rods grow) := by
  refine un1 (l := [pLow, pScA, pPlus]) (R := RL) (fuel := 200) (fun _ => (.need [(.bin .le (.bin .min (.bin .mul (.var 23) (.ite (.var 6) (.bin .sub (.lit 0) (.var 3)) (.var 3))) (.bin .mul (.var 24) (.ite (.var 6) (.bin .sub (.lit 0) (.var 3)) (.var 3)))) (.bin .max (.bin .mul (.var 23) (.ite (.var 6) (.bin .sub (.lit 0) (.var 3)) (.var 3))) (.bin .mul (.var 24) (.ite (.var 6) (.bin .sub (.lit 0) (.var 3)) (.var 3)))))] (.need [(.bin .le (.bin .min (.bin .mul (.var 25) (.ite (.var 10) (.bin .sub (.lit 0) (.var 7)) (.var 7))) (.bin .mul (.var 26) (.ite (.var 10) (.bin .sub (.lit 0) (.var 7)) (.var 7)))) (.bin .max (.bin .mul (.var 25) (.ite (.var 10) (.bin .sub (.lit 0) (.var 7)) (.var 7))) (.bin .mul (.var 26) (.ite (.var 10) (.bin .sub (.lit 0) (.var 7)) (.var 7)))))] (.need [(.bin .le (.bin .add (.bin .min (.bin .mul (.var 23) (.ite (.var 6) (.bin .sub (.lit 0) (.var 3)) (.var 3))) (.bin .mul (.var 24) (.ite (.var 6) (.bin .sub (.lit 0) (.var 3)) (.var 3)))) (.bin .min (.bin .mul (.var 25) (.ite (.var 10) (.bin .sub (.lit 0) (.var 7)) (.var 7))) (.bin .mul (.var 26) (.ite (.var 10) (.bin .sub (.lit 0) (.var 7)) (.var 7))))) (.bin .add (.bin .max (.bin .mul (.var 23) (.ite (.var 6) (.bin .sub (.lit 0) (.var 3)) (.var 3))) (.bin .mul (.var 24) (.ite (.var 6) (.bin .sub (.lit 0) (.var 3)) (.var 3)))) (.bin .max (.bin .mul (.var 25) (.ite (.var 10) (.bin .sub (.lit 0) (.var 7)) (.var 7))) (.bin .mul (.var 26) (.ite (.var 10) (.bin .sub (.lit 0) (.var 7)) (.var 7)))))), (.bin .le (.bin .min (.bin .mul (.var 27) (.ite (.var 14) (.bin .sub (.lit 0) (.var 11)) (.var 11))) (.bin .mul (.var 28) (.ite (.var 14) (.bin .sub (.lit 0) (.var 11)) (.var 11)))) (.bin .max (.bin .mul (.var 27) (.ite (.var 14) (.bin .sub (.lit 0) (.var 11)) (.var 11))) (.bin .mul (.var 28) (.ite (.var 14) (.bin .sub (.lit 0) (.var 11)) (.var 11)))))] (.need [(.bin .le (.bin .add (.bin .add (.bin .min (.bin .mul (.var 23) (.ite (.var 6) (.bin .sub (.lit 0) (.var 3)) (.var 3))) (.bin .mul (.var 24) (.ite (.var 6) (.bin .sub (.lit 0) (.var 3)) (.var 3)))) (.bin .min (.bin .mul (.var 25) (.ite (.var 10) (.bin .sub (.lit 0) (.var 7)) (.var 7))) (.bin .mul (.var 26) (.ite (.var 10) (.bin .sub (.lit 0) (.var 7)) (.var 7))))) (.bin .min (.bin .mul (.var 27) (.ite (.var 14) (.bin .sub (.lit 0) (.var 11)) (.var 11))) (.bin .mul (.var 28) (.ite (.var 14) (.bin .sub (.lit 0) (.var 11)) (.var 11))))) (.bin .add (.bin .add (.bin .max (.bin .mul (.var 23) (.ite (.var 6) (.bin .sub (.lit 0) (.var 3)) (.var 3))) (.bin .mul (.var 24) (.ite (.var 6) (.bin .sub (.lit 0) (.var 3)) (.var 3)))) (.bin .max (.bin .mul (.var 25) (.ite (.var 10) (.bin .sub (.lit 0) (.var 7)) (.var 7))) (.bin .mul (.var 26) (.ite (.var 10) (.bin .sub (.lit 0) (.var 7)) (.var 7))))) (.bin .max (.bin .mul (.var 27) (.ite (.var 14) (.bin .sub (.lit 0) (.var 11)) (.var 11))) (.bin .mul (.var 28) (.ite (.var 14) (.bin .sub (.lit 0) (.var 11)) (.var 11)))))), (.bin .le (.bin .min (.bin .mul (.var 29) (.ite (.var 18) (.bin .sub (.lit 0) (.var 15)) (.var 15))) (.bin .mul (.var 30) (.ite (.var 18) (.bin .sub (.lit 0) (.var 15)) (.var 15)))) (.bin .max (.bin .mul (.var 29) (.ite (.var 18) (.bin .sub (.lit 0) (.var 15)) (.var 15))) (.bin .mul (.var 30) (.ite (.var 18) (.bin .sub (.lit 0) (.var 15)) (.var 15)))))] (.leaf (.agg [(.int .i64 (.bin .add (.bin .add (.bin .add (.bin .min (.bin .mul (.var 23) (.ite (.var 6) (.bin .sub (.lit 0) (.var 3)) (.var 3))) (.bin .mul (.var 24) (.ite (.var 6) (.bin .sub (.lit 0) (.var 3)) (.var 3)))) (.bin .min (.bin .mul (.var 25) (.ite (.var 10) (.bin .sub (.lit 0) (.var 7)) (.var 7))) (.bin .mul (.var 26) (.ite (.var 10) (.bin .sub (.lit 0) (.var 7)) (.var 7))))) (.bin .min (.bin .mul (.var 27) (.ite (.var 14) (.bin .sub (.lit 0) (.var 11)) (.var 11))) (.bin .mul (.var 28) (.ite (.var 14) (.bin .sub (.lit 0) (.var 11)) (.var 11))))) (.bin .min (.bin .mul (.var 29) (.ite (.var 18) (.bin .sub (.lit 0) (.var 15)) (.var 15))) (.bin .mul (.var 30) (.ite (.var 18) (.bin .sub (.lit 0) (.var 15)) (.var 15)))))), (.int .i64 (.bin .add (.bin .add (.bin .add (.bin .max (.bin .mul (.var 23) (.ite (.var 6) (.bin .sub (.lit 0) (.var 3)) (.var 3))) (.bin .mul (.var 24) (.ite (.var 6) (.bin .sub (.lit 0) (.var 3)) (.var 3)))) (.bin .max (.bin .mul (.var 25) (.ite (.var 10) (.bin .sub (.lit 0) (.var 7)) (.var 7))) (.bin .mul (.var 26) (.ite (.var 10) (.bin .sub (.lit 0) (.var 7)) (.var 7))))) (.bin .max (.bin .mul (.var 27) (.ite (.var 14) (.bin .sub (.lit 0) (.var 11)) (.var 11))) (.bin .mul (.var 28) (.ite (.var 14) (.bin .sub (.lit 0) (.var 11)) (.var 11))))) (.bin .max (.bin .mul (.var 29) (.ite (.var 18) (.bin .sub (.lit 0) (.var 15)) (.var 15))) (.bin .mul (.var 30) (.ite (.var 18) (.bin .sub (.lit 0) (.var 15)) (.var 15))))))]))))))) prog_ok ⟨pLow_ok _, pScA_ok _, pPlus_ok _, trivial⟩ rfl (RL_ok _ _) rfl rfl ?h ?h' ?_
  case h => kernel_rfl
  case h' => kernel_rfl
  intro xs es hlen hpre hrw
  clear hrw hlen
  ( simp only [OT.vc, LT.vc, OT.is, AllB, RgB, inR, nthR, idsF, fsOf, List.drop, List.flatMap_cons, List.flatMap_nil, List.append_nil, List.getElem?_cons_zero, List.getElem?_cons_succ, rwFs, rwF, List.nil_append, List.cons_append, mix_v, mix_fn, upd_fn, upd_nil, upd_cons, X.one, X.isL, cond_false, valX_fn, valX_v, setM_v, List.mem_cons, List.not_mem_nil, or_false, false_or, or_true, true_or, if_true, if_false, ite_true, ite_false, Nat.reduceEqDiff, SV.den, AV.int.injEq, AV.bool.injEq, true_and, and_true, X.dB_lt, X.dB_le, X.dB_eq, X.denB_and, X.denB_or, X.denB_not, X.denB_lit0, X.denB_lit1, X.den_lit, X.den_var, X.den_add, X.den_sub, X.den_mul, X.den_app, X.den_ite, X.den_wrap, X.dB_ite, cond_tf, X.denB_app, X.denB_var, X.sem_cons, X.sem_nil, leB_t, ltB_t, eqB_t, leB_f, ltB_f, eqB_f, Bool.and_eq_true, Bool.or_eq_true, Bool.not_eq_true', Bool.and_eq_false_iff, Bool.or_eq_false_iff, Bool.not_eq_false', pGrL, grP, grA, sp, rg, rg2, spO, apl, le, v, lit, i64, List.range, List.range.loop, List.flatMap_cons, List.flatMap_nil, List.foldr, Nat.reduceMul, Nat.reduceAdd, Nat.mul_zero, Nat.add_zero, SV.dens, AV.agg.injEq, List.cons.injEq, X.den_min, X.den_max] at *)
  have b0 := low_mul (xs.getD 6 0) (len := xs.getD 3 0) (g := xs.getD 23 0) (by omega) (by omega) (by omega) (by omega)
  have c0 := low_mul (xs.getD 6 0) (len := xs.getD 3 0) (g := xs.getD 24 0) (by omega) (by omega) (by omega) (by omega)
  have b1 := low_mul (xs.getD 10 0) (len := xs.getD 7 0) (g := xs.getD 25 0) (by omega) (by omega) (by omega) (by omega)
  have c1 := low_mul (xs.getD 10 0) (len := xs.getD 7 0) (g := xs.getD 26 0) (by omega) (by omega) (by omega) (by omega)
  have b2 := low_mul (xs.getD 14 0) (len := xs.getD 11 0) (g := xs.getD 27 0) (by omega) (by omega) (by omega) (by omega)
  have c2 := low_mul (xs.getD 14 0) (len := xs.getD 11 0) (g := xs.getD 28 0) (by omega) (by omega) (by omega) (by omega)
  have b3 := low_mul (xs.getD 18 0) (len := xs.getD 15 0) (g := xs.getD 29 0) (by omega) (by omega) (by omega) (by omega)
  have c3 := low_mul (xs.getD 18 0) (len := xs.getD 15 0) (g := xs.getD 30 0) (by omega) (by omega) (by omega) (by omega)
  have e1 : fnB rods grow 71 [xs.getD 23 0, xs.getD 24 0, xs.getD 3 0, xs.getD 6 0, xs.getD 25 0, xs.getD 26 0, xs.getD 7 0, xs.getD 10 0, xs.getD 27 0, xs.getD 28 0, xs.getD 11 0, xs.getD 14 0, xs.getD 29 0, xs.getD 30 0, xs.getD 15 0, xs.getD 18 0] = clampM 20000000000 (gLoL [xs.getD 23 0, xs.getD 24 0, xs.getD 3 0, xs.getD 6 0, xs.getD 25 0, xs.getD 26 0, xs.getD 7 0, xs.getD 10 0, xs.getD 27 0, xs.getD 28 0, xs.getD 11 0, xs.getD 14 0, xs.getD 29 0, xs.getD 30 0, xs.getD 15 0, xs.getD 18 0]) := rfl
  have e2 : fnB rods grow 72 [xs.getD 23 0, xs.getD 24 0, xs.getD 3 0, xs.getD 6 0, xs.getD 25 0, xs.getD 26 0, xs.getD 7 0, xs.getD 10 0, xs.getD 27 0, xs.getD 28 0, xs.getD 11 0, xs.getD 14 0, xs.getD 29 0, xs.getD 30 0, xs.getD 15 0, xs.getD 18 0] = clampM 20000000000 (gHiL [xs.getD 23 0, xs.getD 24 0, xs.getD 3 0, xs.getD 6 0, xs.getD 25 0, xs.getD 26 0, xs.getD 7 0, xs.getD 10 0, xs.getD 27 0, xs.getD 28 0, xs.getD 11 0, xs.getD 14 0, xs.getD 29 0, xs.getD 30 0, xs.getD 15 0, xs.getD 18 0]) := rfl
  rw [e1, e2, clampM_id (by simp only [gLoL]; omega) (by simp only [gLoL]; omega), clampM_id (by simp only [gHiL]; omega) (by simp only [gHiL]; omega)]
  simp only [gLoL, gHiL, cond_low]
  generalize xs.getD 23 0 * lowI (xs.getD 3 0) (xs.getD 6 0) = p0 at *
  generalize xs.getD 24 0 * lowI (xs.getD 3 0) (xs.getD 6 0) = q0 at *
  generalize xs.getD 25 0 * lowI (xs.getD 7 0) (xs.getD 10 0) = p1 at *
  generalize xs.getD 26 0 * lowI (xs.getD 7 0) (xs.getD 10 0) = q1 at *
  generalize xs.getD 27 0 * lowI (xs.getD 11 0) (xs.getD 14 0) = p2 at *
  generalize xs.getD 28 0 * lowI (xs.getD 11 0) (xs.getD 14 0) = q2 at *
  generalize xs.getD 29 0 * lowI (xs.getD 15 0) (xs.getD 18 0) = p3 at *
  generalize xs.getD 30 0 * lowI (xs.getD 15 0) (xs.getD 18 0) = q3 at *
  omega
theorem pRaL4_ok (rods : List Rod) (grow : List Int) : (pRaL 4).Ok Try.prog (fnB rods grow) := by
  refine un1 (l := [pChkL 4, pSpan, pLow, pLenL 4, pGrL 4, pTimes, pPlus, pScS, pFloor]) (R := RL) (fuel := 400) (fun _ => raT 4 23) prog_ok ⟨pChkL4_ok _ _, pSpan_ok _, pLow_ok _, pLenL4_ok _ _, pGrL4_ok _ _, pTimes_ok _, pPlus_ok _, pScS_ok _, pFloor_ok _ _, trivial⟩ rfl (RL_ok _ _) rfl rfl ?h ?h' ?_
  case h => kernel_rfl
  case h' => kernel_rfl
  intro xs es hlen hpre hrw
  have hR := RL_at rods grow xs
  have hf := allB_fcs hpre
  have d (x : X) (h : x.dec RL (pRaL 4).pre = some true) : x.denB (valX (fnB rods grow) xs) = true := dec_t hR hf h
  have hL1 := d (le (lit 100) (lnX 3 4)) (by kernel_rfl)
  have hL2 := d (le (lnX 3 4) (lit 100000)) (by kernel_rfl)
  simp only [le, lit, X.dB_le, leB_t, X.den_lit] at hL1 hL2
  have e1 := ra77 rods grow xs 4 23 (d _ (by kernel_rfl)) (d _ (by kernel_rfl))
  have e2 := ra78 rods grow xs 4 23 (d _ (by kernel_rfl)) (d _ (by kernel_rfl))
  refine raT_vc 4 23 ⟨hL1, hL2⟩ ?_
  show OT.is _ _ (raO 4)
  simp only [OT.is, raO, spO, SV.den, SV.dens, sub, lit, ap2, X.den_sub, X.den_app, X.den_lit, X.sem_cons, X.sem_nil, e1, e2, nmX, nxX]
end Be
end Go.Proofs.Ytgpdodkcfiefjaa
