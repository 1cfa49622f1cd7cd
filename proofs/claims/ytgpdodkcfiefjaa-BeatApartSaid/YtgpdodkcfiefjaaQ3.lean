/- Clocks whose rods are written out: Change. -/
import Derived.Test.YtgpdodkcfiefjaaQ2
set_option linter.unusedSimpArgs false
set_option linter.unusedVariables false
namespace Go.Proofs.Ytgpdodkcfiefjaa
open Abs Sx
set_option maxRecDepth 100000
namespace Be
def gaT (n : Nat) (hl hh pl ph q1 q2 fl fh : X) (fin : X → X → SV) : OT SV :=
  let gl := apl 71 (ownA n); let gh := apl 72 (ownA n); let U := unX n
  let h1 := m4 .min gl gh hl hh; let h2 := m4 .max gl gh hl hh
  let a1 := m4 .min (v (3 + 4 * n)) (v (4 + 4 * n)) pl ph; let a2 := m4 .max (v (3 + 4 * n)) (v (4 + 4 * n)) pl ph
  let f1 := m4 .min (v (5 + 4 * n)) (v (6 + 4 * n)) fl fh; let f2 := m4 .max (v (5 + 4 * n)) (v (6 + 4 * n)) fl fh
  let c := mul (lit (-457)) (.bin .quo U (lit 1000))
  let s1 := add (mul h2 (lit (-432))) (mul a1 U); let s2 := add (mul h1 (lit (-432))) (mul a2 U)
  let way (x y : X) : OT SV :=
    let t1 := add s1 x; let t2 := add s2 y
    .need [le s1 s2, le x y] (.need [le f1 f2] (.need [le t1 t2, le (mul f1 U) (mul f2 U)] (.leaf (fin (add t1 (mul f1 U)) (add t2 (mul f2 U))))))
  .need [le h1 h2] (.need [le a1 a2] (.need [le (mul h2 (lit (-432))) (mul h1 (lit (-432))), le (mul a1 U) (mul a2 U)] (.need [le q1 q2] (.ask (lt c (lit 0)) (way (mul q2 c) (mul q1 c)) (way (mul q1 c) (mul q2 c))))))
def glX (n : Nat) (hl hh pl ph q2 fl fh : X) : X := add (add (add (mul (m4 .max (apl 71 (ownA n)) (apl 72 (ownA n)) hl hh) (lit (-432))) (mul (m4 .min (v (3 + 4 * n)) (v (4 + 4 * n)) pl ph) (unX n))) (mul q2 (mul (lit (-457)) (.bin .quo (unX n) (lit 1000))))) (mul (m4 .min (v (5 + 4 * n)) (v (6 + 4 * n)) fl fh) (unX n))
def ghX (n : Nat) (hl hh pl ph q1 fl fh : X) : X := add (add (add (mul (m4 .min (apl 71 (ownA n)) (apl 72 (ownA n)) hl hh) (lit (-432))) (mul (m4 .max (v (3 + 4 * n)) (v (4 + 4 * n)) pl ph) (unX n))) (mul q1 (mul (lit (-457)) (.bin .quo (unX n) (lit 1000))))) (mul (m4 .max (v (5 + 4 * n)) (v (6 + 4 * n)) fl fh) (unX n))
theorem gaT_vc {ρ : Val} {Q : SV → Prop} (n : Nat) (hl hh pl ph q1 q2 fl fh : X) (fin : X → X → SV) (hL : 100 ≤ (lnX 3 n).den ρ ∧ (lnX 3 n).den ρ ≤ 100000) (hq : q1.den ρ ≤ q2.den ρ)
    (hQ : Q (fin (glX n hl hh pl ph q2 fl fh) (ghX n hl hh pl ph q1 fl fh))) : OT.vc ρ Q (gaT n hl hh pl ph q1 q2 fl fh fin) := by
  have hU : (unX n).den ρ = 10000 * (lnX 3 n).den ρ := by simp only [unX, mul, lit, X.den_mul, X.den_lit]
  have hqq : ((10000 * (lnX 3 n).den ρ).tdiv 1000) = 10 * (lnX 3 n).den ρ := by rw [Int.tdiv_eq_ediv_of_nonneg (by omega)]; omega
  have hc : (mul (lit (-457)) (.bin .quo (unX n) (lit 1000))).den ρ = -4570 * (lnX 3 n).den ρ := by
    simp only [mul, lit, X.den_mul, X.den_lit, X.den_quo, hU, hqq]; omega
  have U0 : 0 ≤ (unX n).den ρ := by omega
  have c0 : (mul (lit (-457)) (.bin .quo (unX n) (lit 1000))).den ρ ≤ 0 := by omega
  have hh := m4_le ((apl 71 (ownA n)).den ρ) ((apl 72 (ownA n)).den ρ) (hl.den ρ) (hh.den ρ)
  have ha := m4_le ((v (3 + 4 * n)).den ρ) ((v (4 + 4 * n)).den ρ) (pl.den ρ) (ph.den ρ)
  have hf := m4_le ((v (5 + 4 * n)).den ρ) ((v (6 + 4 * n)).den ρ) (fl.den ρ) (fh.den ρ)
  simp only [← m4_min, ← m4_max] at hh ha hf
  have hh2 := mulN hh (show (-432 : Int) ≤ 0 by decide)
  have ha2 := mulU ha U0
  have hr2 := mulN hq c0
  have hf2 := mulU hf U0
  unfold gaT
  refine ⟨⟨le_den hh, trivial⟩, ⟨le_den ha, trivial⟩, ⟨le_den hh2, le_den ha2, trivial⟩, ⟨le_den hq, trivial⟩, fun _ => ⟨⟨le_den ?_, le_den hr2, trivial⟩, ⟨le_den hf, trivial⟩, ⟨le_den ?_, le_den hf2, trivial⟩, hQ⟩, fun h => ?_⟩
  · exact Int.add_le_add hh2 ha2
  · exact Int.add_le_add (Int.add_le_add hh2 ha2) hr2
  · exfalso
    simp only [lt, X.dB_lt, ltB_f] at h
    rw [hc] at h
    have hz : (lit 0).den ρ = 0 := rfl
    omega
def cgP (n : Nat) : List X := clkP n ++ (bdP (7 + 4 * n) ++ bdP (15 + 4 * n))
def cgA (n : Nat) : List X := [lnX 3 n, apl 71 (ownA n), apl 72 (ownA n), v (3 + 4 * n), v (4 + 4 * n), v (5 + 4 * n), v (6 + 4 * n)] ++ (List.range 16).map fun i => v (7 + 4 * n + i)
def cgO (n : Nat) : OT SV := .leaf (.tuple [spO (ap2 50 (apl 75 (cgA n)) (unX n)) (sub (lit 0) (ap2 50 (sub (lit 0) (apl 76 (cgA n))) (unX n))), .int .i64 (lit 0)])
def pCgL (n : Nat) : Pr := ⟨10, [lClk n, bndSh, bndSh], cgP n, fun _ => cgO n⟩
def sqX (o : Bo) (k : Nat) : X := m4 o (v k) (v (k + 1)) (v k) (v (k + 1))
def cgF (n : Nat) (a b : X) : SV := .tuple [spO (ap2 50 a (unX n)) (sub (lit 0) (ap2 50 (sub (lit 0) b) (unX n))), .int .i64 (lit 0)]
def cgT (n : Nat) : OT SV :=
  let f := 7 + 4 * n; let t := 15 + 4 * n
  .need [le (sqX .min (t + 4)) (sqX .max (t + 4)), le (sqX .min (f + 4)) (sqX .max (f + 4))] (gaT n (sub (v t) (v (f + 1))) (sub (v (t + 1)) (v f)) (sub (v (t + 2)) (v (f + 3))) (sub (v (t + 3)) (v (f + 2))) (sub (sqX .min (t + 4)) (sqX .max (f + 4))) (sub (sqX .max (t + 4)) (sqX .min (f + 4))) (sub (v (t + 6)) (v (f + 7))) (sub (v (t + 7)) (v (f + 6))) (cgF n))
def cgNm (n : Nat) : X := glX n (sub (v (15 + 4 * n)) (v (7 + 4 * n + 1))) (sub (v (15 + 4 * n + 1)) (v (7 + 4 * n))) (sub (v (15 + 4 * n + 2)) (v (7 + 4 * n + 3))) (sub (v (15 + 4 * n + 3)) (v (7 + 4 * n + 2))) (sub (sqX .max (15 + 4 * n + 4)) (sqX .min (7 + 4 * n + 4))) (sub (v (15 + 4 * n + 6)) (v (7 + 4 * n + 7))) (sub (v (15 + 4 * n + 7)) (v (7 + 4 * n + 6)))
def cgNx (n : Nat) : X := ghX n (sub (v (15 + 4 * n)) (v (7 + 4 * n + 1))) (sub (v (15 + 4 * n + 1)) (v (7 + 4 * n))) (sub (v (15 + 4 * n + 2)) (v (7 + 4 * n + 3))) (sub (v (15 + 4 * n + 3)) (v (7 + 4 * n + 2))) (sub (sqX .min (15 + 4 * n + 4)) (sqX .max (7 + 4 * n + 4))) (sub (v (15 + 4 * n + 6)) (v (7 + 4 * n + 7))) (sub (v (15 + 4 * n + 7)) (v (7 + 4 * n + 6)))
theorem cgT_vc {ρ : Val} {Q : SV → Prop} (n : Nat) (hL : 100 ≤ (lnX 3 n).den ρ ∧ (lnX 3 n).den ρ ≤ 100000)
    (hQ : Q (cgF n (cgNm n) (cgNx n))) : OT.vc ρ Q (cgT n) := by
  have hs (k : Nat) : (sqX .min k).den ρ ≤ (sqX .max k).den ρ := by
    simp only [sqX, m4_min, m4_max]; exact m4_le _ _ _ _
  have da (a b : X) : (sub a b).den ρ = a.den ρ - b.den ρ := rfl
  have h1 := hs (15 + 4 * n + 4)
  have h2 := hs (7 + 4 * n + 4)
  unfold cgT
  refine ⟨⟨le_den h1, le_den h2, trivial⟩, gaT_vc n _ _ _ _ _ _ _ _ _ hL ?_ hQ⟩
  rw [da, da]; omega
theorem cg75 (rods : List Rod) (grow xs : List Int) (n : Nat) (h1 : X.denB (valX (fnB rods grow) xs) (le (lit (-2305843009213693952)) (cgNm n)) = true) (h2 : X.denB (valX (fnB rods grow) xs) (le (cgNm n) (lit 2305843009213693952)) = true) :
    (apl 75 (cgA n)).den (valX (fnB rods grow) xs) = (cgNm n).den (valX (fnB rods grow) xs) := by
  simp only [le, lit, X.dB_le, leB_t, X.den_lit] at h1 h2
  have e : (cgNm n).den (valX (fnB rods grow) xs) = cgLo ((cgA n).map fun x => x.den (valX (fnB rods grow) xs)) := by
    simp only [cgNm, glX, unX, sqX, add, sub, mul, lit, m4_min, m4_max, X.den_add, X.den_sub, X.den_mul, X.den_lit, X.den_quo, cgA, List.range, List.range.loop, List.cons_append, List.nil_append, List.map_cons, List.map_nil, cgLo, Nat.add_zero, Nat.add_assoc, Nat.reduceAdd, Nat.add_comm _ (4 * n)]
  rw [e] at h1 h2 ⊢
  exact clampB_id h1 h2
theorem cg76 (rods : List Rod) (grow xs : List Int) (n : Nat) (h1 : X.denB (valX (fnB rods grow) xs) (le (lit (-2305843009213693952)) (cgNx n)) = true) (h2 : X.denB (valX (fnB rods grow) xs) (le (cgNx n) (lit 2305843009213693952)) = true) :
    (apl 76 (cgA n)).den (valX (fnB rods grow) xs) = (cgNx n).den (valX (fnB rods grow) xs) := by
  simp only [le, lit, X.dB_le, leB_t, X.den_lit] at h1 h2
  have e : (cgNx n).den (valX (fnB rods grow) xs) = cgHi ((cgA n).map fun x => x.den (valX (fnB rods grow) xs)) := by
    simp only [cgNx, ghX, unX, sqX, add, sub, mul, lit, m4_min, m4_max, X.den_add, X.den_sub, X.den_mul, X.den_lit, X.den_quo, cgA, List.range, List.range.loop, List.cons_append, List.nil_append, List.map_cons, List.map_nil, cgHi, Nat.add_zero, Nat.add_assoc, Nat.reduceAdd, Nat.add_comm _ (4 * n)]
  rw [e] at h1 h2 ⊢
  exact clampB_id h1 h2
theorem pCgL1_ok (rods : List Rod) (grow : List Int) : (pCgL 1).Ok Try.prog (fnB rods grow) := by
  refine un1 (l := [pChkL 1, pSpan, pLow, pLenL 1, pGrL 1, pTimes, pPlus, pMinus, pScS, pFloor]) (R := RL) (fuel := 400) (fun _ => cgT 1) prog_ok ⟨pChkL1_ok _ _, pSpan_ok _, pLow_ok _, pLenL1_ok _ _, pGrL1_ok _ _, pTimes_ok _, pPlus_ok _, pMinus_ok _, pScS_ok _, pFloor_ok _ _, trivial⟩ rfl (RL_ok _ _) rfl rfl ?h ?h' ?_
  case h => kernel_rfl
  case h' => kernel_rfl
  intro xs es hlen hpre hrw
  have hR := RL_at rods grow xs
  have hf := allB_fcs hpre
  have d (x : X) (h : x.dec RL (pCgL 1).pre = some true) : x.denB (valX (fnB rods grow) xs) = true := dec_t hR hf h
  have hL1 := d (le (lit 100) (lnX 3 1)) (by kernel_rfl)
  have hL2 := d (le (lnX 3 1) (lit 100000)) (by kernel_rfl)
  simp only [le, lit, X.dB_le, leB_t, X.den_lit] at hL1 hL2
  have e1 := cg75 rods grow xs 1 (d _ (by kernel_rfl)) (d _ (by kernel_rfl))
  have e2 := cg76 rods grow xs 1 (d _ (by kernel_rfl)) (d _ (by kernel_rfl))
  refine cgT_vc 1 ⟨hL1, hL2⟩ ?_
  show OT.is _ _ (cgO 1)
  simp only [OT.is, cgO, cgF, spO, SV.den, SV.dens, sub, lit, ap2, X.den_sub, X.den_app, X.den_lit, X.sem_cons, X.sem_nil, e1, e2]
theorem pCgL2_ok (rods : List Rod) (grow : List Int) : (pCgL 2).Ok Try.prog (fnB rods grow) := by
  refine un1 (l := [pChkL 2, pSpan, pLow, pLenL 2, pGrL 2, pTimes, pPlus, pMinus, pScS, pFloor]) (R := RL) (fuel := 400) (fun _ => cgT 2) prog_ok ⟨pChkL2_ok _ _, pSpan_ok _, pLow_ok _, pLenL2_ok _ _, pGrL2_ok _ _, pTimes_ok _, pPlus_ok _, pMinus_ok _, pScS_ok _, pFloor_ok _ _, trivial⟩ rfl (RL_ok _ _) rfl rfl ?h ?h' ?_
  case h => kernel_rfl
  case h' => kernel_rfl
  intro xs es hlen hpre hrw
  have hR := RL_at rods grow xs
  have hf := allB_fcs hpre
  have d (x : X) (h : x.dec RL (pCgL 2).pre = some true) : x.denB (valX (fnB rods grow) xs) = true := dec_t hR hf h
  have hL1 := d (le (lit 100) (lnX 3 2)) (by kernel_rfl)
  have hL2 := d (le (lnX 3 2) (lit 100000)) (by kernel_rfl)
  simp only [le, lit, X.dB_le, leB_t, X.den_lit] at hL1 hL2
  have e1 := cg75 rods grow xs 2 (d _ (by kernel_rfl)) (d _ (by kernel_rfl))
  have e2 := cg76 rods grow xs 2 (d _ (by kernel_rfl)) (d _ (by kernel_rfl))
  refine cgT_vc 2 ⟨hL1, hL2⟩ ?_
  show OT.is _ _ (cgO 2)
  simp only [OT.is, cgO, cgF, spO, SV.den, SV.dens, sub, lit, ap2, X.den_sub, X.den_app, X.den_lit, X.sem_cons, X.sem_nil, e1, e2]
theorem pCgL3_ok (rods : List Rod) (grow : List Int) : (pCgL 3).Ok Try.prog (fnB rods grow) := by
  refine un1 (l := [pChkL 3, pSpan, pLow, pLenL 3, pGrL 3, pTimes, pPlus, pMinus, pScS, pFloor]) (R := RL) (fuel := 400) (fun _ => cgT 3) prog_ok ⟨pChkL3_ok _ _, pSpan_ok _, pLow_ok _, pLenL3_ok _ _, pGrL3_ok _ _, pTimes_ok _, pPlus_ok _, pMinus_ok _, pScS_ok _, pFloor_ok _ _, trivial⟩ rfl (RL_ok _ _) rfl rfl ?h ?h' ?_
  case h => kernel_rfl
  case h' => kernel_rfl
  intro xs es hlen hpre hrw
  have hR := RL_at rods grow xs
  have hf := allB_fcs hpre
  have d (x : X) (h : x.dec RL (pCgL 3).pre = some true) : x.denB (valX (fnB rods grow) xs) = true := dec_t hR hf h
  have hL1 := d (le (lit 100) (lnX 3 3)) (by kernel_rfl)
  have hL2 := d (le (lnX 3 3) (lit 100000)) (by kernel_rfl)
  simp only [le, lit, X.dB_le, leB_t, X.den_lit] at hL1 hL2
  have e1 := cg75 rods grow xs 3 (d _ (by kernel_rfl)) (d _ (by kernel_rfl))
  have e2 := cg76 rods grow xs 3 (d _ (by kernel_rfl)) (d _ (by kernel_rfl))
  refine cgT_vc 3 ⟨hL1, hL2⟩ ?_
  show OT.is _ _ (cgO 3)
  simp only [OT.is, cgO, cgF, spO, SV.den, SV.dens, sub, lit, ap2, X.den_sub, X.den_app, X.den_lit, X.sem_cons, X.sem_nil, e1, e2]
theorem pCgL4_ok (rods : List Rod) (grow : List Int) : (pCgL 4).Ok Try.prog (fnB rods grow) := by
  refine un1 (l := [pChkL 4, pSpan, pLow, pLenL 4, pGrL 4, pTimes, pPlus, pMinus, pScS, pFloor]) (R := RL) (fuel := 400) (fun _ => cgT 4) prog_ok ⟨pChkL4_ok _ _, pSpan_ok _, pLow_ok _, pLenL4_ok _ _, pGrL4_ok _ _, pTimes_ok _, pPlus_ok _, pMinus_ok _, pScS_ok _, pFloor_ok _ _, trivial⟩ rfl (RL_ok _ _) rfl rfl ?h ?h' ?_
  case h => kernel_rfl
  case h' => kernel_rfl
  intro xs es hlen hpre hrw
  have hR := RL_at rods grow xs
  have hf := allB_fcs hpre
  have d (x : X) (h : x.dec RL (pCgL 4).pre = some true) : x.denB (valX (fnB rods grow) xs) = true := dec_t hR hf h
  have hL1 := d (le (lit 100) (lnX 3 4)) (by kernel_rfl)
  have hL2 := d (le (lnX 3 4) (lit 100000)) (by kernel_rfl)
  simp only [le, lit, X.dB_le, leB_t, X.den_lit] at hL1 hL2
  have e1 := cg75 rods grow xs 4 (d _ (by kernel_rfl)) (d _ (by kernel_rfl))
  have e2 := cg76 rods grow xs 4 (d _ (by kernel_rfl)) (d _ (by kernel_rfl))
  refine cgT_vc 4 ⟨hL1, hL2⟩ ?_
  show OT.is _ _ (cgO 4)
  simp only [OT.is, cgO, cgF, spO, SV.den, SV.dens, sub, lit, ap2, X.den_sub, X.den_app, X.den_lit, X.sem_cons, X.sem_nil, e1, e2]
end Be
end Go.Proofs.Ytgpdodkcfiefjaa
