/- TopTrainSlack: the law holds, by the number of pairs. -/
import Derived.Test.YtjlolhdkjpfcoaaGreatTs5
set_option linter.unusedSimpArgs false
set_option linter.unusedVariables false
namespace Go.Proofs.YtjlolhdkjpfcoaaGreat
open Abs Sx Tg
set_option maxRecDepth 100000
namespace Ts
def GoalV (ρ : Val) : SV → Prop := fun w => w.den ρ = .bool true
theorem know_step {rows : List (Int × Int)} {xs : List Int} {k : Nat} {B : Int} (hK : Know (valX (fnS rows) xs) k B) (hk : k < 3) (hB : B ≤ 5000000)
    (hs : 0 ≤ (sX (k + 1)).den (valX (fnS rows) xs) ∧ (sX (k + 1)).den (valX (fnS rows) xs) ≤ 49) (hR : 1 ≤ (rX (k + 1)).den (valX (fnS rows) xs) ∧ (rX (k + 1)).den (valX (fnS rows) xs) ≤ 200) (hQ : 1 ≤ (qX (k + 1)).den (valX (fnS rows) xs) ∧ (qX (k + 1)).den (valX (fnS rows) xs) ≤ 200)
    (hal : 49 * (qX (k + 1)).den (valX (fnS rows) xs) ≤ 1000 * (rX (k + 1)).den (valX (fnS rows) xs)) :
    (alX (k + 1)).den (valX (fnS rows) xs) ≤ 3600 ∧ (tmX (k + 1)).den (valX (fnS rows) xs) ≤ 1000 * (rX (k + 1)).den (valX (fnS rows) xs) * (alX (k + 1)).den (valX (fnS rows) xs) ∧ 1000 * (rX (k + 1)).den (valX (fnS rows) xs) * ((alX (k + 1)).den (valX (fnS rows) xs) + -1) < (tmX (k + 1)).den (valX (fnS rows) xs) ∧
    (0 ≤ (uX (k + 1)).1.den (valX (fnS rows) xs) ∧ (uX (k + 1)).1.den (valX (fnS rows) xs) ≤ 2305843009213693952) ∧ (1 ≤ (uX (k + 1)).2.den (valX (fnS rows) xs) ∧ (uX (k + 1)).2.den (valX (fnS rows) xs) ≤ 2305843009213693952) ∧ Know (valX (fnS rows) xs) (k + 1) (1000 * B) := by
  generalize hρ : valX (fnS rows) xs = ρ at *
  have hf : ρ.fn = fnS rows := by rw [← hρ]; rfl
  have ea : (alX (k + 1)).den ρ = fnS rows 60 [(sX (k + 1)).den ρ, (rX (k + 1)).den ρ, (qX (k + 1)).den ρ] := by
    simp only [alX, X.den_app, sem_xs, List.map_cons, List.map_nil, hf]
  have et : (tmX (k + 1)).den ρ = 3600 * (sX (k + 1)).den ρ * (qX (k + 1)).den ρ := by
    simp only [tmX, mul, lit, X.den_mul, X.den_lit]
  have eu1 : (uX (k + 1)).1 = wr (k + 1) (add (wr (k + 1) (mul (wr (k + 1) (mul (nuX k) (lit 1000))) (rX (k + 1)))) (wr (k + 1) (mul (tmX (k + 1)) (deX k)))) := rfl
  have eu2 : (uX (k + 1)).2 = mul (mul (deX k) (lit 1000)) (rX (k + 1)) := rfl
  have en : nuX (k + 1) = .bin .quo (uX (k + 1)).1 (ap2' 90 (uX (k + 1))) := rfl
  have ed : deX (k + 1) = .bin .quo (uX (k + 1)).2 (ap2' 90 (uX (k + 1))) := rfl
  have ee : eaX (k + 1) = add (eaX k) (alX (k + 1)) := rfl
  have em : moX (k + 1) = .bin .max (moX k) (alX (k + 1)) := rfl
  have el := lk_succ ρ k
  have ll := lk_len ρ k
  obtain ⟨inv, ok, sm⟩ := hK
  have al := al_ok (rows := rows) hs hR hQ
  rw [ea, et]
  generalize hS : (sX (k + 1)).den ρ = s at *
  generalize hR' : (rX (k + 1)).den ρ = R at *
  generalize hQ' : (qX (k + 1)).den ρ = Q at *
  generalize hA : fnS rows 60 [s, R, Q] = a at *
  generalize hN : (nuX k).den ρ = num at *
  generalize hD : (deX k).den ρ = den at *
  -- bounds
  have i1 := inv.i1
  have i2 := inv.i2
  have n1 : num ≤ 54000000000 := by
    have h3 := inv.i3
    have : 3600 * ((k : Int) + 1) * den ≤ 10800 * den := Int.mul_le_mul_of_nonneg_right (by omega) (by omega)
    omega
  have n2 : 0 ≤ num * 1000 * R ∧ num * 1000 * R ≤ 10800000000000000 := by
    have h1 : num * 1000 * R ≤ num * 1000 * 200 := Int.mul_le_mul_of_nonneg_left hR.2 (by omega)
    have h0 : 0 ≤ num * 1000 * R := mul_nn (by omega) (by omega)
    omega
  have t1 : 0 ≤ 3600 * s * Q ∧ 3600 * s * Q ≤ 35280000 := by
    have h1 : 3600 * s * Q ≤ 3600 * s * 200 := Int.mul_le_mul_of_nonneg_left hQ.2 (by omega)
    have h0 : 0 ≤ 3600 * s * Q := mul_nn (by omega) (by omega)
    omega
  have t2 : 0 ≤ 3600 * s * Q * den ∧ 3600 * s * Q * den ≤ 176400000000000 := by
    have h1 : 3600 * s * Q * den ≤ 35280000 * den := Int.mul_le_mul_of_nonneg_right t1.2 (by omega)
    have h0 : 0 ≤ 3600 * s * Q * den := mul_nn t1.1 (by omega)
    omega
  have d1 : 1 ≤ den * 1000 * R ∧ den * 1000 * R ≤ 1000000000000 := by
    have h1 : den * 1000 * R ≤ den * 1000 * 200 := Int.mul_le_mul_of_nonneg_left hR.2 (by omega)
    exact ⟨mul_p (by omega) hR.1, by omega⟩
  have w1 : (wr (k + 1) (mul (nuX k) (lit 1000))).den ρ = num * 1000 := by
    have e : (mul (nuX k) (lit 1000)).den ρ = num * 1000 := by simp only [mul, lit, X.den_mul, X.den_lit, hN]
    rw [wr_den (by rw [e]; omega) (by rw [e]; omega), e]
  have w2 : (wr (k + 1) (mul (wr (k + 1) (mul (nuX k) (lit 1000))) (rX (k + 1)))).den ρ = num * 1000 * R := by
    have e : (mul (wr (k + 1) (mul (nuX k) (lit 1000))) (rX (k + 1))).den ρ = num * 1000 * R := by simp only [mul, X.den_mul, hR'] at w1 ⊢; rw [w1]
    rw [wr_den (by rw [e]; omega) (by rw [e]; omega), e]
  have w3 : (wr (k + 1) (mul (tmX (k + 1)) (deX k))).den ρ = 3600 * s * Q * den := by
    have e : (mul (tmX (k + 1)) (deX k)).den ρ = 3600 * s * Q * den := by simp only [mul, X.den_mul, hD] at et ⊢; rw [et]
    rw [wr_den (by rw [e]; omega) (by rw [e]; omega), e]
  have u1 : (uX (k + 1)).1.den ρ = num * 1000 * R + 3600 * s * Q * den := by
    have e : (add (wr (k + 1) (mul (wr (k + 1) (mul (nuX k) (lit 1000))) (rX (k + 1)))) (wr (k + 1) (mul (tmX (k + 1)) (deX k)))).den ρ = num * 1000 * R + 3600 * s * Q * den := by rw [add, X.den_add, w2, w3]
    rw [eu1, wr_den (by rw [e]; omega) (by rw [e]; omega), e]
  have u2 : (uX (k + 1)).2.den ρ = den * 1000 * R := by rw [eu2]; simp only [mul, lit, X.den_mul, X.den_lit, hR', hD]
  have g := gcd_q (rows := rows) (a := num * 1000 * R + 3600 * s * Q * den) (b := den * 1000 * R) (by omega) d1.1 (by unfold bg; omega)
  have g2 := g.2.2.2 ⟨num * 5 * R + 18 * s * Q * den, by grind⟩ ⟨den * 5 * R, by grind⟩
  have q1 : (nuX (k + 1)).den ρ = (num * 1000 * R + 3600 * s * Q * den).tdiv (fnS rows 90 [num * 1000 * R + 3600 * s * Q * den, den * 1000 * R]) := by
    rw [en]; simp only [ap2', X.den_quo, X.den_app, X.sem_cons, X.sem_nil, u1, u2, hf]
  have q2 : (deX (k + 1)).den ρ = (den * 1000 * R).tdiv (fnS rows 90 [num * 1000 * R + 3600 * s * Q * den, den * 1000 * R]) := by
    rw [ed]; simp only [ap2', X.den_quo, X.den_app, X.sem_cons, X.sem_nil, u1, u2, hf]
  generalize fnS rows 90 [num * 1000 * R + 3600 * s * Q * den, den * 1000 * R] = G at *
  have st := step (al := a) inv hR.1 hQ.1 hs.1 g.1 g.2.1 g.2.2.1 al.2.1 al.2.2.1 (al.2.2.2 hal) al.1
  refine ⟨al.2.2.2 hal, al.2.1, by have := al.2.2.1; rwa [Int.sub_eq_add_neg] at this, by rw [u1]; omega, by rw [u2]; omega, ?_, ?_, ?_⟩
  · rw [q1, q2, ee, em, el, frL_app _ s R Q k ll]
    simp only [add, X.den_add, X.den_max, ea]
    exact st
  · rw [el]
    exact OkL_app _ s R Q ok ⟨hs.1, by omega⟩ hR hQ (k + 1) ll
  · rw [q2]
    have h5 := small g2 g.2.2.1 st.i1
    have : 5 * R * den ≤ 1000 * B := by
      have a1 : 5 * R * den ≤ 5 * R * B := Int.mul_le_mul_of_nonneg_left sm (by omega)
      have a2 : 5 * R * B ≤ 1000 * B := Int.mul_le_mul_of_nonneg_right (by omega) (by omega)
      omega
    omega
theorem fin_vc {rows : List (Int × Int)} {xs : List Int} {k : Nat} {B : Int} (hK : Know (valX (fnS rows) xs) k B) (hk : k ≤ 3) (hB : B ≤ 5000000000) : OT.vc (valX (fnS rows) xs) (GoalV (valX (fnS rows) xs)) (fin k) := by
  have tk := to_ok hK hk
  generalize hρ : valX (fnS rows) xs = ρ at *
  have E := ends hK.inv tk.2.1 tk.2.2
  have M := more hK.inv tk.2.1 tk.2.2
  have sm := hK.sm
  have i1 := hK.inv.i1
  have i3 := hK.inv.i3
  have t0 := tk.1
  match k, hk with
  | 0, _ =>
    simp only [fin, fF, tT, OT.vc, GoalV, lt, le, mul, add, lit, X.dB_lt, X.dB_le, ltB_t, ltB_f, leB_t, leB_f, X.den_mul, X.den_add, X.den_lit, SV.den, X.denB_lit1, X.denB_lit0, AV.bool.injEq]
    have i4 : (nuX 0).den ρ ≤ 3600 * (deX 0).den ρ := by simpa using i3
    refine ⟨fun h => absurd h (Int.not_lt.2 i4), fun _ => ⟨fun _ => ⟨fun _ => ⟨fun _ => trivial, fun h => absurd E.2.2.2 (by omega)⟩, fun h => absurd E.2.1 (by rw [Int.sub_eq_add_neg]; omega)⟩, fun h => absurd E.1 (by omega)⟩⟩
  | k + 1, hk =>
    have e1 : (wr (k + 1) (mul (lit 3600) (deX (k + 1)))).den ρ = 3600 * (deX (k + 1)).den ρ := by
      have e : (mul (lit 3600) (deX (k + 1))).den ρ = 3600 * (deX (k + 1)).den ρ := rfl
      rw [wr_den (by rw [e]; omega) (by rw [e]; omega), e]
    have e2 : (toX (k + 1)).den ρ ≤ 3600 → (wr (k + 1) (mul (toX (k + 1)) (deX (k + 1)))).den ρ = (toX (k + 1)).den ρ * (deX (k + 1)).den ρ := fun h => by
      have e : (mul (toX (k + 1)) (deX (k + 1))).den ρ = (toX (k + 1)).den ρ * (deX (k + 1)).den ρ := rfl
      have a0 := mul_nn t0 (show 0 ≤ (deX (k + 1)).den ρ by omega)
      have a1 : (toX (k + 1)).den ρ * (deX (k + 1)).den ρ ≤ 3600 * (deX (k + 1)).den ρ := Int.mul_le_mul_of_nonneg_right h (by omega)
      rw [wr_den (by rw [e]; omega) (by rw [e]; omega), e]
    have e3 : (toX (k + 1)).den ρ ≤ 3600 → (wr (k + 1) (mul (add (toX (k + 1)) (lit (-1))) (deX (k + 1)))).den ρ = ((toX (k + 1)).den ρ - 1) * (deX (k + 1)).den ρ := fun h => by
      have e : (mul (add (toX (k + 1)) (lit (-1))) (deX (k + 1))).den ρ = ((toX (k + 1)).den ρ - 1) * (deX (k + 1)).den ρ := rfl
      have a1 : ((toX (k + 1)).den ρ - 1) * (deX (k + 1)).den ρ ≤ 3600 * (deX (k + 1)).den ρ := Int.mul_le_mul_of_nonneg_right (by omega) (by omega)
      have a0 : (-1) * (deX (k + 1)).den ρ ≤ ((toX (k + 1)).den ρ - 1) * (deX (k + 1)).den ρ := Int.mul_le_mul_of_nonneg_right (by omega) (by omega)
      rw [wr_den (by rw [e]; omega) (by rw [e]; omega), e]
    show OT.vc ρ (GoalV ρ) (.ask (le (toX (k + 1)) (lit 3600)) (.ask (lt (wr (k + 1) (mul (lit 3600) (deX (k + 1)))) (nuX (k + 1))) fF (.ask (le (nuX (k + 1)) (wr (k + 1) (mul (toX (k + 1)) (deX (k + 1))))) (.ask (lt (wr (k + 1) (mul (add (toX (k + 1)) (lit (-1))) (deX (k + 1)))) (nuX (k + 1))) (.ask (le (toX (k + 1)) (eaX (k + 1))) (.ask (le (moX (k + 1)) (toX (k + 1))) tT fF) fF) fF) fF)) (.ask (lt (wr (k + 1) (mul (lit 3600) (deX (k + 1)))) (nuX (k + 1))) tT fF))
    simp only [fF, tT, OT.vc, GoalV, lt, le, lit, X.dB_lt, X.dB_le, ltB_t, ltB_f, leB_t, leB_f, X.den_lit, SV.den, X.denB_lit1, X.denB_lit0, AV.bool.injEq]
    simp only [lit] at e1 e2 e3
    rw [e1]
    refine ⟨fun h => ⟨fun h' => absurd (M.1 h') (by omega), fun _ => ⟨fun _ => ⟨fun _ => ⟨fun _ => ⟨fun _ => trivial, fun h => absurd E.2.2.2 (by omega)⟩, fun h => absurd E.2.2.1 (by omega)⟩, fun h' => absurd E.2.1 (by rw [e3 h] at h'; omega)⟩, fun h' => absurd E.1 (by rw [e2 h] at h'; omega)⟩⟩, fun h => ⟨fun _ => trivial, fun h' => absurd (M.2 (by omega)) (by omega)⟩⟩
end Ts
end Go.Proofs.YtjlolhdkjpfcoaaGreat
