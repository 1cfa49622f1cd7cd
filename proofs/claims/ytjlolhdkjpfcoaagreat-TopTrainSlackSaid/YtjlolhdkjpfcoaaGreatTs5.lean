/- TopTrainSlack: what the asked numbers are. -/
import Derived.Test.YtjlolhdkjpfcoaaGreatTs4
set_option linter.unusedSimpArgs false
set_option linter.unusedVariables false
namespace Go.Proofs.YtjlolhdkjpfcoaaGreat
open Abs Sx Tg
set_option maxRecDepth 100000
namespace Ts
theorem gcd_q {rows : List (Int × Int)} {a b : Int} (ha : 0 ≤ a) (hb : 1 ≤ b) (hb2 : b ≤ bg) : 1 ≤ fnS rows 90 [a, b] ∧ a.tdiv (fnS rows 90 [a, b]) * fnS rows 90 [a, b] = a ∧ b.tdiv (fnS rows 90 [a, b]) * fnS rows 90 [a, b] = b ∧ ((200 : Int) ∣ a → (200 : Int) ∣ b → 200 ≤ fnS rows 90 [a, b]) := by
  have h0 : 0 < Int.gcd a b := Int.gcd_pos_of_ne_zero_right a (show b ≠ 0 by omega)
  have h1 : (Int.gcd a b : Int) ≤ b := Int.le_of_dvd (by omega) (Int.gcd_dvd_right a b)
  have e : fnS rows 90 [a, b] = (Int.gcd a b : Int) := by
    show clampT bg (Int.gcd a b : Int) = _
    exact clampT_id (by omega) (by omega)
  rw [e]
  refine ⟨by omega, Int.tdiv_mul_cancel (Int.gcd_dvd_left a b), Int.tdiv_mul_cancel (Int.gcd_dvd_right a b), fun ha hb' => g200 ha hb' hb⟩
theorem low_q {rows : List (Int × Int)} {a b : Int} (ha : 1 ≤ a) (hb : 1 ≤ b) (ha2 : a ≤ 100000000) (hb2 : b ≤ 100000000) : 1 ≤ fnS rows 91 [a, b] ∧ 1 ≤ fnS rows 92 [a, b] ∧ fnS rows 91 [a, b] * b = fnS rows 92 [a, b] * a := by
  have e := low_at (isT rows) ha hb ha2 hb2
  have k := low_in (isT rows) ha hb ha2 hb2 (Int.le_refl _) (Int.le_refl _)
  have g := gcd_q (rows := rows) (a := a) (b := b) (by omega) hb (by unfold bg; omega)
  refine ⟨k.1.1, k.2.1, ?_⟩
  rw [e.1, e.2.1]
  generalize hG : fnS rows 90 [a, b] = G at *
  obtain ⟨_, g2, g3, _⟩ := g
  generalize a.tdiv G = x at *
  generalize b.tdiv G = y at *
  rw [← g2, ← g3]; grind
theorem cross {R Q R' Q' W P w p : Int} (h : R * (Q' * p) = Q * (R' * w)) (h' : R' * P = Q' * W) (hq : 1 ≤ Q') : R * (P * p) = Q * (W * w) := by
  refine cancel_eq hq ?_
  have e1 : R * (P * p) * Q' = R * (Q' * p) * P := by grind
  have e2 : Q * (W * w) * Q' = Q * w * (Q' * W) := by grind
  rw [e1, h, e2, ← h']; grind
theorem al_le {s R Q al : Int} (hs : 0 ≤ s ∧ s ≤ 49) (hR : 1 ≤ R) (hQ : 1 ≤ Q) (h : 49 * Q ≤ 1000 * R) (h2 : (al - 1) * (1000 * R) < s * 3600 * Q) : al ≤ 3600 := by
  have e1 : s * 3600 * Q ≤ 49 * 3600 * Q := Int.mul_le_mul_of_nonneg_right (by omega) (by omega)
  have := cancel_lt (show 1 ≤ 1000 * R by omega) (show (al - 1) * (1000 * R) < 3600 * (1000 * R) by omega)
  omega
theorem fr_app : ∀ (l : List Int) (q : Int × Int) (s n d : Int) (m : Nat), l.length = 3 * m → fr (l ++ [s, n, d]) q = ((fr l q).1 * n + s * 3600 * d * (fr l q).2, (fr l q).2 * n)
  | [], q, s, n, d, _, _ => by simp [fr]
  | [_], _, _, _, _, m, h => by simp only [List.length_cons, List.length_nil] at h; omega
  | [_, _], _, _, _, _, m, h => by simp only [List.length_cons, List.length_nil] at h; omega
  | a :: b :: c :: l, q, s, n, d, m, h => by
    have := fr_app l (q.1 * b + a * 3600 * c * q.2, q.2 * b) s n d (m - 1) (by simp only [List.length_cons] at h; omega)
    simpa only [List.cons_append, fr] using this
theorem frL_app : ∀ (l : List Int) (s n d : Int) (m : Nat), l.length = 3 * (m + 1) → frL (l ++ [s, n, d]) = ((frL l).1 * n + s * 3600 * d * (frL l).2, (frL l).2 * n)
  | a :: b :: c :: l, s, n, d, m, h => by
    have := fr_app l (a * 3600 * c, b) s n d m (by simp only [List.length_cons] at h; omega)
    simpa only [List.cons_append, frL] using this
  | [], _, _, _, m, h => by simp only [List.length_cons, List.length_nil] at h; omega
  | [_], _, _, _, m, h => by simp only [List.length_cons, List.length_nil] at h; omega
  | [_, _], _, _, _, m, h => by simp only [List.length_cons, List.length_nil] at h; omega
theorem OkL_app : ∀ (l : List Int) (s n d : Int), OkL l → (0 ≤ s ∧ s ≤ 50) → (1 ≤ n ∧ n ≤ 200) → (1 ≤ d ∧ d ≤ 200) → (m : Nat) → l.length = 3 * m → OkL (l ++ [s, n, d])
  | [], s, n, d, _, h1, h2, h3, _, _ => ⟨h1, h2, h3, trivial⟩
  | [_], _, _, _, _, _, _, _, m, h => by simp only [List.length_cons, List.length_nil] at h; omega
  | [_, _], _, _, _, _, _, _, _, m, h => by simp only [List.length_cons, List.length_nil] at h; omega
  | a :: b :: c :: l, s, n, d, h, h1, h2, h3, m, hm => ⟨h.1, h.2.1, h.2.2.1, OkL_app l s n d h.2.2.2 h1 h2 h3 (m - 1) (by simp only [List.length_cons] at hm; omega)⟩
theorem sem_xs {ρ : Val} : ∀ l : List X, (xs_ l).sem ρ = l.map (X.den ρ)
  | [] => rfl
  | x :: l => by simp only [xs_, X.sem_cons, sem_xs l, List.map_cons]
def lk (ρ : Val) (k : Nat) : List Int := (lkX k).map (X.den ρ)
theorem lk_succ (ρ : Val) (k : Nat) : lk ρ (k + 1) = lk ρ k ++ [(sX (k + 1)).den ρ, (rX (k + 1)).den ρ, (qX (k + 1)).den ρ] := by
  simp only [lk, lkX, List.range_succ (n := k + 1), List.flatMap_append, List.flatMap_cons, List.flatMap_nil, List.append_nil, List.map_append, List.map_cons, List.map_nil]
theorem lk_len (ρ : Val) : ∀ k, (lk ρ k).length = 3 * (k + 1)
  | 0 => rfl
  | k + 1 => by rw [lk_succ, List.length_append, lk_len ρ k]; simp only [List.length_cons, List.length_nil]; omega
structure Know (ρ : Val) (k : Nat) (B : Int) : Prop where
  inv : Inv ((k : Int) + 1) ((nuX k).den ρ) ((deX k).den ρ) ((eaX k).den ρ) ((moX k).den ρ) (frL (lk ρ k)).1 (frL (lk ρ k)).2
  ok : OkL (lk ρ k)
  sm : (deX k).den ρ ≤ B
theorem wr_den {ρ : Val} {k : Nat} {x : X} (h : -9223372036854775808 ≤ x.den ρ) (h2 : x.den ρ ≤ 9223372036854775807) : (wr k x).den ρ = x.den ρ := by
  unfold wr
  split
  · rw [X.den_wrap]; exact wrap_id h h2
  · rfl
theorem al_ok {rows : List (Int × Int)} {s R Q : Int} (hs : 0 ≤ s ∧ s ≤ 49) (hR : 1 ≤ R ∧ R ≤ 200) (hQ : 1 ≤ Q ∧ Q ≤ 200) : 0 ≤ fnS rows 60 [s, R, Q] ∧ 3600 * s * Q ≤ 1000 * R * fnS rows 60 [s, R, Q] ∧ 1000 * R * (fnS rows 60 [s, R, Q] - 1) < 3600 * s * Q ∧ (49 * Q ≤ 1000 * R → fnS rows 60 [s, R, Q] ≤ 3600) := by
  have h := skI_ok (l := [s, R, Q]) ⟨⟨hs.1, by omega⟩, hR, hQ, trivial⟩ ⟨by simp, by simp⟩
  have e : fnS rows 60 [s, R, Q] = clK (skI [s, R, Q]) := rfl
  rw [← e] at h
  have h0 : 0 ≤ fnS rows 60 [s, R, Q] := by rw [e]; unfold clK; omega
  generalize fnS rows 60 [s, R, Q] = al at *
  obtain ⟨_, _, _, h4, h5⟩ := h
  simp only [frL, fr] at h4 h5
  have e1 : 3600 * s * Q = s * 3600 * Q := by grind
  have e2 : 1000 * R * al = al * (1000 * R) := by grind
  have e3 : 1000 * R * (al - 1) = (al - 1) * (1000 * R) := by grind
  rw [e1, e2, e3]
  exact ⟨h0, h4, h5, fun h => al_le hs hR.1 hQ.1 h h5⟩
theorem to_ok {rows : List (Int × Int)} {xs : List Int} {k : Nat} {B : Int} (h : Know (valX (fnS rows) xs) k B) (hk : k ≤ 3) : 0 ≤ (toX k).den (valX (fnS rows) xs) ∧ (frL (lk (valX (fnS rows) xs) k)).1 ≤ (toX k).den (valX (fnS rows) xs) * (1000 * (frL (lk (valX (fnS rows) xs) k)).2) ∧ ((toX k).den (valX (fnS rows) xs) - 1) * (1000 * (frL (lk (valX (fnS rows) xs) k)).2) < (frL (lk (valX (fnS rows) xs) k)).1 := by
  have hl := lk_len (valX (fnS rows) xs) k
  have c := skI_ok h.ok ⟨by omega, by omega⟩
  have e : (toX k).den (valX (fnS rows) xs) = clK (skI (lk (valX (fnS rows) xs) k)) := by
    simp only [toX, X.den_app, sem_xs]; rfl
  rw [e]
  exact ⟨by unfold clK; omega, c.2.2.2.1, c.2.2.2.2⟩
theorem know0 {rows : List (Int × Int)} {xs : List Int} (hs : 0 ≤ (sX 0).den (valX (fnS rows) xs) ∧ (sX 0).den (valX (fnS rows) xs) ≤ 49) : Know (valX (fnS rows) xs) 0 5 := by
  generalize hρ : valX (fnS rows) xs = ρ at *
  have hf : ρ.fn = fnS rows := by rw [← hρ]; rfl
  generalize he : (sX 0).den ρ = s at *
  have g := gcd_q (rows := rows) (a := 3600 * s) (b := 1000) (by omega) (by decide) (by decide)
  have g2 := g.2.2.2 ⟨18 * s, by omega⟩ ⟨5, by decide⟩
  have al := al_ok (rows := rows) (s := s) (R := 1) (Q := 1) hs (by decide) (by decide)
  have e1 : (nuX 0).den ρ = (3600 * s).tdiv (fnS rows 90 [3600 * s, 1000]) := by
    simp only [nuX, gX, uX, ap2', mul, lit, X.den_quo, X.den_mul, X.den_lit, X.den_app, X.sem_cons, X.sem_nil, he, hf]
  have e2 : (deX 0).den ρ = (1000 : Int).tdiv (fnS rows 90 [3600 * s, 1000]) := by
    simp only [deX, gX, uX, ap2', mul, lit, X.den_quo, X.den_mul, X.den_lit, X.den_app, X.sem_cons, X.sem_nil, he, hf]
  have e3 : (eaX 0).den ρ = 0 + fnS rows 60 [s, 1, 1] := by
    simp only [eaX, alX, X.den_app, sem_xs, List.map_cons, List.map_nil, rX, qX, lit, X.den_lit, he, hf]; omega
  have e4 : (moX 0).den ρ = max 0 (fnS rows 60 [s, 1, 1]) := by
    simp only [moX, alX, X.den_max, X.den_app, sem_xs, List.map_cons, List.map_nil, rX, qX, lit, X.den_lit, he, hf]
  have e5 : lk ρ 0 = [s, 1, 1] := by
    simp only [lk, lkX, List.range, List.range.loop, List.flatMap_cons, List.flatMap_nil, List.append_nil, List.map_cons, List.map_nil, rX, qX, lit, X.den_lit, he]
  obtain ⟨g0, gn, gd, _⟩ := g
  generalize fnS rows 60 [s, 1, 1] = a at *
  generalize fnS rows 90 [3600 * s, 1000] = g at *
  have st := step (R := 1) (Q := 1) (s := s) (al := a) inv0 (by decide) (by decide) hs.1 g0 (num' := (3600 * s).tdiv g) (den' := (1000 : Int).tdiv g) (by rw [gn]; omega) (by rw [gd]; rfl) al.2.1 al.2.2.1 (al.2.2.2 (by decide)) al.1
  refine ⟨?_, ?_, ?_⟩
  · rw [e1, e2, e3, e4, e5]
    simpa [frL, fr] using st
  · rw [e5]; exact ⟨⟨hs.1, by omega⟩, by decide, by decide, trivial⟩
  · rw [e2]
    exact small (R := 1) (den := 1) g2 (by rw [gd]; rfl) st.i1
end Ts
end Go.Proofs.YtjlolhdkjpfcoaaGreat
