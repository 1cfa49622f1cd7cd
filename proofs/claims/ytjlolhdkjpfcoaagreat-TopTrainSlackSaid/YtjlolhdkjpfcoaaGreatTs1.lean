/- TopTrainSlack: sums of links' slacks, as fractions in lowest terms and as the program has them. -/
import Derived.Test.YtjlolhdkjpfcoaaGreatS6
set_option linter.unusedSimpArgs false
set_option linter.unusedVariables false
namespace Go.Proofs.YtjlolhdkjpfcoaaGreat
namespace Ts
structure Inv (k num den each most N D : Int) : Prop where
  i1 : 1 ≤ den
  i2 : 0 ≤ num
  i3 : num ≤ 3600 * k * den
  i4 : num * (1000 * D) = N * den
  i5 : num ≤ each * den
  i6 : (most - 1) * den < num
  i7 : 1 ≤ D
  i8 : 0 ≤ each
  i9 : 0 ≤ most
theorem inv0 : Inv 0 0 1 0 0 0 1 := ⟨by decide, by decide, by decide, by decide, by decide, by decide, by decide, by decide, by decide⟩
theorem mul_nn {a b : Int} (h : 0 ≤ a) (k : 0 ≤ b) : 0 ≤ a * b := Int.mul_nonneg h k
theorem mul_p {a b : Int} (h : 1 ≤ a) (k : 1 ≤ b) : 1 ≤ a * b := by
  have := Int.mul_le_mul h k (by decide) (by omega)
  omega
theorem cancel_le {a b g : Int} (hg : 1 ≤ g) (h : a * g ≤ b * g) : a ≤ b := Int.le_of_mul_le_mul_right h (by omega)
theorem cancel_lt {a b g : Int} (hg : 1 ≤ g) (h : a * g < b * g) : a < b := Int.lt_of_mul_lt_mul_right h (by omega)
theorem cancel_eq {a b g : Int} (hg : 1 ≤ g) (h : a * g = b * g) : a = b := Int.eq_of_mul_eq_mul_right (by omega) h
theorem step {k num den each most N D s R Q al g num' den' : Int} (h : Inv k num den each most N D) (hR : 1 ≤ R) (hQ : 1 ≤ Q) (hs : 0 ≤ s) (hg : 1 ≤ g)
    (hn : num' * g = num * 1000 * R + 3600 * s * Q * den) (hd : den' * g = den * 1000 * R) (h1 : 3600 * s * Q ≤ 1000 * R * al) (h2 : 1000 * R * (al - 1) < 3600 * s * Q) (h3 : al ≤ 3600) (h4 : 0 ≤ al) :
    Inv (k + 1) num' den' (each + al) (max most al) (N * R + s * 3600 * Q * D) (D * R) := by
  obtain ⟨a1, a2, a3, a4, a5, a6, a7, a8, a9⟩ := h
  have hb : 1 ≤ den * 1000 * R := mul_p (by omega) hR
  have sq : 0 ≤ 3600 * s * Q := mul_nn (by omega) (by omega)
  have t1 : 3600 * s * Q * den ≤ 1000 * R * al * den := Int.mul_le_mul_of_nonneg_right h1 (by omega)
  have t2 : 1000 * R * (al - 1) * den < 3600 * s * Q * den := Int.mul_lt_mul_of_pos_right h2 (by omega)
  have t0 : 0 ≤ 3600 * s * Q * den := mul_nn sq (by omega)
  have nn : 0 ≤ num * 1000 * R := mul_nn (by omega) (by omega)
  have c1 : 1 ≤ den' := by
    have : 0 < den' * g := by omega
    have := Int.pos_of_mul_pos_left this (by omega)
    omega
  have c2 : 0 ≤ num' := by
    refine cancel_le hg ?_
    rw [hn]; omega
  refine ⟨c1, c2, ?_, ?_, ?_, ?_, mul_p a7 hR, by omega, by omega⟩
  · refine cancel_le hg ?_
    have e1 : 3600 * (k + 1) * den' * g = 3600 * k * den * (1000 * R) + 3600 * (1000 * R * den) := by
      rw [Int.mul_assoc, hd]; grind
    have e2 : 1000 * R * al * den ≤ 3600 * (1000 * R * den) := by
      have : 1000 * R * al * den = al * (1000 * R * den) := by grind
      rw [this]
      exact Int.mul_le_mul_of_nonneg_right h3 (mul_nn (by omega) (by omega))
    have e3 : num * (1000 * R) ≤ 3600 * k * den * (1000 * R) := Int.mul_le_mul_of_nonneg_right a3 (by omega)
    have e4 : num * 1000 * R = num * (1000 * R) := by grind
    rw [hn, e1]
    omega
  · refine cancel_eq hg ?_
    have : num' * (1000 * (D * R)) * g = num' * g * (1000 * (D * R)) := by grind
    rw [this, hn]
    have : (N * R + s * 3600 * Q * D) * den' * g = (N * R + s * 3600 * Q * D) * (den' * g) := by grind
    rw [this, hd]
    have e : num * 1000 * R * (1000 * (D * R)) = num * (1000 * D) * (1000 * R * R) := by grind
    rw [Int.add_mul, e, a4]; grind
  · refine cancel_le hg ?_
    have : (each + al) * den' * g = (each + al) * (den' * g) := by grind
    rw [this, hn, hd]
    have e3 : num * (1000 * R) ≤ each * den * (1000 * R) := Int.mul_le_mul_of_nonneg_right a5 (by omega)
    have e5 : (each + al) * (den * 1000 * R) = each * den * (1000 * R) + 1000 * R * al * den := by grind
    have e4 : num * 1000 * R = num * (1000 * R) := by grind
    omega
  · refine cancel_lt hg ?_
    have : (max most al - 1) * den' * g = (max most al - 1) * (den' * g) := by grind
    rw [this, hn, hd]
    rcases (by omega : max most al = most ∨ max most al = al) with e | e
    · rw [e]
      have e3 : (most - 1) * den * (1000 * R) < num * (1000 * R) := Int.mul_lt_mul_of_pos_right a6 (by omega)
      have e5 : (most - 1) * (den * 1000 * R) = (most - 1) * den * (1000 * R) := by grind
      have e4 : num * 1000 * R = num * (1000 * R) := by grind
      omega
    · rw [e]
      have e5 : (al - 1) * (den * 1000 * R) = 1000 * R * (al - 1) * den := by grind
      omega
theorem ends {k num den each most N D n : Int} (h : Inv k num den each most N D) (h1 : N ≤ n * (1000 * D)) (h2 : (n - 1) * (1000 * D) < N) : num ≤ n * den ∧ (n - 1) * den < num ∧ n ≤ each ∧ most ≤ n := by
  obtain ⟨a1, a2, a3, a4, a5, a6, a7, a8, a9⟩ := h
  have p : 1 ≤ 1000 * D := by omega
  have b1 : num ≤ n * den := by
    refine cancel_le p ?_
    rw [a4]
    have := Int.mul_le_mul_of_nonneg_right h1 (show 0 ≤ den by omega)
    have e : n * den * (1000 * D) = n * (1000 * D) * den := by grind
    omega
  have b2 : (n - 1) * den < num := by
    refine cancel_lt p ?_
    rw [a4]
    have := Int.mul_lt_mul_of_pos_right h2 (show 0 < den by omega)
    have e : (n - 1) * den * (1000 * D) = (n - 1) * (1000 * D) * den := by grind
    omega
  refine ⟨b1, b2, ?_, ?_⟩
  · have := cancel_lt a1 (show (n - 1) * den < each * den by omega)
    omega
  · have := cancel_lt a1 (show (most - 1) * den < n * den by omega)
    omega
theorem more {k num den each most N D n : Int} (h : Inv k num den each most N D) (h1 : N ≤ n * (1000 * D)) (h2 : (n - 1) * (1000 * D) < N) : 3600 * den < num ↔ 3600 < n := by
  have e := ends h h1 h2
  constructor
  · intro q
    exact cancel_lt h.i1 (show 3600 * den < n * den by omega)
  · intro q
    have : 3600 * den ≤ (n - 1) * den := Int.mul_le_mul_of_nonneg_right (by omega) (by have := h.i1; omega)
    omega
theorem small {g den' den R : Int} (hg : 200 ≤ g) (hd : den' * g = den * 1000 * R) (h1 : 1 ≤ den') : den' ≤ 5 * R * den := by
  have : den' * 200 ≤ den' * g := Int.mul_le_mul_of_nonneg_left hg (by omega)
  have e : den * 1000 * R = 5 * R * den * 200 := by grind
  omega
theorem g200 {a b : Int} (ha : (200 : Int) ∣ a) (hb : (200 : Int) ∣ b) (h : 1 ≤ b) : 200 ≤ (Int.gcd a b : Int) := by
  have h1 : (200 : Int) ∣ (Int.gcd a b : Int) := Int.dvd_coe_gcd ha hb
  have h2 : 0 < (Int.gcd a b : Int) := by
    have := Int.gcd_pos_of_ne_zero_right a (show b ≠ 0 by omega)
    omega
  exact Int.le_of_dvd h2 h1
theorem k1 {n d w p : Int} (h : n * p = d * w) (hn : 1 ≤ n) (hd : 1 ≤ d) (h1 : 6 ≤ w) (h2 : p ≤ 17) : 49 * d ≤ 1000 * n := by
  have a : 6 * d ≤ d * w := by rw [Int.mul_comm 6 d]; exact Int.mul_le_mul_of_nonneg_left h1 (by omega)
  have b : n * p ≤ n * 17 := Int.mul_le_mul_of_nonneg_left h2 (by omega)
  omega
theorem k2 {n d W P : Int} (h : n * P = d * W) (hn : 1 ≤ n) (hd : 1 ≤ d) (h1 : 36 ≤ W) (h2 : P ≤ 289) : 49 * d ≤ 1000 * n := by
  have a : 36 * d ≤ d * W := by rw [Int.mul_comm 36 d]; exact Int.mul_le_mul_of_nonneg_left h1 (by omega)
  have b : n * P ≤ n * 289 := Int.mul_le_mul_of_nonneg_left h2 (by omega)
  omega
theorem two_mul_lt {a b : Int} (ha : 6 ≤ a) (hb : 6 ≤ b) (h : a * b ≤ 40) : a = 6 ∧ b = 6 := by
  have h1 : a = 6 ∨ 7 ≤ a := by omega
  have h2 : b = 6 ∨ 7 ≤ b := by omega
  have hab : a * 6 ≤ a * b := Int.mul_le_mul_of_nonneg_left hb (by omega)
  have hba : 6 * b ≤ a * b := Int.mul_le_mul_of_nonneg_right ha (by omega)
  omega
theorem k3 {n d w1 w2 w3 p1 p2 p3 : Int} (h : n * (p1 * p2 * p3) = d * (w1 * w2 * w3)) (hn : 1 ≤ n) (hd : 1 ≤ d) (hd2 : d ≤ 200) (a1 : 6 ≤ w1) (a2 : 6 ≤ w2) (a3 : 6 ≤ w3) (b1 : 6 ≤ p1 ∧ p1 ≤ 17) (b2 : 6 ≤ p2 ∧ p2 ≤ 17) (b3 : 6 ≤ p3 ∧ p3 ≤ 17) : 49 * d ≤ 1000 * n := by
  rcases Int.lt_or_le (1000 * n) (49 * d) with hlt | hge
  · exfalso
    have hw : 36 ≤ w1 * w2 := by have := Int.mul_le_mul a1 a2 (by decide) (by omega); omega
    have hp : p1 * p2 ≤ 289 := by have := Int.mul_le_mul b1.2 b2.2 (by omega) (by omega); omega
    have hp0 : 36 ≤ p1 * p2 := by have := Int.mul_le_mul b1.1 b2.1 (by decide) (by omega); omega
    have hW : w1 * w2 * 6 ≤ w1 * w2 * w3 := Int.mul_le_mul_of_nonneg_left a3 (by omega)
    have hP : p1 * p2 * p3 ≤ p1 * p2 * 17 := Int.mul_le_mul_of_nonneg_left b3.2 (by omega)
    generalize hX : w1 * w2 * w3 = W at *
    generalize hY : p1 * p2 * p3 = P at *
    have hWp : 216 ≤ W := by omega
    -- 1000 * n * W < 49 * d * W = 49 * n * P
    have q1 : 1000 * n * W < 49 * d * W := Int.mul_lt_mul_of_pos_right hlt (by omega)
    have q2 : 49 * d * W = 49 * P * n := by rw [Int.mul_assoc, ← h]; grind
    have q3 : 1000 * W * n < 49 * P * n := by have : 1000 * n * W = 1000 * W * n := by grind
                                              omega
    have q4 : 1000 * W < 49 * P := cancel_lt hn q3
    have hPm : P ≤ 4913 := by omega
    have hWm : W ≤ 240 := by omega
    have w40 : w1 * w2 ≤ 40 := by omega
    obtain ⟨rfl, rfl⟩ := two_mul_lt a1 a2 w40
    have w3e : w3 = 6 := by omega
    subst w3e
    have hW2 : W = 216 := by omega
    subst hW2
    have hPl : 4408 < P := by omega
    -- the pinions
    have c : ∀ a b : Int, 6 ≤ a → a ≤ 17 → 6 ≤ b → b ≤ 17 → 259 < a * b → (a = 17 ∧ b = 17) ∨ (a = 16 ∧ b = 17) ∨ (a = 17 ∧ b = 16) := by
      intro a b x1 x2 y1 y2 z
      have t1 : a * b ≤ a * 17 := Int.mul_le_mul_of_nonneg_left y2 (by omega)
      have t2 : a * b ≤ 17 * b := Int.mul_le_mul_of_nonneg_right x2 (by omega)
      have ha : a = 16 ∨ a = 17 := by omega
      have hb : b = 16 ∨ b = 17 := by omega
      rcases ha with rfl | rfl <;> rcases hb with rfl | rfl <;> simp at z ⊢
    have z : 259 < p1 * p2 := by omega
    rcases c p1 p2 b1.1 b1.2 b2.1 b2.2 z with ⟨rfl, rfl⟩ | ⟨rfl, rfl⟩ | ⟨rfl, rfl⟩
    · have : p3 = 16 ∨ p3 = 17 := by omega
      rcases this with rfl | rfl
      · have : P = 4624 := by omega
        subst this; omega
      · have : P = 4913 := by omega
        subst this; omega
    · have : p3 = 17 := by omega
      subst this
      have : P = 4624 := by omega
      subst this; omega
    · have : p3 = 17 := by omega
      subst this
      have : P = 4624 := by omega
      subst this; omega
  · exact hge
end Ts
end Go.Proofs.YtjlolhdkjpfcoaaGreat
