/- TopZoneDial: the law holds. -/
import Derived.Test.YtanmiffgmiikfaaGreatZd1
set_option linter.unusedSimpArgs false
set_option linter.unusedVariables false
namespace Go.Proofs.YtanmiffgmiikfaaGreat
open Abs Sx
set_option maxRecDepth 100000
namespace Zd
theorem md (a : Int) {n : Int} (hn : 0 < n) : (a.tmod n + n).tmod n = a % n := by
  have h0 : -n < a.tmod n := Int.lt_tmod_of_pos a hn
  rw [Int.tmod_eq_emod_of_nonneg (by omega), Int.add_emod_right]
  have e : a.tmod n = a - n * a.tdiv n := by have := Int.tmod_add_mul_tdiv a n; omega
  rw [e, Int.sub_mul_emod_self_left]
theorem qd (a : Int) {n : Int} (hn : 0 < n) : (a - a % n).tdiv n = a / n := by
  have e : a - a % n = n * (a / n) := by have := Int.emod_add_mul_ediv a n; omega
  rw [e, Int.mul_tdiv_cancel_left _ (by omega)]
section
variable {ρ : Val} {x t s sh : X}
theorem mod_den {n : Int} (hn : 0 < n) : (modX x (lit n)).den ρ = x.den ρ % n := by
  simp only [modX, rem, add, lit, X.den_rem, X.den_add, X.den_lit]; exact md _ hn
theorem qq_den {n : Int} (hn : 0 < n) : (qq x n).den ρ = x.den ρ / n := by
  simp only [qq, quo, sub, X.den_quo, X.den_sub, mod_den hn]; exact qd _ hn
theorem pl_den : (plX t).den ρ = t.den ρ := by
  simp only [plX, sub, X.den_sub, mod_den (show (0 : Int) < 1 by decide)]; omega
theorem ha_den : (haX t s).den ρ = t.den ρ + s.den ρ := by simp only [haX, add, X.den_add, pl_den]
theorem mn_den : (mnX x sh).den ρ = x.den ρ / 60 + (sh.den ρ - x.den ρ / 60) % 720 := by
  simp only [mnX, add, X.den_add, mod_den (show (0 : Int) < 720 by decide), sub, X.den_sub, qq_den (show (0 : Int) < 60 by decide)]
theorem se_den : (seX x).den ρ = x.den ρ % 86400 % 43200 := by
  have h : 0 ≤ x.den ρ % 86400 := Int.emod_nonneg _ (by decide)
  simp only [seX, rem, X.den_rem, mod_den (show (0 : Int) < 86400 by decide)]
  exact Int.tmod_eq_emod_of_nonneg h
theorem sh1_den : (sh1 x).den ρ = x.den ρ % 86400 % 43200 / 60 := by
  have h : 0 ≤ x.den ρ % 86400 % 43200 := Int.emod_nonneg _ (by decide)
  simp only [sh1, quo, X.den_quo, se_den, lit, X.den_lit]
  exact Int.tdiv_eq_ediv_of_nonneg h
theorem sh0_den (ht : 0 ≤ t.den ρ) : (sh0 t).den ρ = t.den ρ % 43200 / 60 := by
  have h : 0 ≤ t.den ρ % 43200 := Int.emod_nonneg _ (by decide)
  simp only [sh0, quo, rem, X.den_quo, X.den_rem, lit, X.den_lit]
  rw [Int.tmod_eq_emod_of_nonneg ht, Int.tdiv_eq_ediv_of_nonneg h]
theorem same {a b : Int} (h : b % 720 = (a / 60) % 720) : (b - a / 60) % 720 = 0 := by omega
theorem mn0 (ht : 0 ≤ t.den ρ) : (mnX t (sh0 t)).den ρ = t.den ρ / 60 := by
  rw [mn_den, sh0_den ht]
  have : t.den ρ % 43200 / 60 % 720 = t.den ρ / 60 % 720 := by omega
  rw [same this]; omega
theorem mn1 : (mnX x (sh1 x)).den ρ = x.den ρ / 60 := by
  rw [mn_den, sh1_den]
  have e : x.den ρ % 86400 % 43200 = x.den ρ % 43200 := by omega
  rw [e]
  have : x.den ρ % 43200 / 60 % 720 = x.den ρ / 60 % 720 := by omega
  rw [same this]; omega
theorem loopF_ok (h : (mnX x sh).den ρ = x.den ρ / 60) (h2 : sh.den ρ ≤ 719) : AllB ρ (loopF x sh) := by
  refine ⟨?_, ?_, ?_, ?_, trivial⟩
  · simp only [le, X.dB_le, leB_t, h, qq_den (show (0 : Int) < 60 by decide)]; omega
  · simp only [lt, add, lit, X.dB_lt, ltB_t, X.den_add, X.den_lit, h, qq_den (show (0 : Int) < 60 by decide)]; omega
  · simp only [le, X.dB_le, leB_t, h, qq_den (show (0 : Int) < 60 by decide)]; omega
  · simp only [le, lit, X.dB_le, leB_t, X.den_lit]; exact h2
theorem oneF_ok (ht : 0 ≤ t.den ρ) : AllB ρ (oneF t s) := by
  refine AllB.append ⟨?_, ?_, ?_, trivial⟩ (AllB.append (loopF_ok (mn0 ht) ?_) (loopF_ok mn1 ?_))
  · simp only [le, X.dB_le, leB_t, pl_den]; omega
  · simp only [lt, add, lit, X.dB_lt, ltB_t, X.den_add, X.den_lit, pl_den]; omega
  · simp only [lt, sub, add, X.dB_lt, ltB_t, X.den_sub, X.den_add, mod_den (show (0 : Int) < 43200 by decide), ha_den]
    simp only [lit, X.den_lit]; omega
  · rw [sh0_den ht]; omega
  · rw [sh1_den]; omega
theorem half_vc {r : OT SV} (ht : 0 ≤ t.den ρ) (hr : OT.vc ρ (fun w => w.den ρ = .bool true) r) : OT.vc ρ (fun w => w.den ρ = .bool true) (half t s r) := by
  have e1 : (modX (haX t s) (lit 43200)).den ρ = (t.den ρ + s.den ρ) % 43200 := by rw [mod_den (by decide), ha_den]
  have e2 : (seX (add t s)).den ρ = (t.den ρ + s.den ρ) % 86400 % 43200 := by rw [se_den]; rfl
  have e7 : (sub (add (modX (haX t s) (lit 43200)) (haX t s)) (haX t s)).den ρ = (t.den ρ + s.den ρ) % 43200 := by
    simp only [sub, add, X.den_sub, X.den_add, e1, ha_den]; omega
  have e3 : (b0X t).den ρ = t.den ρ / 60 * 60 := by
    simp only [b0X, mul, lit, X.den_mul, X.den_lit]; rw [mn0 ht]
  have e4 : (b1X t s).den ρ = (t.den ρ + s.den ρ) / 60 * 60 - s.den ρ := by
    simp only [b1X, mul, sub, lit, X.den_mul, X.den_sub, X.den_lit]; rw [mn1]; rfl
  have e5 : (loX t s).den ρ = t.den ρ := by
    simp only [loX, X.den_max, e3, e4]; omega
  have e6 : (hiX t s).den ρ = t.den ρ := by
    simp only [hiX, X.den_min, add, lit, X.den_add, X.den_lit, e3, e4]; omega
  have hb : OT.vc ρ (fun w => w.den ρ = .bool true) (body t s r) := by
    refine ⟨fun h => ?_, fun _ => ⟨fun _ => ⟨fun h => ?_, fun _ => hr⟩, fun h => ?_⟩⟩
    · exfalso
      simp only [eq, X.denB_not, X.denB_and, Bool.not_eq_true', Bool.and_eq_false_iff, X.dB_eq, eqB_f, e1, e2, e7] at h
      omega
    · exfalso
      simp only [eq, X.denB_not, X.denB_and, Bool.not_eq_true', Bool.and_eq_false_iff, X.dB_eq, eqB_f, e5, e6] at h
      omega
    · exfalso
      simp only [le, X.dB_le, leB_f, e5, e6] at h
      omega
  exact ⟨fun _ => hb, fun _ => hb⟩
end
theorem zd_pre {fn : Nat → List Int → Int} {x0 x1 x2 x3 : Int} (z0 : -32768 ≤ x0 ∧ x0 ≤ 32767) (z1 : -32768 ≤ x1 ∧ x1 ≤ 32767) (z2 : 0 ≤ x2 ∧ x2 ≤ 65535) (z3 : 0 ≤ x3 ∧ x3 ≤ 65535) : AllB (valX fn [x0, x1, x2, x3]) (zF ++ zdP) := by
  have h0 : 0 ≤ t0X.den (valX fn [x0, x1, x2, x3]) := z2.1
  have h1 : t1X.den (valX fn [x0, x1, x2, x3]) = x2 + (1 + x3) := rfl
  have h2 : atX.den (valX fn [x0, x1, x2, x3]) = x2 + 1 := rfl
  have h3 : (v 2).den (valX fn [x0, x1, x2, x3]) = x2 := rfl
  have h4 : t0X.den (valX fn [x0, x1, x2, x3]) = x2 := rfl
  refine AllB.append (AllB.append (oneF_ok h0) (AllB.append (oneF_ok (by rw [h1]; omega)) ⟨?_, ?_, ?_, ?_, ?_, ?_, trivial⟩)) ?_
  · simp only [lt, X.dB_lt, ltB_t, h4, h2]; omega
  · simp only [lt, X.denB_not, Bool.not_eq_true', X.dB_lt, ltB_f, h1, h2]; omega
  · simp only [le, X.dB_le, leB_t, h1, h2]; omega
  · simp only [lt, X.dB_lt, ltB_t, h1, h3]; omega
  · simp only [le, X.denB_not, Bool.not_eq_true', X.dB_le, leB_f, h1, h3]; omega
  · simp only [le, sub, lit, X.dB_le, leB_t, X.den_sub, X.den_lit]; omega
  · simp only [zdP, rg, le, v, lit, List.cons_append, List.nil_append, AllB, X.dB_le, leB_t, X.den_lit, X.den_var, valX_v, List.getD_cons_zero, List.getD_cons_succ]
    exact ⟨z0.1, z0.2, z1.1, z1.2, z2.1, z2.2, z3.1, z3.2, trivial⟩
end Zd
end Go.Proofs.YtanmiffgmiikfaaGreat
