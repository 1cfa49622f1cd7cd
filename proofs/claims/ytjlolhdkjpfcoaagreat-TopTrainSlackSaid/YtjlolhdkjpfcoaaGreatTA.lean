/- Arithmetic of trains: products, lowest terms, turns, cycles. -/
import Derived.Test.YtjlolhdkjpfcoaaGreatS5
set_option linter.unusedSimpArgs false
set_option linter.unusedVariables false
namespace Go.Proofs.YtjlolhdkjpfcoaaGreat
namespace Tn
def lowR (a b : Int) : Int × Int := (a / Int.gcd a b, b / Int.gcd a b)
theorem gcd_pos_of (a b : Int) (hb : 1 ≤ b) : 1 ≤ (Int.gcd a b : Int) := by
  have : Int.gcd a b ≠ 0 := by
    intro h
    rw [Int.gcd_eq_zero_iff] at h
    omega
  omega
theorem gcd_le_of (a b : Int) (ha : 1 ≤ a) : (Int.gcd a b : Int) ≤ a := Int.le_of_dvd (by omega) (Int.gcd_dvd_left ..)
theorem gcd_le_of' (a b : Int) (hb : 1 ≤ b) : (Int.gcd a b : Int) ≤ b := Int.le_of_dvd (by omega) (Int.gcd_dvd_right ..)
theorem lowR_bd (a b c d : Int) (ha : 1 ≤ a) (hb : 1 ≤ b) (hc : a ≤ c) (hd : b ≤ d) : (1 ≤ (lowR a b).1 ∧ (lowR a b).1 ≤ c) ∧ (1 ≤ (lowR a b).2 ∧ (lowR a b).2 ≤ d) := by
  have hg := gcd_pos_of a b hb
  have h1 : (Int.gcd a b : Int) ∣ a := Int.gcd_dvd_left ..
  have h2 : (Int.gcd a b : Int) ∣ b := Int.gcd_dvd_right ..
  refine ⟨⟨?_, ?_⟩, ?_, ?_⟩
  · exact (Int.le_ediv_iff_mul_le (by omega)).2 (by have := gcd_le_of a b ha; omega)
  · exact Int.le_trans (Int.ediv_le_self _ (by omega)) hc
  · exact (Int.le_ediv_iff_mul_le (by omega)).2 (by have := gcd_le_of' a b hb; omega)
  · exact Int.le_trans (Int.ediv_le_self _ (by omega)) hd
end Tn
end Go.Proofs.YtjlolhdkjpfcoaaGreat
