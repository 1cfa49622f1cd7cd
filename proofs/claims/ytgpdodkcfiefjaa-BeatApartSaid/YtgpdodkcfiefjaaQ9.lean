/- Chapter 3: a clock whose base is moved: its rates, changes and exact rates. -/
import Derived.Test.YtgpdodkcfiefjaaQ8
set_option linter.unusedSimpArgs false
set_option linter.unusedVariables false
namespace Go.Proofs.Ytgpdodkcfiefjaa
open Abs Sx
set_option maxRecDepth 100000
namespace Be
theorem pr_bd {a c A C : Int} (h1 : -A ≤ a) (h2 : a ≤ A) (h3 : -C ≤ c) (h4 : c ≤ C) : -(A * C) ≤ a * c ∧ a * c ≤ A * C := by
  have p1 := Int.mul_nonneg (show 0 ≤ A - a by omega) (show 0 ≤ C + c by omega)
  have p2 := Int.mul_nonneg (show 0 ≤ A + a by omega) (show 0 ≤ C - c by omega)
  have p3 := Int.mul_nonneg (show 0 ≤ A - a by omega) (show 0 ≤ C - c by omega)
  have p4 := Int.mul_nonneg (show 0 ≤ A + a by omega) (show 0 ≤ C + c by omega)
  simp only [Int.sub_mul, Int.add_mul, Int.mul_sub, Int.mul_add] at p1 p2 p3 p4
  generalize A * C = x at *
  generalize a * c = y at *
  omega
theorem m4_bd {a b c d A C : Int} (h1 : -A ≤ a ∧ a ≤ A) (h2 : -A ≤ b ∧ b ≤ A) (h3 : -C ≤ c ∧ c ≤ C) (h4 : -C ≤ d ∧ d ≤ C) : (-(A * C) ≤ min4 a b c d ∧ min4 a b c d ≤ A * C) ∧ -(A * C) ≤ max4 a b c d ∧ max4 a b c d ≤ A * C := by
  have p1 := pr_bd h1.1 h1.2 h3.1 h3.2
  have p2 := pr_bd h1.1 h1.2 h4.1 h4.2
  have p3 := pr_bd h2.1 h2.2 h3.1 h3.2
  have p4 := pr_bd h2.1 h2.2 h4.1 h4.2
  unfold min4 max4
  generalize A * C = x at *
  omega
theorem unit_in {L : Int} (h1 : 100 ≤ L) (h2 : L ≤ 100000) : -457 * (10000 * L).tdiv 1000 = -4570 * L := by
  rw [Int.tdiv_eq_ediv_of_nonneg (by omega)]; omega
section
variable {rods : List Rod} {grow : List Int} {b t L gl gh al ah dl dh hl hh pl ph rl rh fl fh : Int}
theorem ex_rest {L g h a p r d f : Int} (hL : 100 ≤ L) (hL2 : L ≤ 100000) (hg : -20000000000 ≤ g ∧ g ≤ 20000000000) (hh_ : -1000 ≤ h ∧ h ≤ 1000) (ha : -1000 ≤ a ∧ a ≤ 1000) (hp : -1000 ≤ p ∧ p ≤ 1000) (hr : -1000 ≤ r ∧ r ≤ 1000) (hd : -1000 ≤ d ∧ d ≤ 1000) (hf : -1000 ≤ f ∧ f ≤ 1000) :
    -100000000000000000 ≤ (g * h) * -432 + (a * p) * (10000 * L) + (r * r) * (-457 * (10000 * L).tdiv 1000) + (d * f) * (10000 * L) ∧ (g * h) * -432 + (a * p) * (10000 * L) + (r * r) * (-457 * (10000 * L).tdiv 1000) + (d * f) * (10000 * L) ≤ 100000000000000000 := by
  have m1 := pr_bd (A := 20000000000) (C := 1000) hg.1 hg.2 hh_.1 hh_.2
  have m2 := pr_bd (A := 1000) (C := 1000) ha.1 ha.2 hp.1 hp.2
  have m3 := pr_bd (A := 1000) (C := 1000) hr.1 hr.2 hr.1 hr.2
  have m4 := pr_bd (A := 1000) (C := 1000) hd.1 hd.2 hf.1 hf.2
  simp only [Int.reduceMul] at m1 m2 m3 m4
  have hu := unit_in hL hL2
  have U1 : (-1000000000 : Int) ≤ 10000 * L ∧ 10000 * L ≤ 1000000000 := by omega
  have V1 : (-457000000 : Int) ≤ -4570 * L ∧ -4570 * L ≤ 457000000 := by omega
  have a1 := pr_bd (A := 1000000) (C := 1000000000) m2.1 m2.2 U1.1 U1.2
  have b1 := pr_bd (A := 1000000) (C := 457000000) m3.1 m3.2 V1.1 V1.2
  have c1 := pr_bd (A := 1000000) (C := 1000000000) m4.1 m4.2 U1.1 U1.2
  simp only [Int.reduceMul] at a1 b1 c1
  rw [hu]; omega
theorem g71 (l : List Int) : -20000000000 ≤ fnB rods grow 71 l ∧ fnB rods grow 71 l ≤ 20000000000 := clampM_in (by decide)
theorem g72 (l : List Int) : -20000000000 ≤ fnB rods grow 72 l ∧ fnB rods grow 72 l ≤ 20000000000 := clampM_in (by decide)
end
end Be
end Go.Proofs.Ytgpdodkcfiefjaa
