/- Made clocks: what a law wants to know of them; calls by what is shown of them. -/
import Derived.Test.YtgpdodkcfiefjaaU2
import Derived.Test.YtgpdodkcfiefjaaU2d
import Derived.Test.YtgpdodkcfiefjaaQ2
set_option linter.unusedSimpArgs false
set_option linter.unusedVariables false
namespace Go.Proofs.Ytgpdodkcfiefjaa
open Abs Sx
set_option maxRecDepth 100000
namespace Be
def rwV (q i k : Nat) : SV := .slice q 0 (lit 0) (v i) (v (i + 1)) k true
def frV (q k : Nat) : SV := .slice q 0 (lit 0) (lit 0) (lit 0) k true
def pKn3 : Pr := ⟨11, [], [], fun _ => .leaf (.bool (lit 1))⟩
theorem lowI_b (x : Int) (b : Bool) : lowI x (bif b then 1 else 0) = bif b then 0 - x else x := by cases b <;> rfl
theorem lowI_0 (x : Int) : lowI x 0 = x := rfl
theorem f73 {rods : List Rod} {grow l : List Int} : fnB rods grow 73 l = clampM 400000 (lnL l) := rfl
section
variable {rods : List Rod} {grow : List Int}
theorem ka {x y : Int} (h : 0 ≤ x) (k : 0 ≤ y) : fnB rods grow 111 [x] ≤ fnB rods grow 112 [x, y] := by
  rw [a111 h, a112 h k]
  have c := Int.tmod_nonneg 50 k
  omega
theorem kd {k x y : Int} (h : 0 ≤ x) (h2 : x ≤ 255) (g : 0 ≤ y) (g2 : y ≤ 255) : fnB rods grow 113 [k, x] ≤ fnB rods grow 114 [k, x, y] := by
  rw [a113 h h2, a114 h h2 g g2]
  split
  · omega
  · split <;> omega
theorem kk2 {k x : Int} (hk : 0 ≤ k) (h : 0 ≤ x) (h2 : x ≤ 255) (e : fnB rods grow 110 [k] = 2) : 0 ≤ fnB rods grow 113 [k, x] := by
  rw [a110 hk] at e
  rw [a113 h h2]
  split
  · omega
  · split <;> omega
theorem kk3 {k x y : Int} (hk : 0 ≤ k) (h : 0 ≤ x) (h2 : x ≤ 255) (g : 0 ≤ y) (g2 : y ≤ 255) (e : fnB rods grow 110 [k] = 3) : fnB rods grow 113 [k, x] = 0 ∧ fnB rods grow 114 [k, x, y] = 0 := by
  rw [a110 hk] at e
  rw [a113 h h2, a114 h h2 g g2, if_pos (by omega), if_pos (by omega)]
  exact ⟨rfl, rfl⟩
variable (hM : ∀ i l, inR (fnB rods grow i l) (nthR RU.fr i))
include hM
theorem kg (l : List Int) : fnB rods grow 116 l ≤ fnB rods grow 117 l := by
  have k : 0 ≤ fnB rods grow 2 l ∧ fnB rods grow 2 l ≤ 255 := hM 2 l
  rw [a116 hM, a117 hM]; omega
omit hM in
theorem ln1 : fnB rods grow 73 [9000, 0] = 9000 := rfl
theorem ln2 : 100 ≤ fnB rods grow 73 [9000, 0, fnB rods grow 115 [0], bif i2b (fnB rods grow 118 [0]) then 1 else 0] ∧ fnB rods grow 73 [9000, 0, fnB rods grow 115 [0], bif i2b (fnB rods grow 118 [0]) then 1 else 0] ≤ 100000 := by
  have h : 1 ≤ fnB rods grow 115 [0] ∧ fnB rods grow 115 [0] ≤ 4000 := hM 115 [0]
  rw [f73]; simp only [lnL, lowI_b, lowI_0]; cases i2b (fnB rods grow 118 [0]) <;> simp only [cond_true, cond_false, clampM] <;> omega
theorem ln3 : 100 ≤ fnB rods grow 73 [9000, 0, fnB rods grow 115 [0], bif i2b (fnB rods grow 118 [0]) then 1 else 0, fnB rods grow 115 [1], bif i2b (fnB rods grow 118 [1]) then 1 else 0] ∧
    fnB rods grow 73 [9000, 0, fnB rods grow 115 [0], bif i2b (fnB rods grow 118 [0]) then 1 else 0, fnB rods grow 115 [1], bif i2b (fnB rods grow 118 [1]) then 1 else 0] ≤ 100000 := by
  have h : 1 ≤ fnB rods grow 115 [0] ∧ fnB rods grow 115 [0] ≤ 4000 := hM 115 [0]
  have k : 1 ≤ fnB rods grow 115 [1] ∧ fnB rods grow 115 [1] ≤ 4000 := hM 115 [1]
  rw [f73]; simp only [lnL, lowI_b, lowI_0]; cases i2b (fnB rods grow 118 [0]) <;> cases i2b (fnB rods grow 118 [1]) <;> simp only [cond_true, cond_false, clampM] <;> omega
theorem ln4 : 100 ≤ fnB rods grow 73 [9000, 0, fnB rods grow 115 [0], bif i2b (fnB rods grow 118 [0]) then 1 else 0, fnB rods grow 115 [1], bif i2b (fnB rods grow 118 [1]) then 1 else 0, fnB rods grow 115 [2], bif i2b (fnB rods grow 118 [2]) then 1 else 0] ∧
    fnB rods grow 73 [9000, 0, fnB rods grow 115 [0], bif i2b (fnB rods grow 118 [0]) then 1 else 0, fnB rods grow 115 [1], bif i2b (fnB rods grow 118 [1]) then 1 else 0, fnB rods grow 115 [2], bif i2b (fnB rods grow 118 [2]) then 1 else 0] ≤ 100000 := by
  have h : 1 ≤ fnB rods grow 115 [0] ∧ fnB rods grow 115 [0] ≤ 4000 := hM 115 [0]
  have k : 1 ≤ fnB rods grow 115 [1] ∧ fnB rods grow 115 [1] ≤ 4000 := hM 115 [1]
  have g : 1 ≤ fnB rods grow 115 [2] ∧ fnB rods grow 115 [2] ≤ 4000 := hM 115 [2]
  have e0 := a118a hM
  have e1 := a118b hM
  have e2 := a118c hM
  rw [← e0, ← e1] at e2
  rw [f73]; simp only [lnL, lowI_b, lowI_0]
  cases h2 : i2b (fnB rods grow 118 [2]) with
  | false => cases i2b (fnB rods grow 118 [0]) <;> cases i2b (fnB rods grow 118 [1]) <;> simp only [cond_true, cond_false, clampM] <;> omega
  | true =>
    rw [h2] at e2
    have e3 := (Bool.and_eq_true_iff.1 e2.symm).2
    rw [Bool.not_eq_true', decide_eq_false_iff_not] at e3
    cases h0 : i2b (fnB rods grow 118 [0]) <;> cases h1 : i2b (fnB rods grow 118 [1]) <;> rw [h0, h1] at e3 <;> simp only [if_true, if_false, Bool.false_eq_true, cond_true, cond_false, clampM] at e3 ⊢ <;> omega
end
end Be
end Go.Proofs.Ytgpdodkcfiefjaa
