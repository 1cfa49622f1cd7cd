/- Narrower spans: what is reckoned of them lies in what is reckoned of the wider ones. Numbers alone. -/
import Derived.Test.YtikmjmaglinpaaaQ1
set_option linter.unusedSimpArgs false
set_option linter.unusedVariables false
namespace Go.Proofs.Ytikmjmaglinpaaa
open Abs Sx
namespace Be
structure Sub (a b a' b' : Int) : Prop where
  lo : a ≤ a'
  mid : a' ≤ b'
  hi : b' ≤ b
theorem Sub.all {a b a' b' : Int} (h : Sub a b a' b') : a ≤ b := by have := h.lo; have := h.mid; have := h.hi; omega
theorem Sub.refl {a b : Int} (h : a ≤ b) : Sub a b a b := ⟨Int.le_refl _, h, Int.le_refl _⟩
theorem len_c {L : Int} (h : 100 ≤ L) : -457 * (10000 * L).tdiv 1000 ≤ 0 := by
  rw [Int.tdiv_eq_ediv_of_nonneg (by omega)]; omega
end Be
end Go.Proofs.Ytikmjmaglinpaaa
