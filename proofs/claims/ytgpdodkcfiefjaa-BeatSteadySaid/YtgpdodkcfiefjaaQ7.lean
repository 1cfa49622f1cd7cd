/- Narrower spans: what is reckoned of them lies in what is reckoned of the wider ones. Numbers alone. -/
import Derived.Test.YtgpdodkcfiefjaaQ1
set_option linter.unusedSimpArgs false
set_option linter.unusedVariables false
namespace Go.Proofs.Ytgpdodkcfiefjaa
open Abs Sx
namespace Be
structure Sub (a b a' b' : Int) : Prop where
  lo : a ≤ a'
  mid : a' ≤ b'
  hi : b' ≤ b
theorem Sub.all {a b a' b' : Int} (h : Sub a b a' b') : a ≤ b := by have := h.lo; have := h.mid; have := h.hi; omega
theorem Sub.refl {a b : Int} (h : a ≤ b) : Sub a b a b := ⟨Int.le_refl _, h, Int.le_refl _⟩
end Be
end Go.Proofs.Ytgpdodkcfiefjaa
