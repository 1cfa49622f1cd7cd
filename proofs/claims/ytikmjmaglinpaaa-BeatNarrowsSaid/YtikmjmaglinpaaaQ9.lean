/- Chapter 3: a clock whose base is moved: its rates, changes and exact rates. -/
import Derived.Test.YtikmjmaglinpaaaQ8
set_option linter.unusedSimpArgs false
set_option linter.unusedVariables false
namespace Go.Proofs.Ytikmjmaglinpaaa
open Abs Sx
set_option maxRecDepth 100000
namespace Be
section
variable {rods : List Rod} {grow : List Int} {b t L gl gh al ah dl dh hl hh pl ph rl rh fl fh : Int}
end
end Be
end Go.Proofs.Ytikmjmaglinpaaa
