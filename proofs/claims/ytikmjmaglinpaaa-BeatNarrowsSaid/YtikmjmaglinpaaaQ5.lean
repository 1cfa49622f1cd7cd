/- Exact of clocks whose rods, and of truths whose growing, are written out. -/
import Derived.Test.YtikmjmaglinpaaaQ4
set_option linter.unusedSimpArgs false
set_option linter.unusedVariables false
namespace Go.Proofs.Ytikmjmaglinpaaa
open Abs Sx
set_option maxRecDepth 100000
namespace Be
end Be
end Go.Proofs.Ytikmjmaglinpaaa
