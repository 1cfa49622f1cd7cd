/- BeatMoves: the law, what is shown. -/
import Derived.Test.YtikmjmaglinpaaaU3
set_option linter.unusedSimpArgs false
set_option linter.unusedVariables false
namespace Go.Proofs.Ytikmjmaglinpaaa
open Abs Sx
set_option maxRecDepth 100000
namespace Be
def rodO : Nat × SO := (0, .row false (v 0) .nil cmM)
def byO : Nat × SO := (1, .row false (v 16) .nil [.int .u8 4])
end Be
end Go.Proofs.Ytikmjmaglinpaaa
