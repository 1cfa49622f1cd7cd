/- BeatMoves: the law, what is shown. -/
import Derived.Test.YtgpdodkcfiefjaaU3
set_option linter.unusedSimpArgs false
set_option linter.unusedVariables false
namespace Go.Proofs.Ytgpdodkcfiefjaa
open Abs Sx
set_option maxRecDepth 100000
namespace Be
def rodO : Nat × SO := (0, .row false (v 0) .nil cmM)
end Be
end Go.Proofs.Ytgpdodkcfiefjaa
