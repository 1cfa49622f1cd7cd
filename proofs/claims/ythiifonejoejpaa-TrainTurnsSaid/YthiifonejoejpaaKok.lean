/- The evaluator: the program is one that it knows. -/
import Derived.Test.YthiifonejoejpaaAb25
import Derived.KernelRfl
namespace Go.Proofs.Ythiifonejoejpaa
open Abs
set_option maxRecDepth 100000
theorem prog_ok : progOk Try.prog = true := by kernel_rfl
end Go.Proofs.Ythiifonejoejpaa
