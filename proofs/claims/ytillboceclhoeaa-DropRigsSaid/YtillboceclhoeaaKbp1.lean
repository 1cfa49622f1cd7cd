/- The evaluator: a piece of a call. -/
import Derived.KernelRfl
import Derived.Test.YtillboceclhoeaaKbs
namespace Go.Proofs.Ytillboceclhoeaa
open Abs
set_option maxRecDepth 100000
theorem kbp1 : piece Try.prog 100000 154 (headC (tailC (bodyOf Try.prog 14))) kbs1 [49] = some kbs2 := by kernel_rfl
theorem kbq1 : isSeq (tailC (bodyOf Try.prog 14)) = true := by kernel_rfl
end Go.Proofs.Ytillboceclhoeaa
