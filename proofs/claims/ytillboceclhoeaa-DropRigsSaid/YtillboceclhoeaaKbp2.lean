/- The evaluator: a piece of a call. -/
import Derived.KernelRfl
import Derived.Test.YtillboceclhoeaaKbs
namespace Go.Proofs.Ytillboceclhoeaa
open Abs
set_option maxRecDepth 100000
theorem kbp2 : piece Try.prog 100000 154 (headC (tailC (tailC (bodyOf Try.prog 14)))) kbs2 [247, 442, 49] = some kbs3 := by kernel_rfl
theorem kbq2 : isSeq (tailC (tailC (bodyOf Try.prog 14))) = true := by kernel_rfl
end Go.Proofs.Ytillboceclhoeaa
