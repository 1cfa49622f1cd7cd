/- The evaluator: a piece of a call. -/
import Derived.KernelRfl
import Derived.Test.YtillboceclhoeaaKbs
namespace Go.Proofs.Ytillboceclhoeaa
open Abs
set_option maxRecDepth 100000
theorem kbp6 : piece Try.prog 100000 154 (headC (tailC (tailC (tailC (tailC (tailC (tailC (bodyOf Try.prog 14)))))))) kbs6 [1187, 493, 247, 1576, 823, 442, 1577, 49, 824, 492, 1137, 768, 1188] = some kbs7 := by kernel_rfl
theorem kbq6 : isSeq (tailC (tailC (tailC (tailC (tailC (tailC (bodyOf Try.prog 14))))))) = true := by kernel_rfl
end Go.Proofs.Ytillboceclhoeaa
