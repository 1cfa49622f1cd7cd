/- The evaluator: a piece of a call. -/
import Derived.KernelRfl
import Derived.Test.YtillboceclhoeaaKbs
namespace Go.Proofs.Ytillboceclhoeaa
open Abs
set_option maxRecDepth 100000
theorem kbp0 : piece Try.prog 100000 154 (headC (bodyOf Try.prog 14)) kbs0 [] = some kbs1 := by kernel_rfl
theorem kbq0 : isSeq (bodyOf Try.prog 14) = true := by kernel_rfl
end Go.Proofs.Ytillboceclhoeaa
