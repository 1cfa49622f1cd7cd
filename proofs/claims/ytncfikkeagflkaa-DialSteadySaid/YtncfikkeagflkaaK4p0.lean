/- The evaluator: a piece of a call. -/
import Derived.KernelRfl
import Derived.Test.YtncfikkeagflkaaK4s
set_option linter.unusedSimpArgs false
set_option linter.unusedVariables false
namespace Go.Proofs.Ytncfikkeagflkaa
open Abs
set_option maxRecDepth 100000
theorem k4p0 : piece Try.prog 100000 185 (headC (bodyOf Try.prog 11)) k4s0 [] = some k4s1 := by kernel_rfl
theorem k4q0 : isSeq (bodyOf Try.prog 11) = true := by kernel_rfl
theorem k4p1 : piece Try.prog 100000 185 (headC (tailC (bodyOf Try.prog 11))) k4s1 [3, 2, 4] = some k4s2 := by kernel_rfl
theorem k4q1 : isSeq (tailC (bodyOf Try.prog 11)) = true := by kernel_rfl
theorem k4p2 : piece Try.prog 100000 185 (headC (tailC (tailC (bodyOf Try.prog 11)))) k4s2 [5, 2, 3, 6, 4] = some k4s3 := by kernel_rfl
theorem k4q2 : isSeq (tailC (tailC (bodyOf Try.prog 11))) = true := by kernel_rfl
theorem k4p3 : piece Try.prog 100000 185 (headC (tailC (tailC (tailC (bodyOf Try.prog 11))))) k4s3 [5, 2, 3, 6, 4] = some k4s4 := by kernel_rfl
theorem k4q3 : isSeq (tailC (tailC (tailC (bodyOf Try.prog 11)))) = true := by kernel_rfl
theorem k4p4 : piece Try.prog 100000 185 (headC (tailC (tailC (tailC (tailC (bodyOf Try.prog 11)))))) k4s4 [42, 43, 193, 5, 2, 3, 6, 4] = some k4s5 := by kernel_rfl
theorem k4q4 : isSeq (tailC (tailC (tailC (tailC (bodyOf Try.prog 11))))) = true := by kernel_rfl
end Go.Proofs.Ytncfikkeagflkaa
