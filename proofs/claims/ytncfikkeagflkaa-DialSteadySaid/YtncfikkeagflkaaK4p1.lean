/- The evaluator: a piece of a call. -/
import Derived.KernelRfl
import Derived.Test.YtncfikkeagflkaaK4s
set_option linter.unusedSimpArgs false
set_option linter.unusedVariables false
namespace Go.Proofs.Ytncfikkeagflkaa
open Abs
set_option maxRecDepth 100000
theorem k4p5 : piece Try.prog 100000 185 (headC (tailC (tailC (tailC (tailC (tailC (bodyOf Try.prog 11))))))) k4s5 [196, 197, 297, 42, 43, 193, 5, 2, 3, 6, 4] = some k4s6 := by kernel_rfl
theorem k4q5 : isSeq (tailC (tailC (tailC (tailC (tailC (bodyOf Try.prog 11)))))) = true := by kernel_rfl
theorem k4p6 : piece Try.prog 100000 185 (headC (tailC (tailC (tailC (tailC (tailC (tailC (bodyOf Try.prog 11)))))))) k4s6 [196, 197, 297, 42, 43, 300, 301, 193, 5, 2, 3, 408, 6, 4] = some k4s7 := by kernel_rfl
theorem k4q6 : isSeq (tailC (tailC (tailC (tailC (tailC (tailC (bodyOf Try.prog 11))))))) = true := by kernel_rfl
theorem k4p7 : piece Try.prog 100000 185 (headC (tailC (tailC (tailC (tailC (tailC (tailC (tailC (bodyOf Try.prog 11))))))))) k4s7 [411, 412, 196, 197, 297, 42, 43, 413, 300, 301, 193, 591, 5, 2, 3, 408, 6, 4] = some k4s8 := by kernel_rfl
theorem k4q7 : isSeq (tailC (tailC (tailC (tailC (tailC (tailC (tailC (bodyOf Try.prog 11)))))))) = true := by kernel_rfl
theorem k4p8 : piece Try.prog 100000 185 (headC (tailC (tailC (tailC (tailC (tailC (tailC (tailC (tailC (bodyOf Try.prog 11)))))))))) k4s8 [411, 412, 196, 197, 596, 297, 42, 43, 413, 300, 301, 193, 591, 5, 2, 3, 408, 594, 595, 6, 4] = some k4s9 := by kernel_rfl
theorem k4q8 : isSeq (tailC (tailC (tailC (tailC (tailC (tailC (tailC (tailC (bodyOf Try.prog 11))))))))) = true := by kernel_rfl
theorem k4p9 : piece Try.prog 100000 185 (headC (tailC (tailC (tailC (tailC (tailC (tailC (tailC (tailC (tailC (bodyOf Try.prog 11))))))))))) k4s9 [411, 412, 196, 197, 596, 297, 788, 42, 43, 413, 300, 301, 193, 786, 787, 591, 5, 2, 3, 1067, 408, 594, 595, 6, 4] = some k4s10 := by kernel_rfl
theorem k4q9 : isSeq (tailC (tailC (tailC (tailC (tailC (tailC (tailC (tailC (tailC (bodyOf Try.prog 11)))))))))) = true := by kernel_rfl
end Go.Proofs.Ytncfikkeagflkaa
