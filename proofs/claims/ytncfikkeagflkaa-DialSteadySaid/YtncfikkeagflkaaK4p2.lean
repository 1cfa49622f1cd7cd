/- The evaluator: a piece of a call. -/
import Derived.KernelRfl
import Derived.Test.YtncfikkeagflkaaK4s
set_option linter.unusedSimpArgs false
set_option linter.unusedVariables false
namespace Go.Proofs.Ytncfikkeagflkaa
open Abs
set_option maxRecDepth 100000
theorem k4p10 : piece Try.prog 100000 185 (headC (tailC (tailC (tailC (tailC (tailC (tailC (tailC (tailC (tailC (tailC (bodyOf Try.prog 11)))))))))))) k4s10 [411, 412, 196, 197, 596, 297, 788, 42, 43, 413, 300, 301, 193, 786, 787, 591, 5, 1070, 1071, 2, 3, 1067, 408, 594, 595, 6, 4] = some k4s11 := by kernel_rfl
theorem k4q10 : isSeq (tailC (tailC (tailC (tailC (tailC (tailC (tailC (tailC (tailC (tailC (bodyOf Try.prog 11))))))))))) = true := by kernel_rfl
theorem k4p11 : piece Try.prog 100000 185 (headC (tailC (tailC (tailC (tailC (tailC (tailC (tailC (tailC (tailC (tailC (tailC (bodyOf Try.prog 11))))))))))))) k4s11 [411, 412, 196, 197, 596, 297, 788, 42, 43, 413, 300, 301, 193, 786, 787, 591, 5, 1070, 1071, 2, 3, 1067, 408, 594, 595, 6, 4] = some k4s12 := by kernel_rfl
theorem k4q11 : isSeq (tailC (tailC (tailC (tailC (tailC (tailC (tailC (tailC (tailC (tailC (tailC (bodyOf Try.prog 11)))))))))))) = true := by kernel_rfl
theorem k4p12 : piece Try.prog 100000 185 (headC (tailC (tailC (tailC (tailC (tailC (tailC (tailC (tailC (tailC (tailC (tailC (tailC (bodyOf Try.prog 11)))))))))))))) k4s12 [411, 412, 196, 197, 596, 297, 788, 42, 43, 413, 300, 301, 193, 786, 787, 591, 5, 1070, 1071, 2, 3, 1067, 408, 594, 595, 6, 4] = some k4s13 := by kernel_rfl
theorem k4q12 : isSeq (tailC (tailC (tailC (tailC (tailC (tailC (tailC (tailC (tailC (tailC (tailC (tailC (bodyOf Try.prog 11))))))))))))) = true := by kernel_rfl
end Go.Proofs.Ytncfikkeagflkaa
