/- TrainCycles: the runs. -/
import Derived.Test.YtiafbooogggdnaaT4
set_option linter.unusedSimpArgs false
set_option linter.unusedVariables false
namespace Go.Proofs.Ytiafbooogggdnaa
open Abs Sx Go.RowKit
set_option maxRecDepth 100000
namespace Tn
def pre4 : List X := [lt (lit 0) (v 0), lt (lit 1) (v 0), lt (lit 2) (v 0), lt (lit 3) (v 0)]
theorem law0 {bs : List (Int × Int)} (hb : Byte bs) : (law ([eq (v 0) (lit 0)] ++ n16)).Ok Try.prog (fnT bs) := law_of hb 0 (by omega) _ (by kernel_rfl) (by kernel_rfl)
theorem law1 {bs : List (Int × Int)} (hb : Byte bs) : (law ([eq (v 0) (lit 1)] ++ n16)).Ok Try.prog (fnT bs) := law_of hb 1 (by omega) _ (by kernel_rfl) (by kernel_rfl)
theorem law2 {bs : List (Int × Int)} (hb : Byte bs) : (law ([eq (v 0) (lit 2)] ++ n16)).Ok Try.prog (fnT bs) := law_of hb 2 (by omega) _ (by kernel_rfl) (by kernel_rfl)
theorem law3 {bs : List (Int × Int)} (hb : Byte bs) : (law ([eq (v 0) (lit 3)] ++ n16)).Ok Try.prog (fnT bs) := law_of hb 3 (by omega) _ (by kernel_rfl) (by kernel_rfl)
theorem law4 {bs : List (Int × Int)} (hb : Byte bs) : (law (pre4 ++ n16)).Ok Try.prog (fnT bs) := law_of hb 3 (by omega) _ (by kernel_rfl) (by kernel_rfl)
end Tn
end Go.Proofs.Ytiafbooogggdnaa
