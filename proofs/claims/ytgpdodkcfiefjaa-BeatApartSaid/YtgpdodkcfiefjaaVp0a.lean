/- BeatApart: the runs without rods, nil. -/
import Derived.Test.YtgpdodkcfiefjaaVp0
set_option linter.unusedSimpArgs false
set_option linter.unusedVariables false
namespace Go.Proofs.Ytgpdodkcfiefjaa
open Abs Sx
set_option maxRecDepth 100000
namespace Be
theorem run_ap1nnn : apRun 1 (zzX 24) (zzX 26) [] .nils .nils .nils [] = (pf1z false false (co1z0 (atX false 5 24) (atX false 6 26)) (co1z1 (atX false 5 24) (atX false 6 26)) (co1z2 (atX false 5 24) (atX false 6 26))) := by unfold apRun; kernel_rfl
theorem ap1nnn : ApG 1 (zzX 24) (zzX 26) .nils .nils .nils [] := g0ff run_ap1nnn
theorem run_ap1nnf : apRun 1 (zzX 24) (zzX 26) [] .nils .nils (frV 2 1) [] = (pf1z false false (co1z0 (atX false 5 24) (atX false 6 26)) (co1z1 (atX false 5 24) (atX false 6 26)) (co1z2 (atX false 5 24) (atX false 6 26))) := by unfold apRun; kernel_rfl
theorem ap1nnf : ApG 1 (zzX 24) (zzX 26) .nils .nils (frV 2 1) [] := g0ff run_ap1nnf
theorem run_ap1nne : apRun 1 (zzX 24) (zzX 26) [] .nils .nils (rwV 2 26 1) [byO6] = (pf1z false false (co1z0 (atX false 5 24) (atX false 6 26)) (co1z1 (atX false 5 24) (atX false 6 26)) (co1z2 (atX false 5 24) (atX false 6 26))) := by unfold apRun; kernel_rfl
theorem ap1nne : ApG 1 (zzX 24) (zzX 26) .nils .nils (rwV 2 26 1) [byO6] := g0ff run_ap1nne
theorem run_ap1nnr : apRun 1 (zzX 24) (nzX 26) [] .nils .nils (rwV 2 26 1) [byO6] = (pf1z false true (co1z0 (atX false 5 24) (atX true 6 26)) (co1z1 (atX false 5 24) (atX true 6 26)) (co1z2 (atX false 5 24) (atX true 6 26))) := by unfold apRun; kernel_rfl
theorem ap1nnr : ApG 1 (zzX 24) (nzX 26) .nils .nils (rwV 2 26 1) [byO6] := g0ft run_ap1nnr
theorem run_ap1nfn : apRun 1 (zzX 24) (zzX 26) [] .nils (frV 1 1) .nils [] = (pf1z false false (co1z0 (atX false 5 24) (atX false 6 26)) (co1z1 (atX false 5 24) (atX false 6 26)) (co1z2 (atX false 5 24) (atX false 6 26))) := by unfold apRun; kernel_rfl
theorem ap1nfn : ApG 1 (zzX 24) (zzX 26) .nils (frV 1 1) .nils [] := g0ff run_ap1nfn
theorem run_ap1nff : apRun 1 (zzX 24) (zzX 26) [] .nils (frV 1 1) (frV 2 1) [] = (pf1z false false (co1z0 (atX false 5 24) (atX false 6 26)) (co1z1 (atX false 5 24) (atX false 6 26)) (co1z2 (atX false 5 24) (atX false 6 26))) := by unfold apRun; kernel_rfl
theorem ap1nff : ApG 1 (zzX 24) (zzX 26) .nils (frV 1 1) (frV 2 1) [] := g0ff run_ap1nff
theorem run_ap1nfe : apRun 1 (zzX 24) (zzX 26) [] .nils (frV 1 1) (rwV 2 26 1) [byO6] = (pf1z false false (co1z0 (atX false 5 24) (atX false 6 26)) (co1z1 (atX false 5 24) (atX false 6 26)) (co1z2 (atX false 5 24) (atX false 6 26))) := by unfold apRun; kernel_rfl
theorem ap1nfe : ApG 1 (zzX 24) (zzX 26) .nils (frV 1 1) (rwV 2 26 1) [byO6] := g0ff run_ap1nfe
theorem run_ap1nfr : apRun 1 (zzX 24) (nzX 26) [] .nils (frV 1 1) (rwV 2 26 1) [byO6] = (pf1z false true (co1z0 (atX false 5 24) (atX true 6 26)) (co1z1 (atX false 5 24) (atX true 6 26)) (co1z2 (atX false 5 24) (atX true 6 26))) := by unfold apRun; kernel_rfl
theorem ap1nfr : ApG 1 (zzX 24) (nzX 26) .nils (frV 1 1) (rwV 2 26 1) [byO6] := g0ft run_ap1nfr
theorem run_ap1nen : apRun 1 (zzX 24) (zzX 26) [] .nils (rwV 1 24 1) .nils [byO5] = (pf1z false false (co1z0 (atX false 5 24) (atX false 6 26)) (co1z1 (atX false 5 24) (atX false 6 26)) (co1z2 (atX false 5 24) (atX false 6 26))) := by unfold apRun; kernel_rfl
theorem ap1nen : ApG 1 (zzX 24) (zzX 26) .nils (rwV 1 24 1) .nils [byO5] := g0ff run_ap1nen
theorem run_ap1nef : apRun 1 (zzX 24) (zzX 26) [] .nils (rwV 1 24 1) (frV 2 1) [byO5] = (pf1z false false (co1z0 (atX false 5 24) (atX false 6 26)) (co1z1 (atX false 5 24) (atX false 6 26)) (co1z2 (atX false 5 24) (atX false 6 26))) := by unfold apRun; kernel_rfl
theorem ap1nef : ApG 1 (zzX 24) (zzX 26) .nils (rwV 1 24 1) (frV 2 1) [byO5] := g0ff run_ap1nef
theorem run_ap1nee : apRun 1 (zzX 24) (zzX 26) [] .nils (rwV 1 24 1) (rwV 2 26 1) [byO5, byO6] = (pf1z false false (co1z0 (atX false 5 24) (atX false 6 26)) (co1z1 (atX false 5 24) (atX false 6 26)) (co1z2 (atX false 5 24) (atX false 6 26))) := by unfold apRun; kernel_rfl
theorem ap1nee : ApG 1 (zzX 24) (zzX 26) .nils (rwV 1 24 1) (rwV 2 26 1) [byO5, byO6] := g0ff run_ap1nee
theorem run_ap1ner : apRun 1 (zzX 24) (nzX 26) [] .nils (rwV 1 24 1) (rwV 2 26 1) [byO5, byO6] = (pf1z false true (co1z0 (atX false 5 24) (atX true 6 26)) (co1z1 (atX false 5 24) (atX true 6 26)) (co1z2 (atX false 5 24) (atX true 6 26))) := by unfold apRun; kernel_rfl
theorem ap1ner : ApG 1 (zzX 24) (nzX 26) .nils (rwV 1 24 1) (rwV 2 26 1) [byO5, byO6] := g0ft run_ap1ner
theorem run_ap1nrn : apRun 1 (nzX 24) (zzX 26) [] .nils (rwV 1 24 1) .nils [byO5] = (pf1z true false (co1z0 (atX true 5 24) (atX false 6 26)) (co1z1 (atX true 5 24) (atX false 6 26)) (co1z2 (atX true 5 24) (atX false 6 26))) := by unfold apRun; kernel_rfl
theorem ap1nrn : ApG 1 (nzX 24) (zzX 26) .nils (rwV 1 24 1) .nils [byO5] := g0tf run_ap1nrn
theorem run_ap1nrf : apRun 1 (nzX 24) (zzX 26) [] .nils (rwV 1 24 1) (frV 2 1) [byO5] = (pf1z true false (co1z0 (atX true 5 24) (atX false 6 26)) (co1z1 (atX true 5 24) (atX false 6 26)) (co1z2 (atX true 5 24) (atX false 6 26))) := by unfold apRun; kernel_rfl
theorem ap1nrf : ApG 1 (nzX 24) (zzX 26) .nils (rwV 1 24 1) (frV 2 1) [byO5] := g0tf run_ap1nrf
theorem run_ap1nre : apRun 1 (nzX 24) (zzX 26) [] .nils (rwV 1 24 1) (rwV 2 26 1) [byO5, byO6] = (pf1z true false (co1z0 (atX true 5 24) (atX false 6 26)) (co1z1 (atX true 5 24) (atX false 6 26)) (co1z2 (atX true 5 24) (atX false 6 26))) := by unfold apRun; kernel_rfl
theorem ap1nre : ApG 1 (nzX 24) (zzX 26) .nils (rwV 1 24 1) (rwV 2 26 1) [byO5, byO6] := g0tf run_ap1nre
theorem run_ap1nrr : apRun 1 (nzX 24) (nzX 26) [] .nils (rwV 1 24 1) (rwV 2 26 1) [byO5, byO6] = (pf1z true true (co1z0 (atX true 5 24) (atX true 6 26)) (co1z1 (atX true 5 24) (atX true 6 26)) (co1z2 (atX true 5 24) (atX true 6 26))) := by unfold apRun; kernel_rfl
theorem ap1nrr : ApG 1 (nzX 24) (nzX 26) .nils (rwV 1 24 1) (rwV 2 26 1) [byO5, byO6] := g0tt run_ap1nrr
end Be
end Go.Proofs.Ytgpdodkcfiefjaa
