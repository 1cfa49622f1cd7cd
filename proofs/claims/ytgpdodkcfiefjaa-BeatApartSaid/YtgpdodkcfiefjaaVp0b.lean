/- BeatApart: the runs without rods, no room. -/
import Derived.Test.YtgpdodkcfiefjaaVp0
set_option linter.unusedSimpArgs false
set_option linter.unusedVariables false
namespace Go.Proofs.Ytgpdodkcfiefjaa
open Abs Sx
set_option maxRecDepth 100000
namespace Be
theorem run_ap1fnn : apRun 1 (zzX 24) (zzX 26) [] (frV 0 4) .nils .nils [] = (pf1z false false (co1z0 (atX false 5 24) (atX false 6 26)) (co1z1 (atX false 5 24) (atX false 6 26)) (co1z2 (atX false 5 24) (atX false 6 26))) := by unfold apRun; kernel_rfl
theorem ap1fnn : ApG 1 (zzX 24) (zzX 26) (frV 0 4) .nils .nils [] := g0ff run_ap1fnn
theorem run_ap1fnf : apRun 1 (zzX 24) (zzX 26) [] (frV 0 4) .nils (frV 2 1) [] = (pf1z false false (co1z0 (atX false 5 24) (atX false 6 26)) (co1z1 (atX false 5 24) (atX false 6 26)) (co1z2 (atX false 5 24) (atX false 6 26))) := by unfold apRun; kernel_rfl
theorem ap1fnf : ApG 1 (zzX 24) (zzX 26) (frV 0 4) .nils (frV 2 1) [] := g0ff run_ap1fnf
theorem run_ap1fne : apRun 1 (zzX 24) (zzX 26) [] (frV 0 4) .nils (rwV 2 26 1) [byO6] = (pf1z false false (co1z0 (atX false 5 24) (atX false 6 26)) (co1z1 (atX false 5 24) (atX false 6 26)) (co1z2 (atX false 5 24) (atX false 6 26))) := by unfold apRun; kernel_rfl
theorem ap1fne : ApG 1 (zzX 24) (zzX 26) (frV 0 4) .nils (rwV 2 26 1) [byO6] := g0ff run_ap1fne
theorem run_ap1fnr : apRun 1 (zzX 24) (nzX 26) [] (frV 0 4) .nils (rwV 2 26 1) [byO6] = (pf1z false true (co1z0 (atX false 5 24) (atX true 6 26)) (co1z1 (atX false 5 24) (atX true 6 26)) (co1z2 (atX false 5 24) (atX true 6 26))) := by unfold apRun; kernel_rfl
theorem ap1fnr : ApG 1 (zzX 24) (nzX 26) (frV 0 4) .nils (rwV 2 26 1) [byO6] := g0ft run_ap1fnr
theorem run_ap1ffn : apRun 1 (zzX 24) (zzX 26) [] (frV 0 4) (frV 1 1) .nils [] = (pf1z false false (co1z0 (atX false 5 24) (atX false 6 26)) (co1z1 (atX false 5 24) (atX false 6 26)) (co1z2 (atX false 5 24) (atX false 6 26))) := by unfold apRun; kernel_rfl
theorem ap1ffn : ApG 1 (zzX 24) (zzX 26) (frV 0 4) (frV 1 1) .nils [] := g0ff run_ap1ffn
theorem run_ap1fff : apRun 1 (zzX 24) (zzX 26) [] (frV 0 4) (frV 1 1) (frV 2 1) [] = (pf1z false false (co1z0 (atX false 5 24) (atX false 6 26)) (co1z1 (atX false 5 24) (atX false 6 26)) (co1z2 (atX false 5 24) (atX false 6 26))) := by unfold apRun; kernel_rfl
theorem ap1fff : ApG 1 (zzX 24) (zzX 26) (frV 0 4) (frV 1 1) (frV 2 1) [] := g0ff run_ap1fff
theorem run_ap1ffe : apRun 1 (zzX 24) (zzX 26) [] (frV 0 4) (frV 1 1) (rwV 2 26 1) [byO6] = (pf1z false false (co1z0 (atX false 5 24) (atX false 6 26)) (co1z1 (atX false 5 24) (atX false 6 26)) (co1z2 (atX false 5 24) (atX false 6 26))) := by unfold apRun; kernel_rfl
theorem ap1ffe : ApG 1 (zzX 24) (zzX 26) (frV 0 4) (frV 1 1) (rwV 2 26 1) [byO6] := g0ff run_ap1ffe
theorem run_ap1ffr : apRun 1 (zzX 24) (nzX 26) [] (frV 0 4) (frV 1 1) (rwV 2 26 1) [byO6] = (pf1z false true (co1z0 (atX false 5 24) (atX true 6 26)) (co1z1 (atX false 5 24) (atX true 6 26)) (co1z2 (atX false 5 24) (atX true 6 26))) := by unfold apRun; kernel_rfl
theorem ap1ffr : ApG 1 (zzX 24) (nzX 26) (frV 0 4) (frV 1 1) (rwV 2 26 1) [byO6] := g0ft run_ap1ffr
theorem run_ap1fen : apRun 1 (zzX 24) (zzX 26) [] (frV 0 4) (rwV 1 24 1) .nils [byO5] = (pf1z false false (co1z0 (atX false 5 24) (atX false 6 26)) (co1z1 (atX false 5 24) (atX false 6 26)) (co1z2 (atX false 5 24) (atX false 6 26))) := by unfold apRun; kernel_rfl
theorem ap1fen : ApG 1 (zzX 24) (zzX 26) (frV 0 4) (rwV 1 24 1) .nils [byO5] := g0ff run_ap1fen
theorem run_ap1fef : apRun 1 (zzX 24) (zzX 26) [] (frV 0 4) (rwV 1 24 1) (frV 2 1) [byO5] = (pf1z false false (co1z0 (atX false 5 24) (atX false 6 26)) (co1z1 (atX false 5 24) (atX false 6 26)) (co1z2 (atX false 5 24) (atX false 6 26))) := by unfold apRun; kernel_rfl
theorem ap1fef : ApG 1 (zzX 24) (zzX 26) (frV 0 4) (rwV 1 24 1) (frV 2 1) [byO5] := g0ff run_ap1fef
theorem run_ap1fee : apRun 1 (zzX 24) (zzX 26) [] (frV 0 4) (rwV 1 24 1) (rwV 2 26 1) [byO5, byO6] = (pf1z false false (co1z0 (atX false 5 24) (atX false 6 26)) (co1z1 (atX false 5 24) (atX false 6 26)) (co1z2 (atX false 5 24) (atX false 6 26))) := by unfold apRun; kernel_rfl
theorem ap1fee : ApG 1 (zzX 24) (zzX 26) (frV 0 4) (rwV 1 24 1) (rwV 2 26 1) [byO5, byO6] := g0ff run_ap1fee
theorem run_ap1fer : apRun 1 (zzX 24) (nzX 26) [] (frV 0 4) (rwV 1 24 1) (rwV 2 26 1) [byO5, byO6] = (pf1z false true (co1z0 (atX false 5 24) (atX true 6 26)) (co1z1 (atX false 5 24) (atX true 6 26)) (co1z2 (atX false 5 24) (atX true 6 26))) := by unfold apRun; kernel_rfl
theorem ap1fer : ApG 1 (zzX 24) (nzX 26) (frV 0 4) (rwV 1 24 1) (rwV 2 26 1) [byO5, byO6] := g0ft run_ap1fer
theorem run_ap1frn : apRun 1 (nzX 24) (zzX 26) [] (frV 0 4) (rwV 1 24 1) .nils [byO5] = (pf1z true false (co1z0 (atX true 5 24) (atX false 6 26)) (co1z1 (atX true 5 24) (atX false 6 26)) (co1z2 (atX true 5 24) (atX false 6 26))) := by unfold apRun; kernel_rfl
theorem ap1frn : ApG 1 (nzX 24) (zzX 26) (frV 0 4) (rwV 1 24 1) .nils [byO5] := g0tf run_ap1frn
theorem run_ap1frf : apRun 1 (nzX 24) (zzX 26) [] (frV 0 4) (rwV 1 24 1) (frV 2 1) [byO5] = (pf1z true false (co1z0 (atX true 5 24) (atX false 6 26)) (co1z1 (atX true 5 24) (atX false 6 26)) (co1z2 (atX true 5 24) (atX false 6 26))) := by unfold apRun; kernel_rfl
theorem ap1frf : ApG 1 (nzX 24) (zzX 26) (frV 0 4) (rwV 1 24 1) (frV 2 1) [byO5] := g0tf run_ap1frf
theorem run_ap1fre : apRun 1 (nzX 24) (zzX 26) [] (frV 0 4) (rwV 1 24 1) (rwV 2 26 1) [byO5, byO6] = (pf1z true false (co1z0 (atX true 5 24) (atX false 6 26)) (co1z1 (atX true 5 24) (atX false 6 26)) (co1z2 (atX true 5 24) (atX false 6 26))) := by unfold apRun; kernel_rfl
theorem ap1fre : ApG 1 (nzX 24) (zzX 26) (frV 0 4) (rwV 1 24 1) (rwV 2 26 1) [byO5, byO6] := g0tf run_ap1fre
theorem run_ap1frr : apRun 1 (nzX 24) (nzX 26) [] (frV 0 4) (rwV 1 24 1) (rwV 2 26 1) [byO5, byO6] = (pf1z true true (co1z0 (atX true 5 24) (atX true 6 26)) (co1z1 (atX true 5 24) (atX true 6 26)) (co1z2 (atX true 5 24) (atX true 6 26))) := by unfold apRun; kernel_rfl
theorem ap1frr : ApG 1 (nzX 24) (nzX 26) (frV 0 4) (rwV 1 24 1) (rwV 2 26 1) [byO5, byO6] := g0tt run_ap1frr
end Be
end Go.Proofs.Ytgpdodkcfiefjaa
