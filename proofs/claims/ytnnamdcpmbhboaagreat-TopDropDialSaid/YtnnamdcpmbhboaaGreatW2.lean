/- Chapter 2: Goes, of clocks that are valid. -/
import Derived.Test.YtnnamdcpmbhboaaGreatW1
set_option linter.unusedSimpArgs false
set_option linter.unusedVariables false
namespace Go.Proofs.YtnnamdcpmbhboaaGreat
open Abs Sx
set_option maxRecDepth 100000
namespace Dw
def rw (es : List Bool) : SV := .slice 0 0 (lit 0) (v 1) (v 2) 2 (hdB es)
def z2 : SO := .cells true [.int .i64 (lit 0), .int .i64 (lit 0)]
def c1 (x : X) : SO := .cells true [.int .i64 x]
def mk0 (g : FuncId) : Tpl := ⟨[], [], [], [], 0, [], some g⟩

section
variable {hs : List Hr}
structure GInv (hs : List Hr) (start from_ h many few d : Int) : Prop where
  a : from_ ≤ h ∧ h ≤ 2000 ∧ 0 ≤ many ∧ many ≤ few ∧ few ≤ 3000 ∧ 0 ≤ d ∧ d ≤ 2000
  g : goes (at_ hs) (2000 - h).toNat h few many d = goes (at_ hs) (2000 - from_).toNat from_ start start 2000
theorem goes_succ (U : Int → Hr) {h : Int} (hh : h < 2000) (few many d : Int) : goes U (2000 - h).toNat h few many d =
    if few < (U (h.tmod 24)).1 then (if many < (U (h.tmod 24)).2 ∧ d = 2000 then h else d, h) else goes U (2000 - (h + 1)).toNat (h + 1) (few - (U (h.tmod 24)).1) (max 0 (many - (U (h.tmod 24)).2)) (if many < (U (h.tmod 24)).2 ∧ d = 2000 then h else d) := by
  rw [show (2000 - h).toNat = (2000 - (h + 1)).toNat + 1 by omega]; rfl
theorem g_end (hs : List Hr) {start from_ h many few d : Int} (i : GInv hs start from_ h many few d) (hh : 2000 ≤ h) : fnW hs 60 [start, from_] = d ∧ fnW hs 61 [start, from_] = 2000 := by
  have e := i.g
  have := i.a
  rw [show (2000 - h).toNat = 0 by omega] at e
  simp only [goes] at e
  refine ⟨?_, ?_⟩
  · show clampW (goes (at_ hs) (2000 - from_).toNat from_ start start 2000).1 = d
    rw [← e]; unfold clampW; simp only; omega
  · show clampW (goes (at_ hs) (2000 - from_).toNat from_ start start 2000).2 = 2000
    rw [← e]; rfl
theorem g_stop (hs : List Hr) {start from_ h many few d : Int} (i : GInv hs start from_ h many few d) (h0 : 0 ≤ h) (hh : h < 2000) (hf : few < (at_ hs (h.tmod 24)).1) :
    fnW hs 60 [start, from_] = (if many < (at_ hs (h.tmod 24)).2 ∧ d = 2000 then h else d) ∧ fnW hs 61 [start, from_] = h := by
  have e := i.g
  have := i.a
  rw [goes_succ _ hh, if_pos hf] at e
  refine ⟨?_, ?_⟩
  · show clampW (goes (at_ hs) (2000 - from_).toNat from_ start start 2000).1 = _
    rw [← e]; unfold clampW; simp only; split <;> omega
  · show clampW (goes (at_ hs) (2000 - from_).toNat from_ start start 2000).2 = h
    rw [← e]; unfold clampW; simp only; omega
theorem g_next (hs : List Hr) (hok : AllOk hs) {start from_ h many few d d' : Int} (i : GInv hs start from_ h many few d) (h0 : 0 ≤ h) (hh : h < 2000) (hf : (at_ hs (h.tmod 24)).1 ≤ few) (hd : d' = if many < (at_ hs (h.tmod 24)).2 ∧ d = 2000 then h else d) :
    GInv hs start from_ (h + 1) (max 0 (many - (at_ hs (h.tmod 24)).2)) (few - (at_ hs (h.tmod 24)).1) d' := by
  have := i.a
  have k := okH_iff.1 (hok (h.tmod 24))
  refine ⟨?_, ?_⟩
  · have hd2 : d' = h ∨ d' = d := by subst hd; split <;> simp
    omega
  · rw [hd, ← i.g, goes_succ _ hh few many d, if_neg (show ¬ few < (at_ hs (h.tmod 24)).1 by omega)]
end
end Dw
end Go.Proofs.YtnnamdcpmbhboaaGreat
