/- BeatExacts: the law, for clocks and truths whose rows are there. -/
import Derived.Test.YtocjbjnfpldgcaaKc
import Derived.Test.YtocjbjnfpldgcaaB3
set_option linter.unusedSimpArgs false
set_option linter.unusedVariables false
namespace Go.Proofs.Ytocjbjnfpldgcaa
open Abs Sx Go.RowKit
set_option maxRecDepth 100000
namespace Be
theorem known_spec (fn : Nat → List Int → Int) (xs : List Int) : CallH Try.prog 12 [] (hD (valX fn xs) ⟨tplT [], [], 0⟩) 0 (fun v _ _ => ∃ w, OT.sem (valX fn xs) (OT.leaf (SV.bool (lit 1))) = some w ∧ v = w.den (valX fn xs)) := by
  intro _
  obtain ⟨f, c, h1, h2⟩ : ∃ f c, Try.prog.funcs[12]? = some f ∧ f.body = some c := ⟨_, _, Try.func12, rfl⟩
  refine ⟨(progOk_fn prog_ok h1 h2).2, fun m W ys hxs hR ht => ?_⟩
  have hx : ys = #[] := by
    have := hxs.nil_inv
    exact Array.toList_eq_nil_iff.1 this
  subst hx
  refine (kcgood prog_ok W).mono ?_
  rintro e W' ⟨rfl, hB⟩
  have hgn : ∀ n, (hD (valX fn xs) ⟨tplT [], [], 0⟩).get n = none := fun n => rfl
  refine ⟨.bool true, .bool true, hD (valX fn xs) ⟨tplT [], [], 0⟩, 0, m, rfl, ?_, by simp only [VR], ⟨_, rfl, rfl⟩⟩
  exact { erel := hR, eq := fun _ h => (by cases h), new := fun n k _ h => (by rw [ht n (Nat.zero_le _)] at h; cases h), top := ht, rel := ⟨fun n ob h => (by rw [hgn] at h; cases h), fun i j oi oj ki kj h => (by rw [hgn] at h; cases h)⟩, frame := fun b hb _ => hB.block b hb, os := hB.os, tape := hB.tape, output := hB.output, size := hB.size, ap := .refl (wf_of rfl rfl) }
def pKnown : Pr := ⟨12, [], [], fun _ => .leaf (.bool (lit 1))⟩
theorem pKnown_ok (fn : Nat → List Int → Int) : pKnown.Ok Try.prog fn := pr_ok fun xs es _ _ _ _ => known_spec fn xs
def lawP (pre : List X) : Pr := ⟨3, [clkSh, truSh], pre, fun _ => .leaf (.bool (lit 1))⟩
def in12 : List X := [le (v 2) (lit 12), le (v 8) (lit 12)]
theorem lawL1 (rods : List Rod) (grow : List Int) : (lawP ([lt (lit 12) (v 2)])).Ok Try.prog (fnB rods grow) := by
  refine un2 (l := [pKnown]) (R := R0) (fuel := 200) (fun _ => .leaf (.bool (.lit 1))) prog_ok ⟨pKnown_ok _, trivial⟩ rfl (R0_ok _) rfl rfl ?h1 ?h2 ?h3 ?h4 ?_
  case h1 => kernel_rfl
  case h2 => kernel_rfl
  case h3 => kernel_rfl
  case h4 => kernel_rfl
  intro xs es hlen hpre hrw
  rfl
theorem lawL2 (rods : List Rod) (grow : List Int) : (lawP ([le (v 2) (lit 12), lt (lit 12) (v 8)])).Ok Try.prog (fnB rods grow) := by
  refine un2 (l := [pKnown]) (R := R0) (fuel := 200) (fun _ => .leaf (.bool (.lit 1))) prog_ok ⟨pKnown_ok _, trivial⟩ rfl (R0_ok _) rfl rfl ?h1 ?h2 ?h3 ?h4 ?_
  case h1 => kernel_rfl
  case h2 => kernel_rfl
  case h3 => kernel_rfl
  case h4 => kernel_rfl
  intro xs es hlen hpre hrw
  rfl
theorem lawZ (rods : List Rod) (grow : List Int) : (lawP (in12 ++ [eq (v 2) (lit 0)])).Ok Try.prog (fnB rods grow) := by
  refine un2 (l := [pKnown]) (R := R0) (fuel := 200) (fun _ => .leaf (.bool (.lit 1))) prog_ok ⟨pKnown_ok _, trivial⟩ rfl (R0_ok _) rfl rfl ?h1 ?h2 ?h3 ?h4 ?_
  case h1 => kernel_rfl
  case h2 => kernel_rfl
  case h3 => kernel_rfl
  case h4 => kernel_rfl
  intro xs es hlen hpre hrw
  rfl
theorem lawE (rods : List Rod) (grow : List Int) : (lawP (in12 ++ [le (lit 1) (v 2), .not (eq errX (lit 0))])).Ok Try.prog (fnB rods grow) := by
  refine un2 (l := [pExE, pSame, pChk, rChk, pKnown]) (R := R0) (fuel := 200) (fun _ => .leaf (.bool (.lit 1))) prog_ok ⟨pExE_ok _ _, pSame_ok _, pChk_ok _ _, rChk_ok _ _, pKnown_ok _, trivial⟩ rfl (R0_ok _) rfl rfl ?h1 ?h2 ?h3 ?h4 ?_
  case h1 => kernel_rfl
  case h2 => kernel_rfl
  case h3 => kernel_rfl
  case h4 => kernel_rfl
  intro xs es hlen hpre hrw
  rfl
theorem lawM (rods : List Rod) (grow : List Int) : (lawP (in12 ++ [le (lit 1) (v 2), le (v 2) (lit 8), eq errX (lit 0), .not (eq (v 8) (v 2)), .not ofX])).Ok Try.prog (fnB rods grow) := by
  refine un2 (l := [pExM, pSame, pChk, rChk, rOfb, pKnown]) (R := R0) (fuel := 200) (fun _ => .leaf (.bool (.lit 1))) prog_ok ⟨pExM_ok _ _, pSame_ok _, pChk_ok _ _, rChk_ok _ _, rOfb_ok _ _, pKnown_ok _, trivial⟩ rfl (R0_ok _) rfl rfl ?h1 ?h2 ?h3 ?h4 ?_
  case h1 => kernel_rfl
  case h2 => kernel_rfl
  case h3 => kernel_rfl
  case h4 => kernel_rfl
  intro xs es hlen hpre hrw
  rfl
end Be
end Go.Proofs.Ytocjbjnfpldgcaa
