/- The engine: what a law wants to be called with plain arguments; functions without arguments that give back true. -/
import Derived.Test.YtanmiffgmiikfaaGreatS5
import Derived.Test.YtanmiffgmiikfaaGreatCok
import Derived.Test.YtanmiffgmiikfaaGreatC4
set_option linter.unusedSimpArgs false
set_option linter.unusedVariables false
namespace Go.Proofs.YtanmiffgmiikfaaGreat
open Abs Sx Go.RowKit
set_option maxRecDepth 100000
namespace Fl
theorem true_ok {g : FuncId} (hb : ∃ f c, Tryz.prog.funcs[g]? = some f ∧ f.body = some c) (hg : ∀ W : World, Calls Tryz.prog g #[] W (fun e W' => e = .returned (.bool true) ∧ Below W.heap.size W W')) (fn : Nat → List Int → Int) :
    (⟨g, [], [], fun _ => .leaf (.bool (.lit 1))⟩ : Pr).Ok Tryz.prog fn := pr_ok fun xs es _ _ _ _ => by
  intro _
  obtain ⟨f, c, h1, h2⟩ := hb
  refine ⟨(progOk_fn prog_ok h1 h2).2, fun m W ys hxs hR ht => ?_⟩
  have hx : ys = #[] := by
    have := hxs.nil_inv
    exact Array.toList_eq_nil_iff.1 this
  subst hx
  refine (hg W).mono ?_
  rintro e W' ⟨rfl, hB⟩
  have hgn : ∀ n, (hD (valX fn xs) ⟨tplT [], [], 0⟩).get n = none := fun n => rfl
  refine ⟨.bool true, .bool true, hD (valX fn xs) ⟨tplT [], [], 0⟩, 0, m, rfl, ?_, by simp only [VR], ⟨_, rfl, rfl⟩⟩
  exact { erel := hR, eq := fun _ h => (by cases h), new := fun n k _ h => (by rw [ht n (Nat.zero_le _)] at h; cases h), top := ht, rel := ⟨fun n ob h => (by rw [hgn] at h; cases h), fun i j oi oj ki kj h => (by rw [hgn] at h; cases h)⟩, frame := fun b hb _ => hB.block b hb, os := hB.os, tape := hB.tape, output := hB.output, size := hB.size, ap := .refl (wf_of rfl rfl) }
end Fl
end Go.Proofs.YtanmiffgmiikfaaGreat
