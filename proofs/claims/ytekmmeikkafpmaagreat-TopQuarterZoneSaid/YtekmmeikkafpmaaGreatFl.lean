/- The engine: what a law wants to be called with plain arguments; functions without arguments that give back true. -/
import Derived.Test.YtekmmeikkafpmaaGreatS5
import Derived.Test.YtekmmeikkafpmaaGreatCok
import Derived.Test.YtekmmeikkafpmaaGreatC4
set_option linter.unusedSimpArgs false
set_option linter.unusedVariables false
namespace Go.Proofs.YtekmmeikkafpmaaGreat
open Abs Sx Go.RowKit
set_option maxRecDepth 100000
namespace Fl
theorem fl_nil {ρ : Val} {H : Hp} : FlRs ρ H [] [] [] [] [] := ⟨rfl, rfl, rfl, rfl⟩
theorem fl_int {ρ : Val} {H : Hp} {k : IntKind} {l : List Sh} {t : List AV} {y : List Int} {m : List Nat} {d : List Bool} (n : Int) (h : FlRs ρ H l t y m d) : FlRs ρ H (.int k :: l) (.int k n :: t) (n :: y) m d :=
  ⟨_, t, [n], y, [], m, [], d, rfl, ⟨n, rfl, rfl, rfl, rfl⟩, h, rfl, rfl, rfl⟩
def T1 : OT SV := .leaf (.bool (.lit 1))
theorem true_ok {g : FuncId} (hb : ∃ f c, Tryz.prog.funcs[g]? = some f ∧ f.body = some c) (hg : ∀ W : World, Calls Tryz.prog g #[] W (fun e W' => e = .returned (.bool true) ∧ Below W.heap.size W W')) (fn : Nat → List Int → Int) :
    (⟨g, [], [], fun _ => .leaf (.bool (.lit 1))⟩ : Pr).Ok Tryz.prog fn := pr_ok fun xs es _ _ _ _ => by
  intro _
  obtain ⟨f, c, h1, h2⟩ := hb
  refine ⟨(progOk_fn prog_ok h1 h2).2, fun m W ys hxs hR ht => ?_⟩
  have hx : ys = #[] := by
    have := hxs.nil_inv
    exact Array.toList_eq_nil_iff.1 this
  subst hx
  refine (hg W).mono ?_
  rintro e W' ⟨rfl, hB⟩
  have hgn : ∀ n, (hD (valX fn xs) ⟨tplT [], [], 0⟩).get n = none := fun n => rfl
  refine ⟨.bool true, .bool true, hD (valX fn xs) ⟨tplT [], [], 0⟩, 0, m, rfl, ?_, by simp only [VR], ⟨_, rfl, rfl⟩⟩
  exact { erel := hR, eq := fun _ h => (by cases h), new := fun n k _ h => (by rw [ht n (Nat.zero_le _)] at h; cases h), top := ht, rel := ⟨fun n ob h => (by rw [hgn] at h; cases h), fun i j oi oj ki kj h => (by rw [hgn] at h; cases h)⟩, frame := fun b hb _ => hB.block b hb, os := hB.os, tape := hB.tape, output := hB.output, size := hB.size, ap := .refl (wf_of rfl rfl) }
theorem plain_call {p : Pr} {fn : Nat → List Int → Int} (hok : p.Ok Tryz.prog fn) (hout : p.out [] = T1) {a : List AV} {xs : List Int} (hfl : FlRs (valX fn []) ⟨objs [], [], 0⟩ p.sh a xs [] []) (hpre : AllB (valX fn xs) p.pre) :
    CallH Tryz.prog p.g a ⟨objs [], [], 0⟩ 0 (fun v H' nx' => v = .bool true ∧ H' = ⟨objs [], [], 0⟩ ∧ nx' = 0) :=
  callH_of_ok (hok a ⟨objs [], [], 0⟩ 0 (.bool true) ⟨xs, [], [], .bool (.lit 1), hfl, hpre, by rw [hout]; rfl, rfl, rfl⟩)
end Fl
end Go.Proofs.YtekmmeikkafpmaaGreat
