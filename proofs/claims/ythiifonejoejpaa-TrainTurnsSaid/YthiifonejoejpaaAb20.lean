/- The evaluator: closed calls; what the program is. -/
import Derived.Test.YthiifonejoejpaaAb19
namespace Go.Proofs.Ythiifonejoejpaa
namespace Abs
open Go.RowKit
variable {P : Program}

theorem rel_nil (W : World) : Rel (fun _ => none) (⟨.nil, [], 0⟩ : Hp) W := ⟨fun n ob h => by simp [Hp.get, hid, Tr.get] at h, fun i j oi oj ki kj h => by simp [Hp.get, hid, Tr.get] at h⟩
theorem wf_nil : Wf (⟨.nil, [], 0⟩ : Hp) 0 := ⟨fun _ _ => rfl, fun p hp => (by cases hp), fun n ob h => by simp [Tr.get] at h⟩
/-- A call without arguments that the evaluator ends with true. -/
theorem closed (hp : progOk P = true) {f : FuncId} {fuel : Nat} (h : isTrue P f fuel = true) (W : World) :
    Calls P f #[] W (fun e W' => e = .returned (.bool true) ∧ Below W.heap.size W W') := by
  unfold isTrue at h
  split at h
  · rename_i H' nx' hr
    have := sound hp fuel _ _ hr
    obtain ⟨_, _, h3⟩ := this wf_nil
    refine (h3 (fun _ => none) W #[] (by simp [VRs]) (rel_nil W) (fun _ _ _ => rfl) : Calls P f #[] W _).mono fun e W' he => ?_
    obtain ⟨v, m', he, hP, hv⟩ := he
    subst he
    exact ⟨by simp only [VR] at hv; rw [hv], hP.os, hP.tape, hP.output, hP.size, fun b hb => hP.frame b hb (fun ⟨i, oi, ki, _, hg, _⟩ => by simp [Hp.get, hid, Tr.get] at hg)⟩
  · cases h
end Abs
end Go.Proofs.Ythiifonejoejpaa
