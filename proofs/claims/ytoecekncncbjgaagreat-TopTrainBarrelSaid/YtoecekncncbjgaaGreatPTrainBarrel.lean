/- TopTrainBarrel: the statement. For all bytes: an arbor that turns once an hour drives a barrel that has as many sections as the ratio has parts, which is in step at the beginning of each hour, and stands as at first just after as many hours as the cycle of the train, and their multiples. No condition. -/
import Derived.Test.YtoecekncncbjgaaGreatH1
import Derived.Test.YtoecekncncbjgaaGreatRows
set_option linter.unusedSimpArgs false
set_option linter.unusedVariables false
namespace Go.Proofs.YtoecekncncbjgaaGreat
open Abs Go.ChangeShapes Go.WideShapes Go.ChangeAt Go.RowKit Go.Deep
set_option maxRecDepth 100000
theorem Tryz.own : ownKnob Tryz.prog.godebug = none := by kernel_rfl
theorem Tryz.laidOut : laidOutB Tryz.prog = true := by kernel_rfl
namespace Tb
theorem in_u8 {n : Int} (h : (Lit.int .u8 n).wf = true) : 0 ≤ n ∧ n ≤ 255 := by
  simp only [Lit.wf, Bool.and_eq_true, decide_eq_true_eq] at h; exact h
theorem okWide_array {P : Program} {w : World} {r : Reach} {base : Nat} {t : TypeId} {v : Value} {n : Nat} {e : TypeId} (ht : P.underlying t = some (.array n e)) (h : Value.okWide P w r base t v) : ∃ cs, v = .agg cs ∧ cs.size = P.cellsOf t := by
  simp only [Value.okWide, ht] at h
  obtain ⟨cs, h1, h2, _⟩ := h
  exact ⟨cs, h1, h2⟩
theorem args_ok {m : NM} (x0 : Int) (x1 : Int) (x2 : Int) : VRs m [.agg [.int .u8 x0, .int .u8 x1], .int .u8 x2] [.agg #[.int .u8 x0, .int .u8 x1], .int .u8 x2] := by
  simp only [VRs, VR]
  exact ⟨_, _, rfl, ⟨_, rfl, _, _, rfl, rfl, _, _, rfl, rfl, rfl⟩, _, _, rfl, rfl, rfl⟩
theorem key_all (W : World) (v0 : Array Value) (v1 : Value) (h0 : LKs W 0 [.int .u8, .int .u8] v0.toList) (h1 : LKs W 0 [.int .u8] [v1]) :
    Calls Tryz.prog 3 #[.agg v0, v1] W fun e w' => e = .returned (.bool true) ∧ Below W.heap.size W w' := by
  simp only [LKs, LKok] at h0 h1
  obtain ⟨_, _, e0, ⟨x0, rfl, wx0⟩, _, _, rfl, ⟨x1, rfl, wx1⟩, rfl⟩ := h0
  have g0 : v0 = #[.int .u8 x0, .int .u8 x1] := by cases v0; simp at e0; simp [e0]
  subst g0
  obtain ⟨_, _, e1, ⟨x2, rfl, wx2⟩, rfl⟩ := h1
  cases e1
  exact calls_of (m := fun _ => none) (call_all x0 x1 x2 (in_u8 wx0) (in_u8 wx1) (in_u8 wx2)) rfl (args_ok x0 x1 x2) (rel_empty _ _) (fun _ _ => rfl)
theorem kinds0 : kindsT Tryz.prog 8 22 = some [.int .u8, .int .u8] := by kernel_rfl
theorem kinds1 : kindsT Tryz.prog 8 5 = some [.int .u8] := by kernel_rfl
theorem und1 : Tryz.prog.underlying 5 = some (.int .u8) := by kernel_rfl
theorem all_lifted (os : Os) (started : os.Started) (H : Type) (enc : TypeId × Value → H) :
    ReturnsInHanded {} Tryz.checked os 3 .any (Rows.topTrainBarrelSpec.pre6 enc Tryz.prog Tryz.f3 Rows.topTrainBarrelRow.domain false) (Rows.topTrainBarrelSpec.post enc Tryz.prog Tryz.f3 false true false false) := by
  refine returnsInHanded_of_change (C := Tryz.checked) Tryz.own started (by kernel_rfl) Tryz.func3
    (ChangeSpec.witness6 (enc := enc) (C := Tryz.checked) false ⟨#[], #[.agg #[.int .u8 0, .int .u8 0], .int .u8 0], []⟩ 8 (by kernel_rfl) (by kernel_rfl) (by kernel_rfl) (by kernel_rfl)) ?_
  intro W base args ds gs before hval0 hW _ _
  have hval : ∀ (j : Nat) t v, Tryz.f3.params[j]? = some t → args[j]? = some v → Value.okWide Tryz.prog W .any base t v := hval0
  have hW' := hW
  obtain ⟨p, q, hA0, hV, rfl, hfz, hnd⟩ := hW
  have hA : DataW.TrodAll enc Tryz.prog W 0 (fun _ => true) true Tryz.f3.params.toList args.toList ds p := hA0
  rw [Tryz.params3] at hA hval
  obtain ⟨v0, v1, d0, d1, p0, p1, rfl, rfl, rfl, h0, h1⟩ := trodAll_two hA
  obtain ⟨rfl, rfl⟩ := trodVars_none hV
  obtain ⟨n0, rfl, _⟩ := okWide_array Tryz.underlying22 (hval 0 22 v0 rfl rfl)
  obtain ⟨n1, rfl⟩ := okWide_int und1 (hval 1 5 v1 rfl rfl)
  clear hA0 hval0
  simp only [List.append_nil] at hW'
  have hlt : ∀ x ∈ p0 ++ p1, x.block < W.heap.size := fun x hx => by simpa using hW'.lt x hx
  have key : Calls Tryz.prog 3 #[.agg n0, .int .u8 n1] W fun e w' => e = .returned (.bool true) ∧ Below W.heap.size W w' := by
    obtain ⟨f0, k0⟩ := h0
    obtain ⟨f1, k1⟩ := h1
    exact key_all W n0 _ (kindsT_ok (fun _ => rfl) 8 kinds0 k0) (kindsT_ok (cs := [.int .u8 n1]) (fun _ => rfl) 8 kinds1 (by simpa [Value.cells] using k1))
  refine key.mono fun e W' ⟨he, hB⟩ => ?_
  subst he
  refine ⟨_, rfl, _, _, _, [], p0 ++ p1, [], hW', ?_, ?_, rfl, hB.frame _, fun h => by cases h⟩
  · exact trodAll_mk1 (shut_bool Tryz.underlying4 _)
  · exact trodAll_mk2 (Below.trod Tryz.laidOut (by kernel_rfl) (of_decide_eq_true (by kernel_rfl)) h0 hB fun x hx => hlt x (List.mem_append_left _ hx))
      (Below.trod Tryz.laidOut (by kernel_rfl) (of_decide_eq_true (by kernel_rfl)) h1 hB fun x hx => hlt x (List.mem_append_right _ hx))
end Tb
theorem topTrainBarrel_holds : Rows.TopTrainBarrelSaid :=
  OpenClaim.holds_of_wide 3 Tryz.f3 rfl rfl rfl rfl rfl rfl rfl ⟨rfl, rfl, rfl, rfl, rfl⟩ rfl rfl rfl rfl rfl (by kernel_rfl) Tryz.func3 (by kernel_rfl)
    (of_decide_eq_true (by kernel_rfl)) (by unfold Func.isWrapper; first | (rw [if_pos (by decide +kernel)]; kernel_rfl) | (rw [if_neg (by decide +kernel)]; exact ⟨rfl, rfl⟩))
    (fun os started H enc _ => Tb.all_lifted os started H enc)
#print axioms topTrainBarrel_holds
end Go.Proofs.YtoecekncncbjgaaGreat
