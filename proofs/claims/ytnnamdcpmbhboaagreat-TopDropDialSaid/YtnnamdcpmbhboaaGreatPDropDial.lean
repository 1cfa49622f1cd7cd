/- TopDropDial: a clock whose weight is down shows later what it showed when it stopped, as one that is slow by as much as has passed, and is off by so much more. No conditions. -/
import Derived.Test.YtnnamdcpmbhboaaGreatDu4
import Derived.Test.YtnnamdcpmbhboaaGreatRows
set_option linter.unusedSimpArgs false
set_option linter.unusedVariables false
namespace Go.Proofs.YtnnamdcpmbhboaaGreat
open Abs Go.ChangeShapes Go.WideShapes Go.ChangeAt Go.RowKit Go.Deep
set_option maxRecDepth 100000
theorem Tryz.own : ownKnob Tryz.prog.godebug = none := by kernel_rfl
theorem Tryz.laidOut : laidOutB Tryz.prog = true := by kernel_rfl
namespace Dd
theorem in_u16 {n : Int} (h : (Lit.int .u16 n).wf = true) : 0 ≤ n ∧ n ≤ 65535 := by
  simp only [Lit.wf, Bool.and_eq_true, decide_eq_true_eq] at h; exact h
theorem in_u8 {n : Int} (h : (Lit.int .u8 n).wf = true) : 0 ≤ n ∧ n ≤ 255 := by
  simp only [Lit.wf, Bool.and_eq_true, decide_eq_true_eq] at h; exact h
theorem okWide_array {P : Program} {w : World} {r : Reach} {base : Nat} {t : TypeId} {v : Value} {n : Nat} {e : TypeId} (ht : P.underlying t = some (.array n e)) (h : Value.okWide P w r base t v) : ∃ cs, v = .agg cs ∧ cs.size = P.cellsOf t := by
  simp only [Value.okWide, ht] at h
  obtain ⟨cs, h1, h2, _⟩ := h
  exact ⟨cs, h1, h2⟩
theorem args_ok {m : NM} (x0 : Int) (x1 : Int) (x2 : Int) (x3 : Int) (x4 : Int) (x5 : Int) (x6 : Int) (x7 : Int) : VRs m [.agg [.int .u8 x0, .int .u8 x1, .int .u8 x2, .int .u8 x3, .int .u8 x4], .agg [.int .u8 x5, .int .u8 x6], .int .u16 x7] [.agg #[.int .u8 x0, .int .u8 x1, .int .u8 x2, .int .u8 x3, .int .u8 x4], .agg #[.int .u8 x5, .int .u8 x6], .int .u16 x7] := by
  simp only [VRs, VR]
  exact ⟨_, _, rfl, ⟨_, rfl, _, _, rfl, rfl, _, _, rfl, rfl, _, _, rfl, rfl, _, _, rfl, rfl, _, _, rfl, rfl, rfl⟩, _, _, rfl, ⟨_, rfl, _, _, rfl, rfl, _, _, rfl, rfl, rfl⟩, _, _, rfl, rfl, rfl⟩
theorem key_all (W : World) (v0 : Array Value) (v1 : Array Value) (v2 : Value) (h0 : LKs W 0 [.int .u8, .int .u8, .int .u8, .int .u8, .int .u8] v0.toList) (h1 : LKs W 0 [.int .u8, .int .u8] v1.toList) (h2 : LKs W 0 [.int .u16] [v2]) :
    Calls Tryz.prog 4 #[.agg v0, .agg v1, v2] W fun e w' => e = .returned (.bool true) ∧ Below W.heap.size W w' := by
  simp only [LKs, LKok] at h0 h1 h2
  obtain ⟨_, _, e0, ⟨x0, rfl, wx0⟩, _, _, rfl, ⟨x1, rfl, wx1⟩, _, _, rfl, ⟨x2, rfl, wx2⟩, _, _, rfl, ⟨x3, rfl, wx3⟩, _, _, rfl, ⟨x4, rfl, wx4⟩, rfl⟩ := h0
  have g0 : v0 = #[.int .u8 x0, .int .u8 x1, .int .u8 x2, .int .u8 x3, .int .u8 x4] := by cases v0; simp at e0; simp [e0]
  subst g0
  obtain ⟨_, _, e1, ⟨x5, rfl, wx5⟩, _, _, rfl, ⟨x6, rfl, wx6⟩, rfl⟩ := h1
  have g1 : v1 = #[.int .u8 x5, .int .u8 x6] := by cases v1; simp at e1; simp [e1]
  subst g1
  obtain ⟨_, _, e2, ⟨x7, rfl, wx7⟩, rfl⟩ := h2
  cases e2
  exact calls_of (m := fun _ => none) (call_all x0 x1 x2 x3 x4 x5 x6 x7 (in_u8 wx0) (in_u8 wx1) (in_u8 wx2) (in_u8 wx3) (in_u8 wx4) (in_u8 wx5) (in_u8 wx6) (in_u16 wx7)) rfl (args_ok x0 x1 x2 x3 x4 x5 x6 x7) (rel_empty _ _) (fun _ _ => rfl)
theorem kinds0 : kindsT Tryz.prog 8 43 = some [.int .u8, .int .u8, .int .u8, .int .u8, .int .u8] := by kernel_rfl
theorem kinds1 : kindsT Tryz.prog 8 44 = some [.int .u8, .int .u8] := by kernel_rfl
theorem kinds2 : kindsT Tryz.prog 8 45 = some [.int .u16] := by kernel_rfl
theorem und2 : Tryz.prog.underlying 45 = some (.int .u16) := by kernel_rfl
theorem all_lifted (os : Os) (started : os.Started) (H : Type) (enc : TypeId × Value → H) :
    ReturnsInHanded {} Tryz.checked os 4 .any (Rows.topDropDialSpec.pre6 enc Tryz.prog Tryz.f4 Rows.topDropDialRow.domain false) (Rows.topDropDialSpec.post enc Tryz.prog Tryz.f4 false true false false) := by
  refine returnsInHanded_of_change (C := Tryz.checked) Tryz.own started (by kernel_rfl) Tryz.func4
    (ChangeSpec.witness6 (enc := enc) (C := Tryz.checked) false ⟨#[], #[.agg #[.int .u8 0, .int .u8 0, .int .u8 0, .int .u8 0, .int .u8 0], .agg #[.int .u8 0, .int .u8 0], .int .u16 0], []⟩ 8 (by kernel_rfl) (by kernel_rfl) (by kernel_rfl) (by kernel_rfl)) ?_
  intro W base args ds gs before hval0 hW _ _
  have hval : ∀ (j : Nat) t v, Tryz.f4.params[j]? = some t → args[j]? = some v → Value.okWide Tryz.prog W .any base t v := hval0
  have hW' := hW
  obtain ⟨p, q, hA0, hV, rfl, hfz, hnd⟩ := hW
  have hA : DataW.TrodAll enc Tryz.prog W 0 (fun _ => true) true Tryz.f4.params.toList args.toList ds p := hA0
  rw [Tryz.params4] at hA hval
  obtain ⟨v0, v1, v2, d0, d1, d2, p0, p1, p2, rfl, rfl, rfl, h0, h1, h2⟩ := trodAll_three hA
  obtain ⟨rfl, rfl⟩ := trodVars_none hV
  obtain ⟨n0, rfl, _⟩ := okWide_array Tryz.underlying43 (hval 0 43 v0 rfl rfl)
  obtain ⟨n1, rfl, _⟩ := okWide_array Tryz.underlying44 (hval 1 44 v1 rfl rfl)
  obtain ⟨n2, rfl⟩ := okWide_int und2 (hval 2 45 v2 rfl rfl)
  clear hA0 hval0
  simp only [List.append_nil] at hW'
  have hlt : ∀ x ∈ p0 ++ p1 ++ p2, x.block < W.heap.size := fun x hx => by simpa using hW'.lt x hx
  have key : Calls Tryz.prog 4 #[.agg n0, .agg n1, .int .u16 n2] W fun e w' => e = .returned (.bool true) ∧ Below W.heap.size W w' := by
    obtain ⟨f0, k0⟩ := h0
    obtain ⟨f1, k1⟩ := h1
    obtain ⟨f2, k2⟩ := h2
    exact key_all W n0 n1 _ (kindsT_ok (fun _ => rfl) 8 kinds0 k0) (kindsT_ok (fun _ => rfl) 8 kinds1 k1) (kindsT_ok (cs := [.int .u16 n2]) (fun _ => rfl) 8 kinds2 (by simpa [Value.cells] using k2))
  refine key.mono fun e W' ⟨he, hB⟩ => ?_
  subst he
  refine ⟨_, rfl, _, _, _, [], p0 ++ p1 ++ p2, [], hW', ?_, ?_, rfl, hB.frame _, fun h => by cases h⟩
  · exact trodAll_mk1 (shut_bool Tryz.underlying4 _)
  · rw [List.append_assoc]
    exact trodAll_mk3 (Below.trod Tryz.laidOut (by kernel_rfl) (of_decide_eq_true (by kernel_rfl)) h0 hB fun x hx => hlt x (List.mem_append_left _ (List.mem_append_left _ hx)))
      (Below.trod Tryz.laidOut (by kernel_rfl) (of_decide_eq_true (by kernel_rfl)) h1 hB fun x hx => hlt x (List.mem_append_left _ (List.mem_append_right _ hx)))
      (Below.trod Tryz.laidOut (by kernel_rfl) (of_decide_eq_true (by kernel_rfl)) h2 hB fun x hx => hlt x (List.mem_append_right _ hx))
end Dd
theorem topDropDial_holds : Rows.TopDropDialSaid :=
  OpenClaim.holds_of_wide 4 Tryz.f4 rfl rfl rfl rfl rfl rfl rfl ⟨rfl, rfl, rfl, rfl, rfl⟩ rfl rfl rfl rfl rfl (by kernel_rfl) Tryz.func4 (by kernel_rfl)
    (of_decide_eq_true (by kernel_rfl)) (by unfold Func.isWrapper; first | (rw [if_pos (by decide +kernel)]; kernel_rfl) | (rw [if_neg (by decide +kernel)]; exact ⟨rfl, rfl⟩))
    (fun os started H enc _ => Dd.all_lifted os started H enc)
#print axioms topDropDial_holds
end Go.Proofs.YtnnamdcpmbhboaaGreat
