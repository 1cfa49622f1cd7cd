/- TopTrainSlack: the slack of the face that a train drives is that of all its arbors together, rounded up, no more than each of them rounded up, and no less than any of them. The statement as it is given, for all inputs. -/
import Derived.Test.YtjlolhdkjpfcoaaGreatTs8
import Derived.Test.YtjlolhdkjpfcoaaGreatFr
import Derived.Test.YtjlolhdkjpfcoaaGreatRows
set_option linter.unusedSimpArgs false
set_option linter.unusedVariables false
namespace Go.Proofs.YtjlolhdkjpfcoaaGreat
open Abs Go.ChangeShapes Go.WideShapes Go.ChangeAt Go.RowKit Go.Deep
set_option maxRecDepth 100000
theorem Tryz.own : ownKnob Tryz.prog.godebug = none := by kernel_rfl
theorem Tryz.laidOut : laidOutB Tryz.prog = true := by kernel_rfl
namespace Ts
theorem in_u8 {n : Int} (h : (Lit.int .u8 n).wf = true) : 0 ≤ n ∧ n ≤ 255 := by
  simp only [Lit.wf, Bool.and_eq_true, decide_eq_true_eq] at h; exact h
theorem args_ok {m : NM} {a0 : AV} {w0 : Value} (h0 : VR m a0 w0) (x0 : Int) (x1 : Int) (x2 : Int) (x3 : Int) : VRs m [a0, .agg [.int .u8 x0, .int .u8 x1, .int .u8 x2, .int .u8 x3]] [w0, .agg #[.int .u8 x0, .int .u8 x1, .int .u8 x2, .int .u8 x3]] := by
  simp only [VRs, VR]
  exact ⟨_, _, rfl, h0, _, _, rfl, ⟨_, rfl, _, _, rfl, rfl, _, _, rfl, rfl, _, _, rfl, rfl, _, _, rfl, rfl, rfl⟩, rfl⟩
theorem ht_all {T0 : Type} {E0 : Fr.El T0} (s0 : Fr.Slot T0) : (Nat.ble (objs (s0.obs E0 0)).sup 1 && ((objs (s0.obs E0 0)).allB okO && (objs (s0.obs E0 0)).allB fun o => !o.writable)) = true := by
  cases s0 <;> kernel_rfl
theorem key_all (W : World) (v0 : Value) (v1 : Array Value) (h0 : LKs W 0 [.slice twoE.es] [v0]) (h1 : LKs W 0 [.int .u8, .int .u8, .int .u8, .int .u8] v1.toList) :
    Calls Tryz.prog 3 #[v0, .agg v1] W fun e w' => e = .returned (.bool true) ∧ Below W.heap.size W w' := by
  simp only [LKs, Fr.lk_int, Fr.lk_bool] at h0 h1
  obtain ⟨w0, _, e0, hs0, rfl⟩ := h0
  cases e0
  obtain ⟨_, _, e1, ⟨x0, rfl, wx0⟩, _, _, rfl, ⟨x1, rfl, wx1⟩, _, _, rfl, ⟨x2, rfl, wx2⟩, _, _, rfl, ⟨x3, rfl, wx3⟩, rfl⟩ := h1
  have g1 : v1 = #[.int .u8 x0, .int .u8 x1, .int .u8 x2, .int .u8 x3] := by cases v1; simp at e1; simp [e1]
  subst g1
  obtain ⟨s0, k0, o0, r0⟩ := Fr.slot_of twoE 0 hs0
  exact calls_of (m := Fr.nmL [k0]) (ts_call o0 (in_u8 wx0) (in_u8 wx1) (in_u8 wx2) (in_u8 wx3)) (ht_all s0) (args_ok (r0 _ rfl).1 x0 x1 x2 x3) (Fr.rel_obs (r0 _ rfl).2) (fun n hn => Fr.nmL_top hn)
theorem kinds0 : kindsT Tryz.prog 8 22 = some [.slice twoE.es] := by kernel_rfl
theorem kinds1 : kindsT Tryz.prog 8 23 = some [.int .u8, .int .u8, .int .u8, .int .u8] := by kernel_rfl
theorem all_lifted (os : Os) (started : os.Started) (H : Type) (enc : TypeId × Value → H) :
    ReturnsInHanded {} Tryz.checked os 3 .any (Rows.topTrainSlackSpec.pre6 enc Tryz.prog Tryz.f3 Rows.topTrainSlackRow.domain false) (Rows.topTrainSlackSpec.post enc Tryz.prog Tryz.f3 false true false false) := by
  refine returnsInHanded_of_change (C := Tryz.checked) Tryz.own started (by kernel_rfl) Tryz.func3
    (ChangeSpec.witness6 (enc := enc) (C := Tryz.checked) false ⟨#[], #[.slice none 0 0, .agg #[.int .u8 0, .int .u8 0, .int .u8 0, .int .u8 0]], []⟩ 8 (by kernel_rfl) (by kernel_rfl) (by kernel_rfl) (by kernel_rfl)) ?_
  intro W base args ds gs before hval0 hW _ _
  have hval : ∀ (j : Nat) t v, Tryz.f3.params[j]? = some t → args[j]? = some v → Value.okWide Tryz.prog W .any base t v := hval0
  have hW' := hW
  obtain ⟨p, q, hA0, hV, rfl, hfz, hnd⟩ := hW
  have hA : DataW.TrodAll enc Tryz.prog W 0 (fun _ => true) true Tryz.f3.params.toList args.toList ds p := hA0
  rw [Tryz.params3] at hA hval
  obtain ⟨v0, v1, d0, d1, p0, p1, rfl, rfl, rfl, h0, h1⟩ := trodAll_two hA
  obtain ⟨rfl, rfl⟩ := trodVars_none hV
  obtain ⟨n0, len0, cap0, rfl⟩ := okWide_slice Tryz.underlying22 (hval 0 22 v0 rfl rfl)
  obtain ⟨n1, rfl, _⟩ := Fr.okWide_array Tryz.underlying23 (hval 1 23 v1 rfl rfl)
  clear hA0 hval0
  simp only [List.append_nil] at hW'
  have hlt : ∀ x ∈ p0 ++ p1, x.block < W.heap.size := fun x hx => by simpa using hW'.lt x hx
  have key : Calls Tryz.prog 3 #[.slice n0 len0 cap0, .agg n1] W fun e w' => e = .returned (.bool true) ∧ Below W.heap.size W w' := by
    obtain ⟨f0, k0⟩ := h0
    obtain ⟨f1, k1⟩ := h1
    exact key_all W _ n1 (kindsT_ok (cs := [.slice n0 len0 cap0]) (fun _ => rfl) 8 kinds0 (by simpa [Value.cells] using k0)) (kindsT_ok (fun _ => rfl) 8 kinds1 k1)
  refine key.mono fun e W' ⟨he, hB⟩ => ?_
  subst he
  refine ⟨_, rfl, _, _, _, [], p0 ++ p1, [], hW', ?_, ?_, rfl, hB.frame _, fun h => by cases h⟩
  · exact trodAll_mk1 (shut_bool Tryz.underlying4 _)
  · exact trodAll_mk2 (Below.trod Tryz.laidOut (by kernel_rfl) (of_decide_eq_true (by kernel_rfl)) h0 hB fun x hx => hlt x (List.mem_append_left _ hx))
      (Below.trod Tryz.laidOut (by kernel_rfl) (of_decide_eq_true (by kernel_rfl)) h1 hB fun x hx => hlt x (List.mem_append_right _ hx))
end Ts
theorem topTrainSlack_holds : Rows.TopTrainSlackSaid :=
  OpenClaim.holds_of_wide 3 Tryz.f3 rfl rfl rfl rfl rfl rfl rfl ⟨rfl, rfl, rfl, rfl, rfl⟩ rfl rfl rfl rfl rfl (by kernel_rfl) Tryz.func3 (by kernel_rfl)
    (of_decide_eq_true (by kernel_rfl)) (by unfold Func.isWrapper; first | (rw [if_pos (by decide +kernel)]; kernel_rfl) | (rw [if_neg (by decide +kernel)]; exact ⟨rfl, rfl⟩))
    (fun os started H enc _ => Ts.all_lifted os started H enc)
#print axioms topTrainSlack_holds
end Go.Proofs.YtjlolhdkjpfcoaaGreat
