/- DialSteady: with the weight heavy that Poise returns, or more, a dial whose clock and setting are known is off by one number, and so with tail, or less; if there can be no wind, with a weight between both it can be off by as many seconds as it has slack. The statement as it is given, for all inputs. -/
import Derived.Test.YtncfikkeagflkaaDm
import Derived.Test.YtncfikkeagflkaaFr
import Derived.Test.YtncfikkeagflkaaRows
set_option linter.unusedSimpArgs false
set_option linter.unusedVariables false
namespace Go.Proofs.Ytncfikkeagflkaa
open Abs Go.ChangeShapes Go.WideShapes Go.ChangeAt Go.RowKit Go.Deep
set_option maxRecDepth 100000
theorem Try.own : ownKnob Try.prog.godebug = none := by kernel_rfl
theorem Try.laidOut : laidOutB Try.prog = true := by kernel_rfl
namespace Dd
theorem in_u16 {n : Int} (h : (Lit.int .u16 n).wf = true) : 0 ≤ n ∧ n ≤ 65535 := by
  simp only [Lit.wf, Bool.and_eq_true, decide_eq_true_eq] at h; exact h
theorem in_u8 {n : Int} (h : (Lit.int .u8 n).wf = true) : 0 ≤ n ∧ n ≤ 255 := by
  simp only [Lit.wf, Bool.and_eq_true, decide_eq_true_eq] at h; exact h
theorem args_ok {m : NM} {a0 : AV} {w0 : Value} {a1 : AV} {w1 : Value} (h0 : VR m a0 w0) (h1 : VR m a1 w1) (x0 : Int) (x1 : Int) (x2 : Int) (x3 : Int) (x4 : Int) (x5 : Int) (x6 : Int) (x7 : Int) (x8 : Int) : VRs m [.agg [.int .u8 x0, .int .u8 x1, .int .u8 x2, .int .u8 x3, a0, .int .u16 x4, .int .u8 x5, .int .u8 x6, a1], .int .u8 x7, .int .u8 x8] [.agg #[.int .u8 x0, .int .u8 x1, .int .u8 x2, .int .u8 x3, w0, .int .u16 x4, .int .u8 x5, .int .u8 x6, w1], .int .u8 x7, .int .u8 x8] := by
  simp only [VRs, VR]
  exact ⟨_, _, rfl, ⟨_, rfl, _, _, rfl, rfl, _, _, rfl, rfl, _, _, rfl, rfl, _, _, rfl, rfl, _, _, rfl, h0, _, _, rfl, rfl, _, _, rfl, rfl, _, _, rfl, rfl, _, _, rfl, h1, rfl⟩, _, _, rfl, rfl, _, _, rfl, rfl, rfl⟩
theorem ht_all {T0 : Type} {E0 : Fr.El T0} (s0 : Fr.Slot T0) : (Nat.ble (objs (s0.obs E0 0)).sup 2 && ((objs (s0.obs E0 0)).allB okO && (objs (s0.obs E0 0)).allB fun o => !o.writable)) = true := by
  cases s0 <;> kernel_rfl
theorem key_all (W : World) (v0 : Array Value) (v1 : Value) (v2 : Value) (h0 : LKs W 0 [.int .u8, .int .u8, .int .u8, .int .u8, .slice sixE.es, .int .u16, .int .u8, .int .u8, .slice byE.es] v0.toList) (h1 : LKs W 0 [.int .u8] [v1]) (h2 : LKs W 0 [.int .u8] [v2]) :
    Calls Try.prog 3 #[.agg v0, v1, v2] W fun e w' => e = .returned (.bool true) ∧ Below W.heap.size W w' := by
  simp only [LKs, Fr.lk_int, Fr.lk_bool] at h0 h1 h2
  obtain ⟨_, _, e0, ⟨x0, rfl, wx0⟩, _, _, rfl, ⟨x1, rfl, wx1⟩, _, _, rfl, ⟨x2, rfl, wx2⟩, _, _, rfl, ⟨x3, rfl, wx3⟩, w0, _, rfl, hs0, _, _, rfl, ⟨x4, rfl, wx4⟩, _, _, rfl, ⟨x5, rfl, wx5⟩, _, _, rfl, ⟨x6, rfl, wx6⟩, w1, _, rfl, hs1, rfl⟩ := h0
  have g0 : v0 = #[.int .u8 x0, .int .u8 x1, .int .u8 x2, .int .u8 x3, w0, .int .u16 x4, .int .u8 x5, .int .u8 x6, w1] := by cases v0; simp at e0; simp [e0]
  subst g0
  obtain ⟨_, _, e1, ⟨x7, rfl, wx7⟩, rfl⟩ := h1
  cases e1
  obtain ⟨_, _, e2, ⟨x8, rfl, wx8⟩, rfl⟩ := h2
  cases e2
  obtain ⟨s0, k0, o0, r0⟩ := Fr.slot_of sixE 0 hs0
  obtain ⟨s1, k1, o1, r1⟩ := Fr.slot_of byE 1 hs1
  exact calls_of (m := Fr.nmL [k0, k1]) (ds_call o0 o1 (in_u8 wx0) (in_u8 wx1) (in_u8 wx2) (in_u8 wx3) (in_u16 wx4) (in_u8 wx5) (in_u8 wx6) (in_u8 wx7) (in_u8 wx8)) (ht_all s0) (args_ok (r0 _ rfl).1 (r1 _ rfl).1 x0 x1 x2 x3 x4 x5 x6 x7 x8) (Fr.rel_obs (r0 _ rfl).2) (fun n hn => Fr.nmL_top hn)
theorem kinds0 : kindsT Try.prog 8 27 = some [.int .u8, .int .u8, .int .u8, .int .u8, .slice sixE.es, .int .u16, .int .u8, .int .u8, .slice byE.es] := by kernel_rfl
theorem kinds1 : kindsT Try.prog 8 5 = some [.int .u8] := by kernel_rfl
theorem und1 : Try.prog.underlying 5 = some (.int .u8) := by kernel_rfl
theorem kinds2 : kindsT Try.prog 8 5 = some [.int .u8] := by kernel_rfl
theorem und2 : Try.prog.underlying 5 = some (.int .u8) := by kernel_rfl
theorem all_lifted (os : Os) (started : os.Started) (H : Type) (enc : TypeId × Value → H) :
    ReturnsInHanded {} Try.checked os 3 .any (Rows.dialSteadySpec.pre6 enc Try.prog Try.f3 Rows.dialSteadyRow.domain false) (Rows.dialSteadySpec.post enc Try.prog Try.f3 false true false false) := by
  refine returnsInHanded_of_change (C := Try.checked) Try.own started (by kernel_rfl) Try.func3
    (ChangeSpec.witness6 (enc := enc) (C := Try.checked) false ⟨#[], #[.agg #[.int .u8 0, .int .u8 0, .int .u8 0, .int .u8 0, .slice none 0 0, .int .u16 0, .int .u8 0, .int .u8 0, .slice none 0 0], .int .u8 0, .int .u8 0], []⟩ 8 (by kernel_rfl) (by kernel_rfl) (by kernel_rfl) (by kernel_rfl)) ?_
  intro W base args ds gs before hval0 hW _ _
  have hval : ∀ (j : Nat) t v, Try.f3.params[j]? = some t → args[j]? = some v → Value.okWide Try.prog W .any base t v := hval0
  have hW' := hW
  obtain ⟨p, q, hA0, hV, rfl, hfz, hnd⟩ := hW
  have hA : DataW.TrodAll enc Try.prog W 0 (fun _ => true) true Try.f3.params.toList args.toList ds p := hA0
  rw [Try.params3] at hA hval
  obtain ⟨v0, v1, v2, d0, d1, d2, p0, p1, p2, rfl, rfl, rfl, h0, h1, h2⟩ := trodAll_three hA
  obtain ⟨rfl, rfl⟩ := trodVars_none hV
  obtain ⟨n0, rfl, _⟩ := okWide_struct Try.underlying27 (hval 0 27 v0 rfl rfl)
  obtain ⟨n1, rfl⟩ := okWide_int und1 (hval 1 5 v1 rfl rfl)
  obtain ⟨n2, rfl⟩ := okWide_int und2 (hval 2 5 v2 rfl rfl)
  clear hA0 hval0
  simp only [List.append_nil] at hW'
  have hlt : ∀ x ∈ p0 ++ p1 ++ p2, x.block < W.heap.size := fun x hx => by simpa using hW'.lt x hx
  have key : Calls Try.prog 3 #[.agg n0, .int .u8 n1, .int .u8 n2] W fun e w' => e = .returned (.bool true) ∧ Below W.heap.size W w' := by
    obtain ⟨f0, k0⟩ := h0
    obtain ⟨f1, k1⟩ := h1
    obtain ⟨f2, k2⟩ := h2
    exact key_all W n0 _ _ (kindsT_ok (fun _ => rfl) 8 kinds0 k0) (kindsT_ok (cs := [.int .u8 n1]) (fun _ => rfl) 8 kinds1 (by simpa [Value.cells] using k1)) (kindsT_ok (cs := [.int .u8 n2]) (fun _ => rfl) 8 kinds2 (by simpa [Value.cells] using k2))
  refine key.mono fun e W' ⟨he, hB⟩ => ?_
  subst he
  refine ⟨_, rfl, _, _, _, [], p0 ++ p1 ++ p2, [], hW', ?_, ?_, rfl, hB.frame _, fun h => by cases h⟩
  · exact trodAll_mk1 (shut_bool Try.underlying4 _)
  · rw [List.append_assoc]
    exact trodAll_mk3 (Below.trod Try.laidOut (by kernel_rfl) (of_decide_eq_true (by kernel_rfl)) h0 hB fun x hx => hlt x (List.mem_append_left _ (List.mem_append_left _ hx)))
      (Below.trod Try.laidOut (by kernel_rfl) (of_decide_eq_true (by kernel_rfl)) h1 hB fun x hx => hlt x (List.mem_append_left _ (List.mem_append_right _ hx)))
      (Below.trod Try.laidOut (by kernel_rfl) (of_decide_eq_true (by kernel_rfl)) h2 hB fun x hx => hlt x (List.mem_append_right _ hx))
end Dd
theorem dialSteady_holds : Rows.DialSteadySaid :=
  OpenClaim.holds_of_wide 3 Try.f3 rfl rfl rfl rfl rfl rfl rfl ⟨rfl, rfl, rfl, rfl, rfl⟩ rfl rfl rfl rfl rfl (by kernel_rfl) Try.func3 (by kernel_rfl)
    (of_decide_eq_true (by kernel_rfl)) (by unfold Func.isWrapper; first | (rw [if_pos (by decide +kernel)]; kernel_rfl) | (rw [if_neg (by decide +kernel)]; exact ⟨rfl, rfl⟩))
    (fun os started H enc _ => Dd.all_lifted os started H enc)
#print axioms dialSteady_holds
end Go.Proofs.Ytncfikkeagflkaa
