/- TopQuarterZone: when the clocks of a town are put back by some quarters, its chime has rung as many quarters as have gone by, and it is brought into step with the clocks by as many sections as the quarters that they were put back lack of whole hours, without a blow, as no pin is there. The statement as it is given, for all inputs. -/
import Derived.Test.YtekmmeikkafpmaaGreatQz1
import Derived.Test.YtekmmeikkafpmaaGreatFr
import Derived.Test.YtekmmeikkafpmaaGreatRows
set_option linter.unusedSimpArgs false
set_option linter.unusedVariables false
namespace Go.Proofs.YtekmmeikkafpmaaGreat
open Abs Go.ChangeShapes Go.WideShapes Go.ChangeAt Go.RowKit Go.Deep
set_option maxRecDepth 100000
theorem Tryz.own : ownKnob Tryz.prog.godebug = none := by kernel_rfl
theorem Tryz.laidOut : laidOutB Tryz.prog = true := by kernel_rfl
namespace Qz
theorem in_u8 {n : Int} (h : (Lit.int .u8 n).wf = true) : 0 ≤ n ∧ n ≤ 255 := by
  simp only [Lit.wf, Bool.and_eq_true, decide_eq_true_eq] at h; exact h
theorem args_ok {m : NM} (x0 : Int) (x1 : Int) (x2 : Int) : VRs m [.int .u8 x0, .int .u8 x1, .int .u8 x2] [.int .u8 x0, .int .u8 x1, .int .u8 x2] := by
  simp only [VRs, VR]
  exact ⟨_, _, rfl, rfl, _, _, rfl, rfl, _, _, rfl, rfl, rfl⟩
theorem ht_all  : (Nat.ble (objs (([] : List (Nat × AObj)))).sup 0 && ((objs (([] : List (Nat × AObj)))).allB okO && (objs (([] : List (Nat × AObj)))).allB fun o => !o.writable)) = true := by
  kernel_rfl
theorem key_all (W : World) (v0 : Value) (v1 : Value) (v2 : Value) (h0 : LKs W 0 [.int .u8] [v0]) (h1 : LKs W 0 [.int .u8] [v1]) (h2 : LKs W 0 [.int .u8] [v2]) :
    Calls Tryz.prog 3 #[v0, v1, v2] W fun e w' => e = .returned (.bool true) ∧ Below W.heap.size W w' := by
  simp only [LKs, Fr.lk_int, Fr.lk_bool] at h0 h1 h2
  obtain ⟨_, _, e0, ⟨x0, rfl, wx0⟩, rfl⟩ := h0
  cases e0
  obtain ⟨_, _, e1, ⟨x1, rfl, wx1⟩, rfl⟩ := h1
  cases e1
  obtain ⟨_, _, e2, ⟨x2, rfl, wx2⟩, rfl⟩ := h2
  cases e2
  exact calls_of (m := Fr.nmL []) (qz_call (in_u8 wx0) (in_u8 wx1) (in_u8 wx2)) (ht_all ) (args_ok  x0 x1 x2) (rel_empty _ _) (fun n hn => Fr.nmL_top hn)
theorem kinds0 : kindsT Tryz.prog 8 5 = some [.int .u8] := by kernel_rfl
theorem und0 : Tryz.prog.underlying 5 = some (.int .u8) := by kernel_rfl
theorem kinds1 : kindsT Tryz.prog 8 5 = some [.int .u8] := by kernel_rfl
theorem und1 : Tryz.prog.underlying 5 = some (.int .u8) := by kernel_rfl
theorem kinds2 : kindsT Tryz.prog 8 5 = some [.int .u8] := by kernel_rfl
theorem und2 : Tryz.prog.underlying 5 = some (.int .u8) := by kernel_rfl
theorem all_lifted (os : Os) (started : os.Started) (H : Type) (enc : TypeId × Value → H) :
    ReturnsInHanded {} Tryz.checked os 3 .any (Rows.topQuarterZoneSpec.pre6 enc Tryz.prog Tryz.f3 Rows.topQuarterZoneRow.domain false) (Rows.topQuarterZoneSpec.post enc Tryz.prog Tryz.f3 false true false false) := by
  refine returnsInHanded_of_change (C := Tryz.checked) Tryz.own started (by kernel_rfl) Tryz.func3
    (ChangeSpec.witness6 (enc := enc) (C := Tryz.checked) false ⟨#[], #[.int .u8 0, .int .u8 0, .int .u8 0], []⟩ 8 (by kernel_rfl) (by kernel_rfl) (by kernel_rfl) (by kernel_rfl)) ?_
  intro W base args ds gs before hval0 hW _ _
  have hval : ∀ (j : Nat) t v, Tryz.f3.params[j]? = some t → args[j]? = some v → Value.okWide Tryz.prog W .any base t v := hval0
  have hW' := hW
  obtain ⟨p, q, hA0, hV, rfl, hfz, hnd⟩ := hW
  have hA : DataW.TrodAll enc Tryz.prog W 0 (fun _ => true) true Tryz.f3.params.toList args.toList ds p := hA0
  rw [Tryz.params3] at hA hval
  obtain ⟨v0, v1, v2, d0, d1, d2, p0, p1, p2, rfl, rfl, rfl, h0, h1, h2⟩ := trodAll_three hA
  obtain ⟨rfl, rfl⟩ := trodVars_none hV
  obtain ⟨n0, rfl⟩ := okWide_int und0 (hval 0 5 v0 rfl rfl)
  obtain ⟨n1, rfl⟩ := okWide_int und1 (hval 1 5 v1 rfl rfl)
  obtain ⟨n2, rfl⟩ := okWide_int und2 (hval 2 5 v2 rfl rfl)
  clear hA0 hval0
  simp only [List.append_nil] at hW'
  have hlt : ∀ x ∈ p0 ++ p1 ++ p2, x.block < W.heap.size := fun x hx => by simpa using hW'.lt x hx
  have key : Calls Tryz.prog 3 #[.int .u8 n0, .int .u8 n1, .int .u8 n2] W fun e w' => e = .returned (.bool true) ∧ Below W.heap.size W w' := by
    obtain ⟨f0, k0⟩ := h0
    obtain ⟨f1, k1⟩ := h1
    obtain ⟨f2, k2⟩ := h2
    exact key_all W _ _ _ (kindsT_ok (cs := [.int .u8 n0]) (fun _ => rfl) 8 kinds0 (by simpa [Value.cells] using k0)) (kindsT_ok (cs := [.int .u8 n1]) (fun _ => rfl) 8 kinds1 (by simpa [Value.cells] using k1)) (kindsT_ok (cs := [.int .u8 n2]) (fun _ => rfl) 8 kinds2 (by simpa [Value.cells] using k2))
  refine key.mono fun e W' ⟨he, hB⟩ => ?_
  subst he
  refine ⟨_, rfl, _, _, _, [], p0 ++ p1 ++ p2, [], hW', ?_, ?_, rfl, hB.frame _, fun h => by cases h⟩
  · exact trodAll_mk1 (shut_bool Tryz.underlying4 _)
  · rw [List.append_assoc]
    exact trodAll_mk3 (Below.trod Tryz.laidOut (by kernel_rfl) (of_decide_eq_true (by kernel_rfl)) h0 hB fun x hx => hlt x (List.mem_append_left _ (List.mem_append_left _ hx)))
      (Below.trod Tryz.laidOut (by kernel_rfl) (of_decide_eq_true (by kernel_rfl)) h1 hB fun x hx => hlt x (List.mem_append_left _ (List.mem_append_right _ hx)))
      (Below.trod Tryz.laidOut (by kernel_rfl) (of_decide_eq_true (by kernel_rfl)) h2 hB fun x hx => hlt x (List.mem_append_right _ hx))
end Qz
theorem topQuarterZone_holds : Rows.TopQuarterZoneSaid :=
  OpenClaim.holds_of_wide 3 Tryz.f3 rfl rfl rfl rfl rfl rfl rfl ⟨rfl, rfl, rfl, rfl, rfl⟩ rfl rfl rfl rfl rfl (by kernel_rfl) Tryz.func3 (by kernel_rfl)
    (of_decide_eq_true (by kernel_rfl)) (by unfold Func.isWrapper; first | (rw [if_pos (by decide +kernel)]; kernel_rfl) | (rw [if_neg (by decide +kernel)]; exact ⟨rfl, rfl⟩))
    (fun os started H enc _ => Qz.all_lifted os started H enc)
#print axioms topQuarterZone_holds
end Go.Proofs.YtekmmeikkafpmaaGreat
