/- BeatApart: the rates of two truths with the same growing, air and drive, one in each weather, differ by what Change allows; the other way round the change is the opposite. No conditions. -/
import Derived.Test.YtgpdodkcfiefjaaVpm
import Derived.Test.YtgpdodkcfiefjaaFr
import Derived.Test.YtgpdodkcfiefjaaRows
set_option linter.unusedSimpArgs false
set_option linter.unusedVariables false
namespace Go.Proofs.Ytgpdodkcfiefjaa
open Abs Go.ChangeShapes Go.WideShapes Go.ChangeAt Go.RowKit Go.Deep
set_option maxRecDepth 100000
theorem Try.own : ownKnob Try.prog.godebug = none := by kernel_rfl
theorem Try.laidOut : laidOutB Try.prog = true := by kernel_rfl
namespace Be
theorem in_i16 {n : Int} (h : (Lit.int .i16 n).wf = true) : -32768 ≤ n ∧ n ≤ 32767 := by
  simp only [Lit.wf, Bool.and_eq_true, decide_eq_true_eq] at h; exact h
theorem in_u8 {n : Int} (h : (Lit.int .u8 n).wf = true) : 0 ≤ n ∧ n ≤ 255 := by
  simp only [Lit.wf, Bool.and_eq_true, decide_eq_true_eq] at h; exact h
theorem args_ok {m : NM} {a0 : AV} {w0 : Value} {a1 : AV} {w1 : Value} {a2 : AV} {w2 : Value} (h0 : VR m a0 w0) (h1 : VR m a1 w1) (h2 : VR m a2 w2) (x0 : Int) (x1 : Int) (x2 : Int) (x3 : Int) (x4 : Int) (x5 : Int) (x6 : Int) (x7 : Int) (x8 : Int) (x9 : Int) (x10 : Int) (x11 : Int) (x12 : Int) (x13 : Int) (x14 : Int) (x15 : Int) (x16 : Int) (x17 : Int) (x18 : Int) (x19 : Int) (x20 : Int) (x21 : Int) : VRs m [.agg [a0, .int .u8 x0, .int .i16 x1, .int .u8 x2, .int .u8 x3, .int .u8 x4, .int .u8 x5], .agg [.int .u8 x6, .int .u8 x7, .int .u8 x8, .int .u8 x9, .int .u8 x10, .int .u8 x11, .int .u8 x12, .int .u8 x13, .int .u8 x14, .int .u8 x15, .int .u8 x16, .int .u8 x17, .int .u8 x18, .int .u8 x19, .int .u8 x20, .int .u8 x21], .agg [a1, a2]] [.agg #[w0, .int .u8 x0, .int .i16 x1, .int .u8 x2, .int .u8 x3, .int .u8 x4, .int .u8 x5], .agg #[.int .u8 x6, .int .u8 x7, .int .u8 x8, .int .u8 x9, .int .u8 x10, .int .u8 x11, .int .u8 x12, .int .u8 x13, .int .u8 x14, .int .u8 x15, .int .u8 x16, .int .u8 x17, .int .u8 x18, .int .u8 x19, .int .u8 x20, .int .u8 x21], .agg #[w1, w2]] := by
  simp only [VRs, VR]
  exact ⟨_, _, rfl, ⟨_, rfl, _, _, rfl, h0, _, _, rfl, rfl, _, _, rfl, rfl, _, _, rfl, rfl, _, _, rfl, rfl, _, _, rfl, rfl, _, _, rfl, rfl, rfl⟩, _, _, rfl, ⟨_, rfl, _, _, rfl, rfl, _, _, rfl, rfl, _, _, rfl, rfl, _, _, rfl, rfl, _, _, rfl, rfl, _, _, rfl, rfl, _, _, rfl, rfl, _, _, rfl, rfl, _, _, rfl, rfl, _, _, rfl, rfl, _, _, rfl, rfl, _, _, rfl, rfl, _, _, rfl, rfl, _, _, rfl, rfl, _, _, rfl, rfl, _, _, rfl, rfl, rfl⟩, _, _, rfl, ⟨_, rfl, _, _, rfl, h1, _, _, rfl, h2, rfl⟩, rfl⟩
theorem ht_all {T0 : Type} {E0 : Fr.El T0} (s0 : Fr.Slot T0) {T1 : Type} {E1 : Fr.El T1} (s1 : Fr.Slot T1) {T2 : Type} {E2 : Fr.El T2} (s2 : Fr.Slot T2) : (Nat.ble (objs (s0.obs E0 0 ++ s1.obs E1 1 ++ s2.obs E2 2)).sup 3 && ((objs (s0.obs E0 0 ++ s1.obs E1 1 ++ s2.obs E2 2)).allB okO && (objs (s0.obs E0 0 ++ s1.obs E1 1 ++ s2.obs E2 2)).allB fun o => !o.writable)) = true := by
  cases s0 <;> cases s1 <;> cases s2 <;> kernel_rfl
theorem key_all (W : World) (v0 : Array Value) (v1 : Array Value) (v2 : Array Value) (h0 : LKs W 0 [.slice rodE.es, .int .u8, .int .i16, .int .u8, .int .u8, .int .u8, .int .u8] v0.toList) (h1 : LKs W 0 [.int .u8, .int .u8, .int .u8, .int .u8, .int .u8, .int .u8, .int .u8, .int .u8, .int .u8, .int .u8, .int .u8, .int .u8, .int .u8, .int .u8, .int .u8, .int .u8] v1.toList) (h2 : LKs W 0 [.slice byE.es, .slice byE.es] v2.toList) :
    Calls Try.prog 3 #[.agg v0, .agg v1, .agg v2] W fun e w' => e = .returned (.bool true) ∧ Below W.heap.size W w' := by
  simp only [LKs, Fr.lk_int, Fr.lk_bool] at h0 h1 h2
  obtain ⟨w0, _, e0, hs0, _, _, rfl, ⟨x0, rfl, wx0⟩, _, _, rfl, ⟨x1, rfl, wx1⟩, _, _, rfl, ⟨x2, rfl, wx2⟩, _, _, rfl, ⟨x3, rfl, wx3⟩, _, _, rfl, ⟨x4, rfl, wx4⟩, _, _, rfl, ⟨x5, rfl, wx5⟩, rfl⟩ := h0
  have g0 : v0 = #[w0, .int .u8 x0, .int .i16 x1, .int .u8 x2, .int .u8 x3, .int .u8 x4, .int .u8 x5] := by cases v0; simp at e0; simp [e0]
  subst g0
  obtain ⟨_, _, e1, ⟨x6, rfl, wx6⟩, _, _, rfl, ⟨x7, rfl, wx7⟩, _, _, rfl, ⟨x8, rfl, wx8⟩, _, _, rfl, ⟨x9, rfl, wx9⟩, _, _, rfl, ⟨x10, rfl, wx10⟩, _, _, rfl, ⟨x11, rfl, wx11⟩, _, _, rfl, ⟨x12, rfl, wx12⟩, _, _, rfl, ⟨x13, rfl, wx13⟩, _, _, rfl, ⟨x14, rfl, wx14⟩, _, _, rfl, ⟨x15, rfl, wx15⟩, _, _, rfl, ⟨x16, rfl, wx16⟩, _, _, rfl, ⟨x17, rfl, wx17⟩, _, _, rfl, ⟨x18, rfl, wx18⟩, _, _, rfl, ⟨x19, rfl, wx19⟩, _, _, rfl, ⟨x20, rfl, wx20⟩, _, _, rfl, ⟨x21, rfl, wx21⟩, rfl⟩ := h1
  have g1 : v1 = #[.int .u8 x6, .int .u8 x7, .int .u8 x8, .int .u8 x9, .int .u8 x10, .int .u8 x11, .int .u8 x12, .int .u8 x13, .int .u8 x14, .int .u8 x15, .int .u8 x16, .int .u8 x17, .int .u8 x18, .int .u8 x19, .int .u8 x20, .int .u8 x21] := by cases v1; simp at e1; simp [e1]
  subst g1
  obtain ⟨w1, _, e2, hs1, w2, _, rfl, hs2, rfl⟩ := h2
  have g2 : v2 = #[w1, w2] := by cases v2; simp at e2; simp [e2]
  subst g2
  obtain ⟨s0, k0, o0, r0⟩ := Fr.slot_of rodE 0 hs0
  obtain ⟨s1, k1, o1, r1⟩ := Fr.slot_of byE 1 hs1
  obtain ⟨s2, k2, o2, r2⟩ := Fr.slot_of byE 2 hs2
  exact calls_of (m := Fr.nmL [k0, k1, k2]) (ap_call o0 o1 o2 (in_u8 wx0) (in_i16 wx1) (in_u8 wx2) (in_u8 wx3) (in_u8 wx4) (in_u8 wx5) (in_u8 wx6) (in_u8 wx7) (in_u8 wx8) (in_u8 wx9) (in_u8 wx10) (in_u8 wx11) (in_u8 wx12) (in_u8 wx13) (in_u8 wx14) (in_u8 wx15) (in_u8 wx16) (in_u8 wx17) (in_u8 wx18) (in_u8 wx19) (in_u8 wx20) (in_u8 wx21)) (ht_all s0 s1 s2) (args_ok (r0 _ rfl).1 (r1 _ rfl).1 (r2 _ rfl).1 x0 x1 x2 x3 x4 x5 x6 x7 x8 x9 x10 x11 x12 x13 x14 x15 x16 x17 x18 x19 x20 x21) (Fr.rel_obs (Fr.good_app (Fr.good_app (r0 _ rfl).2 (r1 _ rfl).2) (r2 _ rfl).2)) (fun n hn => Fr.nmL_top hn)
theorem kinds0 : kindsT Try.prog 8 26 = some [.slice rodE.es, .int .u8, .int .i16, .int .u8, .int .u8, .int .u8, .int .u8] := by kernel_rfl
theorem kinds1 : kindsT Try.prog 8 29 = some [.int .u8, .int .u8, .int .u8, .int .u8, .int .u8, .int .u8, .int .u8, .int .u8, .int .u8, .int .u8, .int .u8, .int .u8, .int .u8, .int .u8, .int .u8, .int .u8] := by kernel_rfl
theorem kinds2 : kindsT Try.prog 8 31 = some [.slice byE.es, .slice byE.es] := by kernel_rfl
theorem all_lifted (os : Os) (started : os.Started) (H : Type) (enc : TypeId × Value → H) :
    ReturnsInHanded {} Try.checked os 3 .any (Rows.beatApartSpec.pre6 enc Try.prog Try.f3 Rows.beatApartRow.domain false) (Rows.beatApartSpec.post enc Try.prog Try.f3 false true false false) := by
  refine returnsInHanded_of_change (C := Try.checked) Try.own started (by kernel_rfl) Try.func3
    (ChangeSpec.witness6 (enc := enc) (C := Try.checked) false ⟨#[], #[.agg #[.slice none 0 0, .int .u8 0, .int .i16 0, .int .u8 0, .int .u8 0, .int .u8 0, .int .u8 0], .agg #[.int .u8 0, .int .u8 0, .int .u8 0, .int .u8 0, .int .u8 0, .int .u8 0, .int .u8 0, .int .u8 0, .int .u8 0, .int .u8 0, .int .u8 0, .int .u8 0, .int .u8 0, .int .u8 0, .int .u8 0, .int .u8 0], .agg #[.slice none 0 0, .slice none 0 0]], []⟩ 8 (by kernel_rfl) (by kernel_rfl) (by kernel_rfl) (by kernel_rfl)) ?_
  intro W base args ds gs before hval0 hW _ _
  have hval : ∀ (j : Nat) t v, Try.f3.params[j]? = some t → args[j]? = some v → Value.okWide Try.prog W .any base t v := hval0
  have hW' := hW
  obtain ⟨p, q, hA0, hV, rfl, hfz, hnd⟩ := hW
  have hA : DataW.TrodAll enc Try.prog W 0 (fun _ => true) true Try.f3.params.toList args.toList ds p := hA0
  rw [Try.params3] at hA hval
  obtain ⟨v0, v1, v2, d0, d1, d2, p0, p1, p2, rfl, rfl, rfl, h0, h1, h2⟩ := trodAll_three hA
  obtain ⟨rfl, rfl⟩ := trodVars_none hV
  obtain ⟨n0, rfl, _⟩ := okWide_struct Try.underlying26 (hval 0 26 v0 rfl rfl)
  obtain ⟨n1, rfl, _⟩ := Fr.okWide_array Try.underlying29 (hval 1 29 v1 rfl rfl)
  obtain ⟨n2, rfl, _⟩ := Fr.okWide_array Try.underlying31 (hval 2 31 v2 rfl rfl)
  clear hA0 hval0
  simp only [List.append_nil] at hW'
  have hlt : ∀ x ∈ p0 ++ p1 ++ p2, x.block < W.heap.size := fun x hx => by simpa using hW'.lt x hx
  have key : Calls Try.prog 3 #[.agg n0, .agg n1, .agg n2] W fun e w' => e = .returned (.bool true) ∧ Below W.heap.size W w' := by
    obtain ⟨f0, k0⟩ := h0
    obtain ⟨f1, k1⟩ := h1
    obtain ⟨f2, k2⟩ := h2
    exact key_all W n0 n1 n2 (kindsT_ok (fun _ => rfl) 8 kinds0 k0) (kindsT_ok (fun _ => rfl) 8 kinds1 k1) (kindsT_ok (fun _ => rfl) 8 kinds2 k2)
  refine key.mono fun e W' ⟨he, hB⟩ => ?_
  subst he
  refine ⟨_, rfl, _, _, _, [], p0 ++ p1 ++ p2, [], hW', ?_, ?_, rfl, hB.frame _, fun h => by cases h⟩
  · exact trodAll_mk1 (shut_bool Try.underlying4 _)
  · rw [List.append_assoc]
    exact trodAll_mk3 (Below.trod Try.laidOut (by kernel_rfl) (of_decide_eq_true (by kernel_rfl)) h0 hB fun x hx => hlt x (List.mem_append_left _ (List.mem_append_left _ hx)))
      (Below.trod Try.laidOut (by kernel_rfl) (of_decide_eq_true (by kernel_rfl)) h1 hB fun x hx => hlt x (List.mem_append_left _ (List.mem_append_right _ hx)))
      (Below.trod Try.laidOut (by kernel_rfl) (of_decide_eq_true (by kernel_rfl)) h2 hB fun x hx => hlt x (List.mem_append_right _ hx))
end Be
theorem beatApart_holds : Rows.BeatApartSaid :=
  OpenClaim.holds_of_wide 3 Try.f3 rfl rfl rfl rfl rfl rfl rfl ⟨rfl, rfl, rfl, rfl, rfl⟩ rfl rfl rfl rfl rfl (by kernel_rfl) Try.func3 (by kernel_rfl)
    (of_decide_eq_true (by kernel_rfl)) (by unfold Func.isWrapper; first | (rw [if_pos (by decide +kernel)]; kernel_rfl) | (rw [if_neg (by decide +kernel)]; exact ⟨rfl, rfl⟩))
    (fun os started H enc _ => Be.all_lifted os started H enc)
#print axioms beatApart_holds
end Go.Proofs.Ytgpdodkcfiefjaa
