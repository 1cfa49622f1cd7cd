/- ChimeMeets: the statement. For all lists of cams and all steps: the first step at which all figures of the cams are out, or the error, is what the document says, and the cams are not changed. No condition. -/
import Derived.Test.YtoecekncncbjgaaG6
import Derived.Test.YtoecekncncbjgaaRows
set_option linter.unusedSimpArgs false
set_option linter.unusedVariables false
namespace Go.Proofs.Ytoecekncncbjgaa
open Abs Go.ChangeShapes Go.WideShapes Go.ChangeAt Go.RowKit Go.Deep
set_option maxRecDepth 100000
theorem Try.own : ownKnob Try.prog.godebug = none := by kernel_rfl
theorem Try.laidOut : laidOutB Try.prog = true := by kernel_rfl
namespace Cm
theorem in_i64 {n : Int} (h : (Lit.int .i64 n).wf = true) : -9223372036854775808 ≤ n ∧ n ≤ 9223372036854775807 := by
  simp only [Lit.wf, Bool.and_eq_true, decide_eq_true_eq] at h; exact h
theorem okWide_array {P : Program} {w : World} {r : Reach} {base : Nat} {t : TypeId} {v : Value} {n : Nat} {e : TypeId} (ht : P.underlying t = some (.array n e)) (h : Value.okWide P w r base t v) : ∃ cs, v = .agg cs ∧ cs.size = P.cellsOf t := by
  simp only [Value.okWide, ht] at h
  obtain ⟨cs, h1, h2, _⟩ := h
  exact ⟨cs, h1, h2⟩
theorem args_ok {m : NM} {r : AV} {rv : Value} (hr : VR m r rv) (x0 : Int) : VRs m [r, .int .i64 x0] [rv, .int .i64 x0] := by
  simp only [VRs, VR]
  exact ⟨_, _, rfl, hr, _, _, rfl, rfl, rfl⟩
abbrev kE : List LK := [.int .i64, .int .i64, .int .i64]
theorem rows_of {m : NM} {W : World} : ∀ {len : Nat} {vs : List Value}, vs.length = len * 3 → (∀ i, i < len → LKs W 0 kE ((vs.drop (i * 3)).take 3)) → ∃ l : List (Int × Int × Int), l.length = len ∧ (∀ x ∈ l, Bd x) ∧ VRs m (rowC l) vs
  | 0, vs, hl, _ => by simp at hl; subst hl; exact ⟨[], rfl, (fun x hx => by cases hx), by simp [rowC, VRs]⟩
  | n + 1, vs, hl, h => by
    have h0 := h 0 (by omega)
    simp only [Nat.zero_mul, List.drop_zero, LKs, LKok] at h0
    obtain ⟨_, _, e, ⟨a0, rfl, wa0⟩, _, _, rfl, ⟨a1, rfl, wa1⟩, _, _, rfl, ⟨a2, rfl, wa2⟩, rfl⟩ := h0
    obtain ⟨l, h1, h2, h3⟩ := rows_of (m := m) (W := W) (len := n) (vs := vs.drop 3) (by rw [List.length_drop, hl]; omega) (fun i hi => by
      have := h (i + 1) (by omega)
      rw [List.drop_drop]
      rwa [show 3 + i * 3 = (i + 1) * 3 by omega])
    refine ⟨(a0, a1, a2) :: l, by simp [h1], ?_, ?_⟩
    · intro x hx
      rcases List.mem_cons.1 hx with rfl | hx
      · exact trivial
      · exact h2 x hx
    · rw [← List.take_append_drop 3 vs, e]
      show VRs m (AV.int .i64 a0 :: AV.int .i64 a1 :: AV.int .i64 a2 :: rowC l) _
      exact .cons (by simp only [VR]) (.cons (by simp only [VR]) (.cons (by simp only [VR]) (h3)))
theorem cut_row {α : Type} {es : Nat} {vs : List α} {len cap i : Nat} (hi : i < len) (hl : len ≤ cap) (hv : vs.length = cap * es) : ((vs.take (len * es)).drop (i * es)).take es = (vs.drop (i * es)).take es := by
  rw [List.drop_take, List.take_take]
  have : i * es + es ≤ len * es := by rw [← Nat.succ_mul]; exact Nat.mul_le_mul_right _ hi
  rw [show min es (len * es - i * es) = es by omega]
theorem vr_row {m : NM} {n : Nat} {a : Addr} {len cap es : Nat} (hm : m n = some ⟨a.block, a.off, 0⟩) (hs : a.spot = none) (h1 : len ≤ cap) (he : 0 < es) : VR m (.slice n 0 len cap es true) (.slice (some a) len cap) := by
  obtain ⟨b, off, spot⟩ := a
  simp only at hs
  subst hs
  simp only [VR]
  exact .inr ⟨_, off, cap, none, hm, rfl, h1, Nat.le_refl _, fun _ => rfl, .inr (by simp), (fun h => by cases h), .inr rfl⟩
theorem vr_free {m : NM} {n es : Nat} {a : Addr} : VR m (.slice n 0 0 0 es true) (.slice (some a) 0 0) := by
  simp only [VR]; exact .inl ⟨trivial, trivial, trivial, a, rfl⟩
theorem vr_nil {m : NM} : VR m .nils (.slice none 0 0) := by simp only [VR]
theorem key_all (W : World) (v0 : Value) (v1 : Value) (h0 : LKs W 0 [.slice [.int .i64, .int .i64, .int .i64]] [v0]) (h1 : LKs W 0 [.int .i64] [v1]) :
    Calls Try.prog 3 #[v0, v1] W fun e w' => e = .returned (.bool true) ∧ Below W.heap.size W w' := by
  simp only [LKs, LKok] at h0 h1
  obtain ⟨_, _, e0, hv, rfl⟩ := h0
  cases e0
  obtain ⟨_, _, e1, ⟨x0, rfl, wx0⟩, rfl⟩ := h1
  cases e1
  rcases hv with rfl | ⟨ad, len, cap, rfl, q1, q2, q3⟩
  · exact calls_of (m := fun _ => none) (call_nil x0 (in_i64 wx0)) rfl (args_ok vr_nil x0) (rel_empty _ _) (fun _ _ => rfl)
  · rcases Nat.eq_zero_or_pos cap with rfl | hp
    · obtain rfl : len = 0 := by omega
      exact calls_of (m := fun _ => none) (call_free x0 (in_i64 wx0)) rfl (args_ok vr_free x0) (rel_empty _ _) (fun _ _ => rfl)
    · obtain ⟨hs, cc, e, fz, pre, vs, rest, g1, g2, g3, g4, g5⟩ := open_row (es := kE) (by decide) hp q3
      obtain ⟨l, hl, hb, hv⟩ := rows_of (m := m1 ⟨ad.block, ad.off, 0⟩) (W := W) (len := len) (vs := vs.take (len * 3)) (by
        have : len * 3 ≤ cap * 3 := Nat.mul_le_mul_right _ q1
        rw [List.length_take, g4]; exact Nat.min_eq_left this) (fun i hi => by
        rw [cut_row (es := 3) hi q1 g4]; exact g5 i (by omega))
      subst hl
      exact calls_of (m := m1 ⟨ad.block, ad.off, 0⟩) (call_row l hb cap x0 (in_i64 wx0)) (by kernel_rfl) (args_ok (vr_row rfl hs q1 (by decide)) x0) (rel_one (rest := vs.drop (l.length * 3) ++ rest) g1 (by rw [← List.append_assoc (List.take (l.length * 3) vs) (List.drop (l.length * 3) vs) rest, List.take_append_drop]; exact g2) g3 hv) (m1_top _)
theorem kinds0 : kindsT Try.prog 8 22 = some [.slice [.int .i64, .int .i64, .int .i64]] := by kernel_rfl
theorem kinds1 : kindsT Try.prog 8 3 = some [.int .i64] := by kernel_rfl
theorem und1 : Try.prog.underlying 3 = some (.int .i64) := by kernel_rfl
theorem all_lifted (os : Os) (started : os.Started) (H : Type) (enc : TypeId × Value → H) :
    ReturnsInHanded {} Try.checked os 3 .any (Rows.chimeMeetsSpec.pre6 enc Try.prog Try.f3 Rows.chimeMeetsRow.domain false) (Rows.chimeMeetsSpec.post enc Try.prog Try.f3 false true false false) := by
  refine returnsInHanded_of_change (C := Try.checked) Try.own started (by kernel_rfl) Try.func3
    (ChangeSpec.witness6 (enc := enc) (C := Try.checked) false ⟨#[], #[.slice none 0 0, .int .i64 0], []⟩ 8 (by kernel_rfl) (by kernel_rfl) (by kernel_rfl) (by kernel_rfl)) ?_
  intro W base args ds gs before hval0 hW _ _
  have hval : ∀ (j : Nat) t v, Try.f3.params[j]? = some t → args[j]? = some v → Value.okWide Try.prog W .any base t v := hval0
  have hW' := hW
  obtain ⟨p, q, hA0, hV, rfl, hfz, hnd⟩ := hW
  have hA : DataW.TrodAll enc Try.prog W 0 (fun _ => true) true Try.f3.params.toList args.toList ds p := hA0
  rw [Try.params3] at hA hval
  obtain ⟨v0, v1, d0, d1, p0, p1, rfl, rfl, rfl, h0, h1⟩ := trodAll_two hA
  obtain ⟨rfl, rfl⟩ := trodVars_none hV
  obtain ⟨n0, len0, cap0, rfl⟩ := okWide_slice Try.underlying22 (hval 0 22 v0 rfl rfl)
  obtain ⟨n1, rfl⟩ := okWide_int und1 (hval 1 3 v1 rfl rfl)
  clear hA0 hval0
  simp only [List.append_nil] at hW'
  have hlt : ∀ x ∈ p0 ++ p1, x.block < W.heap.size := fun x hx => by simpa using hW'.lt x hx
  have key : Calls Try.prog 3 #[.slice n0 len0 cap0, .int .i64 n1] W fun e w' => e = .returned (.bool true) ∧ Below W.heap.size W w' := by
    obtain ⟨f0, k0⟩ := h0
    obtain ⟨f1, k1⟩ := h1
    exact key_all W _ _ (kindsT_ok (cs := [.slice n0 len0 cap0]) (fun _ => rfl) 8 kinds0 (by simpa [Value.cells] using k0)) (kindsT_ok (cs := [.int .i64 n1]) (fun _ => rfl) 8 kinds1 (by simpa [Value.cells] using k1))
  refine key.mono fun e W' ⟨he, hB⟩ => ?_
  subst he
  refine ⟨_, rfl, _, _, _, [], p0 ++ p1, [], hW', ?_, ?_, rfl, hB.frame _, fun h => by cases h⟩
  · exact trodAll_mk1 (shut_bool Try.underlying4 _)
  · exact trodAll_mk2 (Below.trod Try.laidOut (by kernel_rfl) (of_decide_eq_true (by kernel_rfl)) h0 hB fun x hx => hlt x (List.mem_append_left _ hx))
      (Below.trod Try.laidOut (by kernel_rfl) (of_decide_eq_true (by kernel_rfl)) h1 hB fun x hx => hlt x (List.mem_append_right _ hx))
end Cm
theorem chimeMeets_holds : Rows.ChimeMeetsSaid :=
  OpenClaim.holds_of_wide 3 Try.f3 rfl rfl rfl rfl rfl rfl rfl ⟨rfl, rfl, rfl, rfl, rfl⟩ rfl rfl rfl rfl rfl (by kernel_rfl) Try.func3 (by kernel_rfl)
    (of_decide_eq_true (by kernel_rfl)) (by unfold Func.isWrapper; first | (rw [if_pos (by decide +kernel)]; kernel_rfl) | (rw [if_neg (by decide +kernel)]; exact ⟨rfl, rfl⟩))
    (fun os started H enc _ => Cm.all_lifted os started H enc)
#print axioms chimeMeets_holds
end Go.Proofs.Ytoecekncncbjgaa
