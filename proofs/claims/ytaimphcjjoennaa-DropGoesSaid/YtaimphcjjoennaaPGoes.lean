/- DropGoes: the statement. For all clocks, starts and hours: the hours in which a clock can stop that is not wound, or the error, are what the document says. No condition. -/
import Derived.Test.YtaimphcjjoennaaW3
import Derived.Test.YtaimphcjjoennaaRows
set_option linter.unusedSimpArgs false
set_option linter.unusedVariables false
namespace Go.Proofs.Ytaimphcjjoennaa
open Abs Go.ChangeShapes Go.WideShapes Go.ChangeAt Go.RowKit Go.Deep
set_option maxRecDepth 100000
theorem Try.own : ownKnob Try.prog.godebug = none := by kernel_rfl
theorem Try.laidOut : laidOutB Try.prog = true := by kernel_rfl
namespace Dw
abbrev kSpan : List LK := [.int .i64, .int .i64]
theorem hours_of {m : NM} {W : World} : ∀ {len : Nat} {vs : List Value}, vs.length = len * 2 → (∀ i, i < len → LKs W 0 kSpan ((vs.drop (i * 2)).take 2)) → ∃ l : List Hr, l.length = len ∧ VRs m (hoC l) vs
  | 0, vs, hl, _ => by simp at hl; subst hl; exact ⟨[], rfl, by simp [hoC, VRs]⟩
  | n + 1, vs, hl, h => by
    have h0 := h 0 (by omega)
    simp only [Nat.zero_mul, List.drop_zero, LKs, LKok] at h0
    obtain ⟨_, _, e, ⟨a, rfl, ha⟩, _, _, rfl, ⟨b, rfl, hb⟩, rfl⟩ := h0
    obtain ⟨l, h1, h3⟩ := hours_of (m := m) (W := W) (len := n) (vs := vs.drop 2) (by rw [List.length_drop, hl]; omega) (fun i hi => by
      have := h (i + 1) (by omega)
      rw [List.drop_drop]
      rwa [show 2 + i * 2 = (i + 1) * 2 by omega])
    refine ⟨(a, b) :: l, by simp [h1], ?_⟩
    rw [← List.take_append_drop 2 vs, e]
    show VRs m (AV.int .i64 a :: AV.int .i64 b :: hoC l) _
    exact .cons (by simp only [VR]) (.cons (by simp only [VR]) h3)
theorem cut_row {α : Type} {es : Nat} {vs : List α} {len cap i : Nat} (hi : i < len) (hl : len ≤ cap) (hv : vs.length = cap * es) : ((vs.take (len * es)).drop (i * es)).take es = (vs.drop (i * es)).take es := by
  rw [List.drop_take, List.take_take]
  have : i * es + es ≤ len * es := by rw [← Nat.succ_mul]; exact Nat.mul_le_mul_right _ hi
  rw [show min es (len * es - i * es) = es by omega]
theorem vr_row {m : NM} {n : Nat} {a : Addr} {len cap es : Nat} (hm : m n = some ⟨a.block, a.off, 0⟩) (hs : a.spot = none) (h1 : len ≤ cap) (he : 0 < es) : VR m (.slice n 0 len cap es true) (.slice (some a) len cap) := by
  obtain ⟨b, off, spot⟩ := a
  simp only at hs
  subst hs
  simp only [VR]
  exact .inr ⟨_, off, cap, none, hm, rfl, h1, Nat.le_refl _, fun _ => rfl, .inr (by simp), (fun h => by cases h), .inr rfl⟩
theorem vr_free {m : NM} {n es : Nat} {a : Addr} : VR m (.slice n 0 0 0 es true) (.slice (some a) 0 0) := by
  simp only [VR]; exact .inl ⟨trivial, trivial, trivial, a, rfl⟩
theorem vr_nil {m : NM} : VR m .nils (.slice none 0 0) := by simp only [VR]
theorem args_ok {m : NM} {r : AV} {v : Value} (L s f : Int) (hr : VR m r v) : VRs m (goA L r s f) [.agg #[.int .i64 L, v], .int .i64 s, .int .i64 f] := by
  simp only [goA, VRs, VR]
  exact ⟨_, _, rfl, ⟨_, rfl, _, _, rfl, rfl, _, _, rfl, hr, rfl⟩, _, _, rfl, rfl, _, _, rfl, rfl, rfl⟩
theorem goes_key (W : World) (xs : Array Value) (s f : Int) (hk : LKs W 0 [.int .i64, .slice kSpan] xs.toList) :
    Calls Try.prog g2 #[.agg xs, .int .i64 s, .int .i64 f] W fun e w' => e = .returned (.bool true) ∧ Below W.heap.size W w' := by
  simp only [LKs, LKok] at hk
  obtain ⟨_, _, e, ⟨L, rfl, _⟩, v, _, rfl, hv, rfl⟩ := hk
  have hxs : xs = #[.int .i64 L, v] := by cases xs; simp at e; simp [e]
  subst hxs
  rcases hv with rfl | ⟨ad, len, cap, rfl, q1, q2, q3⟩
  · exact calls_of (m := fun _ => none) (call_nil L s f) rfl (args_ok L s f vr_nil) (rel_empty _ _) (fun _ _ => rfl)
  · rcases Nat.eq_zero_or_pos cap with rfl | hp
    · obtain rfl : len = 0 := by omega
      exact calls_of (m := fun _ => none) (call_free L s f) rfl (args_ok L s f vr_free) (rel_empty _ _) (fun _ _ => rfl)
    · obtain ⟨hs, c, e, fz, pre, vs, rest, g1, g2, g3, g4, g5⟩ := open_row (es := kSpan) (by decide) hp q3
      obtain ⟨l, hl, hv⟩ := hours_of (m := m1 ⟨ad.block, ad.off, 0⟩) (W := W) (len := len) (vs := vs.take (len * 2)) (by
        have : len * 2 ≤ cap * 2 := Nat.mul_le_mul_right _ q1
        rw [List.length_take, g4]; exact Nat.min_eq_left this) (fun i hi => by
        rw [cut_row (es := 2) hi q1 g4]; exact g5 i (by omega))
      subst hl
      exact calls_of (m := m1 ⟨ad.block, ad.off, 0⟩) (call_row l cap L s f) (by kernel_rfl) (args_ok L s f (vr_row rfl hs q1 (by decide))) (rel_one (rest := vs.drop (l.length * 2) ++ rest) g1 (by rw [← List.append_assoc (List.take (l.length * 2) vs) (List.drop (l.length * 2) vs) rest, List.take_append_drop]; exact g2) g3 hv) (m1_top _)
theorem kindsC : kindsT Try.prog 8 24 = some [.int .i64, .slice kSpan] := by kernel_rfl
theorem undI : Try.prog.underlying 3 = some (.int .i64) := by kernel_rfl
theorem goes_lifted (os : Os) (started : os.Started) (H : Type) (enc : TypeId × Value → H) :
    ReturnsInHanded {} Try.checked os 3 .any (Rows.dropGoesSpec.pre6 enc Try.prog Try.f3 Rows.dropGoesRow.domain false) (Rows.dropGoesSpec.post enc Try.prog Try.f3 false true false false) := by
  refine returnsInHanded_of_change (C := Try.checked) Try.own started (by kernel_rfl) Try.func3
    (ChangeSpec.witness6 (enc := enc) (C := Try.checked) false ⟨#[], #[.agg #[.int .i64 0, .slice none 0 0], .int .i64 0, .int .i64 0], []⟩ 8 (by kernel_rfl) (by kernel_rfl) (by kernel_rfl) (by kernel_rfl)) ?_
  intro W base args ds gs before hval0 hW _ _
  have hval : ∀ (j : Nat) t v, Try.f3.params[j]? = some t → args[j]? = some v → Value.okWide Try.prog W .any base t v := hval0
  have hW' := hW
  obtain ⟨p, q, hA0, hV, rfl, hfz, hnd⟩ := hW
  have hA : DataW.TrodAll enc Try.prog W 0 (fun _ => true) true Try.f3.params.toList args.toList ds p := hA0
  rw [Try.params3] at hA hval
  obtain ⟨v0, v1, v2, d0, d1, d2, p0, p1, p2, rfl, rfl, rfl, h0, h1, h2⟩ := trodAll_three hA
  obtain ⟨rfl, rfl⟩ := trodVars_none hV
  obtain ⟨xs, rfl, _⟩ := okWide_struct Try.underlying24 (hval 0 24 v0 rfl rfl)
  obtain ⟨s, rfl⟩ := okWide_int undI (hval 1 3 v1 rfl rfl)
  obtain ⟨f, rfl⟩ := okWide_int undI (hval 2 3 v2 rfl rfl)
  clear hA0 hval0
  simp only [List.append_nil] at hW'
  have hlt : ∀ x ∈ p0 ++ p1 ++ p2, x.block < W.heap.size := fun x hx => by simpa using hW'.lt x hx
  have key : Calls Try.prog 3 #[.agg xs, .int .i64 s, .int .i64 f] W fun e w' => e = .returned (.bool true) ∧ Below W.heap.size W w' := by
    obtain ⟨fuel, hf⟩ := h0
    exact goes_key W xs s f (kindsT_ok (fun _ => rfl) 8 kindsC hf)
  refine key.mono fun e W' ⟨he, hB⟩ => ?_
  subst he
  refine ⟨_, rfl, _, _, _, [], p0 ++ p1 ++ p2, [], hW', ?_, ?_, rfl, hB.frame _, fun h => by cases h⟩
  · exact trodAll_mk1 (shut_bool Try.underlying4 _)
  · rw [List.append_assoc]
    exact trodAll_mk3 (Below.trod Try.laidOut (by kernel_rfl) (of_decide_eq_true (by kernel_rfl)) h0 hB fun x hx => hlt x (List.mem_append_left _ (List.mem_append_left _ hx)))
      (Below.trod Try.laidOut (by kernel_rfl) (of_decide_eq_true (by kernel_rfl)) h1 hB fun x hx => hlt x (List.mem_append_left _ (List.mem_append_right _ hx)))
      (Below.trod Try.laidOut (by kernel_rfl) (of_decide_eq_true (by kernel_rfl)) h2 hB fun x hx => hlt x (List.mem_append_right _ hx))
end Dw
theorem dropGoes_holds : Rows.DropGoesSaid :=
  OpenClaim.holds_of_wide 3 Try.f3 rfl rfl rfl rfl rfl rfl rfl ⟨rfl, rfl, rfl, rfl, rfl⟩ rfl rfl rfl rfl rfl (by kernel_rfl) Try.func3 (by kernel_rfl)
    (of_decide_eq_true (by kernel_rfl)) (by unfold Func.isWrapper; first | (rw [if_pos (by decide +kernel)]; kernel_rfl) | (rw [if_neg (by decide +kernel)]; exact ⟨rfl, rfl⟩))
    (fun os started H enc _ => Dw.goes_lifted os started H enc)
#print axioms dropGoes_holds
end Go.Proofs.Ytaimphcjjoennaa
