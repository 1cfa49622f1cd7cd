/- DropRigs: the statement. -/
import Derived.Test.YtillboceclhoeaaDh
import Derived.Test.YtillboceclhoeaaRows
namespace Go.Proofs.Ytillboceclhoeaa
open Abs Go.ChangeShapes Go.WideShapes Go.ChangeAt Go.RowKit Go.Deep
set_option maxRecDepth 100000
theorem Try.own : ownKnob Try.prog.godebug = none := by kernel_rfl
theorem Try.laidOut : laidOutB Try.prog = true := by kernel_rfl
theorem spans_of {m : NM} {W : World} : ∀ {len : Nat} {vs : List Value}, vs.length = len * 2 → (∀ i, i < len → LKs W 0 [.int .i64, .int .i64] ((vs.drop (i * 2)).take 2)) → ∃ l : List (Int × Int), l.length = len ∧ VRs m (spanC l) vs
  | 0, vs, hl, _ => by simp at hl; subst hl; exact ⟨[], rfl, by simp [spanC, VRs]⟩
  | n + 1, vs, hl, h => by
    have h0 := h 0 (by omega)
    simp only [Nat.zero_mul, List.drop_zero, LKs, LKok] at h0
    obtain ⟨_, _, e, ⟨a, rfl, _⟩, _, _, rfl, ⟨b, rfl, _⟩, rfl⟩ := h0
    obtain ⟨l, h1, h2⟩ := spans_of (m := m) (W := W) (len := n) (vs := vs.drop 2) (by rw [List.length_drop, hl]; omega) (fun i hi => by
      have := h (i + 1) (by omega)
      rw [List.drop_drop]
      rwa [show 2 + i * 2 = (i + 1) * 2 by omega])
    refine ⟨(a, b) :: l, by simp [h1], ?_⟩
    rw [← List.take_append_drop 2 vs, e]
    show VRs m (I a :: I b :: spanC l) _
    exact .cons (by simp only [VR]) (.cons (by simp only [VR]) h2)
theorem dropRigs_key (W : World) (xs : Array Value) (n : Int) (hk : LKs W 0 [.int .i64, .int .i64, .int .i64, .int .i64, .slice [.int .i64, .int .i64]] xs.toList) :
    Calls Try.prog 3 #[.agg xs, .int .i64 n] W fun e w' => e = .returned (.bool true) ∧ Below W.heap.size W w' := by
  simp only [LKs, LKok] at hk
  obtain ⟨_, _, e, ⟨D, rfl, _⟩, _, _, rfl, ⟨Y, rfl, _⟩, _, _, rfl, ⟨P, rfl, _⟩, _, _, rfl, ⟨L, rfl, _⟩, v, _, rfl, hv, rfl⟩ := hk
  have hxs : xs = #[.int .i64 D, .int .i64 Y, .int .i64 P, .int .i64 L, v] := by cases xs; simp at e; simp [e]
  subst hxs
  rcases hv with rfl | ⟨a, len, cap, rfl, h1, h2, h3⟩
  · refine calls_of (m := fun _ => none) (dropRigs_nil D Y P L n) (by kernel_rfl) ?_ (rel_empty _ _) (fun _ _ => rfl)
    simp only [VRs, VR]
    exact ⟨_, _, rfl, ⟨_, rfl, _, _, rfl, rfl, _, _, rfl, rfl, _, _, rfl, rfl, _, _, rfl, rfl, _, _, rfl, rfl, rfl⟩, _, _, rfl, rfl, rfl⟩
  · have args : ∀ (ln : Nat), ln = len → a.spot = none → VRs (m1 ⟨a.block, a.off, 0⟩) [.agg [I D, I Y, I P, I L, .slice 0 0 ln cap 2 true], I n] [Value.agg #[.int .i64 D, .int .i64 Y, .int .i64 P, .int .i64 L, .slice (some a) len cap], .int .i64 n] := by
      rintro _ rfl hs
      obtain ⟨b, off, spot⟩ := a
      simp only at hs
      subst hs
      simp only [VRs, VR, m1]
      exact ⟨_, _, rfl, ⟨_, rfl, _, _, rfl, rfl, _, _, rfl, rfl, _, _, rfl, rfl, _, _, rfl, rfl, _, _, rfl, .inr ⟨_, off, cap, none, rfl, rfl, h1, Nat.le_refl _, fun _ => rfl, .inr (by simp), (fun h => by cases h), .inr rfl⟩, rfl⟩, _, _, rfl, rfl, rfl⟩
    by_cases hlen : len = 0
    · subst hlen
      rcases Nat.eq_zero_or_pos cap with rfl | hp
      · refine calls_of (m := fun _ => none) (dropRigs_free D Y P L n) (by kernel_rfl) ?_ (rel_empty _ _) (fun _ _ => rfl)
        simp only [VRs, VR]
        exact ⟨_, _, rfl, ⟨_, rfl, _, _, rfl, rfl, _, _, rfl, rfl, _, _, rfl, rfl, _, _, rfl, rfl, _, _, rfl, .inl ⟨trivial, trivial, trivial, a, rfl⟩, rfl⟩, _, _, rfl, rfl, rfl⟩
      · obtain ⟨hs, c, e, fz, pre, vs, rest, g1, g2, g3, g4, g5⟩ := open_row (es := [.int .i64, .int .i64]) (by decide) hp h3
        refine calls_of (m := m1 ⟨a.block, a.off, 0⟩) (dropRigs_few D Y P L n [] cap true (by simp)) (by kernel_rfl) (args 0 rfl hs) ?_ (m1_top _)
        exact rel_one (vs := []) (rest := vs ++ rest) g1 (by simpa using g2) g3 .nil
    · obtain ⟨hs, c, e, fz, pre, vs, rest, g1, g2, g3, g4, g5⟩ := open_row (es := [.int .i64, .int .i64]) (by decide) (Nat.pos_of_ne_zero hlen) (fun i hi => h3 i (by omega))
      by_cases h30 : 30 < len
      · exact calls_of (m := m1 ⟨a.block, a.off, 0⟩) (dropRigs_many D Y P L n len cap true h30) (by kernel_rfl) (args len rfl hs) (rel_empty _ _) (m1_top _)
      · obtain ⟨l, hl, hv⟩ := spans_of (m := m1 ⟨a.block, a.off, 0⟩) g4 g5
        have hsl : (spanL l).length = len := by rw [spanL_length, hl]
        refine calls_of (m := m1 ⟨a.block, a.off, 0⟩) (dropRigs_few D Y P L n l cap true (by omega)) ?_ (args _ hsl hs) (rel_one g1 g2 g3 hv) (m1_top _)
        kernel_rfl
theorem undInt : Try.prog.underlying 3 = some (.int .i64) := by kernel_rfl
theorem kindsRig : kindsT Try.prog 8 24 = some [.int .i64, .int .i64, .int .i64, .int .i64, .slice [.int .i64, .int .i64]] := by kernel_rfl
theorem dropRigs_lifted (os : Os) (started : os.Started) (H : Type) (enc : TypeId × Value → H) :
    ReturnsInHanded {} Try.checked os 3 .any (Rows.dropRigsSpec.pre6 enc Try.prog Try.f3 Rows.dropRigsRow.domain false) (Rows.dropRigsSpec.post enc Try.prog Try.f3 false true false false) := by
  refine returnsInHanded_of_change (C := Try.checked) Try.own started (by kernel_rfl) Try.func3
    (ChangeSpec.witness6 (enc := enc) (C := Try.checked) false ⟨#[], #[.agg #[.int .i64 0, .int .i64 0, .int .i64 0, .int .i64 0, .slice none 0 0], .int .i64 0], []⟩ 8 (by kernel_rfl) (by kernel_rfl) (by kernel_rfl) (by kernel_rfl)) ?_
  intro W base args ds gs before hval0 hW _ _
  have hval : ∀ (j : Nat) t v, Try.f3.params[j]? = some t → args[j]? = some v → Value.okWide Try.prog W .any base t v := hval0
  have hW' := hW
  obtain ⟨p, q, hA0, hV, rfl, hfz, hnd⟩ := hW
  have hA : DataW.TrodAll enc Try.prog W 0 (fun _ => true) true Try.f3.params.toList args.toList ds p := hA0
  rw [Try.params3] at hA hval
  obtain ⟨v0, v1, d0, d1, p0, p1, rfl, rfl, rfl, h0, h1⟩ := trodAll_two hA
  obtain ⟨rfl, rfl⟩ := trodVars_none hV
  obtain ⟨xs, rfl, _⟩ := okWide_struct Try.underlying24 (hval 0 24 v0 rfl rfl)
  obtain ⟨n, rfl⟩ := okWide_int undInt (hval 1 3 v1 rfl rfl)
  clear hA0 hval0
  simp only [List.append_nil] at hW'
  have hlt : ∀ x ∈ p0 ++ p1, x.block < W.heap.size := fun x hx => by simpa using hW'.lt x hx
  have key : Calls Try.prog 3 #[.agg xs, .int .i64 n] W fun e w' => e = .returned (.bool true) ∧ Below W.heap.size W w' := by
    obtain ⟨fuel, hf⟩ := h0
    exact dropRigs_key W xs n (kindsT_ok (fun _ => rfl) 8 kindsRig hf)
  refine key.mono fun e W' ⟨he, hB⟩ => ?_
  subst he
  refine ⟨_, rfl, _, _, _, [], p0 ++ p1, [], hW', ?_, ?_, rfl, hB.frame _, fun h => by cases h⟩
  · exact trodAll_mk1 (shut_bool Try.underlying4 _)
  · exact trodAll_mk2 (Below.trod Try.laidOut (by kernel_rfl) (of_decide_eq_true (by kernel_rfl)) h0 hB fun x hx => hlt x (List.mem_append_left _ hx))
      (Below.trod Try.laidOut (by kernel_rfl) (of_decide_eq_true (by kernel_rfl)) h1 hB fun x hx => hlt x (List.mem_append_right _ hx))
theorem dropRigs_holds : Rows.DropRigsSaid :=
  OpenClaim.holds_of_wide 3 Try.f3 rfl rfl rfl rfl rfl rfl rfl ⟨rfl, rfl, rfl, rfl, rfl⟩ rfl rfl rfl rfl rfl (by kernel_rfl) Try.func3 (by kernel_rfl)
    (of_decide_eq_true (by kernel_rfl)) (by unfold Func.isWrapper; first | (rw [if_pos (by decide +kernel)]; kernel_rfl) | (rw [if_neg (by decide +kernel)]; exact ⟨rfl, rfl⟩))
    (fun os started H enc _ => dropRigs_lifted os started H enc)
#print axioms dropRigs_holds
end Go.Proofs.Ytillboceclhoeaa
