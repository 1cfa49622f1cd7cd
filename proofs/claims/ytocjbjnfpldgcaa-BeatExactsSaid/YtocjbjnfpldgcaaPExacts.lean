/- BeatExacts: the statement. -/
import Derived.Test.YtocjbjnfpldgcaaB4
import Derived.Test.YtocjbjnfpldgcaaRows
set_option linter.unusedSimpArgs false
set_option linter.unusedVariables false
namespace Go.Proofs.Ytocjbjnfpldgcaa
open Abs Go.ChangeShapes Go.WideShapes Go.ChangeAt Go.RowKit Go.Deep
set_option maxRecDepth 100000
theorem Try.own : ownKnob Try.prog.godebug = none := by kernel_rfl
theorem Try.laidOut : laidOutB Try.prog = true := by kernel_rfl
namespace Be
abbrev kRod : List LK := [.int .i64, .int .i64, .int .i64, .bool]
abbrev kGrow : List LK := [.int .i64]
theorem cut_row {α : Type} {es : Nat} {vs : List α} {len cap i : Nat} (hi : i < len) (hl : len ≤ cap) (hv : vs.length = cap * es) : ((vs.take (len * es)).drop (i * es)).take es = (vs.drop (i * es)).take es := by
  rw [List.drop_take, List.take_take]
  have : i * es + es ≤ len * es := by rw [← Nat.succ_mul]; exact Nat.mul_le_mul_right _ hi
  rw [show min es (len * es - i * es) = es by omega]
theorem open_rods (m : NM) {a : Addr} {len cap : Nat} {W : World} (h1 : len ≤ cap) (hp : 0 < cap) (h3 : ∀ i, i < cap → ∃ cs, W.cells? 0 (a.add (i * kRod.length)) kRod.length = some cs ∧ LKs W 0 kRod cs) :
    a.spot = none ∧ ∃ (c : Array Value) (e : TypeId) (fz : Nat × Nat) (pre vs rest : List Value) (l : List Rod), W.heap[a.block]? = some (.cells c e fz) ∧ c.toList = pre ++ (vs ++ rest) ∧ pre.length = a.off ∧ l.length = len ∧ VRs m (rodC l) vs := by
  obtain ⟨hs, c, e, fz, pre, vs, rest, g1, g2, g3, g4, g5⟩ := open_row (es := kRod) (by decide) hp h3
  obtain ⟨l, hl, hv⟩ := rods_of (m := m) (W := W) (len := len) (vs := vs.take (len * 4)) (by
    have : len * 4 ≤ cap * 4 := Nat.mul_le_mul_right _ h1
    rw [List.length_take, g4]; exact Nat.min_eq_left this) (fun i hi => by
    rw [cut_row (es := 4) hi h1 g4]; exact g5 i (by omega))
  exact ⟨hs, c, e, fz, pre, _, vs.drop (len * 4) ++ rest, l, g1, by rw [← List.append_assoc (List.take (len * 4) vs) (List.drop (len * 4) vs) rest, List.take_append_drop]; exact g2, g3, hl, hv⟩
theorem open_grow (m : NM) {a : Addr} {len cap : Nat} {W : World} (h1 : len ≤ cap) (hp : 0 < cap) (h3 : ∀ i, i < cap → ∃ cs, W.cells? 0 (a.add (i * kGrow.length)) kGrow.length = some cs ∧ LKs W 0 kGrow cs) :
    a.spot = none ∧ ∃ (c : Array Value) (e : TypeId) (fz : Nat × Nat) (pre vs rest : List Value) (l : List Int), W.heap[a.block]? = some (.cells c e fz) ∧ c.toList = pre ++ (vs ++ rest) ∧ pre.length = a.off ∧ l.length = len ∧ VRs m (growC l) vs := by
  obtain ⟨hs, c, e, fz, pre, vs, rest, g1, g2, g3, g4, g5⟩ := open_row (es := kGrow) (by decide) hp h3
  obtain ⟨l, hl, hv⟩ := grows_of (m := m) (W := W) (len := len) (vs := vs.take (len * 1)) (by
    have : len * 1 ≤ cap * 1 := Nat.mul_le_mul_right _ h1
    rw [List.length_take, g4]; exact Nat.min_eq_left this) (fun i hi => by
    rw [cut_row (es := 1) hi h1 g4]; exact g5 i (by omega))
  exact ⟨hs, c, e, fz, pre, _, vs.drop (len * 1) ++ rest, l, g1, by rw [← List.append_assoc (List.take (len * 1) vs) (List.drop (len * 1) vs) rest, List.take_append_drop]; exact g2, g3, hl, hv⟩
theorem args_ok {m : NM} {r g : AV} {u v : Value} (K B a b c d A D H P R F : Int) (hr : VR m r v) (hg : VR m g u) :
    VRs m [clkA r K B a b c d, truA g A D H P R F] [Value.agg #[.int .i64 K, .int .i64 B, v, .int .i64 a, .int .i64 b, .int .i64 c, .int .i64 d], Value.agg #[u, .int .i64 A, .int .i64 D, .int .i64 H, .int .i64 P, .int .i64 R, .int .i64 F]] := by
  simp only [VRs, VR, clkA, truA]
  exact ⟨_, _, rfl, ⟨_, rfl, _, _, rfl, rfl, _, _, rfl, rfl, _, _, rfl, hr, _, _, rfl, rfl, _, _, rfl, rfl, _, _, rfl, rfl, _, _, rfl, rfl, rfl⟩, _, _, rfl, ⟨_, rfl, _, _, rfl, hg, _, _, rfl, rfl, _, _, rfl, rfl, _, _, rfl, rfl, _, _, rfl, rfl, _, _, rfl, rfl, _, _, rfl, rfl, rfl⟩, rfl⟩
theorem vr_row {m : NM} {n : Nat} {a : Addr} {len cap es : Nat} (hm : m n = some ⟨a.block, a.off, 0⟩) (hs : a.spot = none) (h1 : len ≤ cap) (he : 0 < es) : VR m (.slice n 0 len cap es true) (.slice (some a) len cap) := by
  obtain ⟨b, off, spot⟩ := a
  simp only at hs
  subst hs
  simp only [VR]
  exact .inr ⟨_, off, cap, none, hm, rfl, h1, Nat.le_refl _, fun _ => rfl, .inr (by simp), (fun h => by cases h), .inr rfl⟩
theorem vr_free {m : NM} {n es : Nat} {a : Addr} : VR m (.slice n 0 0 0 es true) (.slice (some a) 0 0) := by
  simp only [VR]; exact .inl ⟨trivial, trivial, trivial, a, rfl⟩
theorem vr_nil {m : NM} : VR m .nils (.slice none 0 0) := by simp only [VR]
theorem exacts_key (W : World) (xs ys : Array Value) (hk : LKs W 0 [.int .i64, .int .i64, .slice kRod, .int .i64, .int .i64, .int .i64, .int .i64] xs.toList) (hj : LKs W 0 [.slice kGrow, .int .i64, .int .i64, .int .i64, .int .i64, .int .i64, .int .i64] ys.toList) :
    Calls Try.prog g3 #[.agg xs, .agg ys] W fun e w' => e = .returned (.bool true) ∧ Below W.heap.size W w' := by
  simp only [LKs, LKok] at hk hj
  obtain ⟨_, _, e, ⟨K, rfl, _⟩, _, _, rfl, ⟨B, rfl, _⟩, v, _, rfl, hv, _, _, rfl, ⟨a, rfl, _⟩, _, _, rfl, ⟨b, rfl, _⟩, _, _, rfl, ⟨c, rfl, _⟩, _, _, rfl, ⟨d, rfl, _⟩, rfl⟩ := hk
  obtain ⟨u, _, e2, hu, _, _, rfl, ⟨A, rfl, _⟩, _, _, rfl, ⟨D, rfl, _⟩, _, _, rfl, ⟨H, rfl, _⟩, _, _, rfl, ⟨P, rfl, _⟩, _, _, rfl, ⟨R, rfl, _⟩, _, _, rfl, ⟨F, rfl, _⟩, rfl⟩ := hj
  have hxs : xs = #[.int .i64 K, .int .i64 B, v, .int .i64 a, .int .i64 b, .int .i64 c, .int .i64 d] := by cases xs; simp at e; simp [e]
  have hys : ys = #[u, .int .i64 A, .int .i64 D, .int .i64 H, .int .i64 P, .int .i64 R, .int .i64 F] := by cases ys; simp at e2; simp [e2]
  subst hxs; subst hys
  have m0 : NM := fun _ => none
  rcases hv with rfl | ⟨ad, len, cap, rfl, h1, h2, h3⟩
  · rcases hu with rfl | ⟨bd, len2, cap2, rfl, k1, k2, k3⟩
    · exact calls_of (m := fun _ => none) (none_none K B a b c d A D H P R F .nils .nils rfl rfl (runNN _ _ _)) rfl (args_ok K B a b c d A D H P R F vr_nil vr_nil) (rel_empty _ _) (fun _ _ => rfl)
    · rcases Nat.eq_zero_or_pos cap2 with rfl | hp2
      · obtain rfl : len2 = 0 := by omega
        exact calls_of (m := fun _ => none) (none_none K B a b c d A D H P R F .nils (fr 9 1) rfl rfl (runNF _ _ _)) rfl (args_ok K B a b c d A D H P R F vr_nil vr_free) (rel_empty _ _) (fun _ _ => rfl)
      · obtain ⟨hs, c', e', fz, pre, vs, rest, l, g1, g2, g3, rfl, g5⟩ := open_grow (m1 ⟨bd.block, bd.off, 0⟩) k1 hp2 k3
        exact calls_of (m := m1 ⟨bd.block, bd.off, 0⟩) (none_row .nils .nils (fun _ => rfl) l cap2 k1 K B a b c d A D H P R F (fun xs h => runNRt _ _ xs h)) (by kernel_rfl) (args_ok K B a b c d A D H P R F vr_nil (vr_row rfl hs k1 (by decide))) (rel_one g1 g2 g3 g5) (m1_top _)
  · rcases Nat.eq_zero_or_pos cap with rfl | hp
    · obtain rfl : len = 0 := by omega
      rcases hu with rfl | ⟨bd, len2, cap2, rfl, k1, k2, k3⟩
      · exact calls_of (m := fun _ => none) (none_none K B a b c d A D H P R F (fr 9 4) .nils rfl rfl (runFN _ _ _)) rfl (args_ok K B a b c d A D H P R F vr_free vr_nil) (rel_empty _ _) (fun _ _ => rfl)
      · rcases Nat.eq_zero_or_pos cap2 with rfl | hp2
        · obtain rfl : len2 = 0 := by omega
          exact calls_of (m := fun _ => none) (none_none K B a b c d A D H P R F (fr 9 4) (fr 9 1) rfl rfl (runFF _ _ _)) rfl (args_ok K B a b c d A D H P R F vr_free vr_free) (rel_empty _ _) (fun _ _ => rfl)
        · obtain ⟨hs, c', e', fz, pre, vs, rest, l, g1, g2, g3, rfl, g5⟩ := open_grow (m1 ⟨bd.block, bd.off, 0⟩) k1 hp2 k3
          exact calls_of (m := m1 ⟨bd.block, bd.off, 0⟩) (none_row (fr 9 4) (.slice 9 0 0 0 4 true) (fun _ => rfl) l cap2 k1 K B a b c d A D H P R F (fun xs h => runFRt _ _ xs h)) (by kernel_rfl) (args_ok K B a b c d A D H P R F vr_free (vr_row rfl hs k1 (by decide))) (rel_one g1 g2 g3 g5) (m1_top _)
    · rcases hu with rfl | ⟨bd, len2, cap2, rfl, k1, k2, k3⟩
      · obtain ⟨hs, c', e', fz, pre, vs, rest, l, g1, g2, g3, rfl, g5⟩ := open_rods (m1 ⟨ad.block, ad.off, 0⟩) h1 hp h3
        exact calls_of (m := m1 ⟨ad.block, ad.off, 0⟩) (row_none .nils .nils (fun _ => rfl) l cap h1 K B a b c d A D H P R F (fun xs h => runRNLt _ _ xs h) (fun xs h => runRNZt _ _ xs h) (fun xs h => runRNEt _ _ xs h) (fun xs h => runRNMt _ _ xs h)) (by kernel_rfl) (args_ok K B a b c d A D H P R F (vr_row rfl hs h1 (by decide)) vr_nil) (rel_one g1 g2 g3 g5) (m1_top _)
      · rcases Nat.eq_zero_or_pos cap2 with rfl | hp2
        · obtain rfl : len2 = 0 := by omega
          obtain ⟨hs, c', e', fz, pre, vs, rest, l, g1, g2, g3, rfl, g5⟩ := open_rods (m1 ⟨ad.block, ad.off, 0⟩) h1 hp h3
          exact calls_of (m := m1 ⟨ad.block, ad.off, 0⟩) (row_none (fr 9 1) (.slice 9 0 0 0 1 true) (fun _ => rfl) l cap h1 K B a b c d A D H P R F (fun xs h => runRFLt _ _ xs h) (fun xs h => runRFZt _ _ xs h) (fun xs h => runRFEt _ _ xs h) (fun xs h => runRFMt _ _ xs h)) (by kernel_rfl) (args_ok K B a b c d A D H P R F (vr_row rfl hs h1 (by decide)) vr_free) (rel_one g1 g2 g3 g5) (m1_top _)
        · obtain ⟨hs, c', e', fz, pre, vs, rest, l, g1, g2, g3, rfl, g5⟩ := open_rods (m2 ⟨ad.block, ad.off, 0⟩ ⟨bd.block, bd.off, 0⟩) h1 hp h3
          obtain ⟨hs2, c2, e2', fz2, pre2, vs2, rest2, l2, q1, q2, q3, rfl, q5⟩ := open_grow (m2 ⟨ad.block, ad.off, 0⟩ ⟨bd.block, bd.off, 0⟩) k1 hp2 k3
          exact calls_of (m := m2 ⟨ad.block, ad.off, 0⟩ ⟨bd.block, bd.off, 0⟩) (row_row l l2 cap cap2 K B a b c d A D H P R F) (by kernel_rfl) (args_ok K B a b c d A D H P R F (vr_row rfl hs h1 (by decide)) (vr_row rfl hs2 k1 (by decide))) (rel_two g1 g2 g3 g5 q1 q2 q3 q5) (m2_top _ _)
theorem kindsC : kindsT Try.prog 8 27 = some [.int .i64, .int .i64, .slice kRod, .int .i64, .int .i64, .int .i64, .int .i64] := by kernel_rfl
theorem kindsU : kindsT Try.prog 8 30 = some [.slice kGrow, .int .i64, .int .i64, .int .i64, .int .i64, .int .i64, .int .i64] := by kernel_rfl
theorem exacts_lifted (os : Os) (started : os.Started) (H : Type) (enc : TypeId × Value → H) :
    ReturnsInHanded {} Try.checked os 3 .any (Rows.beatExactsSpec.pre6 enc Try.prog Try.f3 Rows.beatExactsRow.domain false) (Rows.beatExactsSpec.post enc Try.prog Try.f3 false true false false) := by
  refine returnsInHanded_of_change (C := Try.checked) Try.own started (by kernel_rfl) Try.func3
    (ChangeSpec.witness6 (enc := enc) (C := Try.checked) false ⟨#[], #[.agg #[.int .i64 0, .int .i64 0, .slice none 0 0, .int .i64 0, .int .i64 0, .int .i64 0, .int .i64 0], .agg #[.slice none 0 0, .int .i64 0, .int .i64 0, .int .i64 0, .int .i64 0, .int .i64 0, .int .i64 0]], []⟩ 8 (by kernel_rfl) (by kernel_rfl) (by kernel_rfl) (by kernel_rfl)) ?_
  intro W base args ds gs before hval0 hW _ _
  have hval : ∀ (j : Nat) t v, Try.f3.params[j]? = some t → args[j]? = some v → Value.okWide Try.prog W .any base t v := hval0
  have hW' := hW
  obtain ⟨p, q, hA0, hV, rfl, hfz, hnd⟩ := hW
  have hA : DataW.TrodAll enc Try.prog W 0 (fun _ => true) true Try.f3.params.toList args.toList ds p := hA0
  rw [Try.params3] at hA hval
  obtain ⟨v0, v1, d0, d1, p0, p1, rfl, rfl, rfl, h0, h1⟩ := trodAll_two hA
  obtain ⟨rfl, rfl⟩ := trodVars_none hV
  obtain ⟨xs, rfl, _⟩ := okWide_struct Try.underlying27 (hval 0 27 v0 rfl rfl)
  obtain ⟨ys, rfl, _⟩ := okWide_struct Try.underlying30 (hval 1 30 v1 rfl rfl)
  clear hA0 hval0
  simp only [List.append_nil] at hW'
  have hlt : ∀ x ∈ p0 ++ p1, x.block < W.heap.size := fun x hx => by simpa using hW'.lt x hx
  have key : Calls Try.prog 3 #[.agg xs, .agg ys] W fun e w' => e = .returned (.bool true) ∧ Below W.heap.size W w' := by
    obtain ⟨fuel, hf⟩ := h0
    obtain ⟨fuel2, hf2⟩ := h1
    exact exacts_key W xs ys (kindsT_ok (fun _ => rfl) 8 kindsC hf) (kindsT_ok (fun _ => rfl) 8 kindsU hf2)
  refine key.mono fun e W' ⟨he, hB⟩ => ?_
  subst he
  refine ⟨_, rfl, _, _, _, [], p0 ++ p1, [], hW', ?_, ?_, rfl, hB.frame _, fun h => by cases h⟩
  · exact trodAll_mk1 (shut_bool Try.underlying4 _)
  · exact trodAll_mk2 (Below.trod Try.laidOut (by kernel_rfl) (of_decide_eq_true (by kernel_rfl)) h0 hB fun x hx => hlt x (List.mem_append_left _ hx))
      (Below.trod Try.laidOut (by kernel_rfl) (of_decide_eq_true (by kernel_rfl)) h1 hB fun x hx => hlt x (List.mem_append_right _ hx))
end Be
theorem beatExacts_holds : Rows.BeatExactsSaid :=
  OpenClaim.holds_of_wide 3 Try.f3 rfl rfl rfl rfl rfl rfl rfl ⟨rfl, rfl, rfl, rfl, rfl⟩ rfl rfl rfl rfl rfl (by kernel_rfl) Try.func3 (by kernel_rfl)
    (of_decide_eq_true (by kernel_rfl)) (by unfold Func.isWrapper; first | (rw [if_pos (by decide +kernel)]; kernel_rfl) | (rw [if_neg (by decide +kernel)]; exact ⟨rfl, rfl⟩))
    (fun os started H enc _ => Be.exacts_lifted os started H enc)
#print axioms beatExacts_holds
end Go.Proofs.Ytocjbjnfpldgcaa
