/- TopTrainDrop: the statement. For all bytes: as much line as some turns of the barrel take lasts for as many hours as the arbor turns meanwhile, or there is not so much time or line. No condition. -/
import Derived.Test.YtaimphcjjoennaaV2
import Derived.Test.YtaimphcjjoennaaRows
set_option linter.unusedSimpArgs false
set_option linter.unusedVariables false
namespace Go.Proofs.Ytaimphcjjoennaa
open Abs Go.ChangeShapes Go.WideShapes Go.ChangeAt Go.RowKit Go.Deep
set_option maxRecDepth 100000
theorem Try.own : ownKnob Try.prog.godebug = none := by kernel_rfl
theorem Try.laidOut : laidOutB Try.prog = true := by kernel_rfl
namespace Du
abbrev kPair : List LK := [.int .u8, .int .u8]
theorem u8_in {n : Int} (h : (Lit.int .u8 n).wf = true) : 0 ≤ n ∧ n ≤ 255 := by
  simp only [Lit.wf, Bool.and_eq_true, decide_eq_true_eq] at h; exact h
theorem pairs_of {m : NM} {W : World} : ∀ {len : Nat} {vs : List Value}, vs.length = len * 2 → (∀ i, i < len → LKs W 0 kPair ((vs.drop (i * 2)).take 2)) → ∃ l : List (Int × Int), l.length = len ∧ (∀ i : Nat, (0 ≤ (l.getD i (0, 0)).1 ∧ (l.getD i (0, 0)).1 ≤ 255) ∧ (0 ≤ (l.getD i (0, 0)).2 ∧ (l.getD i (0, 0)).2 ≤ 255)) ∧ VRs m (byC l) vs
  | 0, vs, hl, _ => by simp at hl; subst hl; exact ⟨[], rfl, fun i => by simp, by simp [byC, VRs]⟩
  | n + 1, vs, hl, h => by
    have h0 := h 0 (by omega)
    simp only [Nat.zero_mul, List.drop_zero, LKs, LKok] at h0
    obtain ⟨_, _, e, ⟨a, rfl, ha⟩, _, _, rfl, ⟨b, rfl, hb⟩, rfl⟩ := h0
    obtain ⟨l, h1, h2, h3⟩ := pairs_of (m := m) (W := W) (len := n) (vs := vs.drop 2) (by rw [List.length_drop, hl]; omega) (fun i hi => by
      have := h (i + 1) (by omega)
      rw [List.drop_drop]
      rwa [show 2 + i * 2 = (i + 1) * 2 by omega])
    refine ⟨(a, b) :: l, by simp [h1], ?_, ?_⟩
    · intro i
      cases i with
      | zero => exact ⟨u8_in ha, u8_in hb⟩
      | succ i => simpa using h2 i
    · rw [← List.take_append_drop 2 vs, e]
      show VRs m (AV.int .u8 a :: AV.int .u8 b :: byC l) _
      exact .cons (by simp only [VR]) (.cons (by simp only [VR]) h3)
theorem cut_row {α : Type} {es : Nat} {vs : List α} {len cap i : Nat} (hi : i < len) (hl : len ≤ cap) (hv : vs.length = cap * es) : ((vs.take (len * es)).drop (i * es)).take es = (vs.drop (i * es)).take es := by
  rw [List.drop_take, List.take_take]
  have : i * es + es ≤ len * es := by rw [← Nat.succ_mul]; exact Nat.mul_le_mul_right _ hi
  rw [show min es (len * es - i * es) = es by omega]
theorem vr_row {m : NM} {n : Nat} {a : Addr} {len cap es : Nat} (hm : m n = some ⟨a.block, a.off, 0⟩) (hs : a.spot = none) (h1 : len ≤ cap) (he : 0 < es) : VR m (.slice n 0 len cap es true) (.slice (some a) len cap) := by
  obtain ⟨b, off, spot⟩ := a
  simp only at hs
  subst hs
  simp only [VR]
  exact .inr ⟨_, off, cap, none, hm, rfl, h1, Nat.le_refl _, fun _ => rfl, .inr (by simp), (fun h => by cases h), .inr rfl⟩
theorem vr_free {m : NM} {n es : Nat} {a : Addr} : VR m (.slice n 0 0 0 es true) (.slice (some a) 0 0) := by
  simp only [VR]; exact .inl ⟨trivial, trivial, trivial, a, rfl⟩
theorem vr_nil {m : NM} : VR m .nils (.slice none 0 0) := by simp only [VR]
theorem three_ok {m : NM} {r : AV} {v : Value} (c d : Int) (hr : VR m r v) : VRs m [r, .int .u8 c, .int .u8 d] [v, .int .u8 c, .int .u8 d] := by
  simp only [VRs]
  exact ⟨_, _, rfl, hr, _, _, rfl, by simp only [VR], _, _, rfl, by simp only [VR], rfl⟩
theorem td_key (W : World) (v : Value) (c d : Int) (hk : LKs W 0 [.slice kPair] [v]) (h1 : 0 ≤ c ∧ c ≤ 255) (h2 : 0 ≤ d ∧ d ≤ 255) :
    Calls Try.prog g5 #[v, .int .u8 c, .int .u8 d] W fun e w' => e = .returned (.bool true) ∧ Below W.heap.size W w' := by
  simp only [LKs, LKok] at hk
  obtain ⟨_, _, e, hv, rfl⟩ := hk
  cases e
  rcases hv with rfl | ⟨ad, len, cap, rfl, q1, q2, q3⟩
  · exact calls_of (m := fun _ => none) (call_nil h1 h2) rfl (three_ok c d vr_nil) (rel_empty _ _) (fun _ _ => rfl)
  · rcases Nat.eq_zero_or_pos cap with rfl | hp
    · obtain rfl : len = 0 := by omega
      exact calls_of (m := fun _ => none) (call_free h1 h2) rfl (three_ok c d vr_free) (rel_empty _ _) (fun _ _ => rfl)
    · obtain ⟨hs, cc, e, fz, pre, vs, rest, g1, g2, g3, g4, g5⟩ := open_row (es := kPair) (by decide) hp q3
      obtain ⟨l, hl, hb, hv⟩ := pairs_of (m := m1 ⟨ad.block, ad.off, 0⟩) (W := W) (len := len) (vs := vs.take (len * 2)) (by
        have : len * 2 ≤ cap * 2 := Nat.mul_le_mul_right _ q1
        rw [List.length_take, g4]; exact Nat.min_eq_left this) (fun i hi => by
        rw [cut_row (es := 2) hi q1 g4]; exact g5 i (by omega))
      subst hl
      exact calls_of (m := m1 ⟨ad.block, ad.off, 0⟩) (call_row (fun x => hb (Sx.hdI x).toNat) cap h1 h2) (by kernel_rfl) (three_ok c d (vr_row rfl hs q1 (by decide))) (rel_one (rest := vs.drop (l.length * 2) ++ rest) g1 (by rw [← List.append_assoc (List.take (l.length * 2) vs) (List.drop (l.length * 2) vs) rest, List.take_append_drop]; exact g2) g3 hv) (m1_top _)
theorem kindsB : kindsT Try.prog 8 47 = some [.slice kPair] := by kernel_rfl
theorem kindsN : kindsT Try.prog 8 5 = some [.int .u8] := by kernel_rfl
theorem und8 : Try.prog.underlying 5 = some (.int .u8) := by kernel_rfl
theorem td_lifted (os : Os) (started : os.Started) (H : Type) (enc : TypeId × Value → H) :
    ReturnsInHanded {} Try.checked os 5 .any (Rows.topTrainDropSpec.pre6 enc Try.prog Try.f5 Rows.topTrainDropRow.domain false) (Rows.topTrainDropSpec.post enc Try.prog Try.f5 false true false false) := by
  refine returnsInHanded_of_change (C := Try.checked) Try.own started (by kernel_rfl) Try.func5
    (ChangeSpec.witness6 (enc := enc) (C := Try.checked) false ⟨#[], #[.slice none 0 0, .int .u8 0, .int .u8 0], []⟩ 8 (by kernel_rfl) (by kernel_rfl) (by kernel_rfl) (by kernel_rfl)) ?_
  intro W base args ds gs before hval0 hW _ _
  have hval : ∀ (j : Nat) t v, Try.f5.params[j]? = some t → args[j]? = some v → Value.okWide Try.prog W .any base t v := hval0
  have hW' := hW
  obtain ⟨p, q, hA0, hV, rfl, hfz, hnd⟩ := hW
  have hA : DataW.TrodAll enc Try.prog W 0 (fun _ => true) true Try.f5.params.toList args.toList ds p := hA0
  rw [Try.params5] at hA hval
  obtain ⟨v0, v1, v2, d0, d1, d2, p0, p1, p2, rfl, rfl, rfl, h0, h1, h2⟩ := trodAll_three hA
  obtain ⟨rfl, rfl⟩ := trodVars_none hV
  obtain ⟨a0, len, cap, rfl⟩ := okWide_slice Try.underlying47 (hval 0 47 v0 rfl rfl)
  obtain ⟨c, rfl⟩ := okWide_int und8 (hval 1 5 v1 rfl rfl)
  obtain ⟨d, rfl⟩ := okWide_int und8 (hval 2 5 v2 rfl rfl)
  clear hA0 hval0
  simp only [List.append_nil] at hW'
  have hlt : ∀ x ∈ p0 ++ p1 ++ p2, x.block < W.heap.size := fun x hx => by simpa using hW'.lt x hx
  have key : Calls Try.prog 5 #[.slice a0 len cap, .int .u8 c, .int .u8 d] W fun e w' => e = .returned (.bool true) ∧ Below W.heap.size W w' := by
    obtain ⟨fuel, hf⟩ := h0
    obtain ⟨fuel2, hf2⟩ := h1
    obtain ⟨fuel3, hf3⟩ := h2
    have hk := kindsT_ok (cs := [.slice a0 len cap]) (fun _ => rfl) 8 kindsB (by simpa [Value.cells] using hf)
    have hn := kindsT_ok (cs := [.int .u8 c]) (fun _ => rfl) 8 kindsN (by simpa [Value.cells] using hf2)
    have hm := kindsT_ok (cs := [.int .u8 d]) (fun _ => rfl) 8 kindsN (by simpa [Value.cells] using hf3)
    simp only [LKs, LKok] at hn hm
    obtain ⟨_, _, e, ⟨n', rfl, hw⟩, rfl⟩ := hn
    cases e
    obtain ⟨_, _, e2, ⟨n2, rfl, hw2⟩, rfl⟩ := hm
    cases e2
    exact td_key W _ _ _ hk (u8_in hw) (u8_in hw2)
  refine key.mono fun e W' ⟨he, hB⟩ => ?_
  subst he
  refine ⟨_, rfl, _, _, _, [], p0 ++ p1 ++ p2, [], hW', ?_, ?_, rfl, hB.frame _, fun h => by cases h⟩
  · exact trodAll_mk1 (shut_bool Try.underlying4 _)
  · rw [List.append_assoc]
    exact trodAll_mk3 (Below.trod Try.laidOut (by kernel_rfl) (of_decide_eq_true (by kernel_rfl)) h0 hB fun x hx => hlt x (List.mem_append_left _ (List.mem_append_left _ hx)))
      (Below.trod Try.laidOut (by kernel_rfl) (of_decide_eq_true (by kernel_rfl)) h1 hB fun x hx => hlt x (List.mem_append_left _ (List.mem_append_right _ hx)))
      (Below.trod Try.laidOut (by kernel_rfl) (of_decide_eq_true (by kernel_rfl)) h2 hB fun x hx => hlt x (List.mem_append_right _ hx))
end Du
theorem topTrainDrop_holds : Rows.TopTrainDropSaid :=
  OpenClaim.holds_of_wide 5 Try.f5 rfl rfl rfl rfl rfl rfl rfl ⟨rfl, rfl, rfl, rfl, rfl⟩ rfl rfl rfl rfl rfl (by kernel_rfl) Try.func5 (by kernel_rfl)
    (of_decide_eq_true (by kernel_rfl)) (by unfold Func.isWrapper; first | (rw [if_pos (by decide +kernel)]; kernel_rfl) | (rw [if_neg (by decide +kernel)]; exact ⟨rfl, rfl⟩))
    (fun os started H enc _ => Du.td_lifted os started H enc)
#print axioms topTrainDrop_holds
end Go.Proofs.Ytaimphcjjoennaa
