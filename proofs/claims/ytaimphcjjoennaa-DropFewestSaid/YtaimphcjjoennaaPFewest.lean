/- DropFewest: the statement. For all towers and bytes: with the line that Rig returns a clock goes from the top for all days, and stops after them if the same is used for long; with one part less it stops before their end. No condition. -/
import Derived.Test.YtaimphcjjoennaaL5
import Derived.Test.YtaimphcjjoennaaRows
set_option linter.unusedSimpArgs false
set_option linter.unusedVariables false
namespace Go.Proofs.Ytaimphcjjoennaa
open Abs Go.ChangeShapes Go.WideShapes Go.ChangeAt Go.RowKit Go.Deep
set_option maxRecDepth 100000
theorem Try.own : ownKnob Try.prog.godebug = none := by kernel_rfl
theorem Try.laidOut : laidOutB Try.prog = true := by kernel_rfl
namespace Dl
abbrev kU : List LK := [.int .u8]
abbrev k4 : List LK := [.int .u8, .int .u8, .int .u8, .int .u8]
theorem u8_in {n : Int} (h : (Lit.int .u8 n).wf = true) : 0 ≤ n ∧ n ≤ 255 := by
  simp only [Lit.wf, Bool.and_eq_true, decide_eq_true_eq] at h; exact h
theorem bytes_of {m : NM} {W : World} : ∀ {len : Nat} {vs : List Value}, vs.length = len * 1 → (∀ i, i < len → LKs W 0 kU ((vs.drop (i * 1)).take 1)) → ∃ l : List Int, l.length = len ∧ Byte l ∧ VRs m (uC l) vs
  | 0, vs, hl, _ => by simp at hl; subst hl; exact ⟨[], rfl, byte_nil, by simp [uC, VRs]⟩
  | n + 1, vs, hl, h => by
    have h0 := h 0 (by omega)
    simp only [Nat.zero_mul, List.drop_zero, LKs, LKok] at h0
    obtain ⟨_, _, e, ⟨a, rfl, ha⟩, rfl⟩ := h0
    obtain ⟨l, h1, h2, h3⟩ := bytes_of (m := m) (W := W) (len := n) (vs := vs.drop 1) (by rw [List.length_drop, hl]; omega) (fun i hi => by
      have := h (i + 1) (by omega)
      rw [List.drop_drop]
      rwa [show 1 + i * 1 = (i + 1) * 1 by omega])
    refine ⟨a :: l, by simp [h1], ?_, ?_⟩
    · intro i
      cases i with
      | zero => exact u8_in ha
      | succ i => simpa using h2 i
    · rw [← List.take_append_drop 1 vs, e]
      show VRs m (AV.int .u8 a :: uC l) _
      exact .cons (by simp only [VR]) h3
theorem cut_row {α : Type} {es : Nat} {vs : List α} {len cap i : Nat} (hi : i < len) (hl : len ≤ cap) (hv : vs.length = cap * es) : ((vs.take (len * es)).drop (i * es)).take es = (vs.drop (i * es)).take es := by
  rw [List.drop_take, List.take_take]
  have : i * es + es ≤ len * es := by rw [← Nat.succ_mul]; exact Nat.mul_le_mul_right _ hi
  rw [show min es (len * es - i * es) = es by omega]
theorem vr_row {m : NM} {n : Nat} {a : Addr} {len cap es : Nat} (hm : m n = some ⟨a.block, a.off, 0⟩) (hs : a.spot = none) (h1 : len ≤ cap) (he : 0 < es) : VR m (.slice n 0 len cap es true) (.slice (some a) len cap) := by
  obtain ⟨b, off, spot⟩ := a
  simp only at hs
  subst hs
  simp only [VR]
  exact .inr ⟨_, off, cap, none, hm, rfl, h1, Nat.le_refl _, fun _ => rfl, .inr (by simp), (fun h => by cases h), .inr rfl⟩
theorem vr_free {m : NM} {n es : Nat} {a : Addr} : VR m (.slice n 0 0 0 es true) (.slice (some a) 0 0) := by
  simp only [VR]; exact .inl ⟨trivial, trivial, trivial, a, rfl⟩
theorem vr_nil {m : NM} : VR m .nils (.slice none 0 0) := by simp only [VR]

/-- A slice of which nothing is looked at, but how long it is. -/
theorem sl_some {W : World} {es : List LK} (he : 0 < es.length) {a : Addr} {len cap : Nat} (h1 : len ≤ cap) (h3 : ∀ i, i < cap → ∃ cs, W.cells? 0 (a.add (i * es.length)) es.length = some cs ∧ LKs W 0 es cs) :
    ∃ k : Option Blk, ∀ (m : NM) (n : Nat), m n = k → VR m (.slice n 0 len cap es.length true) (.slice (some a) len cap) := by
  rcases Nat.eq_zero_or_pos cap with rfl | hp
  · obtain rfl : len = 0 := by omega
    exact ⟨none, fun m n _ => vr_free⟩
  · obtain ⟨hs, _⟩ := open_row he hp h3
    exact ⟨some ⟨a.block, a.off, 0⟩, fun m n hm => vr_row hm hs h1 he⟩
def m3 (a b c : Option Blk) : NM := fun n => match n with
  | 0 => a
  | 1 => b
  | 2 => c
  | _ => none
theorem m3_top (a b c : Option Blk) : ∀ n, 3 ≤ n → m3 a b c n = none := fun n h => match n, h with
  | 0, h => by omega
  | 1, h => by omega
  | 2, h => by omega
  | _ + 3, _ => rfl
theorem rel_row {m : NM} {k : Blk} (hm : m 0 = some k) {avs : List AV} {c : Array Value} {e : TypeId} {fz : Nat × Nat} {pre vs rest : List Value} {W : World} (hb : W.heap[k.b]? = some (.cells c e fz)) (hc : c.toList = pre ++ (vs ++ rest)) (hp : pre.length = k.o) (hv : VRs m avs vs) :
    Rel m (⟨objs [(0, .cells false avs)], [], 0⟩ : Hp) W := by
  have hg : ∀ n ob, (⟨objs [(0, .cells false avs)], [], 0⟩ : Hp).get n = some ob → n = 0 ∧ ob = .cells false avs := by
    intro n ob h
    rw [hget] at h
    simp only [objs, Tr.get_set] at h
    split at h
    · cases h; exact ⟨by assumption, rfl⟩
    · cases h
  constructor
  · intro n ob h
    obtain ⟨rfl, rfl⟩ := hg n ob h
    exact ⟨k, _, hm, hb, c, e, fz, pre, vs, rest, rfl, hc, hp, hv, by simp⟩
  · intro i j oi oj ki kj gi gj _ _ _ _
    rw [(hg i oi gi).1, (hg j oj gj).1]
theorem args_ok {m : NM} {u a b : AV} {uv av bv : Value} (L S x y z : Int) (hu : VR m u uv) (ha : VR m a av) (hb : VR m b bv) :
    VRs m (towA u a b L S x y z) [.agg #[.int .u8 L, .int .u8 S, uv, av, bv], .agg #[.int .u8 x, .int .u8 y, .int .u8 z]] := by
  simp only [towA, VRs, VR]
  exact ⟨_, _, rfl, ⟨_, rfl, _, _, rfl, rfl, _, _, rfl, rfl, _, _, rfl, hu, _, _, rfl, ha, _, _, rfl, hb, rfl⟩, _, _, rfl, ⟨_, rfl, _, _, rfl, rfl, _, _, rfl, rfl, _, _, rfl, rfl, rfl⟩, rfl⟩
theorem few_key (W : World) (xs ys : Array Value) (hk : LKs W 0 [.int .u8, .int .u8, .slice kU, .slice k4, .slice kU] xs.toList) (hj : LKs W 0 [.int .u8, .int .u8, .int .u8] ys.toList) :
    Calls Try.prog g6 #[.agg xs, .agg ys] W fun e w' => e = .returned (.bool true) ∧ Below W.heap.size W w' := by
  simp only [LKs, LKok] at hk hj
  obtain ⟨_, _, e, ⟨L, rfl, hL⟩, _, _, rfl, ⟨S, rfl, hS⟩, uv, _, rfl, hu, av, _, rfl, ha, bv, _, rfl, hb, rfl⟩ := hk
  obtain ⟨_, _, e2, ⟨x, rfl, hx⟩, _, _, rfl, ⟨y, rfl, hy⟩, _, _, rfl, ⟨z, rfl, hz⟩, rfl⟩ := hj
  have hxs : xs = #[.int .u8 L, .int .u8 S, uv, av, bv] := by cases xs; simp at e; simp [e]
  have hys : ys = #[.int .u8 x, .int .u8 y, .int .u8 z] := by cases ys; simp at e2; simp [e2]
  subst hxs; subst hys
  replace hL := u8_in hL
  replace hS := u8_in hS
  replace hx := u8_in hx
  replace hy := u8_in hy
  replace hz := u8_in hz
  have fin : ∀ (kb kc : Option Blk) (vl vc tl tc : Nat) (a b : AV),
      (∀ m : NM, m 1 = kb → VR m a av) → (∀ m : NM, m 2 = kc → VR m b bv) →
      (∀ u, u = .nils ∨ (∃ cap : Nat, u = .slice 0 0 0 cap 1 true) → CallH Try.prog g6 (towA u a b L S x y z) ⟨objs [], [], 0⟩ 3 (fun v H' nx' => v = .bool true ∧ H' = ⟨objs [], [], 0⟩ ∧ nx' = 3)) →
      (∀ (bs : List Int) (cap : Nat), Byte bs → 0 < bs.length → CallH Try.prog g6 (towA (.slice 0 0 bs.length cap 1 true) a b L S x y z) ⟨objs [(0, .cells false (uC bs))], [], 0⟩ 3 (fun v H' nx' => v = .bool true ∧ H' = ⟨objs [(0, .cells false (uC bs))], [], 0⟩ ∧ nx' = 3)) →
      Calls Try.prog g6 #[.agg #[.int .u8 L, .int .u8 S, uv, av, bv], .agg #[.int .u8 x, .int .u8 y, .int .u8 z]] W fun e w' => e = .returned (.bool true) ∧ Below W.heap.size W w' := by
    intro kb kc vl vc tl tc a b ga gb gz gr
    rcases hu with rfl | ⟨ad, len, cap, rfl, q1, q2, q3⟩
    · exact calls_of (m := m3 none kb kc) (gz .nils (.inl rfl)) rfl (args_ok L S x y z vr_nil (ga _ rfl) (gb _ rfl)) (rel_empty _ _) (m3_top _ _ _)
    · rcases Nat.eq_zero_or_pos len with rfl | hlen
      · obtain ⟨k, hk⟩ := sl_some (es := kU) (by decide) q1 q3
        exact calls_of (m := m3 k kb kc) (gz _ (.inr ⟨cap, rfl⟩)) rfl (args_ok L S x y z (hk _ _ rfl) (ga _ rfl) (gb _ rfl)) (rel_empty _ _) (m3_top _ _ _)
      · obtain ⟨hs, c, e, fz, pre, vs, rest, g1, g2, g3, g4, g5⟩ := open_row (es := kU) (by decide) (show 0 < cap by omega) q3
        obtain ⟨l, hl, hbl, hv⟩ := bytes_of (m := m3 (some ⟨ad.block, ad.off, 0⟩) kb kc) (W := W) (len := len) (vs := vs.take (len * 1)) (by
          have : len * 1 ≤ cap * 1 := Nat.mul_le_mul_right _ q1
          rw [List.length_take, g4]; exact Nat.min_eq_left this) (fun i hi => by
          rw [cut_row (es := 1) hi q1 g4]; exact g5 i (by omega))
        subst hl
        exact calls_of (m := m3 (some ⟨ad.block, ad.off, 0⟩) kb kc) (gr l cap hbl hlen) (by kernel_rfl) (args_ok L S x y z (vr_row rfl hs q1 (by decide)) (ga _ rfl) (gb _ rfl)) (rel_row (rest := vs.drop (l.length * 1) ++ rest) rfl g1 (by rw [← List.append_assoc (List.take (l.length * 1) vs) (List.drop (l.length * 1) vs) rest, List.take_append_drop]; exact g2) g3 hv) (m3_top _ _ _)
  rcases ha with rfl | ⟨ad, vl, vc, rfl, a1, a2, a3⟩
  · rcases hb with rfl | ⟨bd, tl, tc, rfl, b1, b2, b3⟩
    · exact fin none none 0 0 0 0 .nils .nils (fun m _ => vr_nil) (fun m _ => vr_nil) (fun u hu => by rcases hu with rfl | ⟨cap, rfl⟩; exact call_nnn hL hS hx hy hz 0 0 0 0; exact call_znn hL hS hx hy hz 0 0 0 0 cap) (fun bs cap hbs h0 => call_rnn hL hS hx hy hz 0 0 0 0 hbs h0 cap)
    · obtain ⟨kc, hc⟩ := sl_some (es := kU) (by decide) b1 b3
      exact fin none kc 0 0 tl tc .nils (truA tl tc) (fun m _ => vr_nil) (fun m h => hc m 2 h) (fun u hu => by rcases hu with rfl | ⟨cap, rfl⟩; exact call_nns hL hS hx hy hz 0 0 tl tc; exact call_zns hL hS hx hy hz 0 0 tl tc cap) (fun bs cap hbs h0 => call_rns hL hS hx hy hz 0 0 tl tc hbs h0 cap)
  · obtain ⟨kb, hkb⟩ := sl_some (es := k4) (by decide) a1 a3
    rcases hb with rfl | ⟨bd, tl, tc, rfl, b1, b2, b3⟩
    · exact fin kb none vl vc 0 0 (visA vl vc) .nils (fun m h => hkb m 1 h) (fun m _ => vr_nil) (fun u hu => by rcases hu with rfl | ⟨cap, rfl⟩; exact call_nsn hL hS hx hy hz vl vc 0 0; exact call_zsn hL hS hx hy hz vl vc 0 0 cap) (fun bs cap hbs h0 => call_rsn hL hS hx hy hz vl vc 0 0 hbs h0 cap)
    · obtain ⟨kc, hc⟩ := sl_some (es := kU) (by decide) b1 b3
      exact fin kb kc vl vc tl tc (visA vl vc) (truA tl tc) (fun m h => hkb m 1 h) (fun m h => hc m 2 h) (fun u hu => by rcases hu with rfl | ⟨cap, rfl⟩; exact call_nss hL hS hx hy hz vl vc tl tc; exact call_zss hL hS hx hy hz vl vc tl tc cap) (fun bs cap hbs h0 => call_rss hL hS hx hy hz vl vc tl tc hbs h0 cap)
theorem okWide_array {P : Program} {w : World} {r : Reach} {base : Nat} {t : TypeId} {v : Value} {n : Nat} {e : TypeId} (ht : P.underlying t = some (.array n e)) (h : Value.okWide P w r base t v) : ∃ cs, v = .agg cs ∧ cs.size = P.cellsOf t := by
  simp only [Value.okWide, ht] at h
  obtain ⟨cs, h1, h2, _⟩ := h
  exact ⟨cs, h1, h2⟩
theorem kindsA : kindsT Try.prog 8 39 = some [.int .u8, .int .u8, .slice kU, .slice k4, .slice kU] := by kernel_rfl
theorem kindsB : kindsT Try.prog 8 40 = some [.int .u8, .int .u8, .int .u8] := by kernel_rfl
theorem few_lifted (os : Os) (started : os.Started) (H : Type) (enc : TypeId × Value → H) :
    ReturnsInHanded {} Try.checked os 4 .any (Rows.dropFewestSpec.pre6 enc Try.prog Try.f4 Rows.dropFewestRow.domain false) (Rows.dropFewestSpec.post enc Try.prog Try.f4 false true false false) := by
  refine returnsInHanded_of_change (C := Try.checked) Try.own started (by kernel_rfl) Try.func4
    (ChangeSpec.witness6 (enc := enc) (C := Try.checked) false ⟨#[], #[.agg #[.int .u8 0, .int .u8 0, .slice none 0 0, .slice none 0 0, .slice none 0 0], .agg #[.int .u8 0, .int .u8 0, .int .u8 0]], []⟩ 8 (by kernel_rfl) (by kernel_rfl) (by kernel_rfl) (by kernel_rfl)) ?_
  intro W base args ds gs before hval0 hW _ _
  have hval : ∀ (j : Nat) t v, Try.f4.params[j]? = some t → args[j]? = some v → Value.okWide Try.prog W .any base t v := hval0
  have hW' := hW
  obtain ⟨p, q, hA0, hV, rfl, hfz, hnd⟩ := hW
  have hA : DataW.TrodAll enc Try.prog W 0 (fun _ => true) true Try.f4.params.toList args.toList ds p := hA0
  rw [Try.params4] at hA hval
  obtain ⟨v0, v1, d0, d1, p0, p1, rfl, rfl, rfl, h0, h1⟩ := trodAll_two hA
  obtain ⟨rfl, rfl⟩ := trodVars_none hV
  obtain ⟨xs, rfl, _⟩ := okWide_struct Try.underlying39 (hval 0 39 v0 rfl rfl)
  obtain ⟨ys, rfl, _⟩ := okWide_array Try.underlying40 (hval 1 40 v1 rfl rfl)
  clear hA0 hval0
  simp only [List.append_nil] at hW'
  have hlt : ∀ x ∈ p0 ++ p1, x.block < W.heap.size := fun x hx => by simpa using hW'.lt x hx
  have key : Calls Try.prog 4 #[.agg xs, .agg ys] W fun e w' => e = .returned (.bool true) ∧ Below W.heap.size W w' := by
    obtain ⟨fuel, hf⟩ := h0
    obtain ⟨fuel2, hf2⟩ := h1
    exact few_key W xs ys (kindsT_ok (fun _ => rfl) 8 kindsA hf) (kindsT_ok (fun _ => rfl) 8 kindsB hf2)
  refine key.mono fun e W' ⟨he, hB⟩ => ?_
  subst he
  refine ⟨_, rfl, _, _, _, [], p0 ++ p1, [], hW', ?_, ?_, rfl, hB.frame _, fun h => by cases h⟩
  · exact trodAll_mk1 (shut_bool Try.underlying4 _)
  · exact trodAll_mk2 (Below.trod Try.laidOut (by kernel_rfl) (of_decide_eq_true (by kernel_rfl)) h0 hB fun x hx => hlt x (List.mem_append_left _ hx))
      (Below.trod Try.laidOut (by kernel_rfl) (of_decide_eq_true (by kernel_rfl)) h1 hB fun x hx => hlt x (List.mem_append_right _ hx))
end Dl
theorem dropFewest_holds : Rows.DropFewestSaid :=
  OpenClaim.holds_of_wide 4 Try.f4 rfl rfl rfl rfl rfl rfl rfl ⟨rfl, rfl, rfl, rfl, rfl⟩ rfl rfl rfl rfl rfl (by kernel_rfl) Try.func4 (by kernel_rfl)
    (of_decide_eq_true (by kernel_rfl)) (by unfold Func.isWrapper; first | (rw [if_pos (by decide +kernel)]; kernel_rfl) | (rw [if_neg (by decide +kernel)]; exact ⟨rfl, rfl⟩))
    (fun os started H enc _ => Dl.few_lifted os started H enc)
#print axioms dropFewest_holds
end Go.Proofs.Ytaimphcjjoennaa
