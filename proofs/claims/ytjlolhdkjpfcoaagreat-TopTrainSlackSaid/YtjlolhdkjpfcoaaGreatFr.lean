/- Frames: slices that come in, each nil, without room, or a row. -/
import Derived.Test.YtjlolhdkjpfcoaaGreatC5
import Derived.Test.YtjlolhdkjpfcoaaGreatS1
set_option linter.unusedSimpArgs false
set_option linter.unusedVariables false
namespace Go.Proofs.YtjlolhdkjpfcoaaGreat
open Abs Go.RowKit
set_option maxRecDepth 100000
namespace Fr
inductive Slot (E : Type) where
  | nil
  | free
  | row (l : List E) (cap : Nat)
structure El (E : Type) where
  es : List LK
  f : E → List AV
  Bd : E → Prop
  pos : 0 < es.length
  of : ∀ (W : World) (vs : List Value), LKs W 0 es vs → ∃ e, Bd e ∧ ∀ m : NM, VRs m (f e) vs
section
variable {E : Type} (X : El E)
def rowC (l : List E) : List AV := l.flatMap X.f
def Slot.av (n : Nat) : Slot E → AV
  | .nil => .nils
  | .free => .slice n 0 0 0 X.es.length true
  | .row l cap => .slice n 0 l.length cap X.es.length true
def Slot.obs (n : Nat) : Slot E → List (Nat × AObj)
  | .row l _ => [(n, .cells false (rowC X l))]
  | _ => []
def Slot.Ok : Slot E → Prop
  | .row l cap => (∀ x ∈ l, X.Bd x) ∧ l.length ≤ cap
  | _ => True
def Good (m : NM) (W : World) (p : Nat × AObj) : Prop := ∃ cs kk c e fz pre vs rest, p.2 = .cells false cs ∧ m p.1 = some kk ∧ W.heap[kk.b]? = some (.cells c e fz) ∧ c.toList = pre ++ (vs ++ rest) ∧ pre.length = kk.o ∧ VRs m cs vs
theorem rows_of {W : World} : ∀ {len : Nat} {vs : List Value}, vs.length = len * X.es.length → (∀ i, i < len → LKs W 0 X.es ((vs.drop (i * X.es.length)).take X.es.length)) → ∃ l : List E, l.length = len ∧ (∀ x ∈ l, X.Bd x) ∧ ∀ m : NM, VRs m (rowC X l) vs
  | 0, vs, hl, _ => by
    simp at hl; subst hl
    exact ⟨[], rfl, (fun x hx => by cases hx), fun m => by simp [rowC, VRs]⟩
  | n + 1, vs, hl, h => by
    have h0 := h 0 (by omega)
    simp only [Nat.zero_mul, List.drop_zero] at h0
    obtain ⟨e, b, hv⟩ := X.of _ _ h0
    have hl' : vs.length = n * X.es.length + X.es.length := by rw [hl, Nat.succ_mul]
    obtain ⟨l, h1, h2, h3⟩ := rows_of (W := W) (len := n) (vs := vs.drop X.es.length) (by rw [List.length_drop]; omega) (fun i hi => by
      have := h (i + 1) (by omega)
      rw [List.drop_drop]
      rwa [show X.es.length + i * X.es.length = (i + 1) * X.es.length by rw [Nat.succ_mul]; omega])
    refine ⟨e :: l, by simp [h1], ?_, fun m => ?_⟩
    · intro x hx
      rcases List.mem_cons.1 hx with rfl | hx
      · exact b
      · exact h2 x hx
    · rw [← List.take_append_drop X.es.length vs]
      exact (hv m).append (h3 m)
theorem cut_row {α : Type} {es : Nat} {vs : List α} {len cap i : Nat} (hi : i < len) (hl : len ≤ cap) (hv : vs.length = cap * es) : ((vs.take (len * es)).drop (i * es)).take es = (vs.drop (i * es)).take es := by
  rw [List.drop_take, List.take_take]
  have : i * es + es ≤ len * es := by rw [← Nat.succ_mul]; exact Nat.mul_le_mul_right _ hi
  rw [show min es (len * es - i * es) = es by omega]
theorem vr_row {m : NM} {n : Nat} {a : Addr} {len cap es : Nat} (hm : m n = some ⟨a.block, a.off, 0⟩) (hs : a.spot = none) (h1 : len ≤ cap) (he : 0 < es) : VR m (.slice n 0 len cap es true) (.slice (some a) len cap) := by
  obtain ⟨b, off, spot⟩ := a
  simp only at hs
  subst hs
  simp only [VR]
  exact .inr ⟨_, off, cap, none, hm, rfl, h1, Nat.le_refl _, fun _ => rfl, .inr (by simp), (fun h => by cases h), .inr rfl⟩
theorem vr_free {m : NM} {n es : Nat} {a : Addr} : VR m (.slice n 0 0 0 es true) (.slice (some a) 0 0) := by
  simp only [VR]; exact .inl ⟨trivial, trivial, trivial, a, rfl⟩
theorem vr_nil {m : NM} : VR m .nils (.slice none 0 0) := by simp only [VR]
theorem slot_of (n : Nat) {W : World} {v : Value} (hv : LKok W 0 (.slice X.es) v) : ∃ (s : Slot E) (k : Option Blk), s.Ok X ∧ ∀ m : NM, m n = k → VR m (s.av X n) v ∧ ∀ p ∈ s.obs X n, Good m W p := by
  simp only [LKok] at hv
  rcases hv with rfl | ⟨a, len, cap, rfl, h1, h2, h3⟩
  · exact ⟨.nil, none, trivial, fun m _ => ⟨vr_nil, fun p hp => by cases hp⟩⟩
  · rcases Nat.eq_zero_or_pos cap with rfl | hp
    · obtain rfl : len = 0 := by omega
      exact ⟨.free, none, trivial, fun m _ => ⟨vr_free, fun p hp => by cases hp⟩⟩
    · obtain ⟨hs, c, e, fz, pre, vs, rest, g1, g2, g3, g4, g5⟩ := open_row (es := X.es) X.pos hp h3
      obtain ⟨l, hl, hb, hvs⟩ := rows_of X (W := W) (len := len) (vs := vs.take (len * X.es.length)) (by
        have : len * X.es.length ≤ cap * X.es.length := Nat.mul_le_mul_right _ h1
        rw [List.length_take, g4]; exact Nat.min_eq_left this) (fun i hi => by
        rw [cut_row hi h1 g4]; exact g5 i (by omega))
      subst hl
      refine ⟨.row l cap, some ⟨a.block, a.off, 0⟩, ⟨hb, h1⟩, fun m hm => ⟨vr_row hm hs h1 X.pos, fun p hp => ?_⟩⟩
      simp only [Slot.obs, List.mem_singleton] at hp
      subst hp
      exact ⟨_, _, c, e, fz, pre, _, vs.drop (l.length * X.es.length) ++ rest, rfl, hm, g1, by rw [← List.append_assoc (List.take _ vs), List.take_append_drop]; exact g2, g3, hvs m⟩
end
theorem rowD_rowC {E : Type} (X : El E) {ρ : Sx.Val} {cm : List Sx.Cmp} : ∀ (l : List E) (i : Nat), (∀ (j : Nat) (e : E), l[j]? = some e → cm.map (Sx.Cmp.den ρ [((i + j : Nat) : Int)]) = X.f e) → Sx.rowD ρ cm [] i l.length = rowC X l
  | [], _, _ => rfl
  | e :: l, i, h => by
    have h0 := h 0 e rfl
    have ih := rowD_rowC X (ρ := ρ) (cm := cm) l (i + 1) (fun j e hj => by
      have := h (j + 1) e (by simpa using hj)
      rwa [show i + (j + 1) = i + 1 + j by omega] at this)
    simp only [List.length_cons, Sx.rowD, rowC, List.flatMap_cons]
    rw [ih]
    simp only [Nat.add_zero] at h0
    rw [h0]; rfl
theorem objs_get : ∀ {L : List (Nat × AObj)} {n : Nat} {ob : AObj}, (objs L).get n = some ob → (n, ob) ∈ L
  | [], n, ob, h => by cases h
  | p :: L, n, ob, h => by
    simp only [objs, Tr.get_set] at h
    split at h
    · rename_i e; cases h; subst e; exact List.mem_cons_self
    · exact List.mem_cons_of_mem _ (objs_get h)
theorem rel_obs {m : NM} {W : World} {L : List (Nat × AObj)} (h : ∀ p ∈ L, Good m W p) : Rel m (⟨objs L, [], 0⟩ : Hp) W := by
  constructor
  · intro n ob hg
    rw [hget] at hg
    obtain ⟨cs, kk, c, e, fz, pre, vs, rest, h1, h2, h3, h4, h5, h6⟩ := h _ (objs_get hg)
    simp only at h1 h2
    subst h1
    exact ⟨kk, _, h2, h3, c, e, fz, pre, vs, rest, rfl, h4, h5, h6, by simp⟩
  · intro i j oi oj ki kj gi gj _ _ hw _
    rw [hget] at gi
    obtain ⟨cs, _, _, _, _, _, _, _, h1, _⟩ := h _ (objs_get gi)
    simp only at h1
    subst h1
    cases hw
def nmL : List (Option Blk) → NM
  | [], _ => none
  | k :: _, 0 => k
  | _ :: l, n + 1 => nmL l n
theorem nmL_top : ∀ {l : List (Option Blk)} {n : Nat}, l.length ≤ n → nmL l n = none
  | [], n, _ => by cases n <;> rfl
  | k :: l, 0, h => by simp at h
  | k :: l, n + 1, h => nmL_top (l := l) (n := n) (by simpa using h)
theorem lk_int {W : World} {b : Nat} {k : IntKind} {v : Value} : LKok W b (.int k) v = ∃ n, v = .int k n ∧ (Lit.int k n).wf = true := by simp only [LKok]
theorem lk_bool {W : World} {b : Nat} {v : Value} : LKok W b .bool v = ∃ c, v = .bool c := by simp only [LKok]
theorem okWide_array {P : Program} {w : World} {r : Reach} {base : Nat} {t : TypeId} {v : Value} {n : Nat} {e : TypeId} (ht : P.underlying t = some (.array n e)) (h : Value.okWide P w r base t v) : ∃ cs, v = .agg cs ∧ cs.size = P.cellsOf t := by
  simp only [Value.okWide, ht] at h
  obtain ⟨cs, h1, h2, _⟩ := h
  exact ⟨cs, h1, h2⟩
end Fr
end Go.Proofs.YtjlolhdkjpfcoaaGreat
