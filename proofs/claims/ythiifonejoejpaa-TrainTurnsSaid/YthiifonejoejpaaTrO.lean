/- A law's copy of pairs. -/
import Derived.Test.YthiifonejoejpaaTrN
import Derived.Laws.AppendOwnNone
import Derived.OwnWalk
namespace Go.Proofs.Ythiifonejoejpaa
open Go.RowKit Go.Shelf
attribute [local go_sem] Oper.semAt_some

theorem undPairs : Try.prog.underlying 22 = some (.slice 33) := by kernel_rfl
theorem infoPair : (Try.prog.info? 33).map (fun i => (i.zero, i.size, i.bytes)) = some (some (.agg #[.int .i64 0, .int .i64 0]), 2, 16) := by kernel_rfl

/-- The cells of pairs. -/
def flat2 : List (Int × Int) → List Value
  | [] => []
  | p :: ps => .int .i64 p.1 :: .int .i64 p.2 :: flat2 ps
theorem flat2_length (ps : List (Int × Int)) : (flat2 ps).length = ps.length * 2 := by
  induction ps with
  | nil => rfl
  | cons p ps ih => simp only [flat2, List.length_cons, ih]; omega
theorem flat2_get (ps : List (Int × Int)) : ∀ k, k < ps.length → (flat2 ps)[k * 2]? = some (.int .i64 (ps.getD k (0, 0)).1) ∧ (flat2 ps)[k * 2 + 1]? = some (.int .i64 (ps.getD k (0, 0)).2) := by
  induction ps with
  | nil => intro k h; simp at h
  | cons p ps ih =>
    intro k hk
    cases k with
    | zero => simp [flat2]
    | succ k =>
      have := ih k (by simp at hk; omega)
      simp only [flat2, show (k + 1) * 2 = k * 2 + 1 + 1 by omega, List.getElem?_cons_succ]
      simpa using this
theorem flat2_at (ps : List (Int × Int)) (j : Nat) (u : Value) (h : (flat2 ps)[j]? = some u) : ∃ k, k < ps.length ∧ ((j = k * 2 ∧ u = .int .i64 (ps.getD k (0, 0)).1) ∨ (j = k * 2 + 1 ∧ u = .int .i64 (ps.getD k (0, 0)).2)) := by
  have hj := (List.getElem?_eq_some_iff.1 h).1
  rw [flat2_length] at hj
  have hk : j / 2 < ps.length := by omega
  obtain ⟨h1, h2⟩ := flat2_get ps (j / 2) hk
  refine ⟨j / 2, hk, ?_⟩
  rcases Nat.mod_two_eq_zero_or_one j with h0 | h0
  · have : j = j / 2 * 2 := by omega
    rw [← this, h] at h1
    exact .inl ⟨this, by cases h1; rfl⟩
  · have : j = j / 2 * 2 + 1 := by omega
    rw [← this, h] at h2
    exact .inr ⟨this, by cases h2; rfl⟩
theorem flat2_one (ps : List (Int × Int)) (u : Value) (h : u ∈ flat2 ps) : u.oneCell' = true := by
  obtain ⟨j, hj⟩ := List.mem_iff_getElem?.1 h
  obtain ⟨k, _, ⟨_, rfl⟩ | ⟨_, rfl⟩⟩ := flat2_at ps j u hj <;> rfl

/-- v owns the pairs ps, in a block from base on. -/
def Own2 (base : Nat) (w : World) (v : Value) (ps : List (Int × Int)) : Prop := w.ownsRow base 33 2 v ps.length (flat2 ps)
theorem Own2.pairs {base : Nat} {w : World} {v : Value} {ps : List (Int × Int)} (h : Own2 base w v ps) (hl : ps.length ≤ 1099511627776) : Pairs (fun b => base ≤ b ∧ b < w.heap.size) w v ps := by
  obtain ⟨_, ⟨rfl, h0⟩ | ⟨g, cap, cur, rfl, hg, hh, hn, hm, hs, ht⟩⟩ := id h
  · have : ps = [] := List.length_eq_zero_iff.1 h0
    subst this
    exact ⟨none, 0, rfl, Nat.le_refl _, fun _ => rfl, by simp, fun k h => by simp at h⟩
  · refine ⟨_, _, rfl, hn, fun h => (by cases h), hl, fun k hk => ⟨g, 0, rfl, ⟨hg, (Array.getElem?_eq_some_iff.1 hh).1⟩, ?_, ?_⟩⟩
    · have := h.cells (g := g) rfl (k * 2) _ (flat2_get ps k hk).1
      rw [Addr.add_lit] at this
      exact this
    · have := h.cells (g := g) rfl (k * 2 + 1) _ (flat2_get ps k hk).2
      rw [Addr.add_lit] at this
      exact this

set_option maxHeartbeats 1000000 in
theorem pairs_any (Z : Nat → Prop) (v : Value) (ps : List (Int × Int)) (w : World) (hv : Pairs Z w v ps) (hl10 : ps.length ≤ 1000000) :
    Calls Try.prog 11 #[v] w fun e w' => (∃ r, e = .returned r ∧ Pairs (fun b => w.heap.size ≤ b ∧ b < w'.heap.size) w' r ps) ∧ Below w.heap.size w w' := by
  obtain ⟨i3, h3⟩ := info_parts infoPair
  have H3 := Lib.hid h3
  clear h3
  obtain ⟨A, cap, rfl, hx2, hx3, hx4⟩ := hv
  have hl := hx4.1
  have h0 : (w.alloc (.cells #[] 33)).ownsRow w.heap.size 33 2 (.slice (some ⟨w.heap.size, 0, none⟩) 0 0) 0 [] := World.ownsRow_lit w #[] 0 (Nat.le_refl _) (by unfold maxLen; omega) rfl
  have H0 := Lib.hid h0
  clear h0
  cases A with
  | none =>
    have hcap0 := hx3 rfl
    subst hcap0
    have hx0 : ps = [] := List.length_eq_zero_iff.1 (by omega)
    subst hx0
    go_enter Try.func11, Try.ntmps11
    go_wp2_with (at_builtin; refine wpList_append_own_none rfl _ _ 22 rfl w.heap.size 33 i3 2 undPairs H3.out.1 _ _ _ rfl H0.out rfl ?_)
    go_ret
    exact ⟨⟨_, rfl, Own2.pairs (ps := []) (by simpa [Own2, flat2] using H0.out) (by simp)⟩, (Below.refl _ _).alloc (Nat.le_refl _) _⟩
  | some ad =>
    have hcell : ∀ j u, (flat2 ps)[j]? = some u → (w.alloc (.cells #[] 33)).cell? (ad.add j) = some u := by
      intro j u hj
      obtain ⟨k, hk, hu⟩ := flat2_at ps j u hj
      obtain ⟨b', off', he, _, hc', hd'⟩ := (hx4.grow ((Below.refl w.heap.size w).alloc (Nat.le_refl _) (.cells #[] 33))).2 k hk
      cases he
      rw [Addr.add_lit]
      rcases hu with ⟨rfl, rfl⟩ | ⟨rfl, rfl⟩
      · exact hc'
      · exact hd'
    have HC := Lib.hid hcell
    have H1 := Lib.hid (flat2_one ps)
    clear hcell hx3 hx4
    go_enter Try.func11, Try.ntmps11
    go_wp2_with (at_builtin; refine wpList_append_own _ rfl _ _ 22 rfl w.heap.size 33 i3 (.agg #[.int .i64 0, .int .i64 0]) 2 16 undPairs H3.out.1 H3.out.2.1 H3.out.2.2.1 H3.out.2.2.2 rfl (by decide) _ _ _ rfl H0.out ad ps.length cap (flat2 ps) rfl (flat2_length ps) HC.out H1.out (by unfold maxLen; omega) (by omega) (by simp) ?_)
    intro v' w' ho hg _
    have hb' := ((Below.refl w.heap.size w).alloc (Nat.le_refl _) (.cells #[] 33)).grown hg (by simp) (fun k e => (H0.out.lt k e).1)
    have ho' : Own2 w.heap.size w' v' ps := by
      unfold Own2
      simpa using ho
    clear ho hg
    go_wp2
    go_ret
    exact ⟨⟨_, rfl, ho'.pairs hl⟩, hb'⟩
end Go.Proofs.Ythiifonejoejpaa
