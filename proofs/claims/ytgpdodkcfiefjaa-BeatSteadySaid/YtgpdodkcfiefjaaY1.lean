/- BeatSteady: the length with which heat does least, in numbers. -/
import Derived.Test.YtgpdodkcfiefjaaQ1
set_option linter.unusedSimpArgs false
set_option linter.unusedVariables false
namespace Go.Proofs.Ytgpdodkcfiefjaa
open Abs Sx
set_option maxRecDepth 100000
namespace Be
theorem firstI_le (f : Int → Bool) : ∀ (n : Nat) (a : Int), a ≤ firstI f a n ∧ firstI f a n ≤ a + n
  | 0, a => by simp only [firstI]; omega
  | n + 1, a => by
    have := firstI_le f n (a + 1)
    simp only [firstI]
    cases f a <;> simp only [cond_true, cond_false] <;> omega
theorem firstI_lt (f : Int → Bool) : ∀ (n : Nat) (a x : Int), a ≤ x → x < firstI f a n → f x = false
  | 0, a, x, h, k => by simp only [firstI] at k; omega
  | n + 1, a, x, h, k => by
    simp only [firstI] at k
    cases e : f a with
    | true => rw [e, cond_true] at k; omega
    | false =>
      rw [e, cond_false] at k
      by_cases hx : x = a
      · rw [hx]; exact e
      · exact firstI_lt f n (a + 1) x (by omega) k
theorem firstI_at (f : Int → Bool) : ∀ (n : Nat) (a : Int), firstI f a n < a + n → f (firstI f a n) = true
  | 0, a, h => by simp only [firstI] at h; omega
  | n + 1, a, h => by
    simp only [firstI] at h ⊢
    cases e : f a with
    | true => rw [cond_true]; exact e
    | false => rw [e, cond_false] at h; rw [cond_false]; exact firstI_at f n (a + 1) (by omega)
structure EvK (k : Nat) (l : List Int) (c1 s1 c2 s2 : Int) : Prop where
  lo : ∀ x, 0 ≤ x → gLoL (blSet k x l) = c1 + x * s1
  hi : ∀ x, 0 ≤ x → gHiL (blSet k x l) = c2 + x * s2
def SpL : List Int → Prop
  | lo :: hi :: _ :: _ :: l => lo ≤ hi ∧ SpL l
  | _ => True
theorem mul_mono {a b x : Int} (h : a ≤ b) (hx : 0 ≤ x) : a * x ≤ b * x := Int.mul_le_mul_of_nonneg_right h hx
theorem ev_ex : ∀ (k : Nat) (l : List Int), SpL l → ∃ c1 s1 c2 s2, EvK k l c1 s1 c2 s2
  | 0, lo :: hi :: len :: up :: l, h => by
    obtain ⟨h, _⟩ := h
    cases e : i2b up with
    | false =>
      refine ⟨gLoL l, lo, gHiL l, hi, ⟨fun x hx => ?_, fun x hx => ?_⟩⟩
      · have := mul_mono h hx
        show min (lo * lowI x up) (hi * lowI x up) + gLoL l = _
        simp only [lowI, e, cond_false]
        rw [Int.mul_comm x lo]; omega
      · have := mul_mono h hx
        show max (lo * lowI x up) (hi * lowI x up) + gHiL l = _
        simp only [lowI, e, cond_false]
        rw [Int.mul_comm x hi]; omega
    | true =>
      refine ⟨gLoL l, -hi, gHiL l, -lo, ⟨fun x hx => ?_, fun x hx => ?_⟩⟩
      · have := mul_mono h hx
        show min (lo * lowI x up) (hi * lowI x up) + gLoL l = _
        simp only [lowI, e, cond_true, Int.zero_sub, Int.mul_neg]
        rw [Int.mul_comm x hi]; omega
      · have := mul_mono h hx
        show max (lo * lowI x up) (hi * lowI x up) + gHiL l = _
        simp only [lowI, e, cond_true, Int.zero_sub, Int.mul_neg]
        rw [Int.mul_comm x lo]; omega
  | k + 1, lo :: hi :: len :: up :: l, h => by
    obtain ⟨c1, s1, c2, s2, q⟩ := ev_ex k l h.2
    refine ⟨min (lo * lowI len up) (hi * lowI len up) + c1, s1, max (lo * lowI len up) (hi * lowI len up) + c2, s2, ⟨fun x hx => ?_, fun x hx => ?_⟩⟩
    · show min (lo * lowI len up) (hi * lowI len up) + gLoL (blSet k x l) = _
      rw [q.lo x hx]; omega
    · show max (lo * lowI len up) (hi * lowI len up) + gHiL (blSet k x l) = _
      rw [q.hi x hx]; omega
  | k, [], _ => ⟨0, 0, 0, 0, ⟨fun x _ => by simp only [blSet, List.set_nil, gLoL]; omega, fun x _ => by simp only [blSet, List.set_nil, gHiL]; omega⟩⟩
  | 0, [_], _ => ⟨0, 0, 0, 0, ⟨fun x _ => by simp only [blSet, List.set, gLoL]; omega, fun x _ => by simp only [blSet, List.set, gHiL]; omega⟩⟩
  | k + 1, [_], _ => ⟨0, 0, 0, 0, ⟨fun x _ => by simp only [blSet, List.set, gLoL]; omega, fun x _ => by simp only [blSet, List.set, gHiL]; omega⟩⟩
  | 0, [_, _], _ => ⟨0, 0, 0, 0, ⟨fun x _ => by simp only [blSet, List.set, gLoL]; omega, fun x _ => by simp only [blSet, List.set, gHiL]; omega⟩⟩
  | k + 1, [_, _], _ => ⟨0, 0, 0, 0, ⟨fun x _ => by simp only [blSet, List.set, gLoL]; omega, fun x _ => by simp only [blSet, List.set, gHiL]; omega⟩⟩
  | 0, [_, _, _], _ => ⟨0, 0, 0, 0, ⟨fun x _ => by simp only [blSet, List.set, gLoL]; omega, fun x _ => by simp only [blSet, List.set, gHiL]; omega⟩⟩
  | k + 1, [_, _, _], _ => ⟨0, 0, 0, 0, ⟨fun x _ => by rw [blSet, List.set_eq_of_length_le (by simp only [List.length_cons, List.length_nil]; omega)]; simp only [gLoL]; omega, fun x _ => by rw [blSet, List.set_eq_of_length_le (by simp only [List.length_cons, List.length_nil]; omega)]; simp only [gHiL]; omega⟩⟩
theorem ef_up {k : Nat} {l : List Int} (h : SpL l) {x : Int} (hx : 0 ≤ x) (e : blEff k l x ≤ blEff k l (x + 1)) : blEff k l (x + 1) ≤ blEff k l (x + 1 + 1) := by
  obtain ⟨c1, s1, c2, s2, q⟩ := ev_ex k l h
  simp only [blEff, q.lo x hx, q.hi x hx, q.lo (x + 1) (by omega), q.hi (x + 1) (by omega), q.lo (x + 1 + 1) (by omega), q.hi (x + 1 + 1) (by omega), Int.add_mul, Int.one_mul] at e ⊢
  generalize x * s1 = a at *
  generalize x * s2 = b at *
  omega
theorem ef_ups {k : Nat} {l : List Int} (h : SpL l) {x : Int} (hx : 0 ≤ x) (e : blEff k l x ≤ blEff k l (x + 1)) : ∀ (n : Nat), blEff k l (x + n) ≤ blEff k l (x + n + 1)
  | 0 => by simpa using e
  | n + 1 => by
    have := ef_up h (x := x + n) (by omega) (ef_ups h hx e n)
    rw [show x + ((n + 1 : Nat) : Int) = x + n + 1 by omega]
    exact this
theorem ef_mono {k : Nat} {l : List Int} (h : SpL l) {x y : Int} (hx : 0 ≤ x) (hy : x ≤ y) (e : blEff k l x ≤ blEff k l (x + 1)) : blEff k l y ≤ blEff k l (y + 1) := by
  have := ef_ups h hx e (y - x).toNat
  rwa [show x + ((y - x).toNat : Int) = y by omega] at this
theorem ef_le {k : Nat} {l : List Int} (h : SpL l) {x : Int} (hx : 0 ≤ x) (e : blEff k l x ≤ blEff k l (x + 1)) : ∀ (n : Nat), blEff k l x ≤ blEff k l (x + n)
  | 0 => by simp
  | n + 1 => by
    have a := ef_le h hx e n
    have b := ef_ups h hx e n
    rw [show x + ((n + 1 : Nat) : Int) = x + n + 1 by omega]
    omega
def blW (k : Nat) (l : List Int) : Int := firstI (fun x => decide (blEff k l x ≤ blEff k l (x + 1))) (blLo k l) (blHi k l - blLo k l).toNat
theorem balN_eq (k : Nat) (l : List Int) : balN ((k : Int) :: l) = blW k l := by
  show firstI (fun x => decide (blEff (k : Int).toNat l x ≤ blEff (k : Int).toNat l (x + 1))) (blLo (k : Int).toNat l) _ = _
  rw [Int.toNat_natCast]; rfl
section
variable {k : Nat} {l : List Int} (h : SpL l) (hb : blLo k l ≤ blHi k l)
theorem blLo_pos : 1 ≤ blLo k l := by unfold blLo; omega
theorem blHi_le : blHi k l ≤ 100000 := by unfold blHi; omega
include hb in
theorem blW_in : blLo k l ≤ blW k l ∧ blW k l ≤ blHi k l := by
  have := firstI_le (fun x => decide (blEff k l x ≤ blEff k l (x + 1))) (blHi k l - blLo k l).toNat (blLo k l)
  unfold blW; omega
theorem blW_lt {x : Int} (h1 : blLo k l ≤ x) (h2 : x < blW k l) : blEff k l (x + 1) < blEff k l x := by
  have := firstI_lt _ _ _ x h1 h2
  rw [decide_eq_false_iff_not] at this; omega
include hb in
theorem blW_at (h2 : blW k l < blHi k l) : blEff k l (blW k l) ≤ blEff k l (blW k l + 1) := by
  have := firstI_at (fun x => decide (blEff k l x ≤ blEff k l (x + 1))) (blHi k l - blLo k l).toNat (blLo k l) (by show blW k l < _; omega)
  exact of_decide_eq_true this
theorem blW_left {x : Int} (h1 : blLo k l ≤ x) (e : blEff k l x ≤ blEff k l (x + 1)) : blW k l ≤ x := by
  apply Classical.byContradiction
  intro c
  have := blW_lt h1 (by omega : x < blW k l)
  omega
include h hb in
theorem blW_right {x : Int} (h1 : blLo k l ≤ x) (h2 : x < blHi k l) (e : ¬ blEff k l x ≤ blEff k l (x + 1)) : x < blW k l := by
  apply Classical.byContradiction
  intro c
  have hp := blLo_pos (k := k) (l := l)
  have hi := blW_in hb
  exact e (ef_mono h (x := blW k l) (by omega) (by omega) (blW_at hb (by omega)))
theorem blW_down : ∀ (n : Nat) (x : Int), blLo k l ≤ x → x + (n : Int) + 1 = blW k l → blEff k l (blW k l) < blEff k l x
  | 0, x, h1, e => by
    have := blW_lt h1 (by omega)
    rw [show x + 1 = blW k l by omega] at this
    exact this
  | n + 1, x, h1, e => by
    have a := blW_down n (x + 1) (by omega) (by omega)
    have b := blW_lt h1 (by omega : x < blW k l)
    omega
include h hb in
theorem blW_min {x : Int} (h1 : blLo k l ≤ x) (h2 : x ≤ blHi k l) : ¬ (blEff k l x < blEff k l (blW k l)) ∧ (blEff k l x = blEff k l (blW k l) → blW k l ≤ x) := by
  have hp := blLo_pos (k := k) (l := l)
  have hi := blW_in hb
  by_cases c : x < blW k l
  · have := blW_down (blW k l - x - 1).toNat x h1 (by omega)
    omega
  · by_cases d : x = blW k l
    · subst d; omega
    · have := ef_le h (x := blW k l) (by omega) (blW_at hb (by omega)) (x - blW k l).toNat
      rw [show blW k l + ((x - blW k l).toNat : Int) = x by omega] at this
      omega
theorem len_set : ∀ (k : Nat) (l : List Int), l.length % 4 = 0 → 4 * k < l.length → ∀ x : Int, blLen (blSet k x l) = blLen (blSet k 0 l) + (bif i2b (l.getD (4 * k + 3) 0) then - x else x)
  | 0, lo :: hi :: len :: up :: l, _, _, x => by
    show lowI x up + blLen l = lowI 0 up + blLen l + (bif i2b up then -x else x)
    unfold lowI; cases i2b up <;> simp only [cond_true, cond_false] <;> omega
  | k + 1, lo :: hi :: len :: up :: l, h, h2, x => by
    have := len_set k l (by simp only [List.length_cons] at h; omega) (by simp only [List.length_cons] at h2; omega) x
    show lowI len up + blLen (blSet k x l) = lowI len up + blLen (blSet k 0 l) + (bif i2b (l.getD (4 * k + 3) 0) then -x else x)
    omega
  | _, [], _, h, _ => by simp at h
  | _, [_], h, _, _ => by simp at h
  | _, [_, _], h, _, _ => by simp at h
  | _, [_, _, _], h, _, _ => by simp at h
theorem bl_valid {x : Int} (h1 : l.length % 4 = 0) (h2 : 4 * k < l.length) : (1 ≤ x ∧ x ≤ 100000 ∧ 100 ≤ blLen (blSet k x l) ∧ blLen (blSet k x l) ≤ 100000) ↔ (blLo k l ≤ x ∧ x ≤ blHi k l) := by
  rw [len_set k l h1 h2 x]
  unfold blLo blHi
  cases i2b (l.getD (4 * k + 3) 0) <;> simp only [cond_true, cond_false] <;> omega
end
def RdL : List Int → Prop
  | lo :: hi :: len :: _ :: l => (0 ≤ lo ∧ lo ≤ hi ∧ hi ≤ 40000 ∧ 0 ≤ len ∧ len ≤ 100001) ∧ RdL l
  | [] => True
  | _ => False
theorem RdL.sp : ∀ {l : List Int}, RdL l → SpL l
  | _ :: _ :: _ :: _ :: _, h => ⟨h.1.2.1, RdL.sp h.2⟩
  | [], _ => trivial
  | [_], h => h.elim
  | [_, _], h => h.elim
  | [_, _, _], h => h.elim
theorem lowI_b1 {x : Int} (up : Int) (h : 0 ≤ x) (k : x ≤ 100001) : -100001 ≤ lowI x up ∧ lowI x up ≤ 100001 := by
  unfold lowI; cases i2b up <;> simp only [cond_true, cond_false] <;> omega
theorem low_m1 {g x : Int} (up : Int) (h : 0 ≤ x) (k : x ≤ 100001) (h0 : 0 ≤ g) (h1 : g ≤ 40000) : -4000040000 ≤ g * lowI x up ∧ g * lowI x up ≤ 4000040000 := by
  have := lowI_b1 up h k
  have a := Int.mul_le_mul_of_nonneg_left this.1 h0
  have b := Int.mul_le_mul_of_nonneg_left this.2 h0
  omega
theorem g_bd : ∀ {l : List Int}, RdL l → (-1000010000 * (l.length : Int) ≤ gLoL l ∧ gLoL l ≤ 1000010000 * (l.length : Int)) ∧ -1000010000 * (l.length : Int) ≤ gHiL l ∧ gHiL l ≤ 1000010000 * (l.length : Int)
  | lo :: hi :: len :: up :: l, h => by
    have := g_bd h.2
    obtain ⟨⟨h1, h2, h3, h4, h5⟩, _⟩ := h
    have a := low_m1 (g := lo) up h4 h5 h1 (by omega)
    have b := low_m1 (g := hi) up h4 h5 (by omega) h3
    simp only [gLoL, gHiL, List.length_cons, Int.natCast_add]
    omega
  | [], _ => by decide
  | [_], h => h.elim
  | [_, _], h => h.elim
  | [_, _, _], h => h.elim
theorem RdL.set : ∀ {k : Nat} {l : List Int} {x : Int}, RdL l → 0 ≤ x → x ≤ 100001 → RdL (blSet k x l)
  | 0, _ :: _ :: _ :: _ :: _, _, h, h1, h2 => ⟨⟨h.1.1, h.1.2.1, h.1.2.2.1, h1, h2⟩, h.2⟩
  | k + 1, _ :: _ :: _ :: _ :: l, x, h, h1, h2 => ⟨h.1, RdL.set (k := k) (l := l) h.2 h1 h2⟩
  | _, [], _, h, _, _ => h
  | _, [_], _, h, _, _ => h.elim
  | _, [_, _], _, h, _, _ => h.elim
  | _, [_, _, _], _, h, _, _ => h.elim
section
variable {rods : List Rod} {grow : List Int} {k : Nat} {l : List Int}
def effB (rods : List Rod) (grow : List Int) (k : Nat) (l : List Int) (x : Int) : Int := max (fnB rods grow 72 (blSet k x l)) (0 - fnB rods grow 71 (blSet k x l))
theorem effB_at (h : RdL l) (h16 : l.length ≤ 16) {x : Int} (h1 : 0 ≤ x) (h2 : x ≤ 100001) : effB rods grow k l x = blEff k l x := by
  have := g_bd (h.set (k := k) h1 h2)
  have e : (blSet k x l).length = l.length := by simp only [blSet, List.length_set]
  rw [e] at this
  show max (max (-20000000000) (min 20000000000 (gHiL (blSet k x l)))) (0 - max (-20000000000) (min 20000000000 (gLoL (blSet k x l)))) = max (gHiL (blSet k x l)) (0 - gLoL (blSet k x l))
  omega
variable (x0 : Int) (hx : blSet k x0 l = l) (h : RdL l) (h16 : l.length ≤ 16) (h4 : l.length % 4 = 0) (hk : 4 * k < l.length) (h1 : 1 ≤ x0) (h2 : x0 ≤ 100000) (hL : 100 ≤ blLen l) (hL2 : blLen l ≤ 100000)
include hx h4 hk h1 h2 hL hL2
theorem bl_ord : blLo k l ≤ x0 ∧ x0 ≤ blHi k l := (bl_valid (x := x0) h4 hk).1 ⟨h1, h2, by rw [hx]; exact hL, by rw [hx]; exact hL2⟩
theorem f122 : fnB rods grow 122 ((k : Int) :: l) = blW k l := by
  have o := bl_ord x0 hx h4 hk h1 h2 hL hL2
  have a := blLo_pos (k := k) (l := l)
  have b := blHi_le (k := k) (l := l)
  have c := blW_in (k := k) (l := l) (by omega)
  show max 1 (min 100000 (balN ((k : Int) :: l))) = _
  rw [balN_eq]; omega
include h h16
theorem se_fact : (blLo k l ≤ fnB rods grow 122 ((k : Int) :: l) ∧ fnB rods grow 122 ((k : Int) :: l) ≤ blHi k l ∧ 1 ≤ blLo k l ∧ blHi k l ≤ 100000) ∧
    ∀ x, blLo k l ≤ x → x < blHi k l → (effB rods grow k l x ≤ effB rods grow k l (x + 1) → fnB rods grow 122 ((k : Int) :: l) ≤ x) ∧ (¬ effB rods grow k l x ≤ effB rods grow k l (x + 1) → x < fnB rods grow 122 ((k : Int) :: l)) := by
  have o := bl_ord x0 hx h4 hk h1 h2 hL hL2
  have a := blLo_pos (k := k) (l := l)
  have b := blHi_le (k := k) (l := l)
  have c := blW_in (k := k) (l := l) (by omega)
  rw [f122 x0 hx h4 hk h1 h2 hL hL2]
  refine ⟨⟨c.1, c.2, a, b⟩, fun x g1 g2 => ?_⟩
  rw [effB_at h h16 (by omega) (by omega), effB_at h h16 (by omega) (by omega)]
  exact ⟨blW_left g1, blW_right h.sp (by omega) g1 g2⟩
theorem st_fact : (1 ≤ fnB rods grow 122 ((k : Int) :: l) ∧ fnB rods grow 122 ((k : Int) :: l) ≤ 100000 ∧ 100 ≤ blLen (blSet k (fnB rods grow 122 ((k : Int) :: l)) l) ∧ blLen (blSet k (fnB rods grow 122 ((k : Int) :: l)) l) ≤ 100000) ∧
    ∀ x, 1 ≤ x → x ≤ 100000 → 100 ≤ blLen (blSet k x l) → blLen (blSet k x l) ≤ 100000 → ¬ (effB rods grow k l x < effB rods grow k l (fnB rods grow 122 ((k : Int) :: l))) ∧ (effB rods grow k l x = effB rods grow k l (fnB rods grow 122 ((k : Int) :: l)) → fnB rods grow 122 ((k : Int) :: l) ≤ x) := by
  have o := bl_ord x0 hx h4 hk h1 h2 hL hL2
  have a := blLo_pos (k := k) (l := l)
  have b := blHi_le (k := k) (l := l)
  have c := blW_in (k := k) (l := l) (by omega)
  rw [f122 x0 hx h4 hk h1 h2 hL hL2]
  refine ⟨(bl_valid h4 hk).2 ⟨by omega, by omega⟩, fun x g1 g2 g3 g4 => ?_⟩
  have d := (bl_valid h4 hk).1 ⟨g1, g2, g3, g4⟩
  rw [effB_at h h16 (by omega) (by omega), effB_at h h16 (by omega) (by omega)]
  exact blW_min h.sp (by omega) d.1 d.2
end
end Be
end Go.Proofs.Ytgpdodkcfiefjaa
