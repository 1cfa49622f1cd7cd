/- Narrower spans: what is reckoned of them lies in what is reckoned of the wider ones. Numbers alone. -/
import Derived.Test.YtgpdodkcfiefjaaQ1
set_option linter.unusedSimpArgs false
set_option linter.unusedVariables false
namespace Go.Proofs.Ytgpdodkcfiefjaa
open Abs Sx
namespace Be
structure Sub (a b a' b' : Int) : Prop where
  lo : a ≤ a'
  mid : a' ≤ b'
  hi : b' ≤ b
theorem Sub.all {a b a' b' : Int} (h : Sub a b a' b') : a ≤ b := by have := h.lo; have := h.mid; have := h.hi; omega
theorem Sub.refl {a b : Int} (h : a ≤ b) : Sub a b a b := ⟨Int.le_refl _, h, Int.le_refl _⟩
theorem mul_in {x a b y : Int} (h1 : a ≤ x) (h2 : x ≤ b) : min (a * y) (b * y) ≤ x * y ∧ x * y ≤ max (a * y) (b * y) := by
  rcases Int.le_total 0 y with h | h
  · have := Int.mul_le_mul_of_nonneg_right h1 h
    have := Int.mul_le_mul_of_nonneg_right h2 h
    omega
  · have := Int.mul_le_mul_of_nonpos_right h1 h
    have := Int.mul_le_mul_of_nonpos_right h2 h
    omega
theorem mul4_in {x y a b c d : Int} (h1 : a ≤ x) (h2 : x ≤ b) (h3 : c ≤ y) (h4 : y ≤ d) : min4 a b c d ≤ x * y ∧ x * y ≤ max4 a b c d := by
  have p := mul_in (y := y) h1 h2
  have q := mul_in (y := a) h3 h4
  have r := mul_in (y := b) h3 h4
  rw [Int.mul_comm c a, Int.mul_comm d a, Int.mul_comm y a] at q
  rw [Int.mul_comm c b, Int.mul_comm d b, Int.mul_comm y b] at r
  unfold min4 max4
  omega
theorem m4_sub {a b c d a' b' c' d' : Int} (h : Sub a b a' b') (k : Sub c d c' d') : Sub (min4 a b c d) (max4 a b c d) (min4 a' b' c' d') (max4 a' b' c' d') := by
  have := h.lo; have := h.mid; have := h.hi; have := k.lo; have := k.mid; have := k.hi
  have p := mul4_in (a := a) (b := b) (c := c) (d := d) (x := a') (y := c') (by omega) (by omega) (by omega) (by omega)
  have q := mul4_in (a := a) (b := b) (c := c) (d := d) (x := a') (y := d') (by omega) (by omega) (by omega) (by omega)
  have r := mul4_in (a := a) (b := b) (c := c) (d := d) (x := b') (y := c') (by omega) (by omega) (by omega) (by omega)
  have s := mul4_in (a := a) (b := b) (c := c) (d := d) (x := b') (y := d') (by omega) (by omega) (by omega) (by omega)
  generalize min4 a b c d = m at *
  generalize max4 a b c d = M at *
  refine ⟨?_, ?_, ?_⟩ <;> simp only [min4, max4] <;> omega
theorem sub_diff {a b a' b' c d c' d' : Int} (h : Sub a b a' b') (k : Sub c d c' d') : Sub (a - d) (b - c) (a' - d') (b' - c') :=
  ⟨by have := h.lo; have := k.hi; omega, by have := h.mid; have := k.mid; omega, by have := h.hi; have := k.lo; omega⟩
theorem sub_neg {a b a' b' : Int} {c : Int} (h : Sub a b a' b') (hc : c ≤ 0) : Sub (b * c) (a * c) (b' * c) (a' * c) :=
  ⟨Int.mul_le_mul_of_nonpos_right h.hi hc, Int.mul_le_mul_of_nonpos_right h.mid hc, Int.mul_le_mul_of_nonpos_right h.lo hc⟩
theorem sub_pos {a b a' b' : Int} {c : Int} (h : Sub a b a' b') (hc : 0 ≤ c) : Sub (a * c) (b * c) (a' * c) (b' * c) :=
  ⟨Int.mul_le_mul_of_nonneg_right h.lo hc, Int.mul_le_mul_of_nonneg_right h.mid hc, Int.mul_le_mul_of_nonneg_right h.hi hc⟩
theorem sub_add {a b a' b' c d c' d' : Int} (h : Sub a b a' b') (k : Sub c d c' d') : Sub (a + c) (b + d) (a' + c') (b' + d') :=
  ⟨Int.add_le_add h.lo k.lo, Int.add_le_add h.mid k.mid, Int.add_le_add h.hi k.hi⟩
theorem len_c {L : Int} (h : 100 ≤ L) : -457 * (10000 * L).tdiv 1000 ≤ 0 := by
  rw [Int.tdiv_eq_ediv_of_nonneg (by omega)]; omega
theorem cg_sub {L gl gh al ah dl dh gl' gh' al' ah' dl' dh' a1 a2 b1 b2 c1 c2 d1 d2 a1' a2' b1' b2' c1' c2' d1' d2' hl hh pl ph rl rh fl fh hl' hh' pl' ph' rl' rh' fl' fh' : Int} (hL : 100 ≤ L)
    (hg : Sub gl gh gl' gh') (ha : Sub al ah al' ah') (hd : Sub dl dh dl' dh') (qh : Sub a1 a2 a1' a2') (qp : Sub b1 b2 b1' b2') (qr : Sub c1 c2 c1' c2') (qf : Sub d1 d2 d1' d2')
    (hh_ : Sub hl hh hl' hh') (hp : Sub pl ph pl' ph') (hr : Sub rl rh rl' rh') (hf : Sub fl fh fl' fh') :
    Sub (cgLo [L, gl, gh, al, ah, dl, dh, a1, a2, b1, b2, c1, c2, d1, d2, hl, hh, pl, ph, rl, rh, fl, fh]) (cgHi [L, gl, gh, al, ah, dl, dh, a1, a2, b1, b2, c1, c2, d1, d2, hl, hh, pl, ph, rl, rh, fl, fh])
      (cgLo [L, gl', gh', al', ah', dl', dh', a1', a2', b1', b2', c1', c2', d1', d2', hl', hh', pl', ph', rl', rh', fl', fh']) (cgHi [L, gl', gh', al', ah', dl', dh', a1', a2', b1', b2', c1', c2', d1', d2', hl', hh', pl', ph', rl', rh', fl', fh']) := by
  have U : 0 ≤ 10000 * L := by omega
  exact sub_add (sub_add (sub_add (sub_neg (m4_sub hg (sub_diff hh_ qh)) (by decide)) (sub_pos (m4_sub ha (sub_diff hp qp)) U)) (sub_neg (sub_diff (m4_sub hr hr) (m4_sub qr qr)) (len_c hL))) (sub_pos (m4_sub hd (sub_diff hf qf)) U)
theorem gL_nil : Sub (gLoL []) (gHiL []) (gLoL []) (gHiL []) := .refl (Int.le_refl _)
theorem gL_cons {lo hi lo' hi' len up : Int} {l l' : List Int} (h : Sub lo hi lo' hi') (k : Sub (gLoL l) (gHiL l) (gLoL l') (gHiL l')) :
    Sub (gLoL (lo :: hi :: len :: up :: l)) (gHiL (lo :: hi :: len :: up :: l)) (gLoL (lo' :: hi' :: len :: up :: l')) (gHiL (lo' :: hi' :: len :: up :: l')) := by
  refine sub_add ?_ k
  have := h.lo; have := h.mid; have := h.hi
  have p := mul_in (a := lo) (b := hi) (x := lo') (y := lowI len up) (by omega) (by omega)
  have q := mul_in (a := lo) (b := hi) (x := hi') (y := lowI len up) (by omega) (by omega)
  exact ⟨by omega, by omega, by omega⟩
theorem clampM_sub {m a b a' b' : Int} (h : Sub a b a' b') : Sub (clampM m a) (clampM m b) (clampM m a') (clampM m b') := by
  have := h.lo; have := h.mid; have := h.hi
  unfold clampM
  exact ⟨by omega, by omega, by omega⟩
end Be
end Go.Proofs.Ytgpdodkcfiefjaa
