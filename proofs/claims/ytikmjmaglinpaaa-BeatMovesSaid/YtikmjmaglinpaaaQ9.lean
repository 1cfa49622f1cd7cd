/- Chapter 3: a clock whose base is moved: its rates, changes and exact rates. -/
import Derived.Test.YtikmjmaglinpaaaQ8
set_option linter.unusedSimpArgs false
set_option linter.unusedVariables false
namespace Go.Proofs.Ytikmjmaglinpaaa
open Abs Sx
set_option maxRecDepth 100000
namespace Be
theorem pr_bd {a c A C : Int} (h1 : -A ≤ a) (h2 : a ≤ A) (h3 : -C ≤ c) (h4 : c ≤ C) : -(A * C) ≤ a * c ∧ a * c ≤ A * C := by
  have p1 := Int.mul_nonneg (show 0 ≤ A - a by omega) (show 0 ≤ C + c by omega)
  have p2 := Int.mul_nonneg (show 0 ≤ A + a by omega) (show 0 ≤ C - c by omega)
  have p3 := Int.mul_nonneg (show 0 ≤ A - a by omega) (show 0 ≤ C - c by omega)
  have p4 := Int.mul_nonneg (show 0 ≤ A + a by omega) (show 0 ≤ C + c by omega)
  simp only [Int.sub_mul, Int.add_mul, Int.mul_sub, Int.mul_add] at p1 p2 p3 p4
  generalize A * C = x at *
  generalize a * c = y at *
  omega
theorem m4_bd {a b c d A C : Int} (h1 : -A ≤ a ∧ a ≤ A) (h2 : -A ≤ b ∧ b ≤ A) (h3 : -C ≤ c ∧ c ≤ C) (h4 : -C ≤ d ∧ d ≤ C) : (-(A * C) ≤ min4 a b c d ∧ min4 a b c d ≤ A * C) ∧ -(A * C) ≤ max4 a b c d ∧ max4 a b c d ≤ A * C := by
  have p1 := pr_bd h1.1 h1.2 h3.1 h3.2
  have p2 := pr_bd h1.1 h1.2 h4.1 h4.2
  have p3 := pr_bd h2.1 h2.2 h3.1 h3.2
  have p4 := pr_bd h2.1 h2.2 h4.1 h4.2
  unfold min4 max4
  generalize A * C = x at *
  omega
theorem unit_in {L : Int} (h1 : 100 ≤ L) (h2 : L ≤ 100000) : -457 * (10000 * L).tdiv 1000 = -4570 * L := by
  rw [Int.tdiv_eq_ediv_of_nonneg (by omega)]; omega
section
variable {rods : List Rod} {grow : List Int} {b t L gl gh al ah dl dh hl hh pl ph rl rh fl fh : Int}
theorem div_move {x t U : Int} (hU : 1 ≤ U) (hx : -1000000000000000000 ≤ x ∧ x ≤ 1000000000000000000) (hxt : -1000000000000000000 ≤ x + t * U ∧ x + t * U ≤ 1000000000000000000) :
    fnB rods grow 50 [x + t * U, U] = fnB rods grow 50 [x, U] + t := by
  have e1 : fnB rods grow 50 [x + t * U, U] = clampB ((x + t * U) / U) := rfl
  have e2 : fnB rods grow 50 [x, U] = clampB (x / U) := rfl
  have q1 := ediv_bd (a := x) (b := U) (B := 1000000000000000000) hU (by omega) (by omega) (by omega)
  have q2 := ediv_bd (a := x + t * U) (b := U) (B := 1000000000000000000) hU (by omega) (by omega) (by omega)
  rw [e1, e2, clampB_id (by omega) (by omega), clampB_id (by omega) (by omega), Int.add_mul_ediv_right _ _ (by omega)]
theorem ra_rest (hL : 100 ≤ L) (hL2 : L ≤ 100000) (hg : -20000000000 ≤ gl ∧ gl ≤ 20000000000) (hg2 : -20000000000 ≤ gh ∧ gh ≤ 20000000000) (ha : -1000 ≤ al ∧ al ≤ 1000) (ha2 : -1000 ≤ ah ∧ ah ≤ 1000) (hd : -1000 ≤ dl ∧ dl ≤ 1000) (hd2 : -1000 ≤ dh ∧ dh ≤ 1000)
    (hh1 : -1000 ≤ hl ∧ hl ≤ 1000) (hh2 : -1000 ≤ hh ∧ hh ≤ 1000) (hp : -1000 ≤ pl ∧ pl ≤ 1000) (hp2 : -1000 ≤ ph ∧ ph ≤ 1000) (hr : -1000 ≤ rl ∧ rl ≤ 1000) (hr2 : -1000 ≤ rh ∧ rh ≤ 1000) (hf : -1000 ≤ fl ∧ fl ≤ 1000) (hf2 : -1000 ≤ fh ∧ fh ≤ 1000) :
    (∃ x, (∀ b, raLo [b, L, gl, gh, al, ah, dl, dh, hl, hh, pl, ph, rl, rh, fl, fh] = b * (10000 * L) + x) ∧ -100000000000000000 ≤ x ∧ x ≤ 100000000000000000) ∧
    (∃ x, (∀ b, raHi [b, L, gl, gh, al, ah, dl, dh, hl, hh, pl, ph, rl, rh, fl, fh] = b * (10000 * L) + x) ∧ -100000000000000000 ≤ x ∧ x ≤ 100000000000000000) := by
  have m1 := m4_bd (A := 20000000000) (C := 1000) hg hg2 hh1 hh2
  have m2 := m4_bd (A := 1000) (C := 1000) ha ha2 hp hp2
  have m3 := m4_bd (A := 1000) (C := 1000) hr hr2 hr hr2
  have m4 := m4_bd (A := 1000) (C := 1000) hd hd2 hf hf2
  simp only [Int.reduceMul] at m1 m2 m3 m4
  have hu := unit_in hL hL2
  have U1 : (-1000000000 : Int) ≤ 10000 * L ∧ 10000 * L ≤ 1000000000 := by omega
  have V1 : (-457000000 : Int) ≤ -4570 * L ∧ -4570 * L ≤ 457000000 := by omega
  have a1 := pr_bd (A := 1000000) (C := 1000000000) m2.1.1 m2.1.2 U1.1 U1.2
  have a2 := pr_bd (A := 1000000) (C := 1000000000) m2.2.1 m2.2.2 U1.1 U1.2
  have b1 := pr_bd (A := 1000000) (C := 457000000) m3.1.1 m3.1.2 V1.1 V1.2
  have b2 := pr_bd (A := 1000000) (C := 457000000) m3.2.1 m3.2.2 V1.1 V1.2
  have c1 := pr_bd (A := 1000000) (C := 1000000000) m4.1.1 m4.1.2 U1.1 U1.2
  have c2 := pr_bd (A := 1000000) (C := 1000000000) m4.2.1 m4.2.2 U1.1 U1.2
  simp only [Int.reduceMul] at a1 a2 b1 b2 c1 c2
  refine ⟨⟨_, fun b => rfl, ?_⟩, ⟨_, fun b => rfl, ?_⟩⟩ <;> rw [hu] <;> omega
theorem ra_move (hL : 100 ≤ L) (hL2 : L ≤ 100000) (hb : -40000 ≤ b ∧ b ≤ 40000) (ht : -40000 ≤ t ∧ t ≤ 40000) (hg : -20000000000 ≤ gl ∧ gl ≤ 20000000000) (hg2 : -20000000000 ≤ gh ∧ gh ≤ 20000000000) (ha : -1000 ≤ al ∧ al ≤ 1000) (ha2 : -1000 ≤ ah ∧ ah ≤ 1000) (hd : -1000 ≤ dl ∧ dl ≤ 1000) (hd2 : -1000 ≤ dh ∧ dh ≤ 1000)
    (hh1 : -1000 ≤ hl ∧ hl ≤ 1000) (hh2 : -1000 ≤ hh ∧ hh ≤ 1000) (hp : -1000 ≤ pl ∧ pl ≤ 1000) (hp2 : -1000 ≤ ph ∧ ph ≤ 1000) (hr : -1000 ≤ rl ∧ rl ≤ 1000) (hr2 : -1000 ≤ rh ∧ rh ≤ 1000) (hf : -1000 ≤ fl ∧ fl ≤ 1000) (hf2 : -1000 ≤ fh ∧ fh ≤ 1000) :
    fnB rods grow 50 [fnB rods grow 77 [b + t, L, gl, gh, al, ah, dl, dh, hl, hh, pl, ph, rl, rh, fl, fh], 10000 * L] = fnB rods grow 50 [fnB rods grow 77 [b, L, gl, gh, al, ah, dl, dh, hl, hh, pl, ph, rl, rh, fl, fh], 10000 * L] + t ∧
    0 - fnB rods grow 50 [0 - fnB rods grow 78 [b + t, L, gl, gh, al, ah, dl, dh, hl, hh, pl, ph, rl, rh, fl, fh], 10000 * L] = (0 - fnB rods grow 50 [0 - fnB rods grow 78 [b, L, gl, gh, al, ah, dl, dh, hl, hh, pl, ph, rl, rh, fl, fh], 10000 * L]) + t := by
  obtain ⟨⟨x, ex, x1, x2⟩, ⟨y, ey, y1, y2⟩⟩ := ra_rest hL hL2 hg hg2 ha ha2 hd hd2 hh1 hh2 hp hp2 hr hr2 hf hf2
  have U1 : (-1000000000 : Int) ≤ 10000 * L ∧ 10000 * L ≤ 1000000000 := by omega
  have s1 := pr_bd (A := 40000) (C := 1000000000) hb.1 hb.2 U1.1 U1.2
  have s2 := pr_bd (A := 40000) (C := 1000000000) ht.1 ht.2 U1.1 U1.2
  simp only [Int.reduceMul] at s1 s2
  have e77 : ∀ l, fnB rods grow 77 l = clampB (raLo l) := fun _ => rfl
  have e78 : ∀ l, fnB rods grow 78 l = clampB (raHi l) := fun _ => rfl
  rw [e77, e77, e78, e78, ex, ex, ey, ey, Int.add_mul]
  have hU : 1 ≤ 10000 * L := by omega
  generalize 10000 * L = U at *
  rw [clampB_id (x := b * U + t * U + x) (by omega) (by omega), clampB_id (x := b * U + x) (by omega) (by omega), clampB_id (x := b * U + t * U + y) (by omega) (by omega), clampB_id (x := b * U + y) (by omega) (by omega)]
  have d1 := div_move (rods := rods) (grow := grow) (x := b * U + x) (t := t) hU (by omega) (by omega)
  have d2 := div_move (rods := rods) (grow := grow) (x := 0 - (b * U + y)) (t := -t) hU (by omega) (by rw [Int.neg_mul]; omega)
  rw [Int.neg_mul] at d2
  rw [show b * U + t * U + x = b * U + x + t * U by omega, show 0 - (b * U + t * U + y) = 0 - (b * U + y) + -(t * U) by omega, d1, d2]
  omega
theorem cg_self (hL : 100 ≤ L) (hh_ : hl ≤ hh) (hp : pl ≤ ph) (hf : fl ≤ fh) :
    fnB rods grow 50 [fnB rods grow 75 [L, gl, gh, al, ah, dl, dh, hl, hh, pl, ph, rl, rh, fl, fh, hl, hh, pl, ph, rl, rh, fl, fh], 10000 * L] ≤ 0 ∧
    0 ≤ 0 - fnB rods grow 50 [0 - fnB rods grow 76 [L, gl, gh, al, ah, dl, dh, hl, hh, pl, ph, rl, rh, fl, fh, hl, hh, pl, ph, rl, rh, fl, fh], 10000 * L] := by
  have opp : ∀ a b x : Int, min4 a b (x) (-x) ≤ 0 ∧ 0 ≤ max4 a b x (-x) := fun a b x => by
    unfold min4 max4
    rw [Int.mul_neg, Int.mul_neg]; omega
  have o1 := opp gl gh (hl - hh)
  have o2 := opp al ah (pl - ph)
  have o4 := opp dl dh (fl - fh)
  have o3 : min4 rl rh rl rh ≤ max4 rl rh rl rh := by unfold min4 max4; omega
  rw [show -(hl - hh) = hh - hl by omega] at o1
  rw [show -(pl - ph) = ph - pl by omega] at o2
  rw [show -(fl - fh) = fh - fl by omega] at o4
  have hv : -457 * (10000 * L).tdiv 1000 ≤ 0 := len_c hL
  have U0 : 0 ≤ 10000 * L := by omega
  have lo : cgLo [L, gl, gh, al, ah, dl, dh, hl, hh, pl, ph, rl, rh, fl, fh, hl, hh, pl, ph, rl, rh, fl, fh] ≤ 0 := by
    have t2 := Int.mul_nonneg (show 0 ≤ -(min4 al ah (pl - ph) (ph - pl)) by omega) U0
    have t3 := Int.mul_nonneg (show 0 ≤ max4 rl rh rl rh - min4 rl rh rl rh by omega) (show 0 ≤ -(-457 * (10000 * L).tdiv 1000) by omega)
    have t4 := Int.mul_nonneg (show 0 ≤ -(min4 dl dh (fl - fh) (fh - fl)) by omega) U0
    rw [Int.neg_mul] at t2 t4
    rw [Int.mul_neg] at t3
    simp only [cgLo]
    omega
  have hi : 0 ≤ cgHi [L, gl, gh, al, ah, dl, dh, hl, hh, pl, ph, rl, rh, fl, fh, hl, hh, pl, ph, rl, rh, fl, fh] := by
    have t2 := Int.mul_nonneg (show 0 ≤ max4 al ah (pl - ph) (ph - pl) by omega) U0
    have t3 := Int.mul_nonneg (show 0 ≤ -(min4 rl rh rl rh - max4 rl rh rl rh) by omega) (show 0 ≤ -(-457 * (10000 * L).tdiv 1000) by omega)
    have t4 := Int.mul_nonneg (show 0 ≤ max4 dl dh (fl - fh) (fh - fl) by omega) U0
    rw [Int.neg_mul_neg] at t3
    simp only [cgHi]
    omega
  have cneg : ∀ x : Int, x ≤ 0 → clampB x ≤ 0 := fun x h => by unfold clampB; omega
  have cpos : ∀ x : Int, 0 ≤ x → 0 ≤ clampB x := fun x h => by unfold clampB; omega
  have e75 : ∀ l, fnB rods grow 75 l = clampB (cgLo l) := fun _ => rfl
  have e76 : ∀ l, fnB rods grow 76 l = clampB (cgHi l) := fun _ => rfl
  have e50 : ∀ x, fnB rods grow 50 [x, 10000 * L] = clampB (x / (10000 * L)) := fun _ => rfl
  have dneg : ∀ x : Int, x ≤ 0 → x / (10000 * L) ≤ 0 := fun x h => by
    have := Int.ediv_le_ediv (c := 10000 * L) (by omega) h
    rwa [Int.zero_ediv] at this
  rw [e75, e76, e50, e50]
  have k1 := cneg _ (dneg _ (cneg _ lo))
  have k2 := cneg _ (dneg (0 - clampB (cgHi [L, gl, gh, al, ah, dl, dh, hl, hh, pl, ph, rl, rh, fl, fh, hl, hh, pl, ph, rl, rh, fl, fh])) (by have := cpos _ hi; omega))
  exact ⟨k1, by omega⟩
theorem ex_move {U E : Int} (hU : 1 ≤ U) (hU2 : U ≤ 1000000000) (hb : -40000 ≤ b ∧ b ≤ 40000) (ht : -40000 ≤ t ∧ t ≤ 40000) (hE : -100000000000000000 ≤ E ∧ E ≤ 100000000000000000) :
    fnB rods grow 21 [(b + t) * U + E, U] = fnB rods grow 21 [b * U + E, U] ∧
    fnB rods grow 20 [(b + t) * U + E, U] = IntKind.i64.wrap (fnB rods grow 20 [b * U + E, U] + IntKind.i64.wrap (t * fnB rods grow 21 [b * U + E, U])) := by
  have e20 : ∀ x, fnB rods grow 20 [x, U] = x.tdiv (Int.gcd x U) := fun _ => rfl
  have e21 : ∀ x, fnB rods grow 21 [x, U] = U.tdiv (Int.gcd x U) := fun _ => rfl
  have hg : Int.gcd ((b + t) * U + E) U = Int.gcd (b * U + E) U := by
    rw [Int.add_mul, show b * U + t * U + E = b * U + E + t * U by omega]
    exact Int.gcd_add_mul_right_left ..
  have s1 := pr_bd (A := 40000) (C := 1000000000) hb.1 hb.2 (show -1000000000 ≤ U by omega) hU2
  simp only [Int.reduceMul] at s1
  rw [e20, e20, e21, e21, hg]
  obtain ⟨n, hn⟩ := Int.gcd_dvd_left (a := b * U + E) (b := U)
  obtain ⟨m, hm⟩ := Int.gcd_dvd_right (a := b * U + E) (b := U)
  have hgp : 1 ≤ (Int.gcd (b * U + E) U : Int) := by
    have : 0 < Int.gcd (b * U + E) U := Int.gcd_pos_of_ne_zero_right _ (by omega)
    omega
  generalize (Int.gcd (b * U + E) U : Int) = g at *
  have hN : (b + t) * U + E = g * (n + t * m) := by
    rw [Int.mul_add, ← hn, Int.add_mul]
    have : g * (t * m) = t * U := by rw [hm, ← Int.mul_assoc, Int.mul_comm g t, Int.mul_assoc]
    omega
  have hm1 : 0 ≤ m ∧ m ≤ U := by
    constructor
    · rcases Int.lt_or_le m 0 with h | h
      · have := Int.mul_neg_of_pos_of_neg (show 0 < g by omega) h; omega
      · exact h
    · rcases Int.lt_or_le m 0 with h | h
      · omega
      · have := Int.mul_le_mul_of_nonneg_right hgp h; rw [Int.one_mul] at this; omega
  have hn1 : -1000000000000000000 ≤ n ∧ n ≤ 1000000000000000000 := by
    rcases Int.lt_or_le n 0 with h | h
    · have := Int.mul_le_mul_of_nonneg_right hgp (show 0 ≤ -n by omega)
      rw [Int.one_mul, Int.mul_neg] at this; omega
    · have := Int.mul_le_mul_of_nonneg_right hgp h
      rw [Int.one_mul] at this; omega
  have s3 := pr_bd (A := 40000) (C := 1000000000) ht.1 ht.2 (show -1000000000 ≤ m by omega) (by omega)
  simp only [Int.reduceMul] at s3
  refine ⟨rfl, ?_⟩
  rw [hN, hn, Int.mul_tdiv_cancel_left _ (by omega), Int.mul_tdiv_cancel_left _ (by omega)]
  have hd : U.tdiv g = m := by rw [hm, Int.mul_tdiv_cancel_left _ (by omega)]
  have w1 : IntKind.i64.wrap (t * m) = t * m := wrap64 (by omega) (by omega)
  rw [hd, w1, wrap64 (by omega) (by omega)]
theorem ex_rest {L g h a p r d f : Int} (hL : 100 ≤ L) (hL2 : L ≤ 100000) (hg : -20000000000 ≤ g ∧ g ≤ 20000000000) (hh_ : -1000 ≤ h ∧ h ≤ 1000) (ha : -1000 ≤ a ∧ a ≤ 1000) (hp : -1000 ≤ p ∧ p ≤ 1000) (hr : -1000 ≤ r ∧ r ≤ 1000) (hd : -1000 ≤ d ∧ d ≤ 1000) (hf : -1000 ≤ f ∧ f ≤ 1000) :
    -100000000000000000 ≤ (g * h) * -432 + (a * p) * (10000 * L) + (r * r) * (-457 * (10000 * L).tdiv 1000) + (d * f) * (10000 * L) ∧ (g * h) * -432 + (a * p) * (10000 * L) + (r * r) * (-457 * (10000 * L).tdiv 1000) + (d * f) * (10000 * L) ≤ 100000000000000000 := by
  have m1 := pr_bd (A := 20000000000) (C := 1000) hg.1 hg.2 hh_.1 hh_.2
  have m2 := pr_bd (A := 1000) (C := 1000) ha.1 ha.2 hp.1 hp.2
  have m3 := pr_bd (A := 1000) (C := 1000) hr.1 hr.2 hr.1 hr.2
  have m4 := pr_bd (A := 1000) (C := 1000) hd.1 hd.2 hf.1 hf.2
  simp only [Int.reduceMul] at m1 m2 m3 m4
  have hu := unit_in hL hL2
  have U1 : (-1000000000 : Int) ≤ 10000 * L ∧ 10000 * L ≤ 1000000000 := by omega
  have V1 : (-457000000 : Int) ≤ -4570 * L ∧ -4570 * L ≤ 457000000 := by omega
  have a1 := pr_bd (A := 1000000) (C := 1000000000) m2.1 m2.2 U1.1 U1.2
  have b1 := pr_bd (A := 1000000) (C := 457000000) m3.1 m3.2 V1.1 V1.2
  have c1 := pr_bd (A := 1000000) (C := 1000000000) m4.1 m4.2 U1.1 U1.2
  simp only [Int.reduceMul] at a1 b1 c1
  rw [hu]; omega
theorem ra_still : fnB rods grow 77 [b, L, gl, gh, al, ah, 0, 0, hl, hh, pl, ph, rl, rh, 0, 0] = fnB rods grow 77 [b, L, gl, gh, al, ah, 0, 0, hl, hh, pl, ph, rl, rh, fl, fh] ∧ fnB rods grow 78 [b, L, gl, gh, al, ah, 0, 0, hl, hh, pl, ph, rl, rh, 0, 0] = fnB rods grow 78 [b, L, gl, gh, al, ah, 0, 0, hl, hh, pl, ph, rl, rh, fl, fh] := by
  have e77 : ∀ l, fnB rods grow 77 l = clampB (raLo l) := fun _ => rfl
  have e78 : ∀ l, fnB rods grow 78 l = clampB (raHi l) := fun _ => rfl
  have z1 : ∀ x y : Int, min4 0 0 x y = 0 ∧ max4 0 0 x y = 0 := fun x y => by
    unfold min4 max4; simp only [Int.zero_mul]; omega
  rw [e77, e77, e78, e78]
  simp only [raLo, raHi, (z1 _ _).1, (z1 _ _).2, and_self]
theorem st_lo {U : Int} : fnB rods grow 50 [fnB rods grow 77 [b, L, gl, gh, al, ah, 0, 0, hl, hh, pl, ph, rl, rh, 0, 0], U] = fnB rods grow 50 [fnB rods grow 77 [b, L, gl, gh, al, ah, 0, 0, hl, hh, pl, ph, rl, rh, fl, fh], U] := by rw [ra_still.1]
theorem st_hi {U : Int} : 0 - fnB rods grow 50 [0 - fnB rods grow 78 [b, L, gl, gh, al, ah, 0, 0, hl, hh, pl, ph, rl, rh, 0, 0], U] = 0 - fnB rods grow 50 [0 - fnB rods grow 78 [b, L, gl, gh, al, ah, 0, 0, hl, hh, pl, ph, rl, rh, fl, fh], U] := by rw [ra_still.2]
theorem g71 (l : List Int) : -20000000000 ≤ fnB rods grow 71 l ∧ fnB rods grow 71 l ≤ 20000000000 := clampM_in (by decide)
theorem g72 (l : List Int) : -20000000000 ≤ fnB rods grow 72 l ∧ fnB rods grow 72 l ≤ 20000000000 := clampM_in (by decide)
end
end Be
end Go.Proofs.Ytikmjmaglinpaaa
