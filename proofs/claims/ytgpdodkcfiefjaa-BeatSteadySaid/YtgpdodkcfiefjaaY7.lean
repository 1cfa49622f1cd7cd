/- BeatSteady: the law, for each number of rods. -/
import Derived.Test.YtgpdodkcfiefjaaY6
set_option linter.unusedSimpArgs false
set_option linter.unusedVariables false
namespace Go.Proofs.Ytgpdodkcfiefjaa
open Abs Sx
set_option maxRecDepth 100000
namespace Be
theorem le_n {ρ : Val} {a b : X} (h : X.denB ρ (le a b) = true) : a.den ρ ≤ b.den ρ := by simpa only [le, X.dB_le, leB_t] using h
theorem imp_t {ρ : Val} {a b : X} (h : a.denB ρ = true → b.denB ρ = true) : X.denB ρ (.bin .or (.not a) b) = true := by
  simp only [X.denB_or, X.denB_not]
  cases ha : a.denB ρ
  · rfl
  · rw [h ha]; rfl
theorem clM {z : Int} (h : 100 ≤ z) (k : z ≤ 100000) : 100 ≤ clampM 400000 z ∧ clampM 400000 z ≤ 100000 := by simp only [clampM]; omega
theorem clM' {z : Int} (h : 100 ≤ clampM 400000 z) (k : clampM 400000 z ≤ 100000) : 100 ≤ z ∧ z ≤ 100000 := by simp only [clampM] at h k; omega
attribute [local irreducible] fnB
structure PreN (xs : List Int) : Prop where
  p2 : 0 ≤ xs.getD 2 0
  p3 : -32768 ≤ xs.getD 3 0
  q3 : xs.getD 3 0 ≤ 32767
  p4 : 0 ≤ xs.getD 4 0
  p5 : 0 ≤ xs.getD 5 0
  p6 : 0 ≤ xs.getD 6 0
  q6 : xs.getD 6 0 ≤ 255
  p7 : 0 ≤ xs.getD 7 0
  q7 : xs.getD 7 0 ≤ 255
  p8 : 0 ≤ xs.getD 8 0
theorem pre_n {n : Nat} {fn : Nat → List Int → Int} {xs : List Int} (h : AllB (valX fn xs) (stP n)) : PreN xs := by
  obtain ⟨_, _, p2, _, p3, q3, p4, _, p5, _, p6, q6, p7, q7, p8, _⟩ := h
  exact ⟨le_n p2, le_n p3, le_n q3, le_n p4, le_n p5, le_n p6, le_n q6, le_n p7, le_n q7, le_n p8⟩
section
variable {rods : List Rod} {grow xs : List Int} (hM : ∀ i l, inR (fnB rods grow i l) (nthR RU.fr i))
def stL1 (rods : List Rod) (grow : List Int) : List Int := [1100, 1150, 9000, 0]
theorem rd_st1 : RdL (stL1 rods grow) := by
  unfold stL1
  simp only [RdL, and_true]
  omega
theorem ln_st1 : 100 ≤ blLen (stL1 rods grow) ∧ blLen (stL1 rods grow) ≤ 100000 := by
  have h : 100 ≤ fnB rods grow 73 (lensL (stL1 rods grow)) ∧ fnB rods grow 73 (lensL (stL1 rods grow)) ≤ 100000 := (show 100 ≤ fnB rods grow 73 [9000, 0] ∧ fnB rods grow 73 [9000, 0] ≤ 100000 by rw [ln1]; decide)
  rw [f73, lens_ln] at h
  exact clM' h.1 h.2
theorem md_l10 {ρ : Val} (hf : ρ.fn = fnB rods grow) (x : X) : (mdR 1 0 x).map (X.den ρ) = blSet 0 (x.den ρ) (stL1 rods grow) := by
  simp only [mdR, mdG, mdL, mdU, mdW, mdN, List.range, List.range.loop, List.flatMap_cons, List.flatMap_nil, List.cons_append, List.nil_append, List.append_nil, List.map_cons, List.map_nil, Nat.beq, cond_true, cond_false, ap, X.den_app, X.sem_cons, X.sem_nil, X.den_ite, X.denB_lit0, X.denB_app, lit, X.den_lit, apl_den, hf]
  rfl
theorem md_n10 {ρ : Val} (hf : ρ.fn = fnB rods grow) (x : X) : (mdN 1 0 x).den ρ = clampM 400000 (blLen (blSet 0 (x.den ρ) (stL1 rods grow))) := by
  rw [← lens_ln, ← f73 (rods := rods) (grow := grow)]
  simp only [mdR, mdG, mdL, mdU, mdW, mdN, List.range, List.range.loop, List.flatMap_cons, List.flatMap_nil, List.cons_append, List.nil_append, List.append_nil, List.map_cons, List.map_nil, Nat.beq, cond_true, cond_false, ap, X.den_app, X.sem_cons, X.sem_nil, X.den_ite, X.denB_lit0, X.denB_app, lit, X.den_lit, apl_den, hf]
  rfl
theorem md_w10 {ρ : Val} (hf : ρ.fn = fnB rods grow) : (mdW 1 0).den ρ = fnB rods grow 122 (((0 : Nat) : Int) :: (stL1 rods grow)) := by
  simp only [mdR, mdG, mdL, mdU, mdW, mdN, List.range, List.range.loop, List.flatMap_cons, List.flatMap_nil, List.cons_append, List.nil_append, List.append_nil, List.map_cons, List.map_nil, Nat.beq, cond_true, cond_false, ap, X.den_app, X.sem_cons, X.sem_nil, X.den_ite, X.denB_lit0, X.denB_app, lit, X.den_lit, apl_den, hf]
  rfl
theorem st_vc10 {T : Tpl} {M : Nat → Nat} (hids : T.ids = [10, 11]) (c0 c1 c2 c3 : X) (h : PreN xs) : StVc T (stB 1 0 [c0, c1, c2, c3]) (valX (fnB rods grow) xs) M := by
  have oo : 1 ≤ (9000 : Int) ∧ (9000 : Int) ≤ 100000 := by decide
  have hn := ln_st1 (rods := rods) (grow := grow)
  have F := st_fact (rods := rods) (grow := grow) (k := 0) (l := stL1 rods grow) (9000) rfl (rd_st1) (by simp [stL1]) (by simp [stL1]) (by simp [stL1]) oo.1 oo.2 hn.1 hn.2
  have wv := clM F.1.2.2.1 F.1.2.2.2
  refine stB_vc (fn := fnB rods grow) (E := effB rods grow 0 (stL1 rods grow)) (N := fun y => clampM 400000 (blLen (blSet 0 y (stL1 rods grow)))) (W := fnB rods grow 122 (((0 : Nat) : Int) :: (stL1 rods grow))) (fun ρ hf x => mdE_den hf (md_l10 hf) x) (fun ρ hf => md_w10 hf) ?hK ?wm rfl hids ?w0 ⟨F.1.1, F.1.2.1, wv.1, wv.2⟩ ?hF
  case hK =>
    intro ρ hf x
    have e := md_n10 hf x
    simp only [mdK, mdB, List.range, List.range.loop, List.map_cons, List.map_nil, List.foldr, Nat.beq, cond_true, cond_false, lnB, an, le, X.denB_and, X.dB_le, X.denB_lit1, Bool.and_eq_true, leB_t, ap, X.den_app, X.sem_cons, X.sem_nil, lit, X.den_lit, e, hf, true_and]
    omega
  case wm =>
    intro x a b c d
    have z := clM' c d
    exact F.2 x a b z.1 z.2
  case w0 =>
    have := f_ord (rods := rods) (grow := grow) (l := blSet 0 (fnB rods grow 122 (((0 : Nat) : Int) :: (stL1 rods grow))) (stL1 rods grow))
    unfold effB
    omega
  case hF =>
    intro σ hf h3
    have e := md_n10 hf (mdW 1 0)
    rw [md_w10 hf] at e
    have h3 : σ.v 3 = xs.getD 3 0 := h3
    exact fin_ok hf (md_l10 hf) (by rw [e]; exact wv.1) (by rw [e]; exact wv.2) (by rw [h3]; exact h.p3) (by rw [h3]; exact h.q3)
theorem n1_ok : AllB (valX (fnB rods grow) xs) n1L := ⟨le_den (by show 100 ≤ fnB rods grow 73 [9000, 0]; rw [ln1]; decide), le_den (by show fnB rods grow 73 [9000, 0] ≤ 100000; rw [ln1]; decide), trivial⟩
theorem ai_ok (h : PreN xs) : X.denB (valX (fnB rods grow) xs) (le aiL aiH) = true := by
  have b := Int.tmod_nonneg 50 h.p5
  exact le_den (by show (xs.getD 4 0).tmod 100 + -50 ≤ (xs.getD 4 0).tmod 100 + -50 + (xs.getD 5 0).tmod 50; omega)
theorem st_all1a {ob : List (Nat × SO)} (h : PreN xs) : StVc (tp1 c1a ob) st1a (valX (fnB rods grow) xs) (fun _ => 0) := by
  have p7 := h.p7
  exact ⟨⟨ai_ok h, le_den (by show xs.getD 6 0 + -200 ≤ xs.getD 6 0 + xs.getD 7 0; omega), n1_ok⟩, st_vc10 rfl _ _ _ _ h⟩
theorem st_all1b {ob : List (Nat × SO)} (h : PreN xs) : StVc (tp1 c1b ob) st1b (valX (fnB rods grow) xs) (fun _ => 0) := by
  have p7 := h.p7
  exact ⟨⟨ai_ok h, le_den (by show xs.getD 6 0 ≤ xs.getD 6 0 + xs.getD 7 0; omega), n1_ok⟩, st_vc10 rfl _ _ _ _ h⟩
theorem st_all1c {ob : List (Nat × SO)} (h : PreN xs) : StVc (tp1 c1c ob) st1c (valX (fnB rods grow) xs) (fun _ => 0) :=
  ⟨⟨ai_ok h, n1_ok⟩, st_vc10 rfl _ _ _ _ h⟩
def stL2 (rods : List Rod) (grow : List Int) : List Int := [1100, 1150, 9000, 0, fnB rods grow 116 [0], fnB rods grow 117 [0], fnB rods grow 115 [0], bif i2b (fnB rods grow 118 [0]) then 1 else 0]
include hM in
theorem rd_st2 : RdL (stL2 rods grow) := by
  have a0 : 1 ≤ fnB rods grow 115 [0] ∧ fnB rods grow 115 [0] ≤ 4000 := hM 115 [0]
  have b0 : 0 ≤ fnB rods grow 116 [0] ∧ fnB rods grow 116 [0] ≤ 5100 := hM 116 [0]
  have c0 : 0 ≤ fnB rods grow 117 [0] ∧ fnB rods grow 117 [0] ≤ 5865 := hM 117 [0]
  have d0 := kg hM [0]
  unfold stL2
  simp only [RdL, and_true]
  omega
include hM in
theorem ln_st2 : 100 ≤ blLen (stL2 rods grow) ∧ blLen (stL2 rods grow) ≤ 100000 := by
  have h : 100 ≤ fnB rods grow 73 (lensL (stL2 rods grow)) ∧ fnB rods grow 73 (lensL (stL2 rods grow)) ≤ 100000 := ln2 hM
  rw [f73, lens_ln] at h
  exact clM' h.1 h.2
theorem md_l20 {ρ : Val} (hf : ρ.fn = fnB rods grow) (x : X) : (mdR 2 0 x).map (X.den ρ) = blSet 0 (x.den ρ) (stL2 rods grow) := by
  simp only [mdR, mdG, mdL, mdU, mdW, mdN, List.range, List.range.loop, List.flatMap_cons, List.flatMap_nil, List.cons_append, List.nil_append, List.append_nil, List.map_cons, List.map_nil, Nat.beq, cond_true, cond_false, ap, X.den_app, X.sem_cons, X.sem_nil, X.den_ite, X.denB_lit0, X.denB_app, lit, X.den_lit, apl_den, hf]
  rfl
theorem md_n20 {ρ : Val} (hf : ρ.fn = fnB rods grow) (x : X) : (mdN 2 0 x).den ρ = clampM 400000 (blLen (blSet 0 (x.den ρ) (stL2 rods grow))) := by
  rw [← lens_ln, ← f73 (rods := rods) (grow := grow)]
  simp only [mdR, mdG, mdL, mdU, mdW, mdN, List.range, List.range.loop, List.flatMap_cons, List.flatMap_nil, List.cons_append, List.nil_append, List.append_nil, List.map_cons, List.map_nil, Nat.beq, cond_true, cond_false, ap, X.den_app, X.sem_cons, X.sem_nil, X.den_ite, X.denB_lit0, X.denB_app, lit, X.den_lit, apl_den, hf]
  rfl
theorem md_w20 {ρ : Val} (hf : ρ.fn = fnB rods grow) : (mdW 2 0).den ρ = fnB rods grow 122 (((0 : Nat) : Int) :: (stL2 rods grow)) := by
  simp only [mdR, mdG, mdL, mdU, mdW, mdN, List.range, List.range.loop, List.flatMap_cons, List.flatMap_nil, List.cons_append, List.nil_append, List.append_nil, List.map_cons, List.map_nil, Nat.beq, cond_true, cond_false, ap, X.den_app, X.sem_cons, X.sem_nil, X.den_ite, X.denB_lit0, X.denB_app, lit, X.den_lit, apl_den, hf]
  rfl
include hM in
theorem st_vc20 {T : Tpl} {M : Nat → Nat} (hids : T.ids = [10, 11]) (c0 c1 c2 c3 : X) (h : PreN xs) : StVc T (stB 2 0 [c0, c1, c2, c3]) (valX (fnB rods grow) xs) M := by
  have oo : 1 ≤ (9000 : Int) ∧ (9000 : Int) ≤ 100000 := by decide
  have hn := ln_st2 (rods := rods) (grow := grow) hM
  have F := st_fact (rods := rods) (grow := grow) (k := 0) (l := stL2 rods grow) (9000) rfl (rd_st2 hM) (by simp [stL2]) (by simp [stL2]) (by simp [stL2]) oo.1 oo.2 hn.1 hn.2
  have wv := clM F.1.2.2.1 F.1.2.2.2
  refine stB_vc (fn := fnB rods grow) (E := effB rods grow 0 (stL2 rods grow)) (N := fun y => clampM 400000 (blLen (blSet 0 y (stL2 rods grow)))) (W := fnB rods grow 122 (((0 : Nat) : Int) :: (stL2 rods grow))) (fun ρ hf x => mdE_den hf (md_l20 hf) x) (fun ρ hf => md_w20 hf) ?hK ?wm rfl hids ?w0 ⟨F.1.1, F.1.2.1, wv.1, wv.2⟩ ?hF
  case hK =>
    intro ρ hf x
    have e := md_n20 hf x
    have a0 : 1 ≤ fnB rods grow 115 [((0 : Nat) : Int)] ∧ fnB rods grow 115 [((0 : Nat) : Int)] ≤ 4000 := hM 115 [((0 : Nat) : Int)]
    simp only [mdK, mdB, List.range, List.range.loop, List.map_cons, List.map_nil, List.foldr, Nat.beq, cond_true, cond_false, lnB, an, le, X.denB_and, X.dB_le, X.denB_lit1, Bool.and_eq_true, leB_t, ap, X.den_app, X.sem_cons, X.sem_nil, lit, X.den_lit, e, hf, true_and]
    omega
  case wm =>
    intro x a b c d
    have z := clM' c d
    exact F.2 x a b z.1 z.2
  case w0 =>
    have := f_ord (rods := rods) (grow := grow) (l := blSet 0 (fnB rods grow 122 (((0 : Nat) : Int) :: (stL2 rods grow))) (stL2 rods grow))
    unfold effB
    omega
  case hF =>
    intro σ hf h3
    have e := md_n20 hf (mdW 2 0)
    rw [md_w20 hf] at e
    have h3 : σ.v 3 = xs.getD 3 0 := h3
    exact fin_ok hf (md_l20 hf) (by rw [e]; exact wv.1) (by rw [e]; exact wv.2) (by rw [h3]; exact h.p3) (by rw [h3]; exact h.q3)
theorem md_l21 {ρ : Val} (hf : ρ.fn = fnB rods grow) (x : X) : (mdR 2 1 x).map (X.den ρ) = blSet 1 (x.den ρ) (stL2 rods grow) := by
  simp only [mdR, mdG, mdL, mdU, mdW, mdN, List.range, List.range.loop, List.flatMap_cons, List.flatMap_nil, List.cons_append, List.nil_append, List.append_nil, List.map_cons, List.map_nil, Nat.beq, cond_true, cond_false, ap, X.den_app, X.sem_cons, X.sem_nil, X.den_ite, X.denB_lit0, X.denB_app, lit, X.den_lit, apl_den, hf]
  rfl
theorem md_n21 {ρ : Val} (hf : ρ.fn = fnB rods grow) (x : X) : (mdN 2 1 x).den ρ = clampM 400000 (blLen (blSet 1 (x.den ρ) (stL2 rods grow))) := by
  rw [← lens_ln, ← f73 (rods := rods) (grow := grow)]
  simp only [mdR, mdG, mdL, mdU, mdW, mdN, List.range, List.range.loop, List.flatMap_cons, List.flatMap_nil, List.cons_append, List.nil_append, List.append_nil, List.map_cons, List.map_nil, Nat.beq, cond_true, cond_false, ap, X.den_app, X.sem_cons, X.sem_nil, X.den_ite, X.denB_lit0, X.denB_app, lit, X.den_lit, apl_den, hf]
  rfl
theorem md_w21 {ρ : Val} (hf : ρ.fn = fnB rods grow) : (mdW 2 1).den ρ = fnB rods grow 122 (((1 : Nat) : Int) :: (stL2 rods grow)) := by
  simp only [mdR, mdG, mdL, mdU, mdW, mdN, List.range, List.range.loop, List.flatMap_cons, List.flatMap_nil, List.cons_append, List.nil_append, List.append_nil, List.map_cons, List.map_nil, Nat.beq, cond_true, cond_false, ap, X.den_app, X.sem_cons, X.sem_nil, X.den_ite, X.denB_lit0, X.denB_app, lit, X.den_lit, apl_den, hf]
  rfl
include hM in
theorem st_vc21 {T : Tpl} {M : Nat → Nat} (hids : T.ids = [10, 11]) (c0 c1 c2 c3 : X) (h : PreN xs) : StVc T (stB 2 1 [c0, c1, c2, c3]) (valX (fnB rods grow) xs) M := by
  have oo : 1 ≤ (fnB rods grow 115 [0] : Int) ∧ (fnB rods grow 115 [0] : Int) ≤ 100000 := by have this : 1 ≤ fnB rods grow 115 [0] ∧ fnB rods grow 115 [0] ≤ 4000 := hM 115 [0]; omega
  have hn := ln_st2 (rods := rods) (grow := grow) hM
  have F := st_fact (rods := rods) (grow := grow) (k := 1) (l := stL2 rods grow) (fnB rods grow 115 [0]) rfl (rd_st2 hM) (by simp [stL2]) (by simp [stL2]) (by simp [stL2]) oo.1 oo.2 hn.1 hn.2
  have wv := clM F.1.2.2.1 F.1.2.2.2
  refine stB_vc (fn := fnB rods grow) (E := effB rods grow 1 (stL2 rods grow)) (N := fun y => clampM 400000 (blLen (blSet 1 y (stL2 rods grow)))) (W := fnB rods grow 122 (((1 : Nat) : Int) :: (stL2 rods grow))) (fun ρ hf x => mdE_den hf (md_l21 hf) x) (fun ρ hf => md_w21 hf) ?hK ?wm rfl hids ?w0 ⟨F.1.1, F.1.2.1, wv.1, wv.2⟩ ?hF
  case hK =>
    intro ρ hf x
    have e := md_n21 hf x
    have a0 : 1 ≤ fnB rods grow 115 [((0 : Nat) : Int)] ∧ fnB rods grow 115 [((0 : Nat) : Int)] ≤ 4000 := hM 115 [((0 : Nat) : Int)]
    simp only [mdK, mdB, List.range, List.range.loop, List.map_cons, List.map_nil, List.foldr, Nat.beq, cond_true, cond_false, lnB, an, le, X.denB_and, X.dB_le, X.denB_lit1, Bool.and_eq_true, leB_t, ap, X.den_app, X.sem_cons, X.sem_nil, lit, X.den_lit, e, hf, true_and]
    omega
  case wm =>
    intro x a b c d
    have z := clM' c d
    exact F.2 x a b z.1 z.2
  case w0 =>
    have := f_ord (rods := rods) (grow := grow) (l := blSet 1 (fnB rods grow 122 (((1 : Nat) : Int) :: (stL2 rods grow))) (stL2 rods grow))
    unfold effB
    omega
  case hF =>
    intro σ hf h3
    have e := md_n21 hf (mdW 2 1)
    rw [md_w21 hf] at e
    have h3 : σ.v 3 = xs.getD 3 0 := h3
    exact fin_ok hf (md_l21 hf) (by rw [e]; exact wv.1) (by rw [e]; exact wv.2) (by rw [h3]; exact h.p3) (by rw [h3]; exact h.q3)
include hM in
theorem st_all20 (h : PreN xs) : StVc (tpN 2 0) (stT 2 0) (valX (fnB rods grow) xs) (fun _ => 0) :=
  ⟨⟨le_den (ka h.p4 h.p5), le_den (kd h.p6 h.q6 h.p7 h.q7), le_den (ln2 hM).1, le_den (ln2 hM).2, imp_t fun z => le_den (kk2 h.p2 h.p6 h.q6 (eq_t.1 z)),
    imp_t fun z => (have y := kk3 h.p2 h.p6 h.q6 h.p7 h.q7 (eq_t.1 z); and_t (eq_t.2 y.1) (eq_t.2 y.2)), le_den (kg hM [0]), trivial⟩, st_vc20 hM rfl _ _ _ _ h⟩
include hM in
theorem st_all21 (h : PreN xs) : StVc (tpN 2 1) (stT 2 1) (valX (fnB rods grow) xs) (fun _ => 0) :=
  ⟨⟨le_den (ka h.p4 h.p5), le_den (kd h.p6 h.q6 h.p7 h.q7), le_den (ln2 hM).1, le_den (ln2 hM).2, imp_t fun z => le_den (kk2 h.p2 h.p6 h.q6 (eq_t.1 z)),
    imp_t fun z => (have y := kk3 h.p2 h.p6 h.q6 h.p7 h.q7 (eq_t.1 z); and_t (eq_t.2 y.1) (eq_t.2 y.2)), le_den (kg hM [0]), trivial⟩, st_vc21 hM rfl _ _ _ _ h⟩
def stL3 (rods : List Rod) (grow : List Int) : List Int := [1100, 1150, 9000, 0, fnB rods grow 116 [0], fnB rods grow 117 [0], fnB rods grow 115 [0], bif i2b (fnB rods grow 118 [0]) then 1 else 0, fnB rods grow 116 [1], fnB rods grow 117 [1], fnB rods grow 115 [1], bif i2b (fnB rods grow 118 [1]) then 1 else 0]
include hM in
theorem rd_st3 : RdL (stL3 rods grow) := by
  have a0 : 1 ≤ fnB rods grow 115 [0] ∧ fnB rods grow 115 [0] ≤ 4000 := hM 115 [0]
  have b0 : 0 ≤ fnB rods grow 116 [0] ∧ fnB rods grow 116 [0] ≤ 5100 := hM 116 [0]
  have c0 : 0 ≤ fnB rods grow 117 [0] ∧ fnB rods grow 117 [0] ≤ 5865 := hM 117 [0]
  have d0 := kg hM [0]
  have a1 : 1 ≤ fnB rods grow 115 [1] ∧ fnB rods grow 115 [1] ≤ 4000 := hM 115 [1]
  have b1 : 0 ≤ fnB rods grow 116 [1] ∧ fnB rods grow 116 [1] ≤ 5100 := hM 116 [1]
  have c1 : 0 ≤ fnB rods grow 117 [1] ∧ fnB rods grow 117 [1] ≤ 5865 := hM 117 [1]
  have d1 := kg hM [1]
  unfold stL3
  simp only [RdL, and_true]
  omega
include hM in
theorem ln_st3 : 100 ≤ blLen (stL3 rods grow) ∧ blLen (stL3 rods grow) ≤ 100000 := by
  have h : 100 ≤ fnB rods grow 73 (lensL (stL3 rods grow)) ∧ fnB rods grow 73 (lensL (stL3 rods grow)) ≤ 100000 := ln3 hM
  rw [f73, lens_ln] at h
  exact clM' h.1 h.2
theorem md_l30 {ρ : Val} (hf : ρ.fn = fnB rods grow) (x : X) : (mdR 3 0 x).map (X.den ρ) = blSet 0 (x.den ρ) (stL3 rods grow) := by
  simp only [mdR, mdG, mdL, mdU, mdW, mdN, List.range, List.range.loop, List.flatMap_cons, List.flatMap_nil, List.cons_append, List.nil_append, List.append_nil, List.map_cons, List.map_nil, Nat.beq, cond_true, cond_false, ap, X.den_app, X.sem_cons, X.sem_nil, X.den_ite, X.denB_lit0, X.denB_app, lit, X.den_lit, apl_den, hf]
  rfl
theorem md_n30 {ρ : Val} (hf : ρ.fn = fnB rods grow) (x : X) : (mdN 3 0 x).den ρ = clampM 400000 (blLen (blSet 0 (x.den ρ) (stL3 rods grow))) := by
  rw [← lens_ln, ← f73 (rods := rods) (grow := grow)]
  simp only [mdR, mdG, mdL, mdU, mdW, mdN, List.range, List.range.loop, List.flatMap_cons, List.flatMap_nil, List.cons_append, List.nil_append, List.append_nil, List.map_cons, List.map_nil, Nat.beq, cond_true, cond_false, ap, X.den_app, X.sem_cons, X.sem_nil, X.den_ite, X.denB_lit0, X.denB_app, lit, X.den_lit, apl_den, hf]
  rfl
theorem md_w30 {ρ : Val} (hf : ρ.fn = fnB rods grow) : (mdW 3 0).den ρ = fnB rods grow 122 (((0 : Nat) : Int) :: (stL3 rods grow)) := by
  simp only [mdR, mdG, mdL, mdU, mdW, mdN, List.range, List.range.loop, List.flatMap_cons, List.flatMap_nil, List.cons_append, List.nil_append, List.append_nil, List.map_cons, List.map_nil, Nat.beq, cond_true, cond_false, ap, X.den_app, X.sem_cons, X.sem_nil, X.den_ite, X.denB_lit0, X.denB_app, lit, X.den_lit, apl_den, hf]
  rfl
include hM in
theorem st_vc30 {T : Tpl} {M : Nat → Nat} (hids : T.ids = [10, 11]) (c0 c1 c2 c3 : X) (h : PreN xs) : StVc T (stB 3 0 [c0, c1, c2, c3]) (valX (fnB rods grow) xs) M := by
  have oo : 1 ≤ (9000 : Int) ∧ (9000 : Int) ≤ 100000 := by decide
  have hn := ln_st3 (rods := rods) (grow := grow) hM
  have F := st_fact (rods := rods) (grow := grow) (k := 0) (l := stL3 rods grow) (9000) rfl (rd_st3 hM) (by simp [stL3]) (by simp [stL3]) (by simp [stL3]) oo.1 oo.2 hn.1 hn.2
  have wv := clM F.1.2.2.1 F.1.2.2.2
  refine stB_vc (fn := fnB rods grow) (E := effB rods grow 0 (stL3 rods grow)) (N := fun y => clampM 400000 (blLen (blSet 0 y (stL3 rods grow)))) (W := fnB rods grow 122 (((0 : Nat) : Int) :: (stL3 rods grow))) (fun ρ hf x => mdE_den hf (md_l30 hf) x) (fun ρ hf => md_w30 hf) ?hK ?wm rfl hids ?w0 ⟨F.1.1, F.1.2.1, wv.1, wv.2⟩ ?hF
  case hK =>
    intro ρ hf x
    have e := md_n30 hf x
    have a0 : 1 ≤ fnB rods grow 115 [((0 : Nat) : Int)] ∧ fnB rods grow 115 [((0 : Nat) : Int)] ≤ 4000 := hM 115 [((0 : Nat) : Int)]
    have a1 : 1 ≤ fnB rods grow 115 [((1 : Nat) : Int)] ∧ fnB rods grow 115 [((1 : Nat) : Int)] ≤ 4000 := hM 115 [((1 : Nat) : Int)]
    simp only [mdK, mdB, List.range, List.range.loop, List.map_cons, List.map_nil, List.foldr, Nat.beq, cond_true, cond_false, lnB, an, le, X.denB_and, X.dB_le, X.denB_lit1, Bool.and_eq_true, leB_t, ap, X.den_app, X.sem_cons, X.sem_nil, lit, X.den_lit, e, hf, true_and]
    omega
  case wm =>
    intro x a b c d
    have z := clM' c d
    exact F.2 x a b z.1 z.2
  case w0 =>
    have := f_ord (rods := rods) (grow := grow) (l := blSet 0 (fnB rods grow 122 (((0 : Nat) : Int) :: (stL3 rods grow))) (stL3 rods grow))
    unfold effB
    omega
  case hF =>
    intro σ hf h3
    have e := md_n30 hf (mdW 3 0)
    rw [md_w30 hf] at e
    have h3 : σ.v 3 = xs.getD 3 0 := h3
    exact fin_ok hf (md_l30 hf) (by rw [e]; exact wv.1) (by rw [e]; exact wv.2) (by rw [h3]; exact h.p3) (by rw [h3]; exact h.q3)
theorem md_l31 {ρ : Val} (hf : ρ.fn = fnB rods grow) (x : X) : (mdR 3 1 x).map (X.den ρ) = blSet 1 (x.den ρ) (stL3 rods grow) := by
  simp only [mdR, mdG, mdL, mdU, mdW, mdN, List.range, List.range.loop, List.flatMap_cons, List.flatMap_nil, List.cons_append, List.nil_append, List.append_nil, List.map_cons, List.map_nil, Nat.beq, cond_true, cond_false, ap, X.den_app, X.sem_cons, X.sem_nil, X.den_ite, X.denB_lit0, X.denB_app, lit, X.den_lit, apl_den, hf]
  rfl
theorem md_n31 {ρ : Val} (hf : ρ.fn = fnB rods grow) (x : X) : (mdN 3 1 x).den ρ = clampM 400000 (blLen (blSet 1 (x.den ρ) (stL3 rods grow))) := by
  rw [← lens_ln, ← f73 (rods := rods) (grow := grow)]
  simp only [mdR, mdG, mdL, mdU, mdW, mdN, List.range, List.range.loop, List.flatMap_cons, List.flatMap_nil, List.cons_append, List.nil_append, List.append_nil, List.map_cons, List.map_nil, Nat.beq, cond_true, cond_false, ap, X.den_app, X.sem_cons, X.sem_nil, X.den_ite, X.denB_lit0, X.denB_app, lit, X.den_lit, apl_den, hf]
  rfl
theorem md_w31 {ρ : Val} (hf : ρ.fn = fnB rods grow) : (mdW 3 1).den ρ = fnB rods grow 122 (((1 : Nat) : Int) :: (stL3 rods grow)) := by
  simp only [mdR, mdG, mdL, mdU, mdW, mdN, List.range, List.range.loop, List.flatMap_cons, List.flatMap_nil, List.cons_append, List.nil_append, List.append_nil, List.map_cons, List.map_nil, Nat.beq, cond_true, cond_false, ap, X.den_app, X.sem_cons, X.sem_nil, X.den_ite, X.denB_lit0, X.denB_app, lit, X.den_lit, apl_den, hf]
  rfl
include hM in
theorem st_vc31 {T : Tpl} {M : Nat → Nat} (hids : T.ids = [10, 11]) (c0 c1 c2 c3 : X) (h : PreN xs) : StVc T (stB 3 1 [c0, c1, c2, c3]) (valX (fnB rods grow) xs) M := by
  have oo : 1 ≤ (fnB rods grow 115 [0] : Int) ∧ (fnB rods grow 115 [0] : Int) ≤ 100000 := by have this : 1 ≤ fnB rods grow 115 [0] ∧ fnB rods grow 115 [0] ≤ 4000 := hM 115 [0]; omega
  have hn := ln_st3 (rods := rods) (grow := grow) hM
  have F := st_fact (rods := rods) (grow := grow) (k := 1) (l := stL3 rods grow) (fnB rods grow 115 [0]) rfl (rd_st3 hM) (by simp [stL3]) (by simp [stL3]) (by simp [stL3]) oo.1 oo.2 hn.1 hn.2
  have wv := clM F.1.2.2.1 F.1.2.2.2
  refine stB_vc (fn := fnB rods grow) (E := effB rods grow 1 (stL3 rods grow)) (N := fun y => clampM 400000 (blLen (blSet 1 y (stL3 rods grow)))) (W := fnB rods grow 122 (((1 : Nat) : Int) :: (stL3 rods grow))) (fun ρ hf x => mdE_den hf (md_l31 hf) x) (fun ρ hf => md_w31 hf) ?hK ?wm rfl hids ?w0 ⟨F.1.1, F.1.2.1, wv.1, wv.2⟩ ?hF
  case hK =>
    intro ρ hf x
    have e := md_n31 hf x
    have a0 : 1 ≤ fnB rods grow 115 [((0 : Nat) : Int)] ∧ fnB rods grow 115 [((0 : Nat) : Int)] ≤ 4000 := hM 115 [((0 : Nat) : Int)]
    have a1 : 1 ≤ fnB rods grow 115 [((1 : Nat) : Int)] ∧ fnB rods grow 115 [((1 : Nat) : Int)] ≤ 4000 := hM 115 [((1 : Nat) : Int)]
    simp only [mdK, mdB, List.range, List.range.loop, List.map_cons, List.map_nil, List.foldr, Nat.beq, cond_true, cond_false, lnB, an, le, X.denB_and, X.dB_le, X.denB_lit1, Bool.and_eq_true, leB_t, ap, X.den_app, X.sem_cons, X.sem_nil, lit, X.den_lit, e, hf, true_and]
    omega
  case wm =>
    intro x a b c d
    have z := clM' c d
    exact F.2 x a b z.1 z.2
  case w0 =>
    have := f_ord (rods := rods) (grow := grow) (l := blSet 1 (fnB rods grow 122 (((1 : Nat) : Int) :: (stL3 rods grow))) (stL3 rods grow))
    unfold effB
    omega
  case hF =>
    intro σ hf h3
    have e := md_n31 hf (mdW 3 1)
    rw [md_w31 hf] at e
    have h3 : σ.v 3 = xs.getD 3 0 := h3
    exact fin_ok hf (md_l31 hf) (by rw [e]; exact wv.1) (by rw [e]; exact wv.2) (by rw [h3]; exact h.p3) (by rw [h3]; exact h.q3)
theorem md_l32 {ρ : Val} (hf : ρ.fn = fnB rods grow) (x : X) : (mdR 3 2 x).map (X.den ρ) = blSet 2 (x.den ρ) (stL3 rods grow) := by
  simp only [mdR, mdG, mdL, mdU, mdW, mdN, List.range, List.range.loop, List.flatMap_cons, List.flatMap_nil, List.cons_append, List.nil_append, List.append_nil, List.map_cons, List.map_nil, Nat.beq, cond_true, cond_false, ap, X.den_app, X.sem_cons, X.sem_nil, X.den_ite, X.denB_lit0, X.denB_app, lit, X.den_lit, apl_den, hf]
  rfl
theorem md_n32 {ρ : Val} (hf : ρ.fn = fnB rods grow) (x : X) : (mdN 3 2 x).den ρ = clampM 400000 (blLen (blSet 2 (x.den ρ) (stL3 rods grow))) := by
  rw [← lens_ln, ← f73 (rods := rods) (grow := grow)]
  simp only [mdR, mdG, mdL, mdU, mdW, mdN, List.range, List.range.loop, List.flatMap_cons, List.flatMap_nil, List.cons_append, List.nil_append, List.append_nil, List.map_cons, List.map_nil, Nat.beq, cond_true, cond_false, ap, X.den_app, X.sem_cons, X.sem_nil, X.den_ite, X.denB_lit0, X.denB_app, lit, X.den_lit, apl_den, hf]
  rfl
theorem md_w32 {ρ : Val} (hf : ρ.fn = fnB rods grow) : (mdW 3 2).den ρ = fnB rods grow 122 (((2 : Nat) : Int) :: (stL3 rods grow)) := by
  simp only [mdR, mdG, mdL, mdU, mdW, mdN, List.range, List.range.loop, List.flatMap_cons, List.flatMap_nil, List.cons_append, List.nil_append, List.append_nil, List.map_cons, List.map_nil, Nat.beq, cond_true, cond_false, ap, X.den_app, X.sem_cons, X.sem_nil, X.den_ite, X.denB_lit0, X.denB_app, lit, X.den_lit, apl_den, hf]
  rfl
include hM in
theorem st_vc32 {T : Tpl} {M : Nat → Nat} (hids : T.ids = [10, 11]) (c0 c1 c2 c3 : X) (h : PreN xs) : StVc T (stB 3 2 [c0, c1, c2, c3]) (valX (fnB rods grow) xs) M := by
  have oo : 1 ≤ (fnB rods grow 115 [1] : Int) ∧ (fnB rods grow 115 [1] : Int) ≤ 100000 := by have this : 1 ≤ fnB rods grow 115 [1] ∧ fnB rods grow 115 [1] ≤ 4000 := hM 115 [1]; omega
  have hn := ln_st3 (rods := rods) (grow := grow) hM
  have F := st_fact (rods := rods) (grow := grow) (k := 2) (l := stL3 rods grow) (fnB rods grow 115 [1]) rfl (rd_st3 hM) (by simp [stL3]) (by simp [stL3]) (by simp [stL3]) oo.1 oo.2 hn.1 hn.2
  have wv := clM F.1.2.2.1 F.1.2.2.2
  refine stB_vc (fn := fnB rods grow) (E := effB rods grow 2 (stL3 rods grow)) (N := fun y => clampM 400000 (blLen (blSet 2 y (stL3 rods grow)))) (W := fnB rods grow 122 (((2 : Nat) : Int) :: (stL3 rods grow))) (fun ρ hf x => mdE_den hf (md_l32 hf) x) (fun ρ hf => md_w32 hf) ?hK ?wm rfl hids ?w0 ⟨F.1.1, F.1.2.1, wv.1, wv.2⟩ ?hF
  case hK =>
    intro ρ hf x
    have e := md_n32 hf x
    have a0 : 1 ≤ fnB rods grow 115 [((0 : Nat) : Int)] ∧ fnB rods grow 115 [((0 : Nat) : Int)] ≤ 4000 := hM 115 [((0 : Nat) : Int)]
    have a1 : 1 ≤ fnB rods grow 115 [((1 : Nat) : Int)] ∧ fnB rods grow 115 [((1 : Nat) : Int)] ≤ 4000 := hM 115 [((1 : Nat) : Int)]
    simp only [mdK, mdB, List.range, List.range.loop, List.map_cons, List.map_nil, List.foldr, Nat.beq, cond_true, cond_false, lnB, an, le, X.denB_and, X.dB_le, X.denB_lit1, Bool.and_eq_true, leB_t, ap, X.den_app, X.sem_cons, X.sem_nil, lit, X.den_lit, e, hf, true_and]
    omega
  case wm =>
    intro x a b c d
    have z := clM' c d
    exact F.2 x a b z.1 z.2
  case w0 =>
    have := f_ord (rods := rods) (grow := grow) (l := blSet 2 (fnB rods grow 122 (((2 : Nat) : Int) :: (stL3 rods grow))) (stL3 rods grow))
    unfold effB
    omega
  case hF =>
    intro σ hf h3
    have e := md_n32 hf (mdW 3 2)
    rw [md_w32 hf] at e
    have h3 : σ.v 3 = xs.getD 3 0 := h3
    exact fin_ok hf (md_l32 hf) (by rw [e]; exact wv.1) (by rw [e]; exact wv.2) (by rw [h3]; exact h.p3) (by rw [h3]; exact h.q3)
include hM in
theorem st_all30 (h : PreN xs) : StVc (tpN 3 0) (stT 3 0) (valX (fnB rods grow) xs) (fun _ => 0) :=
  ⟨⟨le_den (ka h.p4 h.p5), le_den (kd h.p6 h.q6 h.p7 h.q7), le_den (ln3 hM).1, le_den (ln3 hM).2, imp_t fun z => le_den (kk2 h.p2 h.p6 h.q6 (eq_t.1 z)),
    imp_t fun z => (have y := kk3 h.p2 h.p6 h.q6 h.p7 h.q7 (eq_t.1 z); and_t (eq_t.2 y.1) (eq_t.2 y.2)), le_den (kg hM [0]), le_den (kg hM [1]), trivial⟩, st_vc30 hM rfl _ _ _ _ h⟩
include hM in
theorem st_all31 (h : PreN xs) : StVc (tpN 3 1) (stT 3 1) (valX (fnB rods grow) xs) (fun _ => 0) :=
  ⟨⟨le_den (ka h.p4 h.p5), le_den (kd h.p6 h.q6 h.p7 h.q7), le_den (ln3 hM).1, le_den (ln3 hM).2, imp_t fun z => le_den (kk2 h.p2 h.p6 h.q6 (eq_t.1 z)),
    imp_t fun z => (have y := kk3 h.p2 h.p6 h.q6 h.p7 h.q7 (eq_t.1 z); and_t (eq_t.2 y.1) (eq_t.2 y.2)), le_den (kg hM [0]), le_den (kg hM [1]), trivial⟩, st_vc31 hM rfl _ _ _ _ h⟩
include hM in
theorem st_all32 (h : PreN xs) : StVc (tpN 3 2) (stT 3 2) (valX (fnB rods grow) xs) (fun _ => 0) :=
  ⟨⟨le_den (ka h.p4 h.p5), le_den (kd h.p6 h.q6 h.p7 h.q7), le_den (ln3 hM).1, le_den (ln3 hM).2, imp_t fun z => le_den (kk2 h.p2 h.p6 h.q6 (eq_t.1 z)),
    imp_t fun z => (have y := kk3 h.p2 h.p6 h.q6 h.p7 h.q7 (eq_t.1 z); and_t (eq_t.2 y.1) (eq_t.2 y.2)), le_den (kg hM [0]), le_den (kg hM [1]), trivial⟩, st_vc32 hM rfl _ _ _ _ h⟩
def stL4 (rods : List Rod) (grow : List Int) : List Int := [1100, 1150, 9000, 0, fnB rods grow 116 [0], fnB rods grow 117 [0], fnB rods grow 115 [0], bif i2b (fnB rods grow 118 [0]) then 1 else 0, fnB rods grow 116 [1], fnB rods grow 117 [1], fnB rods grow 115 [1], bif i2b (fnB rods grow 118 [1]) then 1 else 0, fnB rods grow 116 [2], fnB rods grow 117 [2], fnB rods grow 115 [2], bif i2b (fnB rods grow 118 [2]) then 1 else 0]
include hM in
theorem rd_st4 : RdL (stL4 rods grow) := by
  have a0 : 1 ≤ fnB rods grow 115 [0] ∧ fnB rods grow 115 [0] ≤ 4000 := hM 115 [0]
  have b0 : 0 ≤ fnB rods grow 116 [0] ∧ fnB rods grow 116 [0] ≤ 5100 := hM 116 [0]
  have c0 : 0 ≤ fnB rods grow 117 [0] ∧ fnB rods grow 117 [0] ≤ 5865 := hM 117 [0]
  have d0 := kg hM [0]
  have a1 : 1 ≤ fnB rods grow 115 [1] ∧ fnB rods grow 115 [1] ≤ 4000 := hM 115 [1]
  have b1 : 0 ≤ fnB rods grow 116 [1] ∧ fnB rods grow 116 [1] ≤ 5100 := hM 116 [1]
  have c1 : 0 ≤ fnB rods grow 117 [1] ∧ fnB rods grow 117 [1] ≤ 5865 := hM 117 [1]
  have d1 := kg hM [1]
  have a2 : 1 ≤ fnB rods grow 115 [2] ∧ fnB rods grow 115 [2] ≤ 4000 := hM 115 [2]
  have b2 : 0 ≤ fnB rods grow 116 [2] ∧ fnB rods grow 116 [2] ≤ 5100 := hM 116 [2]
  have c2 : 0 ≤ fnB rods grow 117 [2] ∧ fnB rods grow 117 [2] ≤ 5865 := hM 117 [2]
  have d2 := kg hM [2]
  unfold stL4
  simp only [RdL, and_true]
  omega
include hM in
theorem ln_st4 : 100 ≤ blLen (stL4 rods grow) ∧ blLen (stL4 rods grow) ≤ 100000 := by
  have h : 100 ≤ fnB rods grow 73 (lensL (stL4 rods grow)) ∧ fnB rods grow 73 (lensL (stL4 rods grow)) ≤ 100000 := ln4 hM
  rw [f73, lens_ln] at h
  exact clM' h.1 h.2
theorem md_l40 {ρ : Val} (hf : ρ.fn = fnB rods grow) (x : X) : (mdR 4 0 x).map (X.den ρ) = blSet 0 (x.den ρ) (stL4 rods grow) := by
  simp only [mdR, mdG, mdL, mdU, mdW, mdN, List.range, List.range.loop, List.flatMap_cons, List.flatMap_nil, List.cons_append, List.nil_append, List.append_nil, List.map_cons, List.map_nil, Nat.beq, cond_true, cond_false, ap, X.den_app, X.sem_cons, X.sem_nil, X.den_ite, X.denB_lit0, X.denB_app, lit, X.den_lit, apl_den, hf]
  rfl
theorem md_n40 {ρ : Val} (hf : ρ.fn = fnB rods grow) (x : X) : (mdN 4 0 x).den ρ = clampM 400000 (blLen (blSet 0 (x.den ρ) (stL4 rods grow))) := by
  rw [← lens_ln, ← f73 (rods := rods) (grow := grow)]
  simp only [mdR, mdG, mdL, mdU, mdW, mdN, List.range, List.range.loop, List.flatMap_cons, List.flatMap_nil, List.cons_append, List.nil_append, List.append_nil, List.map_cons, List.map_nil, Nat.beq, cond_true, cond_false, ap, X.den_app, X.sem_cons, X.sem_nil, X.den_ite, X.denB_lit0, X.denB_app, lit, X.den_lit, apl_den, hf]
  rfl
theorem md_w40 {ρ : Val} (hf : ρ.fn = fnB rods grow) : (mdW 4 0).den ρ = fnB rods grow 122 (((0 : Nat) : Int) :: (stL4 rods grow)) := by
  simp only [mdR, mdG, mdL, mdU, mdW, mdN, List.range, List.range.loop, List.flatMap_cons, List.flatMap_nil, List.cons_append, List.nil_append, List.append_nil, List.map_cons, List.map_nil, Nat.beq, cond_true, cond_false, ap, X.den_app, X.sem_cons, X.sem_nil, X.den_ite, X.denB_lit0, X.denB_app, lit, X.den_lit, apl_den, hf]
  rfl
include hM in
theorem st_vc40 {T : Tpl} {M : Nat → Nat} (hids : T.ids = [10, 11]) (c0 c1 c2 c3 : X) (h : PreN xs) : StVc T (stB 4 0 [c0, c1, c2, c3]) (valX (fnB rods grow) xs) M := by
  have oo : 1 ≤ (9000 : Int) ∧ (9000 : Int) ≤ 100000 := by decide
  have hn := ln_st4 (rods := rods) (grow := grow) hM
  have F := st_fact (rods := rods) (grow := grow) (k := 0) (l := stL4 rods grow) (9000) rfl (rd_st4 hM) (by simp [stL4]) (by simp [stL4]) (by simp [stL4]) oo.1 oo.2 hn.1 hn.2
  have wv := clM F.1.2.2.1 F.1.2.2.2
  refine stB_vc (fn := fnB rods grow) (E := effB rods grow 0 (stL4 rods grow)) (N := fun y => clampM 400000 (blLen (blSet 0 y (stL4 rods grow)))) (W := fnB rods grow 122 (((0 : Nat) : Int) :: (stL4 rods grow))) (fun ρ hf x => mdE_den hf (md_l40 hf) x) (fun ρ hf => md_w40 hf) ?hK ?wm rfl hids ?w0 ⟨F.1.1, F.1.2.1, wv.1, wv.2⟩ ?hF
  case hK =>
    intro ρ hf x
    have e := md_n40 hf x
    have a0 : 1 ≤ fnB rods grow 115 [((0 : Nat) : Int)] ∧ fnB rods grow 115 [((0 : Nat) : Int)] ≤ 4000 := hM 115 [((0 : Nat) : Int)]
    have a1 : 1 ≤ fnB rods grow 115 [((1 : Nat) : Int)] ∧ fnB rods grow 115 [((1 : Nat) : Int)] ≤ 4000 := hM 115 [((1 : Nat) : Int)]
    have a2 : 1 ≤ fnB rods grow 115 [((2 : Nat) : Int)] ∧ fnB rods grow 115 [((2 : Nat) : Int)] ≤ 4000 := hM 115 [((2 : Nat) : Int)]
    simp only [mdK, mdB, List.range, List.range.loop, List.map_cons, List.map_nil, List.foldr, Nat.beq, cond_true, cond_false, lnB, an, le, X.denB_and, X.dB_le, X.denB_lit1, Bool.and_eq_true, leB_t, ap, X.den_app, X.sem_cons, X.sem_nil, lit, X.den_lit, e, hf, true_and]
    omega
  case wm =>
    intro x a b c d
    have z := clM' c d
    exact F.2 x a b z.1 z.2
  case w0 =>
    have := f_ord (rods := rods) (grow := grow) (l := blSet 0 (fnB rods grow 122 (((0 : Nat) : Int) :: (stL4 rods grow))) (stL4 rods grow))
    unfold effB
    omega
  case hF =>
    intro σ hf h3
    have e := md_n40 hf (mdW 4 0)
    rw [md_w40 hf] at e
    have h3 : σ.v 3 = xs.getD 3 0 := h3
    exact fin_ok hf (md_l40 hf) (by rw [e]; exact wv.1) (by rw [e]; exact wv.2) (by rw [h3]; exact h.p3) (by rw [h3]; exact h.q3)
theorem md_l41 {ρ : Val} (hf : ρ.fn = fnB rods grow) (x : X) : (mdR 4 1 x).map (X.den ρ) = blSet 1 (x.den ρ) (stL4 rods grow) := by
  simp only [mdR, mdG, mdL, mdU, mdW, mdN, List.range, List.range.loop, List.flatMap_cons, List.flatMap_nil, List.cons_append, List.nil_append, List.append_nil, List.map_cons, List.map_nil, Nat.beq, cond_true, cond_false, ap, X.den_app, X.sem_cons, X.sem_nil, X.den_ite, X.denB_lit0, X.denB_app, lit, X.den_lit, apl_den, hf]
  rfl
theorem md_n41 {ρ : Val} (hf : ρ.fn = fnB rods grow) (x : X) : (mdN 4 1 x).den ρ = clampM 400000 (blLen (blSet 1 (x.den ρ) (stL4 rods grow))) := by
  rw [← lens_ln, ← f73 (rods := rods) (grow := grow)]
  simp only [mdR, mdG, mdL, mdU, mdW, mdN, List.range, List.range.loop, List.flatMap_cons, List.flatMap_nil, List.cons_append, List.nil_append, List.append_nil, List.map_cons, List.map_nil, Nat.beq, cond_true, cond_false, ap, X.den_app, X.sem_cons, X.sem_nil, X.den_ite, X.denB_lit0, X.denB_app, lit, X.den_lit, apl_den, hf]
  rfl
theorem md_w41 {ρ : Val} (hf : ρ.fn = fnB rods grow) : (mdW 4 1).den ρ = fnB rods grow 122 (((1 : Nat) : Int) :: (stL4 rods grow)) := by
  simp only [mdR, mdG, mdL, mdU, mdW, mdN, List.range, List.range.loop, List.flatMap_cons, List.flatMap_nil, List.cons_append, List.nil_append, List.append_nil, List.map_cons, List.map_nil, Nat.beq, cond_true, cond_false, ap, X.den_app, X.sem_cons, X.sem_nil, X.den_ite, X.denB_lit0, X.denB_app, lit, X.den_lit, apl_den, hf]
  rfl
include hM in
theorem st_vc41 {T : Tpl} {M : Nat → Nat} (hids : T.ids = [10, 11]) (c0 c1 c2 c3 : X) (h : PreN xs) : StVc T (stB 4 1 [c0, c1, c2, c3]) (valX (fnB rods grow) xs) M := by
  have oo : 1 ≤ (fnB rods grow 115 [0] : Int) ∧ (fnB rods grow 115 [0] : Int) ≤ 100000 := by have this : 1 ≤ fnB rods grow 115 [0] ∧ fnB rods grow 115 [0] ≤ 4000 := hM 115 [0]; omega
  have hn := ln_st4 (rods := rods) (grow := grow) hM
  have F := st_fact (rods := rods) (grow := grow) (k := 1) (l := stL4 rods grow) (fnB rods grow 115 [0]) rfl (rd_st4 hM) (by simp [stL4]) (by simp [stL4]) (by simp [stL4]) oo.1 oo.2 hn.1 hn.2
  have wv := clM F.1.2.2.1 F.1.2.2.2
  refine stB_vc (fn := fnB rods grow) (E := effB rods grow 1 (stL4 rods grow)) (N := fun y => clampM 400000 (blLen (blSet 1 y (stL4 rods grow)))) (W := fnB rods grow 122 (((1 : Nat) : Int) :: (stL4 rods grow))) (fun ρ hf x => mdE_den hf (md_l41 hf) x) (fun ρ hf => md_w41 hf) ?hK ?wm rfl hids ?w0 ⟨F.1.1, F.1.2.1, wv.1, wv.2⟩ ?hF
  case hK =>
    intro ρ hf x
    have e := md_n41 hf x
    have a0 : 1 ≤ fnB rods grow 115 [((0 : Nat) : Int)] ∧ fnB rods grow 115 [((0 : Nat) : Int)] ≤ 4000 := hM 115 [((0 : Nat) : Int)]
    have a1 : 1 ≤ fnB rods grow 115 [((1 : Nat) : Int)] ∧ fnB rods grow 115 [((1 : Nat) : Int)] ≤ 4000 := hM 115 [((1 : Nat) : Int)]
    have a2 : 1 ≤ fnB rods grow 115 [((2 : Nat) : Int)] ∧ fnB rods grow 115 [((2 : Nat) : Int)] ≤ 4000 := hM 115 [((2 : Nat) : Int)]
    simp only [mdK, mdB, List.range, List.range.loop, List.map_cons, List.map_nil, List.foldr, Nat.beq, cond_true, cond_false, lnB, an, le, X.denB_and, X.dB_le, X.denB_lit1, Bool.and_eq_true, leB_t, ap, X.den_app, X.sem_cons, X.sem_nil, lit, X.den_lit, e, hf, true_and]
    omega
  case wm =>
    intro x a b c d
    have z := clM' c d
    exact F.2 x a b z.1 z.2
  case w0 =>
    have := f_ord (rods := rods) (grow := grow) (l := blSet 1 (fnB rods grow 122 (((1 : Nat) : Int) :: (stL4 rods grow))) (stL4 rods grow))
    unfold effB
    omega
  case hF =>
    intro σ hf h3
    have e := md_n41 hf (mdW 4 1)
    rw [md_w41 hf] at e
    have h3 : σ.v 3 = xs.getD 3 0 := h3
    exact fin_ok hf (md_l41 hf) (by rw [e]; exact wv.1) (by rw [e]; exact wv.2) (by rw [h3]; exact h.p3) (by rw [h3]; exact h.q3)
theorem md_l42 {ρ : Val} (hf : ρ.fn = fnB rods grow) (x : X) : (mdR 4 2 x).map (X.den ρ) = blSet 2 (x.den ρ) (stL4 rods grow) := by
  simp only [mdR, mdG, mdL, mdU, mdW, mdN, List.range, List.range.loop, List.flatMap_cons, List.flatMap_nil, List.cons_append, List.nil_append, List.append_nil, List.map_cons, List.map_nil, Nat.beq, cond_true, cond_false, ap, X.den_app, X.sem_cons, X.sem_nil, X.den_ite, X.denB_lit0, X.denB_app, lit, X.den_lit, apl_den, hf]
  rfl
theorem md_n42 {ρ : Val} (hf : ρ.fn = fnB rods grow) (x : X) : (mdN 4 2 x).den ρ = clampM 400000 (blLen (blSet 2 (x.den ρ) (stL4 rods grow))) := by
  rw [← lens_ln, ← f73 (rods := rods) (grow := grow)]
  simp only [mdR, mdG, mdL, mdU, mdW, mdN, List.range, List.range.loop, List.flatMap_cons, List.flatMap_nil, List.cons_append, List.nil_append, List.append_nil, List.map_cons, List.map_nil, Nat.beq, cond_true, cond_false, ap, X.den_app, X.sem_cons, X.sem_nil, X.den_ite, X.denB_lit0, X.denB_app, lit, X.den_lit, apl_den, hf]
  rfl
theorem md_w42 {ρ : Val} (hf : ρ.fn = fnB rods grow) : (mdW 4 2).den ρ = fnB rods grow 122 (((2 : Nat) : Int) :: (stL4 rods grow)) := by
  simp only [mdR, mdG, mdL, mdU, mdW, mdN, List.range, List.range.loop, List.flatMap_cons, List.flatMap_nil, List.cons_append, List.nil_append, List.append_nil, List.map_cons, List.map_nil, Nat.beq, cond_true, cond_false, ap, X.den_app, X.sem_cons, X.sem_nil, X.den_ite, X.denB_lit0, X.denB_app, lit, X.den_lit, apl_den, hf]
  rfl
include hM in
theorem st_vc42 {T : Tpl} {M : Nat → Nat} (hids : T.ids = [10, 11]) (c0 c1 c2 c3 : X) (h : PreN xs) : StVc T (stB 4 2 [c0, c1, c2, c3]) (valX (fnB rods grow) xs) M := by
  have oo : 1 ≤ (fnB rods grow 115 [1] : Int) ∧ (fnB rods grow 115 [1] : Int) ≤ 100000 := by have this : 1 ≤ fnB rods grow 115 [1] ∧ fnB rods grow 115 [1] ≤ 4000 := hM 115 [1]; omega
  have hn := ln_st4 (rods := rods) (grow := grow) hM
  have F := st_fact (rods := rods) (grow := grow) (k := 2) (l := stL4 rods grow) (fnB rods grow 115 [1]) rfl (rd_st4 hM) (by simp [stL4]) (by simp [stL4]) (by simp [stL4]) oo.1 oo.2 hn.1 hn.2
  have wv := clM F.1.2.2.1 F.1.2.2.2
  refine stB_vc (fn := fnB rods grow) (E := effB rods grow 2 (stL4 rods grow)) (N := fun y => clampM 400000 (blLen (blSet 2 y (stL4 rods grow)))) (W := fnB rods grow 122 (((2 : Nat) : Int) :: (stL4 rods grow))) (fun ρ hf x => mdE_den hf (md_l42 hf) x) (fun ρ hf => md_w42 hf) ?hK ?wm rfl hids ?w0 ⟨F.1.1, F.1.2.1, wv.1, wv.2⟩ ?hF
  case hK =>
    intro ρ hf x
    have e := md_n42 hf x
    have a0 : 1 ≤ fnB rods grow 115 [((0 : Nat) : Int)] ∧ fnB rods grow 115 [((0 : Nat) : Int)] ≤ 4000 := hM 115 [((0 : Nat) : Int)]
    have a1 : 1 ≤ fnB rods grow 115 [((1 : Nat) : Int)] ∧ fnB rods grow 115 [((1 : Nat) : Int)] ≤ 4000 := hM 115 [((1 : Nat) : Int)]
    have a2 : 1 ≤ fnB rods grow 115 [((2 : Nat) : Int)] ∧ fnB rods grow 115 [((2 : Nat) : Int)] ≤ 4000 := hM 115 [((2 : Nat) : Int)]
    simp only [mdK, mdB, List.range, List.range.loop, List.map_cons, List.map_nil, List.foldr, Nat.beq, cond_true, cond_false, lnB, an, le, X.denB_and, X.dB_le, X.denB_lit1, Bool.and_eq_true, leB_t, ap, X.den_app, X.sem_cons, X.sem_nil, lit, X.den_lit, e, hf, true_and]
    omega
  case wm =>
    intro x a b c d
    have z := clM' c d
    exact F.2 x a b z.1 z.2
  case w0 =>
    have := f_ord (rods := rods) (grow := grow) (l := blSet 2 (fnB rods grow 122 (((2 : Nat) : Int) :: (stL4 rods grow))) (stL4 rods grow))
    unfold effB
    omega
  case hF =>
    intro σ hf h3
    have e := md_n42 hf (mdW 4 2)
    rw [md_w42 hf] at e
    have h3 : σ.v 3 = xs.getD 3 0 := h3
    exact fin_ok hf (md_l42 hf) (by rw [e]; exact wv.1) (by rw [e]; exact wv.2) (by rw [h3]; exact h.p3) (by rw [h3]; exact h.q3)
theorem md_l43 {ρ : Val} (hf : ρ.fn = fnB rods grow) (x : X) : (mdR 4 3 x).map (X.den ρ) = blSet 3 (x.den ρ) (stL4 rods grow) := by
  simp only [mdR, mdG, mdL, mdU, mdW, mdN, List.range, List.range.loop, List.flatMap_cons, List.flatMap_nil, List.cons_append, List.nil_append, List.append_nil, List.map_cons, List.map_nil, Nat.beq, cond_true, cond_false, ap, X.den_app, X.sem_cons, X.sem_nil, X.den_ite, X.denB_lit0, X.denB_app, lit, X.den_lit, apl_den, hf]
  rfl
theorem md_n43 {ρ : Val} (hf : ρ.fn = fnB rods grow) (x : X) : (mdN 4 3 x).den ρ = clampM 400000 (blLen (blSet 3 (x.den ρ) (stL4 rods grow))) := by
  rw [← lens_ln, ← f73 (rods := rods) (grow := grow)]
  simp only [mdR, mdG, mdL, mdU, mdW, mdN, List.range, List.range.loop, List.flatMap_cons, List.flatMap_nil, List.cons_append, List.nil_append, List.append_nil, List.map_cons, List.map_nil, Nat.beq, cond_true, cond_false, ap, X.den_app, X.sem_cons, X.sem_nil, X.den_ite, X.denB_lit0, X.denB_app, lit, X.den_lit, apl_den, hf]
  rfl
theorem md_w43 {ρ : Val} (hf : ρ.fn = fnB rods grow) : (mdW 4 3).den ρ = fnB rods grow 122 (((3 : Nat) : Int) :: (stL4 rods grow)) := by
  simp only [mdR, mdG, mdL, mdU, mdW, mdN, List.range, List.range.loop, List.flatMap_cons, List.flatMap_nil, List.cons_append, List.nil_append, List.append_nil, List.map_cons, List.map_nil, Nat.beq, cond_true, cond_false, ap, X.den_app, X.sem_cons, X.sem_nil, X.den_ite, X.denB_lit0, X.denB_app, lit, X.den_lit, apl_den, hf]
  rfl
include hM in
theorem st_vc43 {T : Tpl} {M : Nat → Nat} (hids : T.ids = [10, 11]) (c0 c1 c2 c3 : X) (h : PreN xs) : StVc T (stB 4 3 [c0, c1, c2, c3]) (valX (fnB rods grow) xs) M := by
  have oo : 1 ≤ (fnB rods grow 115 [2] : Int) ∧ (fnB rods grow 115 [2] : Int) ≤ 100000 := by have this : 1 ≤ fnB rods grow 115 [2] ∧ fnB rods grow 115 [2] ≤ 4000 := hM 115 [2]; omega
  have hn := ln_st4 (rods := rods) (grow := grow) hM
  have F := st_fact (rods := rods) (grow := grow) (k := 3) (l := stL4 rods grow) (fnB rods grow 115 [2]) rfl (rd_st4 hM) (by simp [stL4]) (by simp [stL4]) (by simp [stL4]) oo.1 oo.2 hn.1 hn.2
  have wv := clM F.1.2.2.1 F.1.2.2.2
  refine stB_vc (fn := fnB rods grow) (E := effB rods grow 3 (stL4 rods grow)) (N := fun y => clampM 400000 (blLen (blSet 3 y (stL4 rods grow)))) (W := fnB rods grow 122 (((3 : Nat) : Int) :: (stL4 rods grow))) (fun ρ hf x => mdE_den hf (md_l43 hf) x) (fun ρ hf => md_w43 hf) ?hK ?wm rfl hids ?w0 ⟨F.1.1, F.1.2.1, wv.1, wv.2⟩ ?hF
  case hK =>
    intro ρ hf x
    have e := md_n43 hf x
    have a0 : 1 ≤ fnB rods grow 115 [((0 : Nat) : Int)] ∧ fnB rods grow 115 [((0 : Nat) : Int)] ≤ 4000 := hM 115 [((0 : Nat) : Int)]
    have a1 : 1 ≤ fnB rods grow 115 [((1 : Nat) : Int)] ∧ fnB rods grow 115 [((1 : Nat) : Int)] ≤ 4000 := hM 115 [((1 : Nat) : Int)]
    have a2 : 1 ≤ fnB rods grow 115 [((2 : Nat) : Int)] ∧ fnB rods grow 115 [((2 : Nat) : Int)] ≤ 4000 := hM 115 [((2 : Nat) : Int)]
    simp only [mdK, mdB, List.range, List.range.loop, List.map_cons, List.map_nil, List.foldr, Nat.beq, cond_true, cond_false, lnB, an, le, X.denB_and, X.dB_le, X.denB_lit1, Bool.and_eq_true, leB_t, ap, X.den_app, X.sem_cons, X.sem_nil, lit, X.den_lit, e, hf, true_and]
    omega
  case wm =>
    intro x a b c d
    have z := clM' c d
    exact F.2 x a b z.1 z.2
  case w0 =>
    have := f_ord (rods := rods) (grow := grow) (l := blSet 3 (fnB rods grow 122 (((3 : Nat) : Int) :: (stL4 rods grow))) (stL4 rods grow))
    unfold effB
    omega
  case hF =>
    intro σ hf h3
    have e := md_n43 hf (mdW 4 3)
    rw [md_w43 hf] at e
    have h3 : σ.v 3 = xs.getD 3 0 := h3
    exact fin_ok hf (md_l43 hf) (by rw [e]; exact wv.1) (by rw [e]; exact wv.2) (by rw [h3]; exact h.p3) (by rw [h3]; exact h.q3)
include hM in
theorem st_all40 (h : PreN xs) : StVc (tpN 4 0) (stT 4 0) (valX (fnB rods grow) xs) (fun _ => 0) :=
  ⟨⟨le_den (ka h.p4 h.p5), le_den (kd h.p6 h.q6 h.p7 h.q7), le_den (ln4 hM).1, le_den (ln4 hM).2, imp_t fun z => le_den (kk2 h.p2 h.p6 h.q6 (eq_t.1 z)),
    imp_t fun z => (have y := kk3 h.p2 h.p6 h.q6 h.p7 h.q7 (eq_t.1 z); and_t (eq_t.2 y.1) (eq_t.2 y.2)), le_den (kg hM [0]), le_den (kg hM [1]), le_den (kg hM [2]), trivial⟩, st_vc40 hM rfl _ _ _ _ h⟩
include hM in
theorem st_all41 (h : PreN xs) : StVc (tpN 4 1) (stT 4 1) (valX (fnB rods grow) xs) (fun _ => 0) :=
  ⟨⟨le_den (ka h.p4 h.p5), le_den (kd h.p6 h.q6 h.p7 h.q7), le_den (ln4 hM).1, le_den (ln4 hM).2, imp_t fun z => le_den (kk2 h.p2 h.p6 h.q6 (eq_t.1 z)),
    imp_t fun z => (have y := kk3 h.p2 h.p6 h.q6 h.p7 h.q7 (eq_t.1 z); and_t (eq_t.2 y.1) (eq_t.2 y.2)), le_den (kg hM [0]), le_den (kg hM [1]), le_den (kg hM [2]), trivial⟩, st_vc41 hM rfl _ _ _ _ h⟩
include hM in
theorem st_all42 (h : PreN xs) : StVc (tpN 4 2) (stT 4 2) (valX (fnB rods grow) xs) (fun _ => 0) :=
  ⟨⟨le_den (ka h.p4 h.p5), le_den (kd h.p6 h.q6 h.p7 h.q7), le_den (ln4 hM).1, le_den (ln4 hM).2, imp_t fun z => le_den (kk2 h.p2 h.p6 h.q6 (eq_t.1 z)),
    imp_t fun z => (have y := kk3 h.p2 h.p6 h.q6 h.p7 h.q7 (eq_t.1 z); and_t (eq_t.2 y.1) (eq_t.2 y.2)), le_den (kg hM [0]), le_den (kg hM [1]), le_den (kg hM [2]), trivial⟩, st_vc42 hM rfl _ _ _ _ h⟩
include hM in
theorem st_all43 (h : PreN xs) : StVc (tpN 4 3) (stT 4 3) (valX (fnB rods grow) xs) (fun _ => 0) :=
  ⟨⟨le_den (ka h.p4 h.p5), le_den (kd h.p6 h.q6 h.p7 h.q7), le_den (ln4 hM).1, le_den (ln4 hM).2, imp_t fun z => le_den (kk2 h.p2 h.p6 h.q6 (eq_t.1 z)),
    imp_t fun z => (have y := kk3 h.p2 h.p6 h.q6 h.p7 h.q7 (eq_t.1 z); and_t (eq_t.2 y.1) (eq_t.2 y.2)), le_den (kg hM [0]), le_den (kg hM [1]), le_den (kg hM [2]), trivial⟩, st_vc43 hM rfl _ _ _ _ h⟩
end
end Be
end Go.Proofs.Ytgpdodkcfiefjaa
