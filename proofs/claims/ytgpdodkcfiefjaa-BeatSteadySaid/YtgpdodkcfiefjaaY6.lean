/- BeatSteady: the law. -/
import Derived.Test.YtgpdodkcfiefjaaY5
set_option linter.unusedSimpArgs false
set_option linter.unusedVariables false
namespace Go.Proofs.Ytgpdodkcfiefjaa
open Abs Sx
set_option maxRecDepth 100000
namespace Be
theorem ediv_at {a m U : Int} (h : 0 < U) (h1 : m * U ≤ a) (h2 : a < m * U + U) : a / U = m := by
  have := (Int.ediv_emod_unique (a := a) (b := U) (r := a - U * m) (q := m) h).2 ⟨by omega, by rw [Int.mul_comm]; omega, by rw [Int.mul_comm]; omega⟩
  exact this.1
theorem far_dn {b U x : Int} (h : 0 < U) : (b * U - x) / U = b - (x + U - 1) / U := by
  have e1 := Int.emod_add_mul_ediv (x + U - 1) U
  have e2 := Int.emod_nonneg (x + U - 1) (by omega : U ≠ 0)
  have e3 := Int.emod_lt_of_pos (x + U - 1) h
  rw [Int.mul_comm] at e1
  apply ediv_at h
  · rw [Int.sub_mul]; omega
  · rw [Int.sub_mul]; omega
theorem m4_100 {gl gh : Int} (h : gl ≤ gh) : max4 gl gh (-100) 100 = 100 * max gh (0 - gl) ∧ min4 gl gh (-100) 100 = - (100 * max gh (0 - gl)) := by unfold max4 min4; omega
theorem m4_z (a b : Int) : min4 a b 0 0 = 0 ∧ max4 a b 0 0 = 0 := by unfold max4 min4; simp
section
variable {rods : List Rod} {grow : List Int}
theorem bU_bd {b N : Int} (h1 : 100 ≤ N) (h2 : N ≤ 100000) (hb : -32768 ≤ b) (hb2 : b ≤ 32767) : -32768000000000 ≤ b * (10000 * N) ∧ b * (10000 * N) ≤ 32767000000000 := by
  have a := Int.mul_le_mul_of_nonneg_right hb (show 0 ≤ 10000 * N by omega)
  have c := Int.mul_le_mul_of_nonneg_right hb2 (show 0 ≤ 10000 * N by omega)
  omega
theorem far_ok {b N gl gh al ah dl dh : Int} (h1 : 100 ≤ N) (h2 : N ≤ 100000) (hb : -32768 ≤ b) (hb2 : b ≤ 32767) (hg : gl ≤ gh) (g1 : -20000000000 ≤ gl) (g2 : gh ≤ 20000000000) :
    fnB rods grow 50 [fnB rods grow 77 [b, N, gl, gh, al, ah, dl, dh, -100, 100, 0, 0, 0, 0, 0, 0], 10000 * N] = b - (43200 * max gh (0 - gl) + 10000 * N + -1).tdiv (10000 * N) ∧
    0 - fnB rods grow 50 [0 - fnB rods grow 78 [b, N, gl, gh, al, ah, dl, dh, -100, 100, 0, 0, 0, 0, 0, 0], 10000 * N] = b + (43200 * max gh (0 - gl) + 10000 * N + -1).tdiv (10000 * N) := by
  have hu := bU_bd h1 h2 hb hb2
  obtain ⟨m1, m2⟩ := m4_100 hg
  have z1 := m4_z al ah
  have z2 := m4_z dl dh
  have z3 := m4_z 0 0
  have e1 : raLo [b, N, gl, gh, al, ah, dl, dh, -100, 100, 0, 0, 0, 0, 0, 0] = b * (10000 * N) - 43200 * max gh (0 - gl) := by
    simp only [raLo, m1, z1.1, z2.1, z3.2, Int.zero_mul, Int.add_zero]; omega
  have e2 : raHi [b, N, gl, gh, al, ah, dl, dh, -100, 100, 0, 0, 0, 0, 0, 0] = b * (10000 * N) + 43200 * max gh (0 - gl) := by
    simp only [raHi, m2, z1.2, z2.2, z3.1, Int.zero_mul, Int.add_zero]; omega
  have f1 : fnB rods grow 77 [b, N, gl, gh, al, ah, dl, dh, -100, 100, 0, 0, 0, 0, 0, 0] = b * (10000 * N) - 43200 * max gh (0 - gl) := by
    show clampB (raLo _) = _
    rw [e1]; unfold clampB; omega
  have f2 : fnB rods grow 78 [b, N, gl, gh, al, ah, dl, dh, -100, 100, 0, 0, 0, 0, 0, 0] = b * (10000 * N) + 43200 * max gh (0 - gl) := by
    show clampB (raHi _) = _
    rw [e2]; unfold clampB; omega
  have hU : 0 < 10000 * N := by omega
  rw [f1, f2, f50_at _ _ (by omega) (by omega) (by omega), f50_at _ _ (by omega) (by omega) (by omega), Int.tdiv_eq_ediv_of_nonneg (by omega)]
  have a := far_dn (b := b) (U := 10000 * N) (x := 43200 * max gh (0 - gl)) hU
  have c := far_dn (b := -b) (U := 10000 * N) (x := 43200 * max gh (0 - gl)) hU
  rw [show 43200 * max gh (0 - gl) + 10000 * N + -1 = 43200 * max gh (0 - gl) + 10000 * N - 1 by omega]
  refine ⟨a, ?_⟩
  rw [show 0 - (b * (10000 * N) + 43200 * max gh (0 - gl)) = -b * (10000 * N) - 43200 * max gh (0 - gl) by rw [Int.neg_mul]; omega, c]
  omega
theorem g_ord : ∀ {l : List Int}, gLoL l ≤ gHiL l
  | lo :: hi :: len :: up :: l => by have := g_ord (l := l); simp only [gLoL, gHiL]; omega
  | [] => by decide
  | [_] => by simp [gLoL, gHiL]
  | [_, _] => by simp [gLoL, gHiL]
  | [_, _, _] => by simp [gLoL, gHiL]
def lensL : List Int → List Int
  | _ :: _ :: len :: up :: l => len :: up :: lensL l
  | _ => []
theorem lens_ln : ∀ l : List Int, lnL (lensL l) = blLen l
  | _ :: _ :: len :: up :: l => by simp only [lensL, lnL, blLen, lens_ln l]
  | [] => rfl
  | [_] => rfl
  | [_, _] => rfl
  | [_, _, _] => rfl
end
section
variable {T : Tpl} {n k : Nat} {E N : Int → Int} {W : Int} {fn : Nat → List Int → Int}
def stMu (_ : Nat) (ρ : Val) : Nat := (4 - ρ.v 11).toNat
def StVc (T : Tpl) : Sx.LT SV → Val → (Nat → Nat) → Prop := LT.vc RUL [T] (fun _ _ => True) stMu (fun ρ v => v.den ρ = .bool true)
theorem vc_ask {ρ : Val} {M : Nat → Nat} {b : X} {t f : Sx.LT SV} (h1 : b.denB ρ = true → StVc T t ρ M) (h2 : b.denB ρ = false → StVc T f ρ M) : StVc T (.ask b t f) ρ M := ⟨h1, h2⟩
theorem lt_t {ρ : Val} {a b : X} : X.denB ρ (lt a b) = true ↔ a.den ρ < b.den ρ := by simp only [lt, X.dB_lt, ltB_t]
theorem eq_t {ρ : Val} {a b : X} : X.denB ρ (eq a b) = true ↔ a.den ρ = b.den ρ := by simp only [eq, X.dB_eq, eqB_t]
variable (hE : ∀ ρ : Val, ρ.fn = fn → ∀ x : X, (mdE n k x).den ρ = E (x.den ρ)) (hW : ∀ ρ : Val, ρ.fn = fn → (mdW n k).den ρ = W)
  (hK : ∀ ρ : Val, ρ.fn = fn → ∀ x : X, (mdK n k x).denB ρ = true ↔ (1 ≤ x.den ρ ∧ x.den ρ ≤ 100000 ∧ 100 ≤ N (x.den ρ) ∧ N (x.den ρ) ≤ 100000))
  (wm : ∀ x, 1 ≤ x → x ≤ 100000 → 100 ≤ N x → N x ≤ 100000 → ¬ E x < E W ∧ (E x = E W → W ≤ x))
include hE hW hK wm in
theorem stB_vc {c : List X} {ρ : Val} {M : Nat → Nat} (hfn : ρ.fn = fn) (hids : T.ids = [10, 11]) (w0 : 0 ≤ E W) (wv : 1 ≤ W ∧ W ≤ 100000 ∧ 100 ≤ N W ∧ N W ≤ 100000)
    (hF : ∀ σ : Val, σ.fn = fn → σ.v 3 = ρ.v 3 → (finX n k c).denB σ = true) : StVc T (stB n k c) ρ M := by
  refine vc_ask (fun h => ?_) fun _ => vc_ask (fun _ => ⟨trivial, fun w _ _ _ => ?_⟩) fun h => ?_
  · rw [lt_t, hE _ hfn, hW _ hfn] at h
    exact absurd h (Int.not_lt.2 w0)
  · have hi : idsF [T] 0 = [10, 11] := by show T.ids ++ [] = _; rw [hids]; rfl
    rw [hi]
    have hσ : (ρ.mix [10, 11] w).fn = fn := hfn
    have h3 : (ρ.mix [10, 11] w).v 3 = ρ.v 3 := rfl
    generalize ρ.mix [10, 11] w = σ at *
    refine vc_ask (fun h4 => ?_) fun _ => vc_ask (fun _ => rfl) fun h => ?_
    · have h4 := lt_t.1 h4
      have bk : StVc T (bkL n k) σ (setM M 0 (stMu 0 σ)) := by
        refine ⟨trivial, ?_⟩
        show (4 - (σ.v 11 + 1)).toNat < (4 - σ.v 11).toNat
        have h5 : σ.v 11 < 4 := h4
        omega
      refine vc_ask (fun ho => ?_) fun _ => bk
      have ho := (hK _ hσ _).1 ho
      have hm := wm _ ho.1 ho.2.1 ho.2.2.1 ho.2.2.2
      refine vc_ask (fun h1 => ?_) fun _ => vc_ask (fun h1 => vc_ask (fun h2 => ?_) fun _ => bk) fun _ => bk
      · rw [lt_t, hE _ hσ, hE _ hσ, hW _ hσ] at h1; exact absurd h1 hm.1
      · rw [eq_t, hE _ hσ, hE _ hσ, hW _ hσ] at h1
        rw [lt_t, hW _ hσ] at h2
        exact absurd h2 (Int.not_lt.2 (hm.2 h1))
    · rw [hF σ hσ h3] at h; cases h
  · rw [(hK _ hfn _).2 (by rw [hW _ hfn]; exact wv)] at h
    cases h
end
theorem and_t {ρ : Val} {a b : X} (h : a.denB ρ = true) (k : b.denB ρ = true) : X.denB ρ (an a b) = true := by simp only [an, X.denB_and, h, k, Bool.and_self]
theorem sem_lst {ρ : Val} : ∀ l : List X, X.sem ρ (l.foldr X.cons X.nil) = l.map (X.den ρ)
  | [] => by simp only [List.foldr, X.sem_nil, List.map_nil]
  | a :: l => by simp only [List.foldr, X.sem_cons, sem_lst l, List.map_cons]
theorem apl_den {ρ : Val} (f : Nat) (l : List X) : (apl f l).den ρ = ρ.fn f (l.map (X.den ρ)) := by simp only [apl, X.den_app, sem_lst]
theorem f_ord {rods : List Rod} {grow l : List Int} : fnB rods grow 71 l ≤ fnB rods grow 72 l ∧ -20000000000 ≤ fnB rods grow 71 l ∧ fnB rods grow 72 l ≤ 20000000000 := by
  have := g_ord (l := l)
  show clampM 20000000000 (gLoL l) ≤ clampM 20000000000 (gHiL l) ∧ -20000000000 ≤ clampM 20000000000 (gLoL l) ∧ clampM 20000000000 (gHiL l) ≤ 20000000000
  simp only [clampM]; omega
section
variable {σ : Val} {rods : List Rod} {grow : List Int} {n k : Nat} {L : List Int} (hf : σ.fn = fnB rods grow) (hL : ∀ x : X, (mdR n k x).map (X.den σ) = blSet k (x.den σ) L)
include hf hL
theorem mdE_den (x : X) : (mdE n k x).den σ = effB rods grow k L (x.den σ) := by
  simp only [mdE, X.den_max, sub, X.den_sub, lit, X.den_lit, apl_den, hL, hf, effB]
theorem fin_ok {c0 c1 c2 c3 : X} (n1 : 100 ≤ (mdN n k (mdW n k)).den σ) (n2 : (mdN n k (mdW n k)).den σ ≤ 100000) (b1 : -32768 ≤ σ.v 3) (b2 : σ.v 3 ≤ 32767) : (finX n k [c0, c1, c2, c3]).denB σ = true := by
  have o := f_ord (rods := rods) (grow := grow) (l := blSet k ((mdW n k).den σ) L)
  have t := far_ok (rods := rods) (grow := grow) (b := σ.v 3) (N := (mdN n k (mdW n k)).den σ) (gl := fnB rods grow 71 (blSet k ((mdW n k).den σ) L)) (gh := fnB rods grow 72 (blSet k ((mdW n k).den σ) L)) (al := c0.den σ) (ah := c1.den σ) (dl := c2.den σ) (dh := c3.den σ) n1 n2 b1 b2 o.1 o.2.1 o.2.2
  have e := mdE_den hf hL (mdW n k)
  unfold effB at e
  refine and_t (eq_t.2 ?_) (eq_t.2 ?_)
  · simp only [ap2, X.den_app, X.sem_cons, X.sem_nil, apl_den, raS, List.map_append, List.map_cons, List.map_nil, List.cons_append, List.nil_append, lit, X.den_lit, mul, X.den_mul, sub, X.den_sub, add, X.den_add, farX, X.den_quo, v, X.den_var, hL, hf, e]
    exact t.1
  · simp only [ap2, X.den_app, X.sem_cons, X.sem_nil, apl_den, raS, List.map_append, List.map_cons, List.map_nil, List.cons_append, List.nil_append, lit, X.den_lit, mul, X.den_mul, sub, X.den_sub, add, X.den_add, farX, X.den_quo, v, X.den_var, hL, hf, e]
    exact t.2
end
theorem call_st {n : Nat} {z : List X} {e : List PrN} {r : SV} {ob : List (Nat × SO)} {tp : Tpl} {T : Sx.LT SV} {rods : List Rod} {grow xs : List Int} (hl : PrNsOk Try.prog (fnB rods grow) (stL n e)) (hM : ∀ i l, inR (fnB rods grow i l) (nthR RU.fr i)) (h : stRun n z e r ob tp = T)
    (hpre : AllB (valX (fnB rods grow) xs) (z ++ stP n)) (hlen : xs.length = 10) (k : StVc tp T (valX (fnB rods grow) xs) (fun _ => 0)) :
    CallH Try.prog 4 (SV.dens (valX (fnB rods grow) xs) (stA r)) (hD (valX (fnB rods grow) xs) ⟨tplT ob, [], 0⟩) 1 (fun v _ _ => v = .bool true) := by
  have hR : RUL.ok (valX (fnB rods grow) xs) := ⟨fun i => vr_ok (vr := RUL.vr) (n := 10) (by decide) hlen i, hM⟩
  unfold stRun at h
  obtain ⟨c, hbd⟩ : ∃ c, (Try.f4).body = some c := ⟨_, rfl⟩
  have hcode : codeP Try.prog 4 = c := by simp only [codeP, Try.func4, hbd]
  rw [hcode] at h
  exact fn_ex (V := fun v => v = .bool true) prog_ok Try.func4 hbd hR (allB_fcs hpre) (fun ρ' h1 h2 => ctsN_has _ hl h1 h2) h k
end Be
end Go.Proofs.Ytgpdodkcfiefjaa
