/- TopTrainSlack: the trees hold. -/
import Derived.Test.YtjlolhdkjpfcoaaGreatTs6
set_option linter.unusedSimpArgs false
set_option linter.unusedVariables false
namespace Go.Proofs.YtjlolhdkjpfcoaaGreat
open Abs Sx Tg
set_option maxRecDepth 100000
namespace Ts
theorem vc_ask {ρ : Val} {Q : SV → Prop} {b : X} {t f : OT SV} (h : b.denB ρ = true → OT.vc ρ Q t) (k : b.denB ρ = false → OT.vc ρ Q f) : OT.vc ρ Q (.ask b t f) := ⟨h, k⟩
theorem le_l {ρ : Val} {a : Int} {x : X} (h : a ≤ x.den ρ) : (le (lit a) x).denB ρ = true := by simp only [le, lit, X.dB_le, leB_t, X.den_lit]; exact h
theorem le_r {ρ : Val} {a : Int} {x : X} (h : x.den ρ ≤ a) : (le x (lit a)).denB ρ = true := by simp only [le, lit, X.dB_le, leB_t, X.den_lit]; exact h
section
attribute [local irreducible] uX
theorem ne_ok {ρ : Val} {k : Nat} (h1 : 0 ≤ (uX k).1.den ρ ∧ (uX k).1.den ρ ≤ 2305843009213693952) (h2 : 1 ≤ (uX k).2.den ρ ∧ (uX k).2.den ρ ≤ 2305843009213693952) : AllB ρ (neX k) := by
  unfold neX
  split
  · exact ⟨le_l h1.1, le_l h2.1, le_r h1.2, le_r h2.2, trivial⟩
  · exact ⟨le_l h2.1, trivial⟩
end
theorem arb_vc {rows : List (Int × Int)} {xs : List Int} {k : Nat} {B : Int} {t : OT SV} (hK : Know (valX (fnS rows) xs) k B) (hk : k < 3) (hB : B ≤ 5000000) (hs : 0 ≤ (sX (k + 1)).den (valX (fnS rows) xs) ∧ (sX (k + 1)).den (valX (fnS rows) xs) ≤ 49)
    (hR : 1 ≤ (rX (k + 1)).den (valX (fnS rows) xs)) (hQ : 1 ≤ (qX (k + 1)).den (valX (fnS rows) xs)) (hal : (qX (k + 1)).den (valX (fnS rows) xs) ≤ 200 → 49 * (qX (k + 1)).den (valX (fnS rows) xs) ≤ 1000 * (rX (k + 1)).den (valX (fnS rows) xs))
    (ht : (rX (k + 1)).den (valX (fnS rows) xs) ≤ 200 → (qX (k + 1)).den (valX (fnS rows) xs) ≤ 200 → Know (valX (fnS rows) xs) (k + 1) (1000 * B) → OT.vc (valX (fnS rows) xs) (GoalV (valX (fnS rows) xs)) t) : OT.vc (valX (fnS rows) xs) (GoalV (valX (fnS rows) xs)) (arb k t) := by
  refine vc_ask (fun _ => fin_vc hK (by omega) (by omega)) fun h1 => vc_ask (fun _ => fin_vc hK (by omega) (by omega)) fun h2 => ?_
  simp only [lt, lit, X.dB_lt, ltB_f, X.den_lit] at h1 h2
  have S := know_step hK hk hB hs ⟨hR, by omega⟩ ⟨hQ, by omega⟩ (hal (by omega))
  have T := ht (by omega) (by omega) S.2.2.2.2.2
  obtain ⟨s1, s2, s3, s4, s5, _⟩ := S
  refine vc_ask (fun _ => vc_ask (fun h => ?_) fun _ => vc_ask (fun h => ?_) fun _ => ⟨?_, T⟩) fun h => ?_
  · simp only [lt, mul, lit, X.dB_lt, ltB_t, X.den_mul, X.den_lit] at h; omega
  · simp only [le, mul, add, lit, X.dB_le, leB_t, X.den_mul, X.den_add, X.den_lit] at h; omega
  · exact ne_ok s4 s5
  · simp only [le, lit, X.dB_le, leB_f, X.den_lit] at h; omega
theorem arb0_vc {rows : List (Int × Int)} {xs : List Int} {t : OT SV} (hs : 0 ≤ (sX 0).den (valX (fnS rows) xs) ∧ (sX 0).den (valX (fnS rows) xs) ≤ 49) (ht : Know (valX (fnS rows) xs) 0 5 → OT.vc (valX (fnS rows) xs) (GoalV (valX (fnS rows) xs)) t) : OT.vc (valX (fnS rows) xs) (GoalV (valX (fnS rows) xs)) (arb0 t) := by
  have T := ht (know0 hs)
  have al := al_ok (rows := rows) (R := 1) (Q := 1) hs (by decide) (by decide)
  have ea : (alX 0).den (valX (fnS rows) xs) = fnS rows 60 [(sX 0).den (valX (fnS rows) xs), 1, 1] := by
    simp only [alX, X.den_app, sem_xs, List.map_cons, List.map_nil, rX, qX, lit, X.den_lit, valX_fn]
  have et : (tmX 0).den (valX (fnS rows) xs) = 3600 * (sX 0).den (valX (fnS rows) xs) := by simp only [tmX, mul, lit, X.den_mul, X.den_lit]
  rw [← ea] at al
  have a4 := al.2.2.2 (by decide)
  refine vc_ask (fun _ => vc_ask (fun h => ?_) fun _ => vc_ask (fun h => ?_) fun _ => T) fun h => ?_
  · simp only [lt, mul, lit, X.dB_lt, ltB_t, X.den_mul, X.den_lit, et] at h; omega
  · simp only [le, mul, add, lit, X.dB_le, leB_t, X.den_mul, X.den_add, X.den_lit, et] at h; omega
  · simp only [le, lit, X.dB_le, leB_f, X.den_lit] at h; omega
section
variable {rows : List (Int × Int)} {xs : List Int}
def wI (rows : List (Int × Int)) (i : Nat) : Int := 6 + (fnS rows 0 [(i : Int)]).tmod 20
def pI (rows : List (Int × Int)) (i : Nat) : Int := 6 + (fnS rows 1 [(i : Int)]).tmod 12
theorem wX_den (i : Nat) : (wX i).den (valX (fnS rows) xs) = wI rows i := by simp only [wX, wI, add, rem, ap1, lit, X.den_add, X.den_rem, X.den_app, X.sem_cons, X.sem_nil, X.den_lit, valX_fn]
theorem pX_den (i : Nat) : (pX i).den (valX (fnS rows) xs) = pI rows i := by simp only [pX, pI, add, rem, ap1, lit, X.den_add, X.den_rem, X.den_app, X.sem_cons, X.sem_nil, X.den_lit, valX_fn]
theorem tm_b {x : Int} (n : Int) (h : 0 ≤ x) (hn : 0 < n) : 0 ≤ x.tmod n ∧ x.tmod n ≤ n - 1 := ⟨Int.tmod_nonneg n h, by have := Int.tmod_lt_of_pos x hn; omega⟩
theorem sX_b {k : Nat} (h : 0 ≤ xs.getD (2 + k) 0) : 0 ≤ (sX k).den (valX (fnS rows) xs) ∧ (sX k).den (valX (fnS rows) xs) ≤ 49 := by
  have := tm_b 50 h (by decide)
  simp only [sX, rem, v, lit, X.den_rem, X.den_var, X.den_lit, valX_v]; omega
variable (hM : ∀ i a, inR (fnS rows i a) (nthR RS.fr i))
include hM
theorem wI_b (i : Nat) : 6 ≤ wI rows i ∧ wI rows i ≤ 25 := by
  have h : 0 ≤ fnS rows 0 [(i : Int)] ∧ fnS rows 0 [(i : Int)] ≤ 255 := hM 0 [(i : Int)]
  have := tm_b 20 h.1 (by decide)
  unfold wI; omega
theorem pI_b (i : Nat) : 6 ≤ pI rows i ∧ pI rows i ≤ 17 := by
  have h : 0 ≤ fnS rows 1 [(i : Int)] ∧ fnS rows 1 [(i : Int)] ≤ 255 := hM 1 [(i : Int)]
  have := tm_b 12 h.1 (by decide)
  unfold pI; omega
theorem rat1 : 1 ≤ (rX 1).den (valX (fnS rows) xs) ∧ 1 ≤ (qX 1).den (valX (fnS rows) xs) ∧ (rX 1).den (valX (fnS rows) xs) * pI rows 0 = (qX 1).den (valX (fnS rows) xs) * wI rows 0 := by
  have w := wI_b hM 0
  have p := pI_b hM 0
  have h := low_q (rows := rows) (a := wI rows 0) (b := pI rows 0) (by omega) (by omega) (by omega) (by omega)
  simpa only [rX, qX, aX, ap2', X.den_app, X.sem_cons, X.sem_nil, wX_den, pX_den, valX_fn] using h
theorem rat_s (k : Nat) (hR : 1 ≤ (rX (k + 1)).den (valX (fnS rows) xs) ∧ (rX (k + 1)).den (valX (fnS rows) xs) ≤ 200) (hQ : 1 ≤ (qX (k + 1)).den (valX (fnS rows) xs) ∧ (qX (k + 1)).den (valX (fnS rows) xs) ≤ 200) {W P : Int} (h : (rX (k + 1)).den (valX (fnS rows) xs) * P = (qX (k + 1)).den (valX (fnS rows) xs) * W) :
    1 ≤ (rX (k + 2)).den (valX (fnS rows) xs) ∧ 1 ≤ (qX (k + 2)).den (valX (fnS rows) xs) ∧ (rX (k + 2)).den (valX (fnS rows) xs) * (P * pI rows (k + 1)) = (qX (k + 2)).den (valX (fnS rows) xs) * (W * wI rows (k + 1)) := by
  have w := wI_b hM (k + 1)
  have p := pI_b hM (k + 1)
  have er : ∀ f, (ap2' f (aX (k + 2))).den (valX (fnS rows) xs) = fnS rows f [(rX (k + 1)).den (valX (fnS rows) xs) * wI rows (k + 1), (qX (k + 1)).den (valX (fnS rows) xs) * pI rows (k + 1)] := fun f => by
    simp only [aX, rX, qX, ap2', mul, X.den_app, X.sem_cons, X.sem_nil, X.den_mul, wX_den, pX_den, valX_fn]
  have e1 : (rX (k + 2)).den (valX (fnS rows) xs) = _ := er 91
  have e2 : (qX (k + 2)).den (valX (fnS rows) xs) = _ := er 92
  generalize (rX (k + 1)).den (valX (fnS rows) xs) = R at *
  generalize (qX (k + 1)).den (valX (fnS rows) xs) = Q at *
  have a1 := Int.mul_le_mul hR.2 w.2 (by omega) (by decide)
  have a2 := Int.mul_le_mul hQ.2 p.2 (by omega) (by decide)
  have g := low_q (rows := rows) (a := R * wI rows (k + 1)) (b := Q * pI rows (k + 1)) (mul_p hR.1 (by omega)) (mul_p hQ.1 (by omega)) (by omega) (by omega)
  rw [e1, e2]
  exact ⟨g.1, g.2.1, cross g.2.2 h hQ.1⟩
omit hM in
theorem pre_s (h : AllB (valX (fnS rows) xs) tlP) : ∀ k, k < 4 → 0 ≤ xs.getD (2 + k) 0 := by
  simp only [tlP, rg, le, v, lit, List.cons_append, List.nil_append, AllB, X.dB_le, leB_t, X.den_lit, X.den_var, valX_v] at h
  intro k hk
  match k, hk with
  | 0, _ => exact h.1
  | 1, _ => exact h.2.2.1
  | 2, _ => exact h.2.2.2.2.1
  | 3, _ => exact h.2.2.2.2.2.2.1
theorem tre_vc (hp : AllB (valX (fnS rows) xs) tlP) : ∀ n, OT.vc (valX (fnS rows) xs) (GoalV (valX (fnS rows) xs)) (tre n) := by
  have hs := fun k hk => sX_b (rows := rows) (pre_s hp k hk)
  have w := wI_b hM
  have p := pI_b hM
  have r1 := rat1 hM (xs := xs)
  have c1 : (qX 1).den (valX (fnS rows) xs) ≤ 200 → 49 * (qX 1).den (valX (fnS rows) xs) ≤ 1000 * (rX 1).den (valX (fnS rows) xs) := fun _ => k1 r1.2.2 r1.1 r1.2.1 (w 0).1 (p 0).2
  have r2 := fun a b => rat_s hM 0 ⟨r1.1, a⟩ ⟨r1.2.1, b⟩ r1.2.2
  have hW2 : 36 ≤ wI rows 0 * wI rows 1 := by have := Int.mul_le_mul (w 0).1 (w 1).1 (by decide) (by have := (w 0).1; omega); omega
  have hP2 : pI rows 0 * pI rows 1 ≤ 289 := by have := Int.mul_le_mul (p 0).2 (p 1).2 (by have := (p 1).1; omega) (by decide); omega
  have t3 : ∀ {t : OT SV}, ((rX 1).den (valX (fnS rows) xs) ≤ 200 → (qX 1).den (valX (fnS rows) xs) ≤ 200 → Know (valX (fnS rows) xs) 1 5000 → OT.vc (valX (fnS rows) xs) (GoalV (valX (fnS rows) xs)) t) → OT.vc (valX (fnS rows) xs) (GoalV (valX (fnS rows) xs)) (arb0 (arb 0 t)) := fun ht =>
    arb0_vc (hs 0 (by decide)) fun K => arb_vc K (by decide) (by decide) (hs 1 (by decide)) r1.1 r1.2.1 c1 ht
  have t2 : ∀ {t : OT SV}, ((rX 1).den (valX (fnS rows) xs) ≤ 200 → (qX 1).den (valX (fnS rows) xs) ≤ 200 → (rX 2).den (valX (fnS rows) xs) ≤ 200 → (qX 2).den (valX (fnS rows) xs) ≤ 200 → Know (valX (fnS rows) xs) 2 5000000 → OT.vc (valX (fnS rows) xs) (GoalV (valX (fnS rows) xs)) t) → OT.vc (valX (fnS rows) xs) (GoalV (valX (fnS rows) xs)) (arb0 (arb 0 (arb 1 t))) := fun ht =>
    t3 fun a b K => arb_vc K (by decide) (by decide) (hs 2 (by decide)) (r2 a b).1 (r2 a b).2.1 (fun _ => k2 (r2 a b).2.2 (r2 a b).1 (r2 a b).2.1 hW2 hP2) fun a' b' K' => ht a b a' b' K'
  have t1 : OT.vc (valX (fnS rows) xs) (GoalV (valX (fnS rows) xs)) (arb0 (arb 0 (arb 1 (arb 2 (fin 3))))) :=
    t2 fun a b a' b' K => by
      have r3 := rat_s hM 1 ⟨(r2 a b).1, a'⟩ ⟨(r2 a b).2.1, b'⟩ (r2 a b).2.2
      exact arb_vc K (by decide) (by decide) (hs 3 (by decide)) r3.1 r3.2.1 (fun hd => k3 r3.2.2 r3.1 r3.2.1 hd (w 0).1 (w 1).1 (w 2).1 (p 0) (p 1) (p 2)) fun _ _ K' => fin_vc K' (by decide) (by decide)
  intro n
  match n with
  | 0 => exact arb0_vc (hs 0 (by decide)) fun K => fin_vc K (by decide) (by decide)
  | 1 => exact t3 fun _ _ K => fin_vc K (by decide) (by decide)
  | 2 => exact t2 fun _ _ _ _ K => fin_vc K (by decide) (by decide)
  | _ + 3 => exact ⟨fun _ => t1, fun _ => t1⟩
end
end Ts
end Go.Proofs.YtjlolhdkjpfcoaaGreat
