/- TrainCycles: what is asked on the way is so. -/
import Derived.Test.YtiafbooogggdnaaT2
set_option linter.unusedSimpArgs false
set_option linter.unusedVariables false
namespace Go.Proofs.Ytiafbooogggdnaa
open Abs Sx
set_option maxRecDepth 100000
namespace Tn
def prB (bs : List (Int × Int)) (i : Nat) : Int × Int := (6 + (bs.getD i (0, 0)).1, 6 + (bs.getD i (0, 0)).2)
def psB (bs : List (Int × Int)) (n : Nat) : List (Int × Int) := (List.range n).map (prB bs)
theorem psB_len (bs : List (Int × Int)) (n : Nat) : (psB bs n).length = n := by simp [psB]
theorem psB_at (bs : List (Int × Int)) (n : Nat) {i : Nat} (h : i < (psB bs n).length) : (psB bs n)[i] = prB bs i := by simp [psB]
theorem prB_bd {bs : List (Int × Int)} (hb : Byte bs) (i : Nat) : (6 ≤ (prB bs i).1 ∧ (prB bs i).1 ≤ 400) ∧ (6 ≤ (prB bs i).2 ∧ (prB bs i).2 ≤ 400) := by
  have := hb i
  simp only [prB]; omega
theorem psB_ok {bs : List (Int × Int)} (hb : Byte bs) {n : Nat} (h3 : n ≤ 3) : OkPairs (psB bs n) := by
  refine ⟨by rw [psB_len]; omega, fun p hp => ?_⟩
  simp only [psB, List.mem_map, List.mem_range] at hp
  obtain ⟨i, _, rfl⟩ := hp
  exact prB_bd hb i
section
variable {ρ : Val} {bs : List (Int × Int)}
theorem wX_den (hfn : ρ.fn = fnT bs) (i : Nat) : (wX i).den ρ = (prB bs i).1 := by
  simp only [wX, lit, X.den_add, X.den_lit, X.den_app, X.sem_cons, X.sem_nil, hfn]
  show 6 + (bs.getD ((i : Int)).toNat (0, 0)).1 = _
  rw [Int.toNat_natCast]; rfl
theorem vX_den (hfn : ρ.fn = fnT bs) (i : Nat) : (vX i).den ρ = (prB bs i).2 := by
  simp only [vX, lit, X.den_add, X.den_lit, X.den_app, X.sem_cons, X.sem_nil, hfn]
  show 6 + (bs.getD ((i : Int)).toNat (0, 0)).2 = _
  rw [Int.toNat_natCast]; rfl
theorem ap2_den (f : Nat) (a b : X) : (ap2 f a b).den ρ = ρ.fn f [a.den ρ, b.den ρ] := by simp only [ap2, X.den_app, X.sem_cons, X.sem_nil]
theorem mkM (a b : X) : (mk .mul a b).den ρ = a.den ρ * b.den ρ := mk_den _ _ _
/-- The pairs' numbers. -/
def Vals (ρ : Val) (w p : Nat → X) (ps : List (Int × Int)) : Prop := ∀ i (h : i < ps.length), (w i).den ρ = ps[i].1 ∧ (p i).den ρ = ps[i].2
theorem vals_B (hfn : ρ.fn = fnT bs) (n : Nat) : Vals ρ wX vX (psB bs n) := fun i h => by
  rw [psB_at bs n h]; exact ⟨wX_den hfn i, vX_den hfn i⟩
theorem mul_pos1 {x y : Int} (hx : 1 ≤ x) (hy : 1 ≤ y) : 1 ≤ x * y := by
  have := Int.mul_le_mul hx hy (by omega) (by omega); simpa using this
theorem arb_mul {ps : List (Int × Int)} (hok : OkPairs ps) (h3 : ps.length ≤ 3) {k : Nat} (hk : k < ps.length) : (1 ≤ (arbK ps k).1 * ps[k].1 ∧ (arbK ps k).1 * ps[k].1 ≤ 64000000) ∧ (1 ≤ (arbK ps k).2 * ps[k].2 ∧ (arbK ps k).2 * ps[k].2 ≤ 64000000) := by
  obtain ⟨⟨a1, a2⟩, b1, b2⟩ := arbK_bd ps hok k (by omega)
  obtain ⟨⟨p1, p2⟩, q1, q2⟩ := hok.2 ps[k] (List.getElem_mem hk)
  have e : (400 : Int) ^ k * 400 ≤ 64000000 := by
    rw [← Int.pow_succ]; exact pow3 (k + 1) (by omega)
  have hp : (0 : Int) ≤ 400 ^ k := Int.pow_nonneg (by omega)
  have h1 := Int.mul_le_mul a2 p2 (by omega) hp
  have h2 := Int.mul_le_mul b2 q2 (by omega) hp
  exact ⟨⟨mul_pos1 a1 (by omega), by omega⟩, mul_pos1 b1 (by omega), by omega⟩
theorem aX_den (hfn : ρ.fn = fnT bs) {w p : Nat → X} {ps : List (Int × Int)} (hv : Vals ρ w p ps) (hok : OkPairs ps) (h3 : ps.length ≤ 3) : ∀ k, k ≤ ps.length → (aX w p k).1.den ρ = (arbK ps k).1 ∧ (aX w p k).2.den ρ = (arbK ps k).2 := by
  intro k
  induction k with
  | zero => intro _; exact ⟨rfl, rfl⟩
  | succ k ih =>
    intro hk
    obtain ⟨e1, e2⟩ := ih (by omega)
    obtain ⟨v1, v2⟩ := hv k (by omega)
    obtain ⟨⟨h1, h2⟩, h4, h5⟩ := arb_mul hok h3 (k := k) (by omega)
    have hl := low_at bs h1 h4 (by omega) (by omega)
    rw [arbK_succ ps k (by omega)]
    simp only [aX, ap2_den, mkM, e1, e2, v1, v2, hfn]
    exact ⟨hl.2.2.1, hl.2.2.2⟩
theorem cyc_succ (ps : List (Int × Int)) (k : Nat) : cycL ((List.range (k + 2)).map (arbK ps)) = (Int.lcm (cycL ((List.range (k + 1)).map (arbK ps))) (arbK ps (k + 1)).2 : Int) := by
  rw [List.range_succ, List.map_append, List.map_cons, List.map_nil, cycL_snoc]
theorem cyc_bd {ps : List (Int × Int)} (hok : OkPairs ps) (h3 : ps.length ≤ 3) {k : Nat} (hk : k ≤ ps.length) : 1 ≤ cycL ((List.range (k + 1)).map (arbK ps)) ∧ cycL ((List.range (k + 1)).map (arbK ps)) ≤ 64000000 := by
  have h := cycL_bd ps hok ((List.range (k + 1)).map (arbK ps)) (fun r hr => by
    simp only [List.mem_map, List.mem_range] at hr
    obtain ⟨j, hj, rfl⟩ := hr
    exact List.mem_map.2 ⟨j, List.mem_range.2 (by omega), rfl⟩)
  have hp := pins_bd ps hok
  exact ⟨h.1, Int.le_trans (Int.le_of_dvd (by omega) h.2) (pins3 ps hok h3)⟩
theorem cX_den (hfn : ρ.fn = fnT bs) {n : Nat} (hb : Byte bs) (h3 : n ≤ 3) : ∀ k, k ≤ n → (cX k).den ρ = cycL ((List.range (k + 1)).map (arbK (psB bs n))) := by
  have hok := psB_ok hb h3
  have hl := psB_len bs n
  intro k
  induction k with
  | zero =>
    intro _
    simp only [cX, ap2_den, lit, X.den_lit, hfn]
    exact (lcm_at bs (a := 1) (b := 1) (by decide) (by decide) (by decide)).2 (by decide)
  | succ k ih =>
    intro hk
    have e := ih (by omega)
    have ha := (aX_den hfn (vals_B hfn n) hok (by omega) (k + 1) (by omega)).2
    have hc := cyc_bd hok (by omega) (k := k) (by omega)
    have hc2 := cyc_bd hok (by omega) (k := k + 1) (by omega)
    have hb2 := (arbK_bd (psB bs n) hok (k + 1) (by omega)).2
    have h400 := pow400 (k + 1) (by omega)
    rw [cyc_succ] at hc2 ⊢
    simp only [cX, ap2_den, e, ha, hfn]
    exact (lcm_at bs hc.1 hb2.1 (by unfold bg; omega)).2 (by omega)
theorem qX_den (hfn : ρ.fn = fnT bs) {n : Nat} (hb : Byte bs) (h3 : n ≤ 3) {m : X} (h1 : 1 ≤ m.den ρ) (h2 : m.den ρ ≤ 100000000) : ∀ k, k ≤ n → (qX m k).1.den ρ = (qK (m.den ρ) (psB bs n) k).1 ∧ (qX m k).2.den ρ = (qK (m.den ρ) (psB bs n) k).2 := by
  have hok := psB_ok hb h3
  have hl := psB_len bs n
  intro k
  induction k with
  | zero => intro _; exact ⟨rfl, rfl⟩
  | succ k ih =>
    intro hk
    obtain ⟨e1, e2⟩ := ih (by omega)
    have hq := qK_bd (m.den ρ) h1 (psB bs n) hok k (by omega)
    have hp := prB_bd hb k
    have h400 := pow3 k (by omega)
    have hp0 : (0 : Int) ≤ 400 ^ k := Int.pow_nonneg (by omega)
    have a1 : 1 ≤ (qK (m.den ρ) (psB bs n) k).1 * (prB bs k).1 := mul_pos1 hq.1.1 (by omega)
    have b1 : 1 ≤ (qK (m.den ρ) (psB bs n) k).2 * (prB bs k).2 := mul_pos1 hq.2.1 (by omega)
    have b2 := Int.mul_le_mul hq.2.2 hp.2.2 (by omega) hp0
    have hg := f90_at bs a1 b1 (by unfold bg; omega)
    rw [qK_succ _ _ k (by omega), psB_at bs n (by omega)]
    simp only [qX, X.den_quo, ap2_den, mkM, e1, e2, wX_den hfn, vX_den hfn, hfn]
    rw [hg, Int.tdiv_eq_ediv_of_nonneg (by omega), Int.tdiv_eq_ediv_of_nonneg (by omega)]
    exact ⟨rfl, rfl⟩
theorem need_q (hfn : ρ.fn = fnT bs) {n : Nat} (hb : Byte bs) (h3 : n ≤ 3) {m : X} (h1 : 1 ≤ m.den ρ) (h2 : m.den ρ ≤ 100000000) {k : Nat} (hk : k < n) : AllB ρ [le (lit 1) (mk .mul (qX m k).1 (wX k)), le (lit 1) (mk .mul (qX m k).2 (vX k))] := by
  have e := qX_den hfn hb h3 h1 h2 k (by omega)
  have hq := qK_bd (m.den ρ) h1 (psB bs n) (psB_ok hb h3) k (by rw [psB_len]; omega)
  have hp := prB_bd hb k
  refine ⟨?_, ?_, trivial⟩
  · simp only [le, lit, X.dB_le, leB_t, X.den_lit, mkM, e.1, wX_den hfn]; exact mul_pos1 hq.1.1 (by omega)
  · simp only [le, lit, X.dB_le, leB_t, X.den_lit, mkM, e.2, vX_den hfn]; exact mul_pos1 hq.2.1 (by omega)
variable {R : Rgs} {tps : List Tpl} {Inv : Nat → Val → Prop} {mu : Nat → Val → Nat} {Q : Val → SV → Prop} {M : Nat → Nat}
theorem ndL_vc {l : List X} {t : Sx.LT SV} (h : AllB ρ l) (k : LT.vc R tps Inv mu Q t ρ M) : LT.vc R tps Inv mu Q (ndL l t) ρ M := by
  unfold ndL; split
  · exact k
  · exact ⟨h, k⟩
theorem tw_vc (hfn : ρ.fn = fnT bs) {n : Nat} (hb : Byte bs) (h3 : n ≤ 3) {m e : X} (h1 : 1 ≤ m.den ρ) (h2 : m.den ρ ≤ 100000000) (he : e.denB ρ = decide (m.den ρ % cycL (arbs (psB bs n)) = 0)) (hbk : LT.vc R tps Inv mu Q bk ρ M) :
    ∀ (r k : Nat) (x : Option X), k + r = n → (match x with
      | some x => x.denB ρ = wh (m.den ρ) (psB bs n) k
      | none => 1 ≤ k ∧ wh (m.den ρ) (psB bs n) k = false) → LT.vc R tps Inv mu Q (tw m e r k x) ρ M := by
  have hok := psB_ok hb h3
  have hl := psB_len bs n
  have hw := wh_iff (m.den ρ) h1 (psB bs n) hok
  rw [hl] at hw
  intro r
  induction r with
  | zero =>
    intro k x hk hx
    obtain rfl : k = n := by omega
    rw [← hw] at he
    cases x with
    | some x =>
      simp only at hx
      have hf : X.denB ρ (.not (.ite x e (.not e))) = false := by
        rw [X.denB_not, X.dB_ite, X.denB_not, hx, he]; cases wh (m.den ρ) (psB bs k) k <;> rfl
      exact ⟨fun h => (by rw [hf] at h; cases h), fun _ => hbk⟩
    | none =>
      simp only at hx
      exact ⟨fun h => (by rw [he, hx.2] at h; cases h), fun _ => hbk⟩
  | succ r ih =>
    intro k x hk hx
    have hs := wh_succ (m.den ρ) (psB bs n) k
    have hq := (qX_den hfn hb h3 h1 h2 (k + 1) (by omega)).2
    have hd : X.denB ρ (eq (qX m (k + 1)).2 (lit 1)) = decide ((qK (m.den ρ) (psB bs n) (k + 1)).2 = 1) := by
      simp only [eq, lit, X.dB_eq, X.den_lit, hq]; unfold eqB; exact Bool.beq_eq_decide_eq _ _
    simp only [tw]
    refine ndL_vc ?_ ?_
    · cases hk0 : k.beq 0 with
      | true => exact trivial
      | false => exact need_q hfn hb h3 h1 h2 (by omega)
    · cases x with
      | none =>
        simp only at hx ⊢
        exact ih (k + 1) none (by omega) ⟨by omega, by rw [hs, hx.2]; rfl⟩
      | some x =>
        simp only at hx ⊢
        cases hk0 : k.beq 0 with
        | true =>
          have := Nat.eq_of_beq_eq_true hk0
          subst this
          exact ih 1 (some _) (by omega) (by simp only; rw [hd, hs]; rfl)
        | false =>
          refine ⟨fun h => ih (k + 1) (some _) (by omega) ?_, fun h => ih (k + 1) none (by omega) ⟨by omega, ?_⟩⟩
          · simp only; rw [hd, hs, ← hx, h, Bool.true_and]
          · rw [hs, ← hx, h, Bool.false_and]
theorem eX_den (hfn : ρ.fn = fnT bs) {n : Nat} (hb : Byte bs) (h3 : n ≤ 3) {m : X} (h1 : 1 ≤ m.den ρ) : (eX m n).denB ρ = decide (m.den ρ % cycL (arbs (psB bs n)) = 0) := by
  have hc := cX_den hfn hb h3 n (Nat.le_refl _)
  have ha : arbs (psB bs n) = (List.range (n + 1)).map (arbK (psB bs n)) := by unfold arbs; rw [psB_len]
  simp only [eX, eq, lit, X.dB_eq, X.den_lit, X.den_rem, hc]
  rw [Int.tmod_eq_emod_of_nonneg (by omega), ha]
  unfold eqB; exact Bool.beq_eq_decide_eq _ _
theorem rd_vc (hfn : ρ.fn = fnT bs) {n : Nat} (hb : Byte bs) (h3 : n ≤ 3) {m : X} (h1 : 1 ≤ m.den ρ) (h2 : m.den ρ ≤ 100000000) (hbk : LT.vc R tps Inv mu Q bk ρ M) : LT.vc R tps Inv mu Q (rd m n) ρ M := by
  have he := eX_den hfn hb h3 h1
  match n with
  | 0 =>
    refine ⟨fun h => ?_, fun _ => hbk⟩
    have hc : cycL (arbs (psB bs 0)) = 1 := by show cycL [((1 : Int), (1 : Int))] = 1; decide
    rw [X.denB_not, he, hc, Int.emod_one] at h
    cases h
  | n + 1 => exact tw_vc hfn hb h3 h1 h2 he hbk (n + 1) 0 (some (lit 1)) (by omega) rfl
theorem ndA_vc (hfn : ρ.fn = fnT bs) {w p : Nat → X} {ps : List (Int × Int)} (hv : Vals ρ w p ps) (hok : OkPairs ps) (h3 : ps.length ≤ 3) {t : Sx.LT SV} (ht : LT.vc R tps Inv mu Q t ρ M) : ∀ r, r < ps.length → LT.vc R tps Inv mu Q (ndA w p ps.length t r) ρ M := by
  intro r
  induction r with
  | zero => intro _; exact ht
  | succ r ih =>
    intro hr
    have hi : ps.length - (r + 1) < ps.length := by omega
    have e := aX_den hfn hv hok h3 (ps.length - (r + 1)) (by omega)
    have hm := arb_mul hok h3 hi
    have hw := hv _ hi
    refine ⟨⟨?_, ?_, trivial⟩, ih (by omega)⟩
    · simp only [le, lit, X.dB_le, leB_t, X.den_lit, mkM, e.1, hw.1]; omega
    · simp only [le, lit, X.dB_le, leB_t, X.den_lit, mkM, e.2, hw.2]; omega
theorem ndC_vc (hfn : ρ.fn = fnT bs) {n : Nat} (hb : Byte bs) (h3 : n ≤ 3) {t : Sx.LT SV} (ht : LT.vc R tps Inv mu Q t ρ M) : ∀ r, r ≤ n → LT.vc R tps Inv mu Q (ndC n t r) ρ M := by
  have hok := psB_ok hb h3
  have hl := psB_len bs n
  intro r
  induction r with
  | zero => intro _; exact ht
  | succ r ih =>
    intro hr
    obtain ⟨i, hi⟩ : ∃ i, n - (r + 1) = i := ⟨_, rfl⟩
    have hi2 : n - r = i + 1 := by omega
    have ec := cX_den hfn hb h3 i (by omega)
    have ea := (aX_den hfn (vals_B hfn n) hok (by omega) (i + 1) (by omega)).2
    have hc := cyc_bd hok (by omega) (k := i) (by omega)
    have hc2 := cyc_bd hok (by omega) (k := i + 1) (by omega)
    have hb2 := (arbK_bd (psB bs n) hok (i + 1) (by omega)).2
    have h400 := pow400 (i + 1) (by omega)
    have hm := (lcm_at bs hc.1 hb2.1 (by unfold bg; omega)).1
    rw [cyc_succ] at hc2
    refine ⟨⟨?_, trivial⟩, ih (by omega)⟩
    simp only [hi, hi2, le, lit, X.dB_le, leB_t, X.den_lit, X.den_mul, X.den_quo, ap2_den, ec, ea, hfn]
    rw [hm]; omega
end
end Tn
end Go.Proofs.Ytiafbooogggdnaa
