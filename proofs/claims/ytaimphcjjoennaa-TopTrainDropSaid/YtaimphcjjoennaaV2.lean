/- TopTrainDrop: the law. -/
import Derived.Test.YtaimphcjjoennaaKt
import Derived.Test.YtaimphcjjoennaaKd
import Derived.Test.YtaimphcjjoennaaV1
import Derived.Test.YtaimphcjjoennaaW3
set_option linter.unusedSimpArgs false
set_option linter.unusedVariables false
namespace Go.Proofs.Ytaimphcjjoennaa
open Abs Sx Go.RowKit
set_option maxRecDepth 100000
namespace Du
open Tg
/-! Hours that all use the same: the clock can stop after just as many. -/
theorem goes_fst (U : Int → Dw.Hr) : ∀ (n : Nat) (h few many d : Int), d ≠ 2000 → (Dw.goes U n h few many d).1 = d
  | 0, _, _, _, _, _ => rfl
  | n + 1, h, few, many, d, hd => by
    simp only [Dw.goes, hd, and_false, if_false]
    split
    · rfl
    · exact goes_fst U n _ _ _ _ hd
theorem goes_low {lo hi : Int} (hhi : 1 ≤ hi) (H : Int) (hH : H < 2000) : ∀ (n : Nat) (h few many : Int), (n : Int) = 2000 - h → h ≤ H → 0 ≤ many → many ≤ few → many ≤ hi * (H - h) → lo ≤ hi → (Dw.goes (fun _ => (lo, hi)) n h few many 2000).1 ≤ H
  | 0, h, few, many, hn, hh, _, _, _, _ => by omega
  | n + 1, h, few, many, hn, hh, h0, hf, hm, hl => by
    simp only [Dw.goes]
    by_cases c : many < hi
    · simp only [c, and_true, if_true]
      split
      · exact hh
      · rw [goes_fst _ _ _ _ _ _ (by omega)]; exact hh
    · simp only [c, false_and, if_false]
      have hlt : h < H := by
        rcases Int.lt_or_eq_of_le hh with h1 | h1
        · exact h1
        · rw [h1, Int.sub_self, Int.mul_zero] at hm; omega
      have e : hi * (H - h) = hi * (H - (h + 1)) + hi := by rw [show H - h = (H - (h + 1)) + 1 by omega, Int.mul_add, Int.mul_one]
      rw [if_neg (by omega)]
      exact goes_low hhi H hH n (h + 1) (few - lo) (max 0 (many - hi)) (by omega) (by omega) (by omega) (by omega) (by
        rcases Int.le_total 0 (many - hi) with h1 | h1
        · rw [Int.max_eq_right h1]; omega
        · rw [Int.max_eq_left h1]; exact Int.mul_nonneg (by omega) (by omega)) hl
theorem goes_ge (U : Int → Dw.Hr) : ∀ (n : Nat) (h few many d : Int), (n : Int) = 2000 - h → h ≤ (Dw.goes U n h few many d).2
  | 0, h, few, many, d, hn => by simp only [Dw.goes]; omega
  | n + 1, h, few, many, d, hn => by
    simp only [Dw.goes]
    split
    · exact Int.le_refl _
    · have := goes_ge U n (h + 1) (few - (U (h.tmod 24)).1) (max 0 (many - (U (h.tmod 24)).2)) (if many < (U (h.tmod 24)).2 ∧ d = 2000 then h else d) (by omega)
      omega
theorem goes_high {lo hi : Int} (hlo : 0 ≤ lo) (H : Int) (hH : H ≤ 2000) : ∀ (n : Nat) (h few many d : Int), (n : Int) = 2000 - h → h ≤ H → lo * (H - h) ≤ few → H ≤ (Dw.goes (fun _ => (lo, hi)) n h few many d).2
  | 0, h, few, many, d, hn, hh, _ => by simp only [Dw.goes]; omega
  | n + 1, h, few, many, d, hn, hh, hf => by
    rcases Int.lt_or_eq_of_le hh with h1 | h1
    · have e : lo * (H - h) = lo * (H - (h + 1)) + lo := by rw [show H - h = (H - (h + 1)) + 1 by omega, Int.mul_add, Int.mul_one]
      have e2 : 0 ≤ lo * (H - (h + 1)) := Int.mul_nonneg hlo (by omega)
      simp only [Dw.goes]
      rw [if_neg (by omega)]
      exact goes_high hlo H hH n (h + 1) (few - lo) _ _ (by omega) (by omega) (by omega)
    · rw [← h1]; exact goes_ge _ (n + 1) h few many d (by omega)
theorem same_in {bs : List (Int × Int)} {L H : Int} (h1 : 1 ≤ H) (h2 : H < 2000) (h3 : 1 ≤ L) (h4 : L ≤ 3000) :
    fnV bs 67 [L, H] ≤ fnV bs 68 [L, H] ∧ fnV bs 65 [fnV bs 67 [L, H], fnV bs 68 [L, H], L, 0] ≤ H ∧ H ≤ fnV bs 66 [fnV bs 67 [L, H], fnV bs 68 [L, H], L, 0] := by
  have a1 := Int.ediv_nonneg (a := L) (b := H) (by omega) (by omega)
  have a2 := Int.ediv_le_self H (show 0 ≤ L by omega)
  have a3 := Int.mul_ediv_add_emod L H
  have a4 := Int.emod_nonneg L (show H ≠ 0 by omega)
  have b3 := Int.mul_ediv_add_emod (-L) H
  have b4 := Int.emod_nonneg (-L) (show H ≠ 0 by omega)
  have b5 := Int.emod_lt_of_pos (-L) (show 0 < H by omega)
  have e67 : fnV bs 67 [L, H] = L / H := c3_id (x := L / H) a1 (by omega)
  generalize hq : -L / H = q at *
  have c1 : L ≤ H * (-q) := by rw [Int.mul_neg]; omega
  have c2 : q ≤ 0 := by
    rcases Int.lt_or_le 0 q with h | h
    · have := Int.mul_le_mul_of_nonneg_left (show 1 ≤ q by omega) (show 0 ≤ H by omega); omega
    · exact h
  have c3' : q ≤ -1 := by
    rcases Int.lt_or_eq_of_le c2 with h | h
    · omega
    · rw [h] at b3; omega
  have c4 : -q ≤ 3000 := by
    have := Int.mul_le_mul_of_nonneg_left (show 1 ≤ H by omega) (show 0 ≤ -q by omega)
    rcases Int.lt_or_le 3000 (-q) with h | h
    · exfalso
      have h5 : H * (-q) = H * (-q - 1) + H := by rw [show -q = (-q - 1) + 1 by omega, Int.mul_add, Int.mul_one, show -q - 1 + 1 - 1 = -q - 1 by omega]
      have h6 := Int.mul_le_mul_of_nonneg_right (show 1 ≤ H by omega) (show 0 ≤ -q - 1 by omega)
      have h7 : H * (-q) = -(H * q) := Int.mul_neg ..
      omega
    · exact h
  have e68 : fnV bs 68 [L, H] = -q := by
    show c3 3000 (-(-L / H)) = -q
    rw [hq]; exact c3_id (by omega) c4
  have d1 : L / H ≤ -q := by
    rcases Int.lt_or_le (-q) (L / H) with h | h
    · exfalso
      have h5 := Int.mul_le_mul_of_nonneg_left (show -q + 1 ≤ L / H by omega) (show 0 ≤ H by omega)
      rw [Int.mul_add, Int.mul_one] at h5
      have h7 : H * (-q) = -(H * q) := Int.mul_neg ..
      omega
    · exact h
  rw [e67, e68]
  refine ⟨d1, ?_, ?_⟩
  · show c3 2000 (Dw.goes (fun _ => (L / H, -q)) 2000 0 L L 2000).1 ≤ H
    have := goes_low (lo := L / H) (hi := -q) (by omega) H h2 2000 0 L L (by omega) (by omega) (by omega) (Int.le_refl _) (by rw [Int.sub_zero, Int.mul_comm]; exact c1) d1
    unfold c3; omega
  · show H ≤ c3 2000 (Dw.goes (fun _ => (L / H, -q)) 2000 0 L L 2000).2
    have := goes_high (lo := L / H) (hi := -q) a1 H (by omega) 2000 0 L L 2000 (by omega) (by omega) (by rw [Int.sub_zero, Int.mul_comm]; omega)
    unfold c3; omega
/-! The law. -/
def teeth : Sh := .row [.int .u8 0, .int .u8 1]
def pTr : Pr := ⟨17, [], [], fun _ => .leaf (.bool (lit 1))⟩
def pDr : Pr := ⟨18, [], [], fun _ => .leaf (.bool (lit 1))⟩
def lawT (pre : List X) : Pr := ⟨5, [teeth, .int .u8, .int .u8], pre, fun _ => .leaf (.bool (lit 1))⟩
def byPre : List X := [le (lit 0) (v 2), le (v 2) (lit 255), le (lit 0) (v 3), le (v 3) (lit 255)]
def tps : List Pr := [pGcd, pLst, pLcm, pDown, pUp, pTr, pDr, pGoesU]
def wX (i : Nat) : X := .bin .add (lit 40) (.bin .rem (.app 0 (.cons (lit i) .nil)) (lit 60))
def vX (i : Nat) : X := .bin .add (lit 6) (.bin .rem (.app 1 (.cons (lit i) .nil)) (lit 12))
def aX : Nat → X × X
  | 0 => (lit 1, lit 1)
  | k + 1 => (ap2 91 (mk .mul (aX k).1 (wX k)) (mk .mul (aX k).2 (vX k)), ap2 92 (mk .mul (aX k).1 (wX k)) (mk .mul (aX k).2 (vX k)))
def cX : Nat → X
  | 0 => ap2 93 (lit 1) (lit 1)
  | k + 1 => ap2 93 (cX k) (aX (k + 1)).2
def tX (a : Nat) : X := .bin .add (lit 1) (.bin .rem (v (a + 1)) (lit 4))
def uX (a : Nat) : X := .bin .add (lit 1) (v a)
def tT : OT SV := .leaf (.bool (lit 1))
def fF : OT SV := .leaf (.bool (lit 0))
def dnX (h l : X) : X := ap2 67 l h
def upX (h l : X) : X := ap2 68 l h
def endT (h l : X) : OT SV := .need [le (lit 1) h] (.need (List.replicate 24 (le (dnX h l) (upX h l))) (.ask (le (ap4 65 (dnX h l) (upX h l) l (lit 0)) h) (.ask (le h (ap4 66 (dnX h l) (upX h l) l (lit 0))) tT fF) fF))
def hX (a n : Nat) : X := .bin .mul (.bin .quo (.bin .mul (aX n).2 (tX a)) (aX n).2) (aX n).1
def lX (a n : Nat) : X := .bin .mul (.bin .mul (aX n).2 (tX a)) (uX a)
def tailT (n : Nat) : OT SV := .ask (.not (eq (.bin .rem (cX n) (aX n).2) (lit 0))) fF (.ask (le (lit 2000) (hX 2 n)) tT (.ask (lt (lit 3000) (lX 2 n)) tT (endT (hX 2 n) (lX 2 n))))
def ndA (n : Nat) (t : OT SV) : Nat → OT SV
  | 0 => t
  | r + 1 => .need [le (mk .mul (aX (n - (r + 1))).1 (wX (n - (r + 1)))) (lit 100000000), le (mk .mul (aX (n - (r + 1))).2 (vX (n - (r + 1)))) (lit 100000000)] (ndA n t r)
def ndC (n : Nat) (t : OT SV) : Nat → OT SV
  | 0 => t
  | r + 1 => .need [le (.bin .mul (.bin .quo (cX (n - (r + 1))) (ap2 90 (cX (n - (r + 1))) (aX (n - r)).2)) (aX (n - r)).2) (lit 100000000)] (ndC n t r)
def treeT (a : Nat) : Nat → OT SV
  | 0 => endT (.bin .quo (tX a) (lit 1)) (.bin .mul (tX a) (uX a))
  | n + 1 => ndA (n + 1) (ndC (n + 1) (tailT (n + 1)) (n + 1)) n

section
variable {ρ : Val} {bs : List (Int × Int)} (hb : Byte bs) (hfn : ρ.fn = fnV bs)
theorem ap2_den (f : Nat) (a b : X) : (ap2 f a b).den ρ = ρ.fn f [a.den ρ, b.den ρ] := by simp only [ap2, X.den_app, X.sem_cons, X.sem_nil]
theorem ap4_den (f : Nat) (a b c d : X) : (ap4 f a b c d).den ρ = ρ.fn f [a.den ρ, b.den ρ, c.den ρ, d.den ρ] := by simp only [ap4, X.den_app, X.sem_cons, X.sem_nil]
theorem mkM (a b : X) : (mk .mul a b).den ρ = a.den ρ * b.den ρ := mk_den _ _ _
include hb hfn
theorem w_bd (i : Nat) : (40 ≤ (wX i).den ρ ∧ (wX i).den ρ ≤ 99) ∧ 6 ≤ (vX i).den ρ ∧ (vX i).den ρ ≤ 17 := by
  have h := hb [(i : Int)]
  simp only [wX, vX, lit, X.den_add, X.den_lit, X.den_rem, X.den_app, X.sem_cons, X.sem_nil, hfn]
  have e0 : fnV bs 0 [(i : Int)] = (bt bs [(i : Int)]).1 := rfl
  have e1 : fnV bs 1 [(i : Int)] = (bt bs [(i : Int)]).2 := rfl
  rw [e0, e1, tm_emod h.1.1, tm_emod h.2.1]
  omega
def Aa : Nat → Int
  | 0 => 1
  | k + 1 => Aa k * 99
def Bb : Nat → Int
  | 0 => 1
  | k + 1 => Bb k * 17
def Bd (ρ : Val) (k : Nat) : Prop := (1 ≤ (aX k).1.den ρ ∧ (aX k).1.den ρ ≤ Aa k) ∧ 1 ≤ (aX k).2.den ρ ∧ (aX k).2.den ρ ≤ Bb k
omit hb hfn in
theorem step_in {a b A B : Int} (h1 : 1 ≤ a) (h2 : a ≤ A) (h3 : 1 ≤ b) (h4 : b ≤ B) : 1 ≤ a * b ∧ a * b ≤ A * B := by
  have h := Int.mul_le_mul h2 h4 (show 0 ≤ b by omega) (show 0 ≤ A by omega)
  have k := Int.mul_le_mul h1 h3 (show (0 : Int) ≤ 1 by omega) (show 0 ≤ a by omega)
  omega
theorem bd_step {k : Nat} (h : Bd ρ k) (hA : Aa k * 99 ≤ 100000000) (hB : Bb k * 17 ≤ 100000000) : Bd ρ (k + 1) ∧ (mk .mul (aX k).1 (wX k)).den ρ ≤ 100000000 ∧ (mk .mul (aX k).2 (vX k)).den ρ ≤ 100000000 := by
  have hw := w_bd hb hfn k
  have a := step_in h.1.1 h.1.2 (show 1 ≤ (wX k).den ρ by omega) hw.1.2
  have b := step_in h.2.1 h.2.2 (show 1 ≤ (vX k).den ρ by omega) hw.2.2
  have l := low_in (isT bs) a.1 b.1 a.2 b.2 hA hB
  refine ⟨?_, by rw [mkM]; omega, by rw [mkM]; omega⟩
  simp only [Bd, aX, ap2_den, mkM, hfn]
  exact l
omit hb hfn in
theorem bd0 : Bd ρ 0 := by simp only [Bd, aX, lit, X.den_lit, Aa, Bb]; omega
theorem bds : Bd ρ 1 ∧ Bd ρ 2 ∧ Bd ρ 3 ∧ ∀ k, k < 3 → (mk .mul (aX k).1 (wX k)).den ρ ≤ 100000000 ∧ (mk .mul (aX k).2 (vX k)).den ρ ≤ 100000000 := by
  have h1 := bd_step hb hfn bd0 (by decide) (by decide)
  have h2 := bd_step hb hfn h1.1 (by decide) (by decide)
  have h3 := bd_step hb hfn h2.1 (by decide) (by decide)
  exact ⟨h1.1, h2.1, h3.1, fun k hk => match k, hk with
    | 0, _ => h1.2
    | 1, _ => h2.2
    | 2, _ => h3.2⟩
def cNeed (ρ : Val) (k : Nat) : Prop := (.bin .mul (.bin .quo (cX k) (ap2 90 (cX k) (aX (k + 1)).2)) (aX (k + 1)).2 : X).den ρ ≤ 100000000
omit hb in
theorem cyc_step {k : Nat} {M B : Int} (h1 : 1 ≤ (cX k).den ρ) (h2 : (cX k).den ρ ≤ M) (h : 1 ≤ (aX (k + 1)).2.den ρ) (h3 : (aX (k + 1)).2.den ρ ≤ B) (hB : B ≤ 100000000) (hM : M * B ≤ 100000000) :
    cNeed ρ k ∧ (1 ≤ (cX (k + 1)).den ρ ∧ (cX (k + 1)).den ρ ≤ M * B) ∧ (aX (k + 1)).2.den ρ ∣ (cX (k + 1)).den ρ := by
  have s := step_in h1 h2 h h3
  have l := lcm_in (isT bs) h1 h (by unfold bg; omega) s.2 hM
  simp only [cNeed, X.den_mul, X.den_quo, cX, ap2_den, hfn]
  exact ⟨l.1, l.2.1, l.2.2.2⟩
theorem cycs : ∀ k, k < 3 → cNeed ρ k ∧ (aX (k + 1)).2.den ρ ∣ (cX (k + 1)).den ρ := by
  obtain ⟨b1, b2, b3, _⟩ := bds hb hfn
  have e0 : (cX 0).den ρ = 1 := by
    simp only [cX, ap2_den, lit, X.den_lit, hfn]
    exact ((lcm_at (isT bs) (a := 1) (b := 1) (by decide) (by decide) (by decide)).2 (by decide)).trans (by decide)
  have c1 := cyc_step hfn (k := 0) (M := 1) (by omega) (by omega) b1.2.1 b1.2.2 (by decide) (by decide)
  have c2 := cyc_step hfn (k := 1) c1.2.1.1 c1.2.1.2 b2.2.1 b2.2.2 (by decide) (by decide)
  have c3 := cyc_step hfn (k := 2) c2.2.1.1 c2.2.1.2 b3.2.1 b3.2.2 (by decide) (by decide)
  exact fun k hk => match k, hk with
    | 0, _ => ⟨c1.1, c1.2.2⟩
    | 1, _ => ⟨c2.1, c2.2.2⟩
    | 2, _ => ⟨c3.1, c3.2.2⟩
def Qt (ρ : Val) : SV → Prop := fun w => OT.is ρ (w.den ρ) tT
omit hb hfn in
theorem tT_vc : OT.vc ρ (Qt ρ) tT := rfl
omit hb in
theorem end_vc {h l : X} (h1 : 1 ≤ h.den ρ) (h2 : h.den ρ < 2000) (h3 : 1 ≤ l.den ρ) (h4 : l.den ρ ≤ 3000) : OT.vc ρ (Qt ρ) (endT h l) := by
  have k := same_in (bs := bs) h1 h2 h3 h4
  refine ⟨⟨by simp only [le, lit, X.dB_le, leB_t, X.den_lit]; exact h1, trivial⟩, ?_, fun _ => ⟨fun _ => rfl, fun c => ?_⟩, fun c => ?_⟩
  · have e : (le (dnX h l) (upX h l)).denB ρ = true := by
      simp only [le, dnX, upX, X.dB_le, leB_t, ap2_den, hfn]; exact k.1
    simp only [List.replicate, AllB, e, and_self]
  · simp only [le, dnX, upX, lit, X.dB_le, leB_f, ap4_den, ap2_den, X.den_lit, hfn] at c
    exact absurd k.2.2 (by omega)
  · simp only [le, dnX, upX, lit, X.dB_le, leB_f, ap4_den, ap2_den, X.den_lit, hfn] at c
    exact absurd k.2.1 (by omega)
omit hb in
theorem tail_vc {n : Nat} (hB : Bd ρ n) (hc : (aX n).2.den ρ ∣ (cX n).den ρ) (hc0 : 0 ≤ (cX n).den ρ) (h2 : 0 ≤ ρ.v 2 ∧ 0 ≤ ρ.v 3) : OT.vc ρ (Qt ρ) (tailT n) := by
  have m4 := Int.tmod_nonneg 4 h2.2
  have eT : (tX 2).den ρ = 1 + (ρ.v 3).tmod 4 := by simp only [tX, lit, v, X.den_add, X.den_lit, X.den_rem, X.den_var]
  have eU : (uX 2).den ρ = 1 + ρ.v 2 := by simp only [uX, lit, v, X.den_add, X.den_lit, X.den_var]
  have eh : (hX 2 n).den ρ = (1 + (ρ.v 3).tmod 4) * (aX n).1.den ρ := by
    simp only [hX, X.den_mul, X.den_quo, eT]
    rw [Int.mul_tdiv_cancel_left _ (by have := hB.2.1; omega)]
  have el : (lX 2 n).den ρ = (aX n).2.den ρ * (1 + (ρ.v 3).tmod 4) * (1 + ρ.v 2) := by simp only [lX, X.den_mul, eT, eU]
  have hh := step_in (A := 1 + (ρ.v 3).tmod 4) (B := (aX n).1.den ρ) (show 1 ≤ 1 + (ρ.v 3).tmod 4 by omega) (Int.le_refl _) hB.1.1 (Int.le_refl _)
  have hl1 := step_in (A := (aX n).2.den ρ) (B := 1 + (ρ.v 3).tmod 4) hB.2.1 (Int.le_refl _) (show 1 ≤ 1 + (ρ.v 3).tmod 4 by omega) (Int.le_refl _)
  have hl2 := step_in (A := (aX n).2.den ρ * (1 + (ρ.v 3).tmod 4)) (B := 1 + ρ.v 2) hl1.1 (Int.le_refl _) (show 1 ≤ 1 + ρ.v 2 by omega) (Int.le_refl _)
  refine ⟨fun c => ?_, fun _ => ⟨fun _ => rfl, fun d => ⟨fun _ => rfl, fun e => ?_⟩⟩⟩
  · exfalso
    simp only [eq, lit, X.denB_not, X.dB_eq, X.den_rem, X.den_lit, Bool.not_eq_true', eqB_f] at c
    exact c (by rw [tm_emod hc0]; exact Int.emod_eq_zero_of_dvd hc)
  · simp only [le, lit, X.dB_le, leB_f, X.den_lit] at d
    simp only [lt, lit, X.dB_lt, ltB_f, X.den_lit] at e
    exact end_vc hfn (by rw [eh]; exact hh.1) d (by rw [el]; exact hl2.1) e
theorem ndA_vc {n : Nat} (hn : n ≤ 3) {t : OT SV} (k : OT.vc ρ (Qt ρ) t) : ∀ r, r < n → OT.vc ρ (Qt ρ) (ndA n t r)
  | 0, _ => k
  | r + 1, h => by
    have := (bds hb hfn).2.2.2 (n - (r + 1)) (by omega)
    refine ⟨⟨?_, ?_, trivial⟩, ndA_vc hn k r (by omega)⟩
    · simp only [le, lit, X.dB_le, leB_t, X.den_lit]; exact this.1
    · simp only [le, lit, X.dB_le, leB_t, X.den_lit]; exact this.2
theorem ndC_vc {n : Nat} (hn : n ≤ 3) {t : OT SV} (k : OT.vc ρ (Qt ρ) t) : ∀ r, r ≤ n → OT.vc ρ (Qt ρ) (ndC n t r)
  | 0, _ => k
  | r + 1, h => by
    have := (cycs hb hfn (n - (r + 1)) (by omega)).1
    refine ⟨⟨?_, trivial⟩, ndC_vc hn k r (by omega)⟩
    simp only [le, lit, X.dB_le, leB_t, X.den_lit]
    rw [show n - r = n - (r + 1) + 1 by omega]
    exact this
theorem tree_vc {n : Nat} (hn : n ≤ 3) (h2 : 0 ≤ ρ.v 2 ∧ ρ.v 2 ≤ 255 ∧ 0 ≤ ρ.v 3) : OT.vc ρ (Qt ρ) (treeT 2 n) := by
  obtain ⟨b1, b2, b3, _⟩ := bds hb hfn
  match n, hn with
  | 0, _ =>
    have m4 := Int.tmod_nonneg 4 h2.2.2
    have m5 := Int.tmod_lt_of_pos (ρ.v 3) (show (0 : Int) < 4 by decide)
    have eT : (tX 2).den ρ = 1 + (ρ.v 3).tmod 4 := by simp only [tX, lit, v, X.den_add, X.den_lit, X.den_rem, X.den_var]
    have eU : (uX 2).den ρ = 1 + ρ.v 2 := by simp only [uX, lit, v, X.den_add, X.den_lit, X.den_var]
    have s := step_in (A := 4) (B := 256) (show 1 ≤ 1 + (ρ.v 3).tmod 4 by omega) (by omega) (show 1 ≤ 1 + ρ.v 2 by omega) (by omega)
    refine end_vc hfn ?_ ?_ ?_ ?_
    · simp only [X.den_quo, eT, lit, X.den_lit, Int.tdiv_one]; omega
    · simp only [X.den_quo, eT, lit, X.den_lit, Int.tdiv_one]; omega
    · simp only [X.den_mul, eT, eU]; omega
    · simp only [X.den_mul, eT, eU]; omega
  | n + 1, hn =>
    have hB : Bd ρ (n + 1) := match n, hn with
      | 0, _ => b1
      | 1, _ => b2
      | 2, _ => b3
    have hc := (cycs hb hfn n (by omega)).2
    have hc0 : 0 ≤ (cX (n + 1)).den ρ := by
      simp only [cX, ap2_den, hfn, (isT bs).h93]; unfold clampT; omega
    exact ndA_vc hb hfn hn (ndC_vc hb hfn hn (tail_vc hfn hB hc hc0 ⟨h2.1, h2.2.2⟩) (n + 1) (by omega)) n (by omega)
end

/-! The examples' calls. -/
theorem tr_spec (fn : Nat → List Int → Int) (xs : List Int) : CallH Try.prog 17 [] (hD (valX fn xs) ⟨tplT [], [], 0⟩) 0 (fun v _ _ => ∃ w, OT.sem (valX fn xs) (OT.leaf (SV.bool (lit 1))) = some w ∧ v = w.den (valX fn xs)) := by
  intro _
  obtain ⟨f, c, h1, h2⟩ : ∃ f c, Try.prog.funcs[17]? = some f ∧ f.body = some c := ⟨_, _, Try.func17, rfl⟩
  refine ⟨(progOk_fn prog_ok h1 h2).2, fun m W ys hxs hR ht => ?_⟩
  have hx : ys = #[] := by
    have := hxs.nil_inv
    exact Array.toList_eq_nil_iff.1 this
  subst hx
  refine (ktgood prog_ok W).mono ?_
  rintro e W' ⟨rfl, hB⟩
  have hgn : ∀ n, (hD (valX fn xs) ⟨tplT [], [], 0⟩).get n = none := fun n => rfl
  refine ⟨.bool true, .bool true, hD (valX fn xs) ⟨tplT [], [], 0⟩, 0, m, rfl, ?_, by simp only [VR], ⟨_, rfl, rfl⟩⟩
  exact { erel := hR, eq := fun _ h => (by cases h), new := fun n k _ h => (by rw [ht n (Nat.zero_le _)] at h; cases h), top := ht, rel := ⟨fun n ob h => (by rw [hgn] at h; cases h), fun i j oi oj ki kj h => (by rw [hgn] at h; cases h)⟩, frame := fun b hb _ => hB.block b hb, os := hB.os, tape := hB.tape, output := hB.output, size := hB.size, ap := .refl (wf_of rfl rfl) }
theorem dr_spec (fn : Nat → List Int → Int) (xs : List Int) : CallH Try.prog 18 [] (hD (valX fn xs) ⟨tplT [], [], 0⟩) 0 (fun v _ _ => ∃ w, OT.sem (valX fn xs) (OT.leaf (SV.bool (lit 1))) = some w ∧ v = w.den (valX fn xs)) := by
  intro _
  obtain ⟨f, c, h1, h2⟩ : ∃ f c, Try.prog.funcs[18]? = some f ∧ f.body = some c := ⟨_, _, Try.func18, rfl⟩
  refine ⟨(progOk_fn prog_ok h1 h2).2, fun m W ys hxs hR ht => ?_⟩
  have hx : ys = #[] := by
    have := hxs.nil_inv
    exact Array.toList_eq_nil_iff.1 this
  subst hx
  refine (kdgood prog_ok W).mono ?_
  rintro e W' ⟨rfl, hB⟩
  have hgn : ∀ n, (hD (valX fn xs) ⟨tplT [], [], 0⟩).get n = none := fun n => rfl
  refine ⟨.bool true, .bool true, hD (valX fn xs) ⟨tplT [], [], 0⟩, 0, m, rfl, ?_, by simp only [VR], ⟨_, rfl, rfl⟩⟩
  exact { erel := hR, eq := fun _ h => (by cases h), new := fun n k _ h => (by rw [ht n (Nat.zero_le _)] at h; cases h), top := ht, rel := ⟨fun n ob h => (by rw [hgn] at h; cases h), fun i j oi oj ki kj h => (by rw [hgn] at h; cases h)⟩, frame := fun b hb _ => hB.block b hb, os := hB.os, tape := hB.tape, output := hB.output, size := hB.size, ap := .refl (wf_of rfl rfl) }
theorem pTr_ok (fn : Nat → List Int → Int) : pTr.Ok Try.prog fn := pr_ok fun xs es _ _ _ _ => tr_spec fn xs
theorem pDr_ok (fn : Nat → List Int → Int) : pDr.Ok Try.prog fn := pr_ok fun xs es _ _ _ _ => dr_spec fn xs
def pre0 : List X := byPre ++ [eq (v 0) (lit 0)]
def pre1 : List X := byPre ++ [eq (v 0) (lit 1)]
def pre2 : List X := byPre ++ [eq (v 0) (lit 2)]
def pre3 : List X := byPre ++ [eq (v 0) (lit 3)]
def pre4 : List X := byPre ++ [lt (lit 0) (v 0), lt (lit 1) (v 0), lt (lit 2) (v 0), lt (lit 3) (v 0)]
section
variable {bs : List (Int × Int)}
theorem tps_ok (hb : Byte bs) : PrsOk Try.prog (fnV bs) tps := ⟨pGcd_ok (isT bs), pLst_ok (isT bs), pLcm_ok (isT bs), pDown_ok hb, pUp_ok hb, pTr_ok _, pDr_ok _, pGoesU_ok hb, trivial⟩
theorem by_of {ρ : Val} {l : List X} (h : AllB ρ (byPre ++ l)) : 0 ≤ ρ.v 2 ∧ ρ.v 2 ≤ 255 ∧ 0 ≤ ρ.v 3 := by
  simp only [byPre, List.cons_append, List.nil_append, AllB, le, lit, v, X.dB_le, leB_t, X.den_lit, X.den_var] at h
  exact ⟨h.1, h.2.1, h.2.2.1⟩
theorem law_of (hb : Byte bs) {pre : List X} (n : Nat) (hn : n ≤ 3) (hpre : ∀ ρ : Val, AllB ρ pre → 0 ≤ ρ.v 2 ∧ ρ.v 2 ≤ 255 ∧ 0 ≤ ρ.v 3) (h1 : runP0 Try.prog RV tps (lawT pre) 600 [true] = treeT 2 n) (h2 : runP0 Try.prog RV tps (lawT pre) 600 [false] = treeT 2 n) : (lawT pre).Ok Try.prog (fnV bs) := by
  refine un1 (l := tps) (R := RV) (fuel := 600) (fun _ => treeT 2 n) prog_ok (tps_ok hb) rfl (frV_ok hb _) rfl rfl h1 h2 ?_
  intro xs es hlen hp hrw
  exact tree_vc (bs := bs) hb rfl hn (hpre _ hp)
theorem law0 (hb : Byte bs) : (lawT pre0).Ok Try.prog (fnV bs) := law_of hb 0 (by omega) (fun _ => by_of) (by kernel_rfl) (by kernel_rfl)
theorem law1 (hb : Byte bs) : (lawT pre1).Ok Try.prog (fnV bs) := law_of hb 1 (by omega) (fun _ => by_of) (by kernel_rfl) (by kernel_rfl)
theorem law2 (hb : Byte bs) : (lawT pre2).Ok Try.prog (fnV bs) := law_of hb 2 (by omega) (fun _ => by_of) (by kernel_rfl) (by kernel_rfl)
theorem law3 (hb : Byte bs) : (lawT pre3).Ok Try.prog (fnV bs) := law_of hb 3 (by omega) (fun _ => by_of) (by kernel_rfl) (by kernel_rfl)
theorem law4 (hb : Byte bs) : (lawT pre4).Ok Try.prog (fnV bs) := law_of hb 3 (by omega) (fun _ => by_of) (by kernel_rfl) (by kernel_rfl)
def g5 : Nat := 5
theorem law_at {pre : List X} (hk : (lawT pre).Ok Try.prog (fnV bs)) {a : List AV} {H : Hp} {nx : Nat} {xs : List Int} {ns : List Nat} {es : List Bool}
    (hfl : FlRs (valX (fnV bs) []) H [teeth, .int .u8, .int .u8] a xs ns es) (hpre : AllB (valX (fnV bs) xs) pre) : CallOk Try.prog g5 a H nx (.bool true) H nx :=
  hk a H nx (.bool true) ⟨xs, ns, es, .bool (lit 1), hfl, hpre, rfl, rfl, rfl⟩
theorem law_all (hb : Byte bs) {a : List AV} {H : Hp} {nx : Nat} {xs : List Int} {ns : List Nat} {es : List Bool}
    (hfl : FlRs (valX (fnV bs) []) H [teeth, .int .u8, .int .u8] a xs ns es) (h0 : 0 ≤ xs.getD 0 0) (h1 : 0 ≤ xs.getD 2 0 ∧ xs.getD 2 0 ≤ 255) (h2 : 0 ≤ xs.getD 3 0 ∧ xs.getD 3 0 ≤ 255) : CallOk Try.prog g5 a H nx (.bool true) H nx := by
  have key : ∀ {pre : List X}, AllB (valX (fnV bs) xs) pre → (lawT pre).Ok Try.prog (fnV bs) → CallOk Try.prog g5 a H nx (.bool true) H nx := fun h k => law_at k hfl h
  by_cases c0 : xs.getD 0 0 = 0
  · refine key (pre := pre0) ?_ (law0 hb)
    simp only [pre0, byPre, List.cons_append, List.nil_append, AllB, le, eq, v, lit, X.dB_le, leB_t, X.dB_eq, eqB_t, X.den_lit, X.den_var, valX_v, and_true]; omega
  by_cases c1 : xs.getD 0 0 = 1
  · refine key (pre := pre1) ?_ (law1 hb)
    simp only [pre1, byPre, List.cons_append, List.nil_append, AllB, le, eq, v, lit, X.dB_le, leB_t, X.dB_eq, eqB_t, X.den_lit, X.den_var, valX_v, and_true]; omega
  by_cases c2 : xs.getD 0 0 = 2
  · refine key (pre := pre2) ?_ (law2 hb)
    simp only [pre2, byPre, List.cons_append, List.nil_append, AllB, le, eq, v, lit, X.dB_le, leB_t, X.dB_eq, eqB_t, X.den_lit, X.den_var, valX_v, and_true]; omega
  by_cases c3 : xs.getD 0 0 = 3
  · refine key (pre := pre3) ?_ (law3 hb)
    simp only [pre3, byPre, List.cons_append, List.nil_append, AllB, le, eq, v, lit, X.dB_le, leB_t, X.dB_eq, eqB_t, X.den_lit, X.den_var, valX_v, and_true]; omega
  · refine key (pre := pre4) ?_ (law4 hb)
    simp only [pre4, byPre, List.cons_append, List.nil_append, AllB, le, lt, v, lit, X.dB_le, leB_t, X.dB_lt, ltB_t, X.den_lit, X.den_var, valX_v, and_true]; omega
end
/-! Slices that have no room. -/
theorem byte_nil : Byte [] := fun l => by simp [bt]
def preN : List X := [le (lit 0) (v 2), le (v 2) (lit 255), le (lit 0) (v 3), le (v 3) (lit 255)]
def argN (a : SV) : List SV := [a, .int .u8 (v 2), .int .u8 (v 3)]
theorem run_at {xs : List Int} {args : List SV} (hf : AllB (valX (fnV []) xs) preN)
    (h : (exS Try.prog RV (ksOf RV tps) 600 preN (.call g5 args ⟨tplT [], [], 0⟩ 0)).map retV = treeT 2 0) :
    CallH Try.prog g5 (SV.dens (valX (fnV []) xs) args) (hD (valX (fnV []) xs) ⟨tplT [], [], 0⟩) 0 (fun v _ _ => v = .bool true) :=
  have hR : RV.ok (valX (fnV []) xs) := ⟨fun i => by cases i <;> trivial, frV_ok byte_nil _⟩
  call_ex (V := fun v => v = .bool true) prog_ok hR (ctsOf_has tps (tps_ok byte_nil) rfl hR) (allB_fcs hf) rfl h (tree_vc (bs := []) byte_nil rfl (by omega) (by_of (l := []) hf))
theorem run_nil {xs : List Int} (hf : AllB (valX (fnV []) xs) preN) : CallH Try.prog g5 (SV.dens (valX (fnV []) xs) (argN .nils)) (hD (valX (fnV []) xs) ⟨tplT [], [], 0⟩) 0 (fun v _ _ => v = .bool true) := run_at hf (by kernel_rfl)
theorem run_free {xs : List Int} (hf : AllB (valX (fnV []) xs) preN) : CallH Try.prog g5 (SV.dens (valX (fnV []) xs) (argN (.slice 9 0 (lit 0) (lit 0) (lit 0) 2 true))) (hD (valX (fnV []) xs) ⟨tplT [], [], 0⟩) 0 (fun v _ _ => v = .bool true) := run_at hf (by kernel_rfl)
theorem preN_ok {c t : Int} (h1 : 0 ≤ c ∧ c ≤ 255) (h2 : 0 ≤ t ∧ t ≤ 255) : AllB (valX (fnV []) [0, 0, c, t]) preN := by
  simp only [preN, AllB, le, lit, v, X.dB_le, leB_t, X.den_lit, X.den_var]
  exact ⟨h1.1, h1.2, h2.1, h2.2, trivial⟩
theorem bool_ren (nx : Nat) : ∀ v : AV, v = .bool true → ren (upS nx) v = some v := fun v h => by subst h; rfl
theorem call_nil {c t : Int} (h1 : 0 ≤ c ∧ c ≤ 255) (h2 : 0 ≤ t ∧ t ≤ 255) : CallH Try.prog g5 [.nils, .int .u8 c, .int .u8 t] ⟨objs [], [], 0⟩ 0 (fun v H' nx' => v = .bool true ∧ H' = ⟨objs [], [], 0⟩ ∧ nx' = 0) :=
  call_forget (run_nil (preN_ok h1 h2)) rfl (bool_ren 0)
theorem call_free {c t : Int} (h1 : 0 ≤ c ∧ c ≤ 255) (h2 : 0 ≤ t ∧ t ≤ 255) : CallH Try.prog g5 [.slice 9 0 0 0 2 true, .int .u8 c, .int .u8 t] ⟨objs [], [], 0⟩ 0 (fun v H' nx' => v = .bool true ∧ H' = ⟨objs [], [], 0⟩ ∧ nx' = 0) :=
  call_forget (run_free (preN_ok h1 h2)) rfl (bool_ren 0)
/-! Rows. -/
def byC : List (Int × Int) → List AV
  | [] => []
  | r :: l => .int .u8 r.1 :: .int .u8 r.2 :: byC l
theorem byC_row (bs : List (Int × Int)) : ∀ (n i : Nat), i + n = bs.length → rowD (valX (fnV bs) []) [.int .u8 0, .int .u8 1] [] i n = byC (bs.drop i)
  | 0, i, h => by rw [List.drop_eq_nil_of_le (by omega)]; rfl
  | n + 1, i, h => by
    have hi : i < bs.length := by omega
    rw [List.drop_eq_getElem_cons hi, rowD, byC_row bs n (i + 1) (by omega)]
    have hg : bs[i] = bs.getD i (0, 0) := by rw [List.getD_eq_getElem?_getD, List.getElem?_eq_getElem hi]; rfl
    rw [hg]
    show AV.int .u8 (fnV bs 0 [(i : Int)]) :: AV.int .u8 (fnV bs 1 [(i : Int)]) :: _ = _
    have e0 : fnV bs 0 [(i : Int)] = (bs.getD i (0, 0)).1 := by show (bs.getD ((i : Int)).toNat (0, 0)).1 = _; rw [Int.toNat_natCast]
    have e1 : fnV bs 1 [(i : Int)] = (bs.getD i (0, 0)).2 := by show (bs.getD ((i : Int)).toNat (0, 0)).2 = _; rw [Int.toNat_natCast]
    rw [e0, e1]; rfl
theorem call_row {bs : List (Int × Int)} (hb : Byte bs) (cap : Nat) {c t : Int} (h1 : 0 ≤ c ∧ c ≤ 255) (h2 : 0 ≤ t ∧ t ≤ 255) : CallH Try.prog g5 [.slice 0 0 bs.length cap 2 true, .int .u8 c, .int .u8 t] ⟨objs [(0, .cells false (byC bs))], [], 0⟩ 1 (fun v H' nx' => v = .bool true ∧ H' = ⟨objs [(0, .cells false (byC bs))], [], 0⟩ ∧ nx' = 1) := by
  refine callH_of_ok (law_all hb (xs := [bs.length, cap, c, t]) (ns := [0]) (es := [true]) ?_ (Int.natCast_nonneg _) h1 h2)
  have h0 : (⟨objs [(0, .cells false (byC bs))], [], 0⟩ : Hp).get 0 = some (.cells false (rowD (valX (fnV bs) []) [.int .u8 0, .int .u8 1] [] 0 bs.length)) := by
    rw [byC_row bs bs.length 0 (by omega)]; rfl
  exact Dw.fl_row (cm := [.int .u8 0, .int .u8 1]) 0 bs.length cap true false h0 (Dw.fl_int c (Dw.fl_int t Dw.fl_nil))
end Du
end Go.Proofs.Ytaimphcjjoennaa
