/- DialSteady: the cases of the law over rows. -/
import Derived.Test.YtncfikkeagflkaaDs0
set_option linter.unusedSimpArgs false
set_option linter.unusedVariables false
namespace Go.Proofs.Ytncfikkeagflkaa
open Abs Sx
set_option maxRecDepth 100000
namespace Dd
def two (b : Bool) (i : Int) : X := cond b (le (lit 128) (ap1 5 i)) (lt (ap1 5 i) (lit 128))
def isN (n k : Nat) : List X := ((List.range k).map fun (i : Nat) => X.not (eq (rem (v 9) (lit n)) (lit (i : Int)))) ++ [eq (rem (v 9) (lit n)) (lit k)]
def zF (n k : Nat) (ms : List Bool) : List X := (cond (Nat.beq n 3) [lt (lit 0) (v 4), lt (lit 1) (v 4), lt (lit 2) (v 4)] [eq (v 4) (lit n)]) ++ (ms.zipIdx.map fun p => two p.1 p.2) ++ isN n k
def mOf (b : Bool) : Nat := cond b 2 1
def soX (i : Int) : X := add (rem (ap1 0 i) (lit 30)) (lit (-15))
def frX (i : Int) : X := rem (ap1 3 i) (lit 60)
def qX (i : Int) : X := add (lit 1) (rem (ap1 5 i) (lit 12))
def skX (i : Int) (b : Bool) : X :=
  let s := mul (mul (rem (ap1 4 i) (lit 40)) (lit 3600)) (add (lit 1) (rem (.bin .quo (ap1 5 i) (lit 12)) (lit 3)))
  .bin .quo (add (add (cond b (add s (mul (mul (rem (ap1 3 i) (lit 30)) (lit 3600)) (qX i))) s) (mul (qX i) (lit 1000))) (lit (-1))) (mul (qX i) (lit 1000))
def ndX (p : Bool × Int) : List X := [le (soX p.2) (add (soX p.2) (rem (ap1 1 p.2) (lit 10))), le (skX p.2 p.1) (lit 3600)]
def others (k : Nat) (ms : List Bool) : List (Bool × Int) := ((ms.zipIdx.filter fun p => !(Nat.beq p.2 k)).map fun p => (p.1, (p.2 : Int)))
def dsU (k : Nat) (ms : List Bool) : OT SV := dsC (skX k (ms.getD k false)) (soX k) (frX k) ((others k ms).flatMap ndX)
def chain (t : OT SV) : OT SV := .ask (lt (lit 3) (v 4)) t t
def dsV (n k : Nat) (ms : List Bool) : OT SV := cond (Nat.beq n 3) (chain (dsU k ms)) (dsU k ms)
def rwV : SV := .slice 0 0 (lit 0) (v 4) (v 5) 6 true
def dsR (P : Program) (l : List PrN) (z : List X) (r t : SV) (ob : List (Nat × SO)) : OT SV := (exS P RD (ksN RD l) 600 (z ++ rwP) (.call 3 (dsA r t) ⟨tplT ob, [], 0⟩ 2)).map retV
section
variable {fn : Nat → List Int → Int} {xs : List Int}
theorem slX_b (hf : ∀ f, f < 6 → ∀ l, 0 ≤ fn f l ∧ fn f l ≤ 255) (i : Int) (b : Bool) : 0 ≤ (skX i b).den (valX fn xs) ∧ (skX i b).den (valX fn xs) ≤ 3600 := by
  have b3 := hf 3 (by decide) [i]
  have b4 := hf 4 (by decide) [i]
  have b5 := hf 5 (by decide) [i]
  cases b
  · have := sl1 b4.1 b5.1
    simpa only [skX, qX, ap1, add, mul, rem, lit, cond_false, X.den_quo, X.den_rem, X.den_add, X.den_mul, X.den_lit, X.den_app, X.sem_cons, X.sem_nil, valX_fn] using this
  · have := sl2 b3.1 b4.1 b5.1
    simpa only [skX, qX, ap1, add, mul, rem, lit, cond_true, X.den_quo, X.den_rem, X.den_add, X.den_mul, X.den_lit, X.den_app, X.sem_cons, X.sem_nil, valX_fn] using this
theorem nd_ok (hf : ∀ f, f < 6 → ∀ l, 0 ≤ fn f l ∧ fn f l ≤ 255) : ∀ l : List (Bool × Int), AllB (valX fn xs) (l.flatMap ndX)
  | [] => trivial
  | p :: l => by
    have b1 := (hf 1 (by decide) [p.2]).1
    have hs := slX_b (xs := xs) hf p.2 p.1
    have h1 := m_b 10 b1 (by decide)
    rw [List.flatMap_cons]
    refine AllB.append ⟨?_, ?_, trivial⟩ (nd_ok hf l)
    · simp only [le, add, rem, ap1, lit, X.dB_le, leB_t, X.den_add, X.den_rem, X.den_app, X.den_lit, X.sem_cons, X.sem_nil, valX_fn]
      omega
    · simp only [le, lit, X.dB_le, leB_t, X.den_lit]
      exact hs.2
theorem dsU_vc (hf : ∀ f, f < 6 → ∀ l, 0 ≤ fn f l ∧ fn f l ≤ 255) (hpre : AllB (valX fn xs) rwP) (k : Nat) (ms : List Bool) : OT.vc (valX fn xs) (fun w => w.den (valX fn xs) = .bool true) (dsU k ms) :=
  dsC_vc hpre (slX_b hf _ _) (by
    have b3 := (hf 3 (by decide) [(k : Int)]).1
    have := m_b 60 b3 (by decide)
    simp only [frX, rem, ap1, lit, X.den_rem, X.den_app, X.den_lit, X.sem_cons, X.sem_nil, valX_fn]
    omega) (nd_ok hf _)
theorem allB_r {ρ : Val} : ∀ {a b : List X}, AllB ρ (a ++ b) → AllB ρ b
  | [], _, h => h
  | _ :: _, _, h => allB_r (ρ := ρ) h.2
theorem dsV_vc (hf : ∀ f, f < 6 → ∀ l, 0 ≤ fn f l ∧ fn f l ≤ 255) {n k : Nat} {ms : List Bool} (hpre : AllB (valX fn xs) (zF n k ms ++ rwP)) : OT.vc (valX fn xs) (fun w => w.den (valX fn xs) = .bool true) (dsV n k ms) := by
  have h := dsU_vc hf (allB_r hpre) k ms
  unfold dsV
  cases hn : Nat.beq n 3 with
  | false => exact h
  | true =>
    exact ⟨fun _ => h, fun _ => h⟩
end
theorem call_law {fn : Nat → List Int → Int} {l : List PrN} {R : Rgs} {g : FuncId} {args : List SV} {H : SH} {nx fuel : Nat} {pre : List X} {xs : List Int} (T : OT SV) (hl : PrNsOk Try.prog fn l) (hR : R.vr = []) (hfr : ∀ i l, inR (fn i l) (nthR R.fr i)) (hk : (ksN R l g).isNone = true)
    (h : (exS Try.prog R (ksN R l) fuel pre (.call g args H nx)).map retV = T) (hpre : AllB (valX fn xs) pre) (k : OT.vc (valX fn xs) (fun v => v.den (valX fn xs) = .bool true) T) :
    CallH Try.prog g (SV.dens (valX fn xs) args) (hD (valX fn xs) H) nx (fun v _ _ => v = .bool true) :=
  have hRo : R.ok (valX fn xs) := ⟨fun i => by rw [hR]; cases i <;> trivial, hfr⟩
  call_ex (V := fun v => v = .bool true) prog_ok hRo (ctsN_has l hl rfl hRo) (allB_fcs hpre) hk h k
theorem RD_b {fn : Nat → List Int → Int} (hM : ∀ i l, inR (fn i l) (nthR RD.fr i)) : ∀ f, f < 6 → ∀ l, 0 ≤ fn f l ∧ fn f l ≤ 255
  | 0, _, l => hM 0 l
  | 1, _, l => hM 1 l
  | 2, _, l => hM 2 l
  | 3, _, l => hM 3 l
  | 4, _, l => hM 4 l
  | 5, _, l => hM 5 l
  | _ + 6, h, _ => absurd h (by omega)
def Goal (z : List X) (t : SV) (ob : List (Nat × SO)) : Prop := ∀ (fn : Nat → List Int → Int) (xs : List Int), pKn4.Ok Try.prog fn → (∀ i l, inR (fn i l) (nthR RD.fr i)) → AllB (valX fn xs) (z ++ rwP) →
  CallH Try.prog 3 (SV.dens (valX fn xs) (dsA rwV t)) (hD (valX fn xs) ⟨tplT ob, [], 0⟩) 2 (fun v _ _ => v = .bool true)
theorem goal_of {n k : Nat} {ms : List Bool} {q : Pr} {t : SV} {ob : List (Nat × SO)} (hq : ∀ fn, q.Ok Try.prog fn) (hk : (ksN RD [q.toN, pKn4.toN] 3).isNone = true) (h : dsR Try.prog [q.toN, pKn4.toN] (zF n k ms) rwV t ob = dsV n k ms) : Goal (zF n k ms) t ob := fun fn xs hK hM hpre =>
  call_law (l := [q.toN, pKn4.toN]) (R := RD) (fuel := 600) (pre := zF n k ms ++ rwP) _ ⟨(hq fn).toN, hK.toN, (trivial : True)⟩ rfl hM hk h hpre (dsV_vc (RD_b hM) hpre)
end Dd
end Go.Proofs.Ytncfikkeagflkaa
