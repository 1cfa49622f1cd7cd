/- TopQuarterZone: numbers; the length in bits of 0, 1 and 2. -/
import Derived.Test.YtekmmeikkafpmaaGreatS6
set_option linter.unusedSimpArgs false
set_option linter.unusedVariables false
namespace Go.Proofs.YtekmmeikkafpmaaGreat
open Abs Sx
set_option maxRecDepth 100000
namespace Qz
def lit (n : Int) : X := .lit n
def v (n : Nat) : X := .var n
def le (a b : X) : X := .bin .le a b
def lt (a b : X) : X := .bin .lt a b
def eq (a b : X) : X := .bin .eq a b
def sub (a b : X) : X := .bin .sub a b
def add (a b : X) : X := .bin .add a b
def mul (a b : X) : X := .bin .mul a b
def rem (a b : X) : X := .bin .rem a b
def quo (a b : X) : X := .bin .quo a b
def i64 : Sh := .int .i64
def rg (a b : Int) (x : X) : List X := [le (lit a) x, le x (lit b)]
def pLen : Pr := ⟨81, [.int .u64], [], fun _ => .ask (eq (v 0) (lit 0)) (.leaf (.int .i64 (lit 0))) (.ask (eq (v 0) (lit 1)) (.leaf (.int .i64 (lit 1))) (.ask (eq (v 0) (lit 2)) (.leaf (.int .i64 (lit 2))) .no))⟩
theorem pLen_ok (fn : Nat → List Int → Int) : pLen.Ok Tryz.prog fn := by
  rintro a H nx w ⟨xs, ns, es, u, hfl, hpre, hsem, hokn, hrv⟩
  simp only [pLen, FlRs, FlR] at hfl
  obtain ⟨b, t, x, y, n, m, e, d, rfl, ⟨z, rfl, rfl, rfl, rfl⟩, ⟨rfl, rfl, rfl, rfl⟩, rfl, rfl, rfl⟩ := hfl
  have hk : (z = 0 ∧ u = .int .i64 (.lit 0)) ∨ (z = 1 ∧ u = .int .i64 (.lit 1)) ∨ (z = 2 ∧ u = .int .i64 (.lit 2)) := by
    simp only [pLen, OT.sem, eq, v, lit] at hsem
    cases h0 : X.denB (valX fn ([z] ++ [])) (.bin .eq (.var 0) (.lit 0)) with
    | true =>
      rw [h0] at hsem
      simp only [X.dB_eq, eqB_t, X.den_lit, X.den_var] at h0
      exact .inl ⟨h0, (Option.some.inj hsem).symm⟩
    | false =>
      rw [h0] at hsem
      cases h1 : X.denB (valX fn ([z] ++ [])) (.bin .eq (.var 0) (.lit 1)) with
      | true =>
        simp only [cond_false, h1, cond_true] at hsem
        simp only [X.dB_eq, eqB_t, X.den_lit, X.den_var] at h1
        exact .inr (.inl ⟨h1, (Option.some.inj hsem).symm⟩)
      | false =>
        cases h2 : X.denB (valX fn ([z] ++ [])) (.bin .eq (.var 0) (.lit 2)) with
        | true =>
          simp only [cond_false, h1, h2, cond_true] at hsem
          simp only [X.dB_eq, eqB_t, X.den_lit, X.den_var] at h2
          exact .inr (.inr ⟨h2, (Option.some.inj hsem).symm⟩)
        | false =>
          simp only [cond_false, h1, h2] at hsem
          cases hsem
  rcases hk with ⟨rfl, rfl⟩ | ⟨rfl, rfl⟩ | ⟨rfl, rfl⟩
  · have hw : w = .int .i64 0 := by
      have : ren (sg (LL [])) (SV.den (valX fn [0]) (.int .i64 (.lit 0))) = some (.int .i64 0) := rfl
      exact (Option.some.inj (this.symm.trans hrv)).symm
    subst hw
    have h : run Tryz.prog 40 (.call 81 [.int .u64 0] H nx) = some (.call (.int .i64 0) H nx) := by kernel_rfl
    exact sound prog_ok 40 _ _ h
  · have hw : w = .int .i64 1 := by
      have : ren (sg (LL [])) (SV.den (valX fn [1]) (.int .i64 (.lit 1))) = some (.int .i64 1) := rfl
      exact (Option.some.inj (this.symm.trans hrv)).symm
    subst hw
    have h : run Tryz.prog 40 (.call 81 [.int .u64 1] H nx) = some (.call (.int .i64 1) H nx) := by kernel_rfl
    exact sound prog_ok 40 _ _ h
  · have hw : w = .int .i64 2 := by
      have : ren (sg (LL [])) (SV.den (valX fn [2]) (.int .i64 (.lit 2))) = some (.int .i64 2) := rfl
      exact (Option.some.inj (this.symm.trans hrv)).symm
    subst hw
    have h : run Tryz.prog 40 (.call 81 [.int .u64 2] H nx) = some (.call (.int .i64 2) H nx) := by kernel_rfl
    exact sound prog_ok 40 _ _ h
def pTw : Pr := ⟨5, [], [], fun _ => .leaf (.bool (lit 1))⟩
def pCh : Pr := ⟨4, [], [], fun _ => .leaf (.bool (lit 1))⟩
def qzP : List X := rg 0 255 (v 0) ++ rg 0 255 (v 1) ++ rg 0 255 (v 2)
def pLaw (z : List X) : Pr := ⟨3, [.int .u8, .int .u8, .int .u8], z ++ qzP, fun _ => .leaf (.bool (lit 1))⟩
def qzL : List Pr := [pLen, pTw, pCh]
end Qz
end Go.Proofs.YtekmmeikkafpmaaGreat
