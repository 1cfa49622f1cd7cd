/- TopTrainSlack: the tree of the law, by the number of pairs. -/
import Derived.Test.YtjlolhdkjpfcoaaGreatTs3
set_option linter.unusedSimpArgs false
set_option linter.unusedVariables false
namespace Go.Proofs.YtjlolhdkjpfcoaaGreat
open Abs Sx Tg
set_option maxRecDepth 100000
namespace Ts
def ap2' (f : Nat) (a : X × X) : X := .app f (.cons a.1 (.cons a.2 .nil))
def ap1 (f : Nat) (i : Nat) : X := .app f (.cons (lit (i : Int)) .nil)
def sX (k : Nat) : X := rem (v (2 + k)) (lit 50)
def wX (i : Nat) : X := add (lit 6) (rem (ap1 0 i) (lit 20))
def pX (i : Nat) : X := add (lit 6) (rem (ap1 1 i) (lit 12))
def aX : Nat → X × X
  | 0 => (lit 1, lit 1)
  | 1 => (wX 0, pX 0)
  | k + 2 => (mul (ap2' 91 (aX (k + 1))) (wX (k + 1)), mul (ap2' 92 (aX (k + 1))) (pX (k + 1)))
def rX : Nat → X
  | 0 => lit 1
  | k + 1 => ap2' 91 (aX (k + 1))
def qX : Nat → X
  | 0 => lit 1
  | k + 1 => ap2' 92 (aX (k + 1))
def lkX (k : Nat) : List X := (List.range (k + 1)).flatMap fun j => [sX j, rX j, qX j]
def alX (k : Nat) : X := .app 60 (xs_ [sX k, rX k, qX k])
def toX (k : Nat) : X := .app 60 (xs_ (lkX k))
def wr (k : Nat) (x : X) : X := match k with
  | 3 => .wrap .i64 x
  | _ => x
def tmX (k : Nat) : X := match k with
  | 0 => mul (lit 3600) (sX 0)
  | k => mul (mul (lit 3600) (sX k)) (qX k)
def gX (u : X × X) : X × X := (.bin .quo u.1 (ap2' 90 u), .bin .quo u.2 (ap2' 90 u))
def uX : Nat → X × X
  | 0 => (mul (lit 3600) (sX 0), lit 1000)
  | k + 1 => (wr (k + 1) (add (wr (k + 1) (mul (wr (k + 1) (mul (gX (uX k)).1 (lit 1000))) (rX (k + 1)))) (wr (k + 1) (mul (tmX (k + 1)) (gX (uX k)).2))), mul (mul (gX (uX k)).2 (lit 1000)) (rX (k + 1)))
def nuX (k : Nat) : X := (gX (uX k)).1
def deX (k : Nat) : X := (gX (uX k)).2
def eaX : Nat → X
  | 0 => alX 0
  | k + 1 => add (eaX k) (alX (k + 1))
def moX : Nat → X
  | 0 => .bin .max (lit 0) (alX 0)
  | k + 1 => .bin .max (moX k) (alX (k + 1))
def fF : OT SV := .leaf (.bool (lit 0))
def tT : OT SV := .leaf (.bool (lit 1))
def fin (k : Nat) : OT SV := match k with
  | 0 => .ask (lt (mul (lit 3600) (deX 0)) (nuX 0)) fF (.ask (le (nuX 0) (mul (toX 0) (deX 0))) (.ask (lt (mul (add (toX 0) (lit (-1))) (deX 0)) (nuX 0)) (.ask (le (moX 0) (toX 0)) tT fF) fF) fF)
  | k => .ask (le (toX k) (lit 3600)) (.ask (lt (wr k (mul (lit 3600) (deX k))) (nuX k)) fF (.ask (le (nuX k) (wr k (mul (toX k) (deX k)))) (.ask (lt (wr k (mul (add (toX k) (lit (-1))) (deX k))) (nuX k)) (.ask (le (toX k) (eaX k)) (.ask (le (moX k) (toX k)) tT fF) fF) fF) fF)) (.ask (lt (wr k (mul (lit 3600) (deX k))) (nuX k)) tT fF)
def neX (k : Nat) : List X := match k with
  | 3 => [le (lit 0) (uX 3).1, le (lit 1) (uX 3).2, le (uX 3).1 (lit 2305843009213693952), le (uX 3).2 (lit 2305843009213693952)]
  | k => [le (lit 1) (uX k).2]
def arb (k : Nat) (t : OT SV) : OT SV := .ask (lt (lit 200) (rX (k + 1))) (fin k) (.ask (lt (lit 200) (qX (k + 1))) (fin k) (.ask (le (alX (k + 1)) (lit 3600)) (.ask (lt (mul (mul (lit 1000) (rX (k + 1))) (alX (k + 1))) (tmX (k + 1))) fF (.ask (le (tmX (k + 1)) (mul (mul (lit 1000) (rX (k + 1))) (add (alX (k + 1)) (lit (-1))))) fF (.need (neX (k + 1)) t))) fF))
def arb0 (t : OT SV) : OT SV := .ask (le (alX 0) (lit 3600)) (.ask (lt (mul (lit 1000) (alX 0)) (tmX 0)) fF (.ask (le (tmX 0) (mul (lit 1000) (add (alX 0) (lit (-1))))) fF t)) fF
def tre : Nat → OT SV
  | 0 => arb0 (fin 0)
  | 1 => arb0 (arb 0 (fin 1))
  | 2 => arb0 (arb 0 (arb 1 (fin 2)))
  | _ => .ask (lt (lit 3) (v 0)) (arb0 (arb 0 (arb 1 (arb 2 (fin 3))))) (arb0 (arb 0 (arb 1 (arb 2 (fin 3)))))
def pTr : Pr := ⟨8, [], [], fun _ => .leaf (.bool (lit 1))⟩
def pDi : Pr := ⟨9, [], [], fun _ => .leaf (.bool (lit 1))⟩
def tlA (r : SV) : List SV := [r, .agg [.int .u8 (v 2), .int .u8 (v 3), .int .u8 (v 4), .int .u8 (v 5)]]
def tlP : List X := rg 0 255 (v 2) ++ rg 0 255 (v 3) ++ rg 0 255 (v 4) ++ rg 0 255 (v 5)
def facO : Nat × SO := (0, .row false (v 0) .nil [.int .u8 0, .int .u8 1])
def rwV : SV := .slice 0 0 (lit 0) (v 0) (v 1) 2 true
def frV : SV := .slice 0 0 (lit 0) (lit 0) (lit 0) 2 true
def tlL : List PrN := [pArm.toN, pLst.toN, (pSk 1).toN, (pSk 2).toN, (pSk 3).toN, (pSk 4).toN, pTr.toN, pDi.toN]
def tlR (P : Program) (z : List X) (r : SV) (ob : List (Nat × SO)) : OT SV := (exS P RS (ksN RS tlL) 600 (z ++ tlP) (.call 3 (tlA r) ⟨tplT ob, [], 0⟩ 1)).map retV
def cnt (n : Nat) : List X := match n with
  | 3 => [lt (lit 0) (v 0), lt (lit 1) (v 0), lt (lit 2) (v 0)]
  | n => [eq (v 0) (lit n)]
theorem run_n : tlR Tryz.prog [] .nils [] = tre 0 := by unfold tlR; kernel_rfl
theorem run_f : tlR Tryz.prog [] frV [] = tre 0 := by unfold tlR; kernel_rfl
theorem run_0 : tlR Tryz.prog (cnt 0) rwV [facO] = tre 0 := by unfold tlR; kernel_rfl
theorem run_1 : tlR Tryz.prog (cnt 1) rwV [facO] = tre 1 := by unfold tlR; kernel_rfl
theorem run_2 : tlR Tryz.prog (cnt 2) rwV [facO] = tre 2 := by unfold tlR; kernel_rfl
end Ts
end Go.Proofs.YtjlolhdkjpfcoaaGreat
