/- TrainCycles: what is asked on the way, for up to three pairs. -/
import Derived.Test.YtiafbooogggdnaaT1
import Derived.Test.YtiafbooogggdnaaKa
set_option linter.unusedSimpArgs false
set_option linter.unusedVariables false
namespace Go.Proofs.Ytiafbooogggdnaa
open Abs Sx
set_option maxRecDepth 100000
namespace Tn
def cmB : List Cmp := [.int .u8 0, .int .u8 1]
def wX (i : Nat) : X := .bin .add (lit 6) (.app 0 (.cons (lit i) .nil))
def vX (i : Nat) : X := .bin .add (lit 6) (.app 1 (.cons (lit i) .nil))
/-- The turns of the arbor behind so many pairs. -/
def aX (w p : Nat → X) : Nat → X × X
  | 0 => (lit 1, lit 1)
  | k + 1 => (ap2 91 (mk .mul (aX w p k).1 (w k)) (mk .mul (aX w p k).2 (p k)), ap2 92 (mk .mul (aX w p k).1 (w k)) (mk .mul (aX w p k).2 (p k)))
def cX : Nat → X
  | 0 => ap2 93 (lit 1) (lit 1)
  | k + 1 => ap2 93 (cX k) (aX wX vX (k + 1)).2
/-- The same after m turns, as the statement reckons. -/
def qX (m : X) : Nat → X × X
  | 0 => (m, lit 1)
  | k + 1 => (.bin .quo (mk .mul (qX m k).1 (wX k)) (ap2 90 (mk .mul (qX m k).1 (wX k)) (mk .mul (qX m k).2 (vX k))), .bin .quo (mk .mul (qX m k).2 (vX k)) (ap2 90 (mk .mul (qX m k).1 (wX k)) (mk .mul (qX m k).2 (vX k))))
def un : Tpl := ⟨[], [], [], [], 0, []⟩
def tCy (n : Nat) : List Tpl := [un, ⟨[3], [(1, .int .u16 (v 2)), (5, .slice 1 0 (lit 0) (lit n) (lit n) 2 (Nat.beq n 0)), (7, .ptr 2 0), (8, .bool (lit (n % 2 : Nat))), (10, .int .i64 (cX n)), (12, .int .i64 (v 3))], [(0, .row false (v 0) .nil cmB), (1, .cells true ((List.range n).flatMap fun i => [.int .i64 (wX i), .int .i64 (vX i)])), (2, .cells true [.int .i64 (aX wX vX n).1, .int .i64 (aX wX vX n).2])], [], 3, [le (lit 1) (v 3), le (v 3) (lit 63)]⟩, un, un]
def RC : Rgs := ⟨[none, none, none, some (0, 63)], frT⟩
def n16 : List X := [le (lit 0) (v 2), le (v 2) (lit 65535)]
def fF : Sx.LT SV := .leaf (.bool (lit 0))
def tT : Sx.LT SV := .leaf (.bool (lit 1))
def bk : Sx.LT SV := .back 1 [(3, .bin .add (v 3) (lit 1))]
def ndL (l : List X) (t : Sx.LT SV) : Sx.LT SV := match l with
  | [] => t
  | l => .need l t
/-- A round: the pairs from the k-th one on; wh: whether all arbors so far have made whole turns, none: they have not. -/
def tw (m e : X) : Nat → Nat → Option X → Sx.LT SV
  | 0, _, some x => .ask (.not (.ite x e (.not e))) fF bk
  | 0, _, none => .ask e fF bk
  | r + 1, k, wh => ndL (cond (k.beq 0) [] [le (lit 1) (mk .mul (qX m k).1 (wX k)), le (lit 1) (mk .mul (qX m k).2 (vX k))]) (match wh with
    | some x => cond (k.beq 0) (tw m e r (k + 1) (some (eq (qX m (k + 1)).2 (lit 1)))) (.ask x (tw m e r (k + 1) (some (eq (qX m (k + 1)).2 (lit 1)))) (tw m e r (k + 1) none))
    | none => tw m e r (k + 1) none)
def eX (m : X) (n : Nat) : X := eq (.bin .rem m (cX n)) (lit 0)
def rd (m : X) (n : Nat) : Sx.LT SV := match n with
  | 0 => .ask (.not (eX m 0)) fF bk
  | n + 1 => tw m (eX m (n + 1)) (n + 1) 0 (some (lit 1))
/-- What lowest terms want of the pairs from the second one on. -/
def ndA (w p : Nat → X) (n : Nat) (t : Sx.LT SV) : Nat → Sx.LT SV
  | 0 => t
  | r + 1 => .need [le (mk .mul (aX w p (n - (r + 1))).1 (w (n - (r + 1)))) (lit 100000000), le (mk .mul (aX w p (n - (r + 1))).2 (p (n - (r + 1)))) (lit 100000000)] (ndA w p n t r)
def ndC (n : Nat) (t : Sx.LT SV) : Nat → Sx.LT SV
  | 0 => t
  | r + 1 => .need [le (.bin .mul (.bin .quo (cX (n - (r + 1))) (ap2 90 (cX (n - (r + 1))) (aX wX vX (n - r)).2)) (aX wX vX (n - r)).2) (lit 100000000)] (ndC n t r)
/-- The pairs the other way round, with the next one's pinion. -/
def wO (n i : Nat) : X := wX (n - 1 - i)
def pO (n i : Nat) : X := vX ((n - i) % n)
def endX (n : Nat) : Sx.LT SV := match n with
  | 0 => tT
  | 1 => tT
  | n + 2 => ndA (wO (n + 2)) (pO (n + 2)) (n + 2) (.ask (.bin .and (eq (aX (wO (n + 2)) (pO (n + 2)) (n + 2)).1 (aX wX vX (n + 2)).1) (eq (aX (wO (n + 2)) (pO (n + 2)) (n + 2)).2 (aX wX vX (n + 2)).2)) tT fF) (n + 1)
def remX (n : Nat) (t : Sx.LT SV) : Sx.LT SV := match n with
  | 0 => t
  | n + 1 => .ask (.not (eq (.bin .rem (cX (n + 1)) (aX wX vX (n + 1)).2) (lit 0))) fF t
def treeC (n : Nat) : Sx.LT SV := ndA wX vX n (ndC n (.ask (.not (eq (ap2 90 (aX wX vX n).1 (aX wX vX n).2) (lit 1))) fF (remX n (.loop 1 [(3, lit 1)] (.ask (le (v 3) (lit 62)) (.ask (eq (v 3) (lit 61)) (rd (.bin .add (v 2) (lit 1)) n) (.ask (eq (v 3) (lit 62)) (rd (cX n) n) (rd (v 3) n))) (endX n))))) n) (n - 1)
def pKn : Pr := ⟨10, [], [], fun _ => .leaf (.bool (lit 1))⟩
def law (pre : List X) : Pr := ⟨9, [.row cmB, .int .u16], pre, fun _ => .leaf (.bool (lit 1))⟩
def lawPs : List Pr := [pGcd, rGcd, pLst, pLcm, pKn]
end Tn
end Go.Proofs.Ytiafbooogggdnaa
