/- BeatSteady: the law's runs. -/
import Derived.Test.YtgpdodkcfiefjaaY4
import Derived.Test.YtgpdodkcfiefjaaU3
set_option linter.unusedSimpArgs false
set_option linter.unusedVariables false
namespace Go.Proofs.Ytgpdodkcfiefjaa
open Abs Sx
set_option maxRecDepth 100000
namespace Be
def stL (n : Nat) (e : List PrN) : List PrN := (pBn n).toN :: (pEf n).toN :: (pCx n).toN :: (pRaL n).toN :: pKn3.toN :: e
def stP (n : Nat) : List X := cnt n :: le (lit 0) (v 0) :: (b8 2 ++ (rgN (-32768) 32767 (v 3) ++ ((List.range 5).flatMap (fun i => b8 (4 + i)) ++ rgN 0 65535 (v 9))))
def stA (r : SV) : List SV := [.agg ([r, .int .u8 (v 2), .int .i16 (v 3)] ++ (List.range 4).map (fun i => .int .u8 (v (4 + i)))), .int .u8 (v 8), .int .u16 (v 9)]
def rodS : Nat × SO := (0, .row false (v 0) .nil cmM)
def mdL : Nat → X
  | 0 => lit 9000
  | i + 1 => ap 115 (lit i)
def mdU : Nat → X
  | 0 => .ite (lit 0) (lit 1) (lit 0)
  | i + 1 => .ite (ap 118 (lit i)) (lit 1) (lit 0)
def mdG : Nat → List X
  | 0 => [lit 1100, lit 1150]
  | i + 1 => [ap 116 (lit i), ap 117 (lit i)]
def mdR (n k : Nat) (x : X) : List X := (List.range n).flatMap fun i => mdG i ++ [cond (Nat.beq i k) x (mdL i), mdU i]
def mdN (n k : Nat) (x : X) : X := apl 73 ((List.range n).flatMap fun i => [cond (Nat.beq i k) x (mdL i), mdU i])
def mdE (n k : Nat) (x : X) : X := .bin .max (apl 72 (mdR n k x)) (sub (lit 0) (apl 71 (mdR n k x)))
def mdW (n k : Nat) : X := apl 122 (lit k :: mdR n k (mdL k))
def mdB (k : Nat) (x : X) : Nat → X
  | 0 => cond (Nat.beq 0 k) (lnB x) (lit 1)
  | i + 1 => cond (Nat.beq (i + 1) k) (lnB x) (lnB (ap 115 (lit i)))
def mdK (n k : Nat) (x : X) : X := ((List.range n).map (mdB k x)).foldr an (an (le (lit 100) (mdN n k x)) (le (mdN n k x) (lit 100000)))
def ffL : Sx.LT SV := .leaf (.bool (lit 0))
def farX (n k : Nat) : X := .bin .quo (add (add (mul (lit 43200) (mdE n k (mdW n k))) (mul (lit 10000) (mdN n k (mdW n k)))) (lit (-1))) (mul (lit 10000) (mdN n k (mdW n k)))
def raS (n k : Nat) (c : List X) : List X := [v 3, mdN n k (mdW n k), apl 71 (mdR n k (mdW n k)), apl 72 (mdR n k (mdW n k))] ++ (c ++ [lit (-100), lit 100, lit 0, lit 0, lit 0, lit 0, lit 0, lit 0])
def finX (n k : Nat) (c : List X) : X := an (eq (ap2 50 (apl 77 (raS n k c)) (mul (lit 10000) (mdN n k (mdW n k)))) (sub (v 3) (farX n k))) (eq (sub (lit 0) (ap2 50 (sub (lit 0) (apl 78 (raS n k c))) (mul (lit 10000) (mdN n k (mdW n k))))) (add (v 3) (farX n k)))
def tyX (n k : Nat) : X := .ite (eq (v 11) (lit 0)) (add (mdW n k) (lit (-1))) (.ite (eq (v 11) (lit 1)) (add (mdW n k) (lit 1)) (.ite (eq (v 11) (lit 2)) (add (lit 1) (v 9)) (mdL k)))
def bkL (n k : Nat) : Sx.LT SV := .back 0 [(10, tyX n k), (11, add (v 11) (lit 1))]
def stB (n k : Nat) (c : List X) : Sx.LT SV := .ask (lt (mdE n k (mdW n k)) (lit 0)) ffL (.ask (mdK n k (mdW n k)) (.loop 0 [(10, mdL k), (11, lit 0)] (.ask (lt (v 11) (lit 4))
  (.ask (mdK n k (tyX n k)) (.ask (lt (mdE n k (tyX n k)) (mdE n k (mdW n k))) ffL (.ask (eq (mdE n k (tyX n k)) (mdE n k (mdW n k))) (.ask (lt (tyX n k) (mdW n k)) ffL (bkL n k)) (bkL n k))) (bkL n k))
  (.ask (finX n k c) (.leaf (.bool (lit 1))) ffL))) ffL)
def isK (n k : Nat) : X := eq (.bin .rem (v 8) (lit n)) (lit k)
def zK (n k : Nat) : List X := ((List.range k).map fun i => X.not (isK n i)) ++ [isK n k]
def mdC : List X := [ap 111 (v 4), ap2 112 (v 4) (v 5), ap2 113 (v 2) (v 6), apl 114 [v 2, v 6, v 7]]
def stN (n : Nat) : List X := [le (ap 111 (v 4)) (ap2 112 (v 4) (v 5)), le (ap2 113 (v 2) (v 6)) (apl 114 [v 2, v 6, v 7]), le (lit 100) (mdN n n (lit 0)), le (mdN n n (lit 0)) (lit 100000),
  .bin .or (.not (eq (ap 110 (v 2)) (lit 2))) (le (lit 0) (ap2 113 (v 2) (v 6))), .bin .or (.not (eq (ap 110 (v 2)) (lit 3))) (an (eq (ap2 113 (v 2) (v 6)) (lit 0)) (eq (apl 114 [v 2, v 6, v 7]) (lit 0)))] ++ (List.range (n - 1)).map fun (i : Nat) => le (ap 116 (lit (i : Int))) (ap 117 (lit (i : Int)))
def stT (n k : Nat) : Sx.LT SV := .need (stN n) (stB n k mdC)
def aiL : X := add (.bin .rem (v 4) (lit 100)) (lit (-50))
def aiH : X := add aiL (.bin .rem (v 5) (lit 50))
def kdX (i : Int) : X := eq (add (lit 1) (.bin .rem (v 2) (lit 3))) (lit i)
def n1L : List X := [le (lit 100) (mdN 1 1 (lit 0)), le (mdN 1 1 (lit 0)) (lit 100000)]
def c1a : List X := [aiL, aiH, add (v 6) (lit (-200)), add (v 6) (v 7)]
def c1b : List X := [aiL, aiH, v 6, add (v 6) (v 7)]
def c1c : List X := [aiL, aiH, lit 0, lit 0]
def z1a : List X := [.not (kdX 3), kdX 1]
def z1b : List X := [.not (kdX 3), .not (kdX 1)]
def z1c : List X := [kdX 3]
def st1a : Sx.LT SV := .need ([le aiL aiH, le (add (v 6) (lit (-200))) (add (v 6) (v 7))] ++ n1L) (stB 1 0 c1a)
def st1b : Sx.LT SV := .need ([le aiL aiH, le (v 6) (add (v 6) (v 7))] ++ n1L) (stB 1 0 c1b)
def st1c : Sx.LT SV := .need (le aiL aiH :: n1L) (stB 1 0 c1c)
def RUL : Rgs := ⟨List.replicate 10 none ++ [some (0, 100001), some (0, 4)], frU⟩
def mdV (n k : Nat) (x : X) : List SV := (List.range n).flatMap fun i => [.int .i64 (cond (Nat.beq i k) x (mdL i)), .int .i64 ((mdG i).getD 0 (lit 0)), .int .i64 ((mdG i).getD 1 (lit 0)), .bool (match i with | 0 => lit 0 | i + 1 => ap 118 (lit i))]
def mdO (n : Nat) (kd : X) (c : List X) (q : Nat) (ex : Bool) : SO := .cells true ([.int .i64 kd, .int .i64 (v 3), .slice q 0 (lit 0) (lit n) (lit n) 4 ex] ++ c.map fun x => .int .i64 x)
def tyL (n k : Nat) : List X := [add (mdW n k) (lit (-1)), add (mdW n k) (lit 1), add (lit 1) (v 9), mdL k]
def stTp (n k : Nat) (ex : Bool) (kd : X) (c : List X) (ob : List (Nat × SO)) : Tpl := ⟨[10, 11], [(6, .bool (lit 0)), (7, .ptr 1 0), (8, .int .i64 (.bin .rem (v 8) (lit n))), (9, .int .i64 (mdW n k)), (10, .int .i64 (mdE n k (mdW n k))), (12, .fn 13 [] []), (13, .ptr 3 0), (15, .int .i64 (mdN n k (mdW n k))), (16, .ptr 5 0), (92, .agg ((tyL n k).map fun x => .int .i64 x)), (93, .int .i64 (v 11))],
  ob ++ [(1, mdO n kd c 2 ex), (2, .cells true (mdV n n (lit 0))), (3, mdO n kd c 4 false), (4, .cells true (mdV n k (mdW n k))), (5, mdO n kd c 6 false), (6, .cells true (mdV n k (v 10)))], [], 7, [], none⟩
noncomputable def stRun (n : Nat) (z : List X) (e : List PrN) (r : SV) (ob : List (Nat × SO)) (tp : Tpl) : Sx.LT SV := ((exL Try.prog RUL (ksN RUL (stL n e)) [tp] 1 (max (Try.f4).ntmps (stA r).length) none 400 (z ++ stP n) (.go (codeP Try.prog 4) 0 ⟨ofArgsS (stA r) 0 .nil, [], ⟨tplT ob, [], 0⟩, 1⟩ [])).bindO (endO Try.prog RUL (Try.f4).results.toList)).map (·.1)
def tpN (n k : Nat) : Tpl := stTp n k false (ap 110 (v 2)) mdC [rodS]
def tp1 (c : List X) (ob : List (Nat × SO)) : Tpl := stTp 1 0 true (add (lit 1) (.bin .rem (v 2) (lit 3))) c ob
end Be
end Go.Proofs.Ytgpdodkcfiefjaa
