/- Made clocks, bounds and truths: small numbers, as apps. -/
import Derived.Test.YtgpdodkcfiefjaaQ7
set_option linter.unusedSimpArgs false
set_option linter.unusedVariables false
namespace Go.Proofs.Ytgpdodkcfiefjaa
open Abs Sx
set_option maxRecDepth 100000
namespace Be
def u8 : Sh := .int .u8
def cmM : List Cmp := [.int .u16 0, .int .u8 1, .int .u8 2, .bool 3]
def madeSh : Sh := .agg [.row cmM, u8, .int .i16, u8, u8, u8, u8]
def rgN (a b : Int) (x : X) : List X := [le (lit a) x, le x (lit b)]
def b8 (i : Nat) : List X := rgN 0 255 (v i)
def ap3 (f : Nat) (a b c : X) : X := .app f (.cons a (.cons b (.cons c .nil)))
section
variable {rods : List Rod} {grow : List Int}
end
end Be
end Go.Proofs.Ytgpdodkcfiefjaa
