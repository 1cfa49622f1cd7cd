/- TopDropDial: a dial whose clock is fast by one number. -/
import Derived.Test.YtncfikkeagflkaaS6
set_option linter.unusedSimpArgs false
set_option linter.unusedVariables false
namespace Go.Proofs.Ytncfikkeagflkaa
open Abs Sx
set_option maxRecDepth 100000
namespace Dd
def lit (n : Int) : X := .lit n
def v (n : Nat) : X := .var n
def le (a b : X) : X := .bin .le a b
def lt (a b : X) : X := .bin .lt a b
def eq (a b : X) : X := .bin .eq a b
def sub (a b : X) : X := .bin .sub a b
def add (a b : X) : X := .bin .add a b
def mul (a b : X) : X := .bin .mul a b
def rem (a b : X) : X := .bin .rem a b
def i64 : Sh := .int .i64
def R0 : Rgs := ⟨[], []⟩
def rg (a b : Int) (x : X) : List X := [le (lit a) x, le x (lit b)]
def modX (a n : X) : X := rem (add (rem a n) n) n
theorem bif_le {a b x y : Int} : (bif leB a b then x else y) = if a ≤ b then x else y := by
  cases h : leB a b
  · rw [leB_f] at h; rw [cond_false, if_neg (by omega)]
  · rw [leB_t] at h; rw [cond_true, if_pos h]
theorem bif_lt {a b x y : Int} : (bif ltB a b then x else y) = if a < b then x else y := by
  cases h : ltB a b
  · rw [ltB_f] at h; rw [cond_false, if_neg (by omega)]
  · rw [ltB_t] at h; rw [cond_true, if_pos h]
end Dd
end Go.Proofs.Ytncfikkeagflkaa
