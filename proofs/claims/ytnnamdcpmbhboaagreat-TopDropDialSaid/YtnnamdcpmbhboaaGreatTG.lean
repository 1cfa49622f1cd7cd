/- Chapter 1, for any functions: greatest divisors, lowest terms, least multiples of trains. -/
import Derived.Test.YtnnamdcpmbhboaaGreatTA
set_option linter.unusedSimpArgs false
set_option linter.unusedVariables false
namespace Go.Proofs.YtnnamdcpmbhboaaGreat
open Abs Sx
set_option maxRecDepth 100000
namespace Tg
def lit (n : Int) : X := .lit n
def v (n : Nat) : X := .var n
def le (a b : X) : X := .bin .le a b
def lt (a b : X) : X := .bin .lt a b
def eq (a b : X) : X := .bin .eq a b
def ap2 (f : Nat) (x y : X) : X := .app f (.cons x (.cons y .nil))
def i64 : Sh := .int .i64
def bg : Int := 2305843009213693952
def clampT (m x : Int) : Int := max 1 (min m x)
structure IsT (fn : Nat → List Int → Int) : Prop where
  h90 : ∀ l, fn 90 l = clampT bg (Int.gcd (hdI l) (hdI l.tail))
  h91 : ∀ l, fn 91 l = clampT 100000000 (Tn.lowR (hdI l) (hdI l.tail)).1
  h92 : ∀ l, fn 92 l = clampT 100000000 (Tn.lowR (hdI l) (hdI l.tail)).2
  h93 : ∀ l, fn 93 l = clampT 100000000 (Int.lcm (hdI l) (hdI l.tail))
theorem clampT_in {m x : Int} (h : 1 ≤ m) : 1 ≤ clampT m x ∧ clampT m x ≤ m := by unfold clampT; omega
theorem nth_rep : ∀ (n i : Nat) (l : List (Option (Int × Int))), nthR (List.replicate n none ++ l) i = if i < n then none else nthR l (i - n)
  | 0, i, l => by simp
  | n + 1, 0, l => by simp [List.replicate_succ, nthR]
  | n + 1, i + 1, l => by
    simp only [List.replicate_succ, List.cons_append, nthR, nth_rep n i l, Nat.add_lt_add_iff_right, Nat.add_sub_add_right]
variable {fn : Nat → List Int → Int} (h : IsT fn)
include h
omit h
include h
end Tg
end Go.Proofs.YtnnamdcpmbhboaaGreat
