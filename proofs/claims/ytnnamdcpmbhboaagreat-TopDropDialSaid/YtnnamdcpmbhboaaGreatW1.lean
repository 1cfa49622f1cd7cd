/- Chapter 2: hours that are valid; when a clock stops that is not wound. -/
import Derived.Test.YtnnamdcpmbhboaaGreatS5
set_option linter.unusedSimpArgs false
set_option linter.unusedVariables false
namespace Go.Proofs.YtnnamdcpmbhboaaGreat
open Abs Sx
set_option maxRecDepth 100000
namespace Dw

abbrev Hr := Int × Int
def h0 : Hr := (0, 0)
def okH (p : Hr) : Bool := decide (0 ≤ p.1) && (decide (p.1 ≤ p.2) && decide (p.2 ≤ 3000))
def firstN (p : Nat → Bool) : Nat → Int
  | 0 => -1
  | n + 1 => if 0 ≤ firstN p n then firstN p n else cond (p n) (n : Int) (-1)
theorem firstN_in (p : Nat → Bool) : ∀ n : Nat, -1 ≤ firstN p n ∧ firstN p n < n
  | 0 => by simp [firstN]
  | n + 1 => by
    have := firstN_in p n
    simp only [firstN]
    split
    · omega
    · cases p n <;> simp <;> omega
def at_ (hs : List Hr) (i : Int) : Hr := hs.getD i.toNat h0
def goes (U : Int → Hr) : Nat → Int → Int → Int → Int → Hr
  | 0, _, _, _, d => (d, 2000)
  | n + 1, h, few, many, d =>
    let u := U (h.tmod 24)
    let d' := if many < u.2 ∧ d = 2000 then h else d
    if few < u.1 then (d', h) else goes U n (h + 1) (few - u.1) (max 0 (many - u.2)) d'
def clampW (x : Int) : Int := max 0 (min 2000 x)
def fnW (hs : List Hr) (f : Nat) (l : List Int) : Int := match f with
  | 0 => (at_ hs (hdI l)).1
  | 1 => (at_ hs (hdI l)).2
  | 60 => clampW (goes (at_ hs) (2000 - hdI l.tail).toNat (hdI l.tail) (hdI l) (hdI l) 2000).1
  | 61 => clampW (goes (at_ hs) (2000 - hdI l.tail).toNat (hdI l.tail) (hdI l) (hdI l) 2000).2
  | 64 => firstN (fun i => !(okH (at_ hs i))) (min (hdI l).toNat 1000)
  | _ => 0
def AllOk (hs : List Hr) : Prop := ∀ i : Int, okH (at_ hs i) = true
theorem okH_iff {p : Hr} : okH p = true ↔ 0 ≤ p.1 ∧ p.1 ≤ p.2 ∧ p.2 ≤ 3000 := by simp [okH]
def fr60 : List (Option (Int × Int)) := List.replicate 58 none ++ [some (0, 2000), some (0, 2000), none, none, some (-1, 1000)]
def frV : List (Option (Int × Int)) := some (0, 3000) :: some (0, 3000) :: fr60
theorem nth_rep : ∀ (n i : Nat) (l : List (Option (Int × Int))), nthR (List.replicate n none ++ l) i = if i < n then none else nthR l (i - n)
  | 0, i, l => by simp
  | n + 1, 0, l => by simp [List.replicate_succ, nthR]
  | n + 1, i + 1, l => by
    simp only [List.replicate_succ, List.cons_append, nthR, nth_rep n i l, Nat.add_lt_add_iff_right, Nat.add_sub_add_right]
theorem fr60_ok (hs : List Hr) : ∀ (i : Nat) (l : List Int), inR (fnW hs (i + 2) l) (nthR fr60 i) := by
  intro i l
  show inR _ (nthR (List.replicate 58 none ++ _) i)
  rw [nth_rep]
  split
  · trivial
  · rename_i h
    obtain ⟨j, rfl⟩ : ∃ j, i = 58 + j := ⟨i - 58, by omega⟩
    rw [Nat.add_sub_cancel_left]
    match j with
    | 0 => show (0 : Int) ≤ clampW _ ∧ clampW _ ≤ (2000 : Int); unfold clampW; omega
    | 1 => show (0 : Int) ≤ clampW _ ∧ clampW _ ≤ (2000 : Int); unfold clampW; omega
    | 2 => trivial
    | 3 => trivial
    | 4 =>
      show (-1 : Int) ≤ firstN _ _ ∧ firstN _ _ ≤ (1000 : Int)
      have := firstN_in (fun i => !(okH (at_ hs i))) (min (hdI l).toNat 1000)
      omega
    | _ + 5 => trivial
theorem frV_ok {hs : List Hr} (h : AllOk hs) (vr : List (Option (Int × Int))) : ∀ i l, inR (fnW hs i l) (nthR (Rgs.mk vr frV).fr i)
  | 0, l => by have := okH_iff.1 (h (hdI l)); show (0 : Int) ≤ (at_ hs (hdI l)).1 ∧ (at_ hs (hdI l)).1 ≤ (3000 : Int); omega
  | 1, l => by have := okH_iff.1 (h (hdI l)); show (0 : Int) ≤ (at_ hs (hdI l)).2 ∧ (at_ hs (hdI l)).2 ≤ (3000 : Int); omega
  | i + 2, l => fr60_ok hs i l
def lit (n : Int) : X := .lit n
def v (n : Nat) : X := .var n
def le (a b : X) : X := .bin .le a b
def lt (a b : X) : X := .bin .lt a b
def eq (a b : X) : X := .bin .eq a b
def i64 : Sh := .int .i64
def ap (f : Nat) (x : X) : X := .app f (.cons x .nil)
def ap2 (f : Nat) (x y : X) : X := .app f (.cons x (.cons y .nil))

section
variable {hs : List Hr}
end
end Dw
end Go.Proofs.YtnnamdcpmbhboaaGreat
