/- Made clocks and truths, as promises of what they lay. -/
import Derived.Test.YtgpdodkcfiefjaaS6
import Derived.Test.YtgpdodkcfiefjaaQ8
import Derived.Test.YtgpdodkcfiefjaaQ2
import Derived.Test.YtgpdodkcfiefjaaFl
set_option linter.unusedSimpArgs false
set_option linter.unusedVariables false
namespace Go.Proofs.Ytgpdodkcfiefjaa
open Abs Sx
set_option maxRecDepth 100000
namespace Be
def u255 : Option (Int × Int) := some (0, 255)
def frU : List (Option (Int × Int)) := [some (0, 65535), u255, u255, some (0, 1), u255, u255, u255] ++ (frL.drop 7 ++ (List.replicate 9 none ++ ([some (-40000, 40000), some (-40000, 40000)] ++ (List.replicate 8 none ++ ([some (-400, 400), some (-400, 400), some (-300, 300), some (-300, 300), some (0, 300), some (0, 300), some (-40, 40), some (-40, 40), none,
  some (1, 3), some (-50, 49), some (-50, 98), some (-200, 255), some (0, 510), some (1, 4000), some (0, 5100), some (0, 5865), some (0, 1), u255, u255, u255, some (1, 100000)])))))
def RU : Rgs := ⟨[], frU⟩
def ck (f : Nat) (l : List X) : SV := .int .i64 (apl f l)
def cnt : Nat → X
  | 4 => le (lit 3) (v 0)
  | n => eq (v 0) (lit ((n : Int) - 1))
def mkP : List X := b8 2 ++ (rgN (-32768) 32767 (v 3) ++ (b8 4 ++ (b8 5 ++ (b8 6 ++ b8 7))))
def ixs : Nat → List Int
  | 2 => [0]
  | 3 => [0, 1]
  | 4 => [0, 1, 2]
  | _ => []
def rodsV (n : Nat) : List SV := [.int .i64 (lit 9000), .int .i64 (lit 1100), .int .i64 (lit 1150), .bool (lit 0)] ++ (ixs n).flatMap fun i => [ck 115 [lit i], ck 116 [lit i], ck 117 [lit i], .bool (ap 118 (lit i))]
def slcV (q n k : Nat) : SV := .slice q 0 (lit 0) (lit n) (lit n) k (Nat.beq n 1)
def clkV (n : Nat) : SV := .agg [ck 110 [v 2], .int .i64 (v 3), slcV 1 n 4, ck 111 [v 4], ck 112 [v 4, v 5], ck 113 [v 2, v 6], ck 114 [v 2, v 6, v 7]]
def pClock (n : Nat) : PrN := ⟨5, [madeSh], cnt n :: mkP, fun _ => .leaf (clkV n, [.cells true (rodsV n)])⟩
section
variable {rods : List Rod} {grow : List Int}
theorem a110 {k : Int} (h : 0 ≤ k) : fnB rods grow 110 [k] = 1 + k.tmod 3 := by
  have a := Int.tmod_nonneg 3 h
  have b := Int.tmod_lt_of_pos k (show (0 : Int) < 3 by decide)
  show max 1 (min 3 (1 + k.tmod 3)) = _
  omega
theorem a111 {x : Int} (h : 0 ≤ x) : fnB rods grow 111 [x] = x.tmod 100 + -50 := by
  have a := Int.tmod_nonneg 100 h
  have b := Int.tmod_lt_of_pos x (show (0 : Int) < 100 by decide)
  show max (-50) (min 49 (x.tmod 100 - 50)) = _
  omega
theorem a112 {x y : Int} (h : 0 ≤ x) (k : 0 ≤ y) : fnB rods grow 112 [x, y] = x.tmod 100 + -50 + y.tmod 50 := by
  have a := Int.tmod_nonneg 100 h
  have b := Int.tmod_lt_of_pos x (show (0 : Int) < 100 by decide)
  have c := Int.tmod_nonneg 50 k
  have d := Int.tmod_lt_of_pos y (show (0 : Int) < 50 by decide)
  show max (-50) (min 98 (x.tmod 100 - 50 + y.tmod 50)) = _
  omega
theorem a113 {k x : Int} (h : 0 ≤ x) (h2 : x ≤ 255) : fnB rods grow 113 [k, x] = if k.tmod 3 = 2 then 0 else if k.tmod 3 = 0 then x + -200 else x := by
  show max (-200) (min 255 (if k.tmod 3 = 2 then 0 else if k.tmod 3 = 0 then x - 200 else x)) = _
  split
  · rfl
  · split <;> omega
theorem a114 {k x y : Int} (h : 0 ≤ x) (h2 : x ≤ 255) (g : 0 ≤ y) (g2 : y ≤ 255) : fnB rods grow 114 [k, x, y] = if k.tmod 3 = 2 then 0 else x + y := by
  show max 0 (min 510 (if k.tmod 3 = 2 then 0 else x + y)) = _
  split
  · rfl
  · omega
variable (hM : ∀ i l, inR (fnB rods grow i l) (nthR RU.fr i))
include hM
theorem a115 (l : List Int) : fnB rods grow 115 l = 1 + (fnB rods grow 0 l).tmod 4000 := by
  have h : 0 ≤ fnB rods grow 0 l ∧ fnB rods grow 0 l ≤ 65535 := hM 0 l
  have a := Int.tmod_nonneg 4000 h.1
  have b := Int.tmod_lt_of_pos (fnB rods grow 0 l) (show (0 : Int) < 4000 by decide)
  show max 1 (min 4000 (1 + (fnB rods grow 0 l).tmod 4000)) = _
  omega
theorem a116 (l : List Int) : fnB rods grow 116 l = 20 * fnB rods grow 1 l := by
  have h : 0 ≤ fnB rods grow 1 l ∧ fnB rods grow 1 l ≤ 255 := hM 1 l
  show max 0 (min 5100 (20 * fnB rods grow 1 l)) = _
  omega
theorem a117 (l : List Int) : fnB rods grow 117 l = 20 * fnB rods grow 1 l + 3 * fnB rods grow 2 l := by
  have h : 0 ≤ fnB rods grow 1 l ∧ fnB rods grow 1 l ≤ 255 := hM 1 l
  have k : 0 ≤ fnB rods grow 2 l ∧ fnB rods grow 2 l ≤ 255 := hM 2 l
  show max 0 (min 5865 (20 * fnB rods grow 1 l + 3 * fnB rods grow 2 l)) = _
  omega
omit hM in
theorem u3 (l : List Int) : i2b (fnB rods grow 3 l) = (at_ rods l).2.2.2 := by
  show i2b (b2i _) = _
  exact i2b_b2i _
theorem a118a : i2b (fnB rods grow 118 [0]) = i2b (fnB rods grow 3 [0]) := by
  have h := a115 hM [0]
  have b := hM 115 [0]
  rw [u3]
  show i2b (upA rods 0) = (rods.getD 0 d0).2.2.2
  have e : lnA (rods.getD 0 d0) ≤ 4000 := b.2
  unfold upA leftA
  cases hu : (rods.getD 0 d0).2.2.2
  · rw [if_neg (by simp)]; rfl
  · rw [if_pos ⟨rfl, by omega⟩]; rfl
theorem a118b : i2b (fnB rods grow 118 [1]) = i2b (fnB rods grow 3 [1]) := by
  rw [u3]
  show i2b (upA rods 1) = (rods.getD 1 d0).2.2.2
  have e0 : 1 ≤ lnA (rods.getD 0 d0) ∧ lnA (rods.getD 0 d0) ≤ 4000 := hM 115 [0]
  have e1 : 1 ≤ lnA (rods.getD 1 d0) ∧ lnA (rods.getD 1 d0) ≤ 4000 := hM 115 [1]
  have l1 : 4000 ≤ leftA rods 1 := by
    unfold leftA leftA
    split <;> omega
  unfold upA
  cases hu : (rods.getD 1 d0).2.2.2
  · rw [if_neg (by simp)]; rfl
  · rw [if_pos ⟨rfl, by omega⟩]; rfl
theorem a118c : i2b (fnB rods grow 118 [2]) = (i2b (fnB rods grow 3 [2]) && !decide (8000 - (if i2b (fnB rods grow 3 [0]) = true then fnB rods grow 115 [0] else 0) - (if i2b (fnB rods grow 3 [1]) = true then fnB rods grow 115 [1] else 0) < fnB rods grow 115 [2])) := by
  rw [u3, u3, u3]
  show i2b (upA rods 2) = ((rods.getD 2 d0).2.2.2 && !decide (8000 - (if (rods.getD 0 d0).2.2.2 = true then lnA (rods.getD 0 d0) else 0) - (if (rods.getD 1 d0).2.2.2 = true then lnA (rods.getD 1 d0) else 0) < lnA (rods.getD 2 d0)))
  have e0 : 1 ≤ lnA (rods.getD 0 d0) ∧ lnA (rods.getD 0 d0) ≤ 4000 := hM 115 [0]
  have e1 : 1 ≤ lnA (rods.getD 1 d0) ∧ lnA (rods.getD 1 d0) ≤ 4000 := hM 115 [1]
  have l1 : leftA rods 1 = 8000 - (if (rods.getD 0 d0).2.2.2 = true then lnA (rods.getD 0 d0) else 0) := by
    show 8000 - (if (rods.getD 0 d0).2.2.2 = true ∧ lnA (rods.getD 0 d0) ≤ 8000 then lnA (rods.getD 0 d0) else 0) = _
    by_cases h : (rods.getD 0 d0).2.2.2 = true
    · rw [if_pos ⟨h, by omega⟩, if_pos h]
    · rw [if_neg (fun k => h k.1), if_neg h]
  have l2 : leftA rods 2 = leftA rods 1 - (if (rods.getD 1 d0).2.2.2 = true then lnA (rods.getD 1 d0) else 0) := by
    show leftA rods 1 - (if (rods.getD 1 d0).2.2.2 = true ∧ lnA (rods.getD 1 d0) ≤ leftA rods 1 then lnA (rods.getD 1 d0) else 0) = _
    by_cases h : (rods.getD 1 d0).2.2.2 = true
    · have : 4000 ≤ leftA rods 1 := by rw [l1]; split <;> omega
      rw [if_pos ⟨h, by omega⟩, if_pos h]
    · rw [if_neg (fun k => h k.1), if_neg h]
  rw [← l1, ← l2]
  unfold upA
  cases hu : (rods.getD 2 d0).2.2.2
  · rw [if_neg (by simp)]; rfl
  · by_cases hl : lnA (rods.getD 2 d0) ≤ leftA rods 2
    · rw [if_pos ⟨rfl, hl⟩, decide_eq_false (by omega)]; rfl
    · rw [if_neg (fun k => hl k.2), decide_eq_true (by omega)]; rfl
omit hM
end
end Be
end Go.Proofs.Ytgpdodkcfiefjaa
