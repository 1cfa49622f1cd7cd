/- Laws over names whose slices are nil, without room, or rows: what their frames want. -/
import Derived.Test.YtgpdodkcfiefjaaVf
set_option linter.unusedSimpArgs false
set_option linter.unusedVariables false
namespace Go.Proofs.Ytgpdodkcfiefjaa
open Abs Sx Go.RowKit
set_option maxRecDepth 100000
namespace Be
theorem true_ren (nx : Nat) : ∀ v : AV, v = .bool true → ren (upS nx) v = some v := fun v h => by subst h; rfl
theorem tpl_objs {ρ : Val} : ∀ ob : List (Nat × SO), hD ρ ⟨tplT ob, [], 0⟩ = ⟨objs (ob.map fun p => (p.1, p.2.den ρ)), [], 0⟩
  | [] => rfl
  | p :: ob => by
    have := tpl_objs (ρ := ρ) ob
    simp only [hD, Hp.mk.injEq, and_true] at this ⊢
    simp only [tplT, List.map_cons, objs, Tr.set_map, this]
theorem fit {f : FuncId} {args args' : List AV} {H H' : Hp} {nx : Nat} {Q : AV → Hp → Nat → Prop} (h : CallH Try.prog f args H nx Q) (ea : args = args') (eh : H = H') : CallH Try.prog f args' H' nx Q := by subst ea eh; exact h
def rodsOf : Fr.Slot Rod → List Rod
  | .row l _ => l
  | _ => []
def lenS {E : Type} : Fr.Slot E → Int
  | .row l _ => l.length
  | _ => 0
def capS {E : Type} : Fr.Slot E → Int
  | .row _ c => c
  | _ => 0
theorem lenS_nn {E : Type} (s : Fr.Slot E) : 0 ≤ lenS s := by cases s <;> simp only [lenS] <;> omega
theorem rodsOf_bd {s : Fr.Slot Rod} (h : s.Ok rodE) : ∀ r ∈ rodsOf s, BdR r := by
  cases s with
  | row l c => exact h.1
  | _ => intro r hr; cases hr
end Be
end Go.Proofs.Ytgpdodkcfiefjaa
