/- Frames: slices that come in, each nil, without room, or a row. -/
import Derived.Test.YtekmmeikkafpmaaGreatC5
import Derived.Test.YtekmmeikkafpmaaGreatS1
set_option linter.unusedSimpArgs false
set_option linter.unusedVariables false
namespace Go.Proofs.YtekmmeikkafpmaaGreat
open Abs Go.RowKit
set_option maxRecDepth 100000
namespace Fr
inductive Slot (E : Type) where
  | nil
  | free
  | row (l : List E) (cap : Nat)
structure El (E : Type) where
  es : List LK
  f : E → List AV
  Bd : E → Prop
  pos : 0 < es.length
  of : ∀ (W : World) (vs : List Value), LKs W 0 es vs → ∃ e, Bd e ∧ ∀ m : NM, VRs m (f e) vs
section
variable {E : Type} (X : El E)
def rowC (l : List E) : List AV := l.flatMap X.f
def Slot.av (n : Nat) : Slot E → AV
  | .nil => .nils
  | .free => .slice n 0 0 0 X.es.length true
  | .row l cap => .slice n 0 l.length cap X.es.length true
def Slot.obs (n : Nat) : Slot E → List (Nat × AObj)
  | .row l _ => [(n, .cells false (rowC X l))]
  | _ => []
def Slot.Ok : Slot E → Prop
  | .row l cap => (∀ x ∈ l, X.Bd x) ∧ l.length ≤ cap
  | _ => True
def Good (m : NM) (W : World) (p : Nat × AObj) : Prop := ∃ cs kk c e fz pre vs rest, p.2 = .cells false cs ∧ m p.1 = some kk ∧ W.heap[kk.b]? = some (.cells c e fz) ∧ c.toList = pre ++ (vs ++ rest) ∧ pre.length = kk.o ∧ VRs m cs vs
end
def nmL : List (Option Blk) → NM
  | [], _ => none
  | k :: _, 0 => k
  | _ :: l, n + 1 => nmL l n
theorem nmL_top : ∀ {l : List (Option Blk)} {n : Nat}, l.length ≤ n → nmL l n = none
  | [], n, _ => by cases n <;> rfl
  | k :: l, 0, h => by simp at h
  | k :: l, n + 1, h => nmL_top (l := l) (n := n) (by simpa using h)
theorem lk_int {W : World} {b : Nat} {k : IntKind} {v : Value} : LKok W b (.int k) v = ∃ n, v = .int k n ∧ (Lit.int k n).wf = true := by simp only [LKok]
theorem lk_bool {W : World} {b : Nat} {v : Value} : LKok W b .bool v = ∃ c, v = .bool c := by simp only [LKok]
end Fr
end Go.Proofs.YtekmmeikkafpmaaGreat
