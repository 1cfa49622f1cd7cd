/- The evaluator: another text of it, of which the kernel makes fewer terms; it is the same. -/
import Derived.Test.YthiifonejoejpaaAb20
namespace Go.Proofs.Ythiifonejoejpaa
namespace Abs
section fast
variable {α : Type}
noncomputable def Tr.getF (t : Tr α) : Nat → Option α := Tr.rec (fun _ => none) (fun v _ _ a b k => cond (Nat.beq k 0) v (cond (Nat.beq (Nat.mod k 2) 1) (a (Nat.div k 2)) (b (Nat.sub (Nat.div k 2) 1)))) t
theorem Tr.getF_eq (t : Tr α) : t.getF = t.get := by
  induction t with
  | nil => rfl
  | node v l r ihl ihr =>
    funext k
    show cond (Nat.beq k 0) v (cond (Nat.beq (Nat.mod k 2) 1) (l.getF (Nat.div k 2)) (r.getF (Nat.sub (Nat.div k 2) 1))) = _
    rw [ihl, ihr]; rfl
def sonsF (a : Option α) (ih : Tr α → Nat → Tr α) (k : Nat) : Tr α → Tr α
  | .nil => cond (Nat.beq k 0) (.node a .nil .nil) (cond (Nat.beq (Nat.mod k 2) 1) (.node none (ih .nil (Nat.div k 2)) .nil) (.node none .nil (ih .nil (Nat.sub (Nat.div k 2) 1))))
  | .node v l r => cond (Nat.beq k 0) (.node a l r) (cond (Nat.beq (Nat.mod k 2) 1) (.node v (ih l (Nat.div k 2)) r) (.node v l (ih r (Nat.sub (Nat.div k 2) 1))))
noncomputable def Tr.setG (a : Option α) (f : Nat) : Tr α → Nat → Tr α := Nat.rec (fun t _ => t) (fun _ ih t k => sonsF a ih k t) f
theorem Tr.setG_eq (a : Option α) (f : Nat) : Tr.setG a f = Tr.setF a f := by
  induction f with
  | zero => funext t k; cases t <;> rfl
  | succ f ih =>
    funext t k
    show sonsF a (Tr.setG a f) k t = _
    rw [ih]; cases t <;> rfl
end fast

/-! Int. -/
def wrapI (k : IntKind) : Int → Int
  | .ofNat m => cond (Nat.ble m 9223372036854775807) (.ofNat m) (k.wrap (.ofNat m))
  | .negSucc m => cond (Nat.ble m 9223372036854775807) (.negSucc m) (k.wrap (.negSucc m))
def wrapF : IntKind → Int → Int
  | .i64 => wrapI .i64
  | k => k.wrap
theorem wrapF_eq (k : IntKind) (n : Int) : wrapF k n = k.wrap n := by
  cases k <;> try rfl
  cases n with
  | ofNat m =>
    simp only [wrapF, wrapI, Bool.cond_eq_ite, Nat.ble_eq]
    split
    · rw [IntKind.wrap_i64, Int.ofNat_eq_natCast]; omega
    · rfl
  | negSucc m =>
    simp only [wrapF, wrapI, Bool.cond_eq_ite, Nat.ble_eq]
    split
    · rw [IntKind.wrap_i64, Int.negSucc_eq]; omega
    · rfl
def eqI : Int → Int → Bool
  | .ofNat a, .ofNat b => Nat.beq a b
  | .negSucc a, .negSucc b => Nat.beq a b
  | _, _ => false
theorem eqI_eq (a b : Int) : eqI a b = (a == b) := by
  cases a <;> cases b <;> simp [eqI, Int.negSucc_eq] <;> first | omega | skip
  all_goals (rw [Bool.eq_iff_iff]; simp; try omega)
def ltI : Int → Int → Bool
  | .ofNat a, .ofNat b => Nat.blt a b
  | .negSucc a, .negSucc b => Nat.blt b a
  | .negSucc _, .ofNat _ => true
  | .ofNat _, .negSucc _ => false
theorem ltI_eq (a b : Int) : ltI a b = decide (a < b) := by
  cases a <;> cases b <;> (rw [Bool.eq_iff_iff]; simp [ltI, Int.negSucc_eq]; try omega)
def addI : Int → Int → Int
  | .ofNat a, .ofNat b => .ofNat (Nat.add a b)
  | a, b => a + b
theorem addI_eq (a b : Int) : addI a b = a + b := by cases a <;> cases b <;> rfl
def arithF : BinOp → IntKind → Int → Int → Option AV
  | .add => fun k x y => some (.int k (wrapF k (addI x y)))
  | .sub => fun k x y => some (.int k (wrapF k (x - y)))
  | .mul => fun k x y => some (.int k (wrapF k (x * y)))
  | .quo => fun k x y => cond (eqI y 0) none (some (.int k (wrapF k (x.tdiv y))))
  | .rem => fun k x y => cond (eqI y 0) none (some (.int k (x.tmod y)))
  | .eql => fun _ x y => some (.bool (eqI x y))
  | .neq => fun _ x y => some (.bool (!eqI x y))
  | .lss => fun _ x y => some (.bool (ltI x y))
  | .leq => fun _ x y => some (.bool (!ltI y x))
  | .gtr => fun _ x y => some (.bool (ltI y x))
  | .geq => fun _ x y => some (.bool (!ltI x y))
  | op => fun k x y => arith op k x y
theorem arithF_eq (op : BinOp) (k : IntKind) (x y : Int) : arithF op k x y = arith op k x y := by
  cases op <;> simp [arithF, arith, wrapF_eq, addI_eq, eqI_eq, ltI_eq, Bool.cond_eq_ite, bne]
  all_goals (try (rw [Bool.eq_iff_iff]; simp; try omega))
end Abs
end Go.Proofs.Ythiifonejoejpaa
