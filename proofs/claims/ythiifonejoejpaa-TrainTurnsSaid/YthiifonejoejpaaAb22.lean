/- The evaluator: the other text: operations that look at nothing but their operands. -/
import Derived.Test.YthiifonejoejpaaAb21
namespace Go.Proofs.Ythiifonejoejpaa
namespace Abs
noncomputable def evalF : Operand → Tr AV → Option AV
  | .tmp t => fun T => some ((T.getF t).getD .undef)
  | .const v => fun _ => ofV 5000 v
  | .global _ => fun _ => none
  | .func f => fun _ => some (.fn f [] [])
theorem evalF_eq (x : Operand) (T : Tr AV) : evalF x T = evalO T x := by cases x <;> simp [evalF, evalO, Tr.getF_eq]
noncomputable def evalLF : List Operand → Tr AV → Option (List AV)
  | [] => fun _ => some []
  | x :: xs => fun T => match evalF x T, evalLF xs T with
    | some a, some l => some (a :: l)
    | _, _ => none
theorem evalLF_eq (xs : List Operand) (T : Tr AV) : evalLF xs T = evalL T xs := by
  induction xs with
  | nil => rfl
  | cons x xs ih => simp only [evalLF, evalL, evalF_eq, ih]; rfl
noncomputable def evalPF : List (Nat × Operand) → Tr AV → Option (List (Nat × AV))
  | [] => fun _ => some []
  | (i, x) :: xs => fun T => match evalF x T, evalPF xs T with
    | some a, some l => some ((i, a) :: l)
    | _, _ => none
theorem evalPF_eq (xs : List (Nat × Operand)) (T : Tr AV) : evalPF xs T = evalP T xs := by
  induction xs with
  | nil => rfl
  | cons x xs ih => simp only [evalPF, evalP, evalF_eq, ih]; rfl
noncomputable def optF : Option Operand → Tr AV → Option (Option AV)
  | none => fun _ => some none
  | some x => fun T => match evalF x T with
    | some a => some (some a)
    | none => none
theorem optF_eq (x : Option Operand) (T : Tr AV) : optF x T = optO T x := by cases x <;> simp only [optF, optO, evalF_eq] <;> rfl
def kn : IntKind → Nat
  | .i8 => 0 | .i16 => 1 | .i32 => 2 | .i64 => 3 | .u8 => 4 | .u16 => 5 | .u32 => 6 | .u64 => 7
def kindEq (a b : IntKind) : Bool := Nat.beq (kn a) (kn b)
theorem kindEq_eq (a b : IntKind) : kindEq a b = decide (a = b) := by cases a <;> cases b <;> rfl
def intF : BinOp → IntKind → Int → IntKind → Int → Option AV
  | .shl => fun k a _ b => if b < 0 then none else some (.int k (k.wrap (a * 2 ^ (min b.toNat k.bits))))
  | .shr => fun k a _ b => if b < 0 then none else some (.int k (a.fdiv (2 ^ (min b.toNat k.bits))))
  | op => fun k a k' b => cond (kindEq k k') (arithF op k a b) none
def binF (op : BinOp) : AV → AV → Program → TypeId → Option AV
  | .int k a => fun y P t => match y with
    | .int k' b => intF op k a k' b
    | y => binV P op t (.int k a) y
  | x => fun y P t => binV P op t x y
theorem binF_eq (op : BinOp) (x y : AV) (P : Program) (t : TypeId) : binF op x y P t = binV P op t x y := by
  cases x with
  | int k a =>
    cases y with
    | int k' b =>
      simp only [binF]
      cases op <;> simp [intF, binV, kindEq_eq, arithF_eq, Bool.cond_eq_ite]
    | _ => rfl
  | _ => rfl
def bin2 (op : BinOp) (P : Program) (t : TypeId) : Option AV → Option AV → Option AV
  | some x => fun y => match y with
    | some y => binF op x y P t
    | none => none
  | none => fun _ => none
def pickF (T : Tr AV) (a b : Operand) : Option AV → Option AV
  | some (.bool c) => cond c (evalO T a) (evalO T b)
  | _ => none
def buildF (P : Program) (t : TypeId) : Option AV → Option (List (Nat × AV)) → Option AV
  | some z, some ps => buildA P t z.cells ps
  | _, _ => none
def nilF : Option AV → Option AV
  | some (.ptr n off) => some (.ptr n off)
  | some (.fn f a b) => some (.fn f a b)
  | some (.yield l) => some (.yield l)
  | _ => none
def unF (op : UnOp) : Option AV → Option AV
  | some x => unV op x
  | none => none
def convF (u w : Option TypeDesc) (x : Option AV) : Option AV := match u, w, x with
    | some (.int _), some (.int k), some (.int _ n) => some (.int k (k.wrap n))
    | some .string, some .string, some (.str s) => some (.str s)
    | _, _, _ => none
def funcF (P : Program) (T : Tr AV) (f : Fn) (first captured : Array Operand) : Option AV := pureA P T (.makeFunc f first captured)
def sliceF (P : Program) (u : Option TypeDesc) (x : Option AV) (lo hi : Option (Option AV)) : Option AV := match u, x, lo, hi with
    | some (.slice e), some .nils, some lo, some hi => match bounds 0 0 lo hi, sz P e with
      | some _, some _ => some .nils
      | _, _ => none
    | some (.slice e), some (.slice n off len cap esz ex), some lo, some hi => match bounds len cap lo hi, sz P e with
      | some (l, h), some size => cond (size.beq esz) (some (.slice n (off + l * esz) (h - l) (cap - l) esz ex)) none
      | _, _ => none
    | some (.array len e), some (.ptr n off), some lo, some hi => match bounds len len lo hi, sz P e with
      | some (l, h), some size => some (.slice n (off + l * size) (h - l) (len - l) size true)
      | _, _ => none
    | some .string, some (.str s), some lo, some hi => match bounds s.size s.size lo hi with
      | some (l, h) => some (.str (s.extract l h))
      | none => none
    | _, _, _, _ => none
def fieldAddrF (P : Program) (f : Nat) (u : Option TypeDesc) (x : Option AV) : Option AV := match u, x with
    | some (.struct fs), some (.ptr n off) => match fs[f]? with
      | some f => match sz P f.type with
        | some (_ + 1) => some (.ptr n (off + f.offset))
        | _ => none
      | none => none
    | _, _ => none
def fieldF (P : Program) (f : Nat) (u : Option TypeDesc) (x : Option AV) : Option AV := match u, x with
    | some (.struct fs), some (.agg cs) => match fs[f]? with
      | some f => partT P f.type cs f.offset
      | none => none
    | _, _ => none
def indexAddrF (P : Program) (u : Option TypeDesc) (x ix : Option AV) : Option AV := match u, x, ix with
    | some (.array len e), some (.ptr n off), some ix => match natOf ix, sz P e with
      | some i, some s => cond (i.blt len) (some (.ptr n (off + i * s))) none
      | _, _ => none
    | some (.slice e), some (.slice n off len _ _ _), some ix => match natOf ix, sz P e with
      | some i, some s => cond (i.blt len) (some (.ptr n (off + i * s))) none
      | _, _ => none
    | _, _, _ => none
def indexF (P : Program) (u : Option TypeDesc) (x ix : Option AV) : Option AV := match u, x, ix with
    | some (.array len e), some (.agg cs), some ix => match natOf ix, sz P e with
      | some i, some s => cond (i.blt len) (partT P e cs (i * s)) none
      | _, _ => none
    | some .string, some (.str s), some ix => match natOf ix with
      | some i => (s[i]?).map fun b => .int .u8 b.toNat
      | none => none
    | _, _, _ => none
def extractF (i : Nat) : Option AV → Option AV
  | some (.tuple vs) => vs[i]?
  | _ => none
noncomputable def pureF : Op → Program → Tr AV → Option AV
  | .move x => fun _ T => evalF x T
  | .assign x => fun _ T => evalF x T
  | .pick c a b => fun _ T => pickF T a b (evalF c T)
  | .build t parts => fun P T => buildF P t (zero P t) (evalPF parts.toList T)
  | .nilCheck x => fun _ T => nilF (evalF x T)
  | .binOp op t x y _ => fun P T => bin2 op P t (evalF x T) (evalF y T)
  | .unOp op _ x => fun _ T => unF op (evalF x T)
  | .convert src dst x => fun P T => convF (P.underlying src) (P.underlying dst) (evalF x T)
  | .makeFunc f a b => fun P T => funcF P T f a b
  | .slice t x lo hi none => fun P T => sliceF P (P.underlying t) (evalF x T) (optF lo T) (optF hi T)
  | .slice _ _ _ _ (some _) => fun _ _ => none
  | .fieldAddr s x f => fun P T => fieldAddrF P f (P.underlying s) (evalF x T)
  | .field s x f => fun P T => fieldF P f (P.underlying s) (evalF x T)
  | .indexAddr t x ix => fun P T => indexAddrF P (P.underlying t) (evalF x T) (evalF ix T)
  | .index t x ix => fun P T => indexF P (P.underlying t) (evalF x T) (evalF ix T)
  | .extract x i => fun _ T => extractF i (evalF x T)
  | op => fun P T => pureA P T op
theorem pureF_eq (op : Op) (P : Program) (T : Tr AV) : pureF op P T = pureA P T op := by
  cases op <;> try rfl
  case move x => exact evalF_eq x T
  case assign x => exact evalF_eq x T
  case pick c a b => simp only [pureF, pureA, evalF_eq]; cases evalO T c <;> rfl
  case build t ps => simp only [pureF, pureA, evalPF_eq]; rfl
  case nilCheck x => simp only [pureF, pureA, evalF_eq]; rfl
  case binOp op t x y u =>
    simp only [pureF, pureA, evalF_eq]
    cases evalO T x <;> cases evalO T y <;> simp [bin2, binF_eq]
  case unOp op t x => simp only [pureF, pureA, evalF_eq]; rfl
  case convert a b x => simp only [pureF, pureA, evalF_eq]; rfl
  case slice t x lo hi m => cases m <;> simp only [pureF, pureA, evalF_eq, optF_eq] <;> rfl
  case fieldAddr t x f => simp only [pureF, pureA, evalF_eq]; rfl
  case field t x f => simp only [pureF, pureA, evalF_eq]; rfl
  case indexAddr t x f => simp only [pureF, pureA, evalF_eq]; rfl
  case index t x f => simp only [pureF, pureA, evalF_eq]; rfl
  case extract x f => simp only [pureF, pureA, evalF_eq]; rfl
end Abs
end Go.Proofs.Ythiifonejoejpaa
