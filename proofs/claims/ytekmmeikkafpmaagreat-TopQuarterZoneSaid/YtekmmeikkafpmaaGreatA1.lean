/- An evaluator of calls over blocks that have names of their own: it runs the translated code whatever the tape says. Definitions. -/
import Derived.Test.YtekmmeikkafpmaaGreatRows
set_option linter.unusedSimpArgs false
set_option linter.unusedVariables false
namespace Go.Proofs.YtekmmeikkafpmaaGreat
namespace Abs

inductive Tr (α : Type) : Type where
  | nil
  | node (v : Option α) (l r : Tr α)
section tr
variable {α : Type}
def Tr.get : Tr α → Nat → Option α
  | .nil, _ => none
  | .node v l r, k => cond (k.beq 0) v (cond ((k % 2).beq 1) (l.get (k / 2)) (r.get (k / 2 - 1)))
def Tr.setF (a : Option α) : Nat → Tr α → Nat → Tr α
  | 0, t, _ => t
  | f + 1, .nil, k => cond (k.beq 0) (.node a .nil .nil) (cond ((k % 2).beq 1) (.node none (Tr.setF a f .nil (k / 2)) .nil) (.node none .nil (Tr.setF a f .nil (k / 2 - 1))))
  | f + 1, .node v l r, k => cond (k.beq 0) (.node a l r) (cond ((k % 2).beq 1) (.node v (Tr.setF a f l (k / 2)) r) (.node v l (Tr.setF a f r (k / 2 - 1))))
def Tr.set (t : Tr α) (k : Nat) (a : α) : Tr α := Tr.setF (some a) (k + 1) t k
def Tr.del (t : Tr α) (k : Nat) : Tr α := Tr.setF none (k + 1) t k
end tr

inductive AV where
  | int (k : IntKind) (n : Int)
  | bool (b : Bool)
  | str (s : ByteArray)
  | nilp
  | ptr (n off : Nat)
  | nils
  | slice (n off len cap esz : Nat) (ex : Bool)
  | nilm
  | map (r : Nat)
  | fn (f : FuncId) (first captured : List AV)
  | yield (l : Nat)
  | nilf
  | nili
  | agg (cs : List AV)
  | tuple (vs : List AV)

def AV.undef : AV := .tuple []
def AV.cells : AV → List AV
  | .agg cs => cs
  | v => [v]
def AV.oneCell : AV → Bool
  | .agg _ | .tuple _ => false
  | _ => true

inductive ADef where
  | mark (r : Nat)
  | fn (f : FuncId) (captured args : List AV)

structure ALoop where
  state : LoopState
  pending : Option Code
  n : Nat
  tmps : Tr AV
  params : List Tmp
  assign : Code
  body : Code
  defers : Nat

inductive AObj where
  | cells (w : Bool) (cs : List AV)
  | map (es : List (AV × AV × Nat)) (clock : Nat)
  | loop (l : ALoop)
  | dfr (isOpen : Bool)
  | iter (o : Option Nat) (since : Nat) (seen : List Nat) (last : Nat)
  | lent (r : Nat) (cs : List AV)
def AObj.writable : AObj → Bool
  | .cells w _ => w
  | _ => true

structure Hp where
  t : Tr AObj
  bad : List (Nat × Nat)
  wr : Nat
def hid : List (Nat × Nat) → Nat → Bool
  | [], _ => false
  | (a, b) :: l, n => cond (a.ble n) (cond (b.ble n) (hid l n) true) (hid l n)
def Hp.get (H : Hp) (n : Nat) : Option AObj := cond (hid H.bad n) none (H.t.get n)
def Hp.lay (H : Hp) (n : Nat) (o : AObj) : Hp := ⟨H.t.set n o, H.bad, H.wr⟩
def lower (a b : Nat) : Nat := cond (a.ble b) a b
def Hp.put (H : Hp) (n : Nat) (o : AObj) : Hp := ⟨H.t.set n o, H.bad, lower n H.wr⟩
def Hp.del (H : Hp) (n : Nat) : Hp := ⟨H.t.del n, H.bad, lower n H.wr⟩

mutual
def ofV : Nat → Value → Option AV
  | 0, _ => none
  | f + 1, v => match v with
    | .int k n => some (.int k n)
    | .bool b => some (.bool b)
    | .string s => some (.str s)
    | .pointer none => some .nilp
    | .slice none 0 0 => some .nils
    | .map none => some .nilm
    | .nilFunc => some .nilf
    | .nilIface => some .nili
    | .agg cs => (ofVs f cs.toList).map .agg
    | .tuple cs => (ofVs f cs.toList).map .tuple
    | _ => none
def ofVs : Nat → List Value → Option (List AV)
  | 0, _ => none
  | _ + 1, [] => some []
  | f + 1, v :: vs => match ofV f v, ofVs f vs with
    | some a, some l => some (a :: l)
    | _, _ => none
end

section ops
variable (P : Program)
def zero (t : TypeId) : Option AV := match P.info? t with
  | some i => match i.zero with
    | some v => ofV 5000 v
    | none => none
  | none => none
def sz (t : TypeId) : Option Nat := match P.info? t with
  | some i => some i.size
  | none => none
def isAggT (t : TypeId) : Option Bool := match P.underlying t with
  | some (.struct _) | some (.array _ _) => some true
  | some _ => some false
  | none => none

def evalO (T : Tr AV) : Operand → Option AV
  | .tmp t => T.get t
  | .const v => ofV 5000 v
  | .global _ => none
  | .func f => some (.fn f [] [])
def evalL (T : Tr AV) : List Operand → Option (List AV)
  | [] => some []
  | x :: xs => match evalO T x, evalL T xs with
    | some a, some l => some (a :: l)
    | _, _ => none
def evalP (T : Tr AV) : List (Nat × Operand) → Option (List (Nat × AV))
  | [] => some []
  | (i, x) :: xs => match evalO T x, evalP T xs with
    | some a, some l => some ((i, a) :: l)
    | _, _ => none
def optO (T : Tr AV) : Option Operand → Option (Option AV)
  | none => some none
  | some x => match evalO T x with
    | some a => some (some a)
    | none => none

def cellsAt (H : Hp) (n : Nat) : Option (List AV) := match H.get n with
  | some (.cells _ cs) => some cs
  | some (.lent _ cs) => some cs
  | _ => none
def lends : List (Nat × Nat) → Bool
  | [(1, 0)] => true
  | _ => false
def lentAt (H : Hp) (n : Nat) : Option (Nat × List AV) := match H.get n with
  | some (.lent r cs) => some (r, cs)
  | some (.cells true cs) => some (n, cs)
  | _ => none
def dropO (r i : Nat) (H : Hp) : Option AObj → Hp
  | some (.lent r' _) => cond (r'.beq r) (H.del i) H
  | _ => H
def dropL (r : Nat) : Nat → Nat → Hp → Hp
  | 0, _, H => H
  | k + 1, i, H => dropL r k (i + 1) (dropO r i H (H.get i))
def cellsW (H : Hp) (n : Nat) : Option (List AV) := match H.get n with
  | some (.cells true cs) => some cs
  | _ => none
def takeN (cs : List AV) (off n : Nat) : Option (List AV) := cond (((cs.drop off).take n).length.beq n) (some ((cs.drop off).take n)) none
def setAt : List AV → Nat → List AV → Option (List AV)
  | cs, _, [] => some cs
  | [], _, _ :: _ => none
  | _ :: cs, 0, v :: vs => (setAt cs 0 vs).map (v :: ·)
  | c :: cs, o + 1, v :: vs => (setAt cs o (v :: vs)).map (c :: ·)
def partT (t : TypeId) (cs : List AV) (off : Nat) : Option AV := match isAggT P t with
  | some true => match sz P t with
    | some n => (takeN cs off n).map .agg
    | none => none
  | some false => cs[off]?
  | none => none
def loadT (H : Hp) (t : TypeId) (n off : Nat) : Option AV := match cellsAt H n with
  | some cs => partT P t cs off
  | none => none

def fillL (place : Nat → Option (Nat × Nat)) : List AV → List (Nat × AV) → Option (List AV)
  | cells, [] => some cells
  | cells, (i, v) :: rest => match place i with
    | none => none
    | some (off, size) => cond (v.cells.length.beq size) (cond ((off + size).ble cells.length) (match setAt cells off v.cells with
        | some cs => fillL place cs rest
        | none => none) none) none
def placesA : List Field → Option (List (Nat × Nat))
  | [] => some []
  | f :: fs => match sz P f.type, placesA fs with
    | some n, some l => some ((f.offset, n) :: l)
    | _, _ => none
def buildA (t : TypeId) (z : List AV) (ps : List (Nat × AV)) : Option AV := match P.underlying t with
  | some (.struct fs) => match placesA P fs.toList with
    | some pl => (fillL (fun i => pl[i]?) z ps).map .agg
    | none => none
  | some (.array _ e) => match sz P e with
    | some size => (fillL (fun i => some (i * size, size)) z ps).map .agg
    | none => none
  | _ => none
def repL (z : List AV) : Nat → List AV
  | 0 => []
  | n + 1 => z ++ repL z n

mutual
def eqv : Nat → TypeId → AV → AV → Option Bool
  | 0, _, _, _ => none
  | d + 1, t, x, y => match P.underlying t, x, y with
    | some .bool, .bool a, .bool b => some (a == b)
    | some (.int _), .int k a, .int k' b => if k = k' then some (a == b) else none
    | some .string, .str a, .str b => some (a.toList == b.toList)
    | some (.pointer _), .nilp, .nilp => some true
    | some (.pointer _), .nilp, .ptr _ _ => some false
    | some (.pointer _), .ptr _ _, .nilp => some false
    | some (.slice _), .nils, .nils => some true
    | some (.slice _), .nils, .slice .. => some false
    | some (.slice _), .slice .., .nils => some false
    | some (.map _ _), .nilm, .nilm => some true
    | some (.map _ _), .nilm, .map _ => some false
    | some (.map _ _), .map _, .nilm => some false
    | some (.func _ _ _), .nilf, .nilf => some true
    | some (.func _ _ _), .nilf, .fn .. => some false
    | some (.func _ _ _), .fn .., .nilf => some false
    | some (.struct fs), .agg xs, .agg ys => cond (P.stoodInHeld t) none (eqvF d fs.toList xs ys)
    | some (.array len e), .agg xs, .agg ys => match sz P e with
      | some n => eqvL d e n (List.range' 0 len) xs ys
      | none => none
    | _, _, _ => none
def eqvL : Nat → TypeId → Nat → List Nat → List AV → List AV → Option Bool
  | 0, _, _, _, _, _ => none
  | _ + 1, _, _, [], _, _ => some true
  | d + 1, e, n, i :: l, xs, ys =>
    match partT P e xs (i * n), partT P e ys (i * n) with
    | some x, some y => match eqv d e x y with
      | some true => eqvL d e n l xs ys
      | some false => some false
      | none => none
    | _, _ => none
def eqvF : Nat → List Field → List AV → List AV → Option Bool
  | 0, _, _, _ => none
  | _ + 1, [], _, _ => some true
  | d + 1, f :: fs, xs, ys => if f.name = "_" then eqvF d fs xs ys else
    match partT P f.type xs f.offset, partT P f.type ys f.offset with
    | some x, some y => match eqv d f.type x y with
      | some true => eqvF d fs xs ys
      | some false => some false
      | none => none
    | _, _ => none
end
def guardOk (t : TypeId) (x y : AV) : Bool := match x, y with
  | .agg _, .agg _ => !P.eqGuardType P.depth t
  | .nili, _ | _, .nili => false
  | _, _ => true

def arith (op : BinOp) (k : IntKind) (x y : Int) : Option AV := match op with
  | .add => some (.int k (k.wrap (x + y)))
  | .sub => some (.int k (k.wrap (x - y)))
  | .mul => some (.int k (k.wrap (x * y)))
  | .quo => if y = 0 then none else some (.int k (k.wrap (x.tdiv y)))
  | .rem => if y = 0 then none else some (.int k (x.tmod y))
  | .eql => some (.bool (x == y))
  | .neq => some (.bool (x != y))
  | .lss => some (.bool (x < y))
  | .leq => some (.bool (x ≤ y))
  | .gtr => some (.bool (x > y))
  | .geq => some (.bool (x ≥ y))
  | .and => some (.int k (k.wrap (BitVec.ofInt k.bits x &&& BitVec.ofInt k.bits y).toNat))
  | .or => some (.int k (k.wrap (BitVec.ofInt k.bits x ||| BitVec.ofInt k.bits y).toNat))
  | .xor => some (.int k (k.wrap (BitVec.ofInt k.bits x ^^^ BitVec.ofInt k.bits y).toNat))
  | .andNot => some (.int k (k.wrap (BitVec.ofInt k.bits x &&& ~~~ BitVec.ofInt k.bits y).toNat))
  | _ => none
def strOp (op : BinOp) (x y : ByteArray) : Option AV := match op with
  | .eql => some (.bool (x.toList == y.toList))
  | .neq => some (.bool !(x.toList == y.toList))
  | _ => none
def binV (op : BinOp) (t : TypeId) (x y : AV) : Option AV := match op, x, y with
  | .shl, .int k a, .int _ b => if b < 0 then none else some (.int k (k.wrap (a * 2 ^ (min b.toNat k.bits))))
  | .shr, .int k a, .int _ b => if b < 0 then none else some (.int k (a.fdiv (2 ^ (min b.toNat k.bits))))
  | op, .int k a, .int k' b => if k = k' then arith op k a b else none
  | op, .str a, .str b => strOp op a b
  | .eql, x, y => cond (guardOk P t x y) ((eqv P Op.maxDepth t x y).map .bool) none
  | .neq, x, y => cond (guardOk P t x y) ((eqv P Op.maxDepth t x y).map fun b => .bool (!b)) none
  | _, _, _ => none
def unV (op : UnOp) (x : AV) : Option AV := match op, x with
  | .neg, .int k n => some (.int k (k.wrap (0 - n)))
  | .not, .bool b => some (.bool !b)
  | _, _ => none
def natOf : AV → Option Nat
  | .int _ (.ofNat n) => some n
  | _ => none
def limA (len : Nat) : Option AV → Option Nat
  | some v => natOf v
  | none => some len
def bounds (len cap : Nat) (lo hi : Option AV) : Option (Nat × Nat) :=
  match limA len hi, limA 0 lo with
  | some h, some l => cond (l.ble h) (cond (h.ble cap) (some (l, h)) none) none
  | _, _ => none

def pureA (T : Tr AV) : Op → Option AV
  | .move x | .assign x => evalO T x
  | .pick c a b => match evalO T c with
    | some (.bool c) => cond c (evalO T a) (evalO T b)
    | _ => none
  | .build t parts => match zero P t, evalP T parts.toList with
    | some z, some ps => buildA P t z.cells ps
    | _, _ => none
  | .nilCheck x => match evalO T x with
    | some (.ptr n off) => some (.ptr n off)
    | some (.fn f a b) => some (.fn f a b)
    | some (.yield l) => some (.yield l)
    | _ => none
  | .binOp op t x y _ => match evalO T x, evalO T y with
    | some x, some y => binV P op t x y
    | _, _ => none
  | .unOp op _ x => match evalO T x with
    | some x => unV op x
    | none => none
  | .convert src dst x => match P.underlying src, P.underlying dst, evalO T x with
    | some (.int _), some (.int k), some (.int _ n) => some (.int k (k.wrap n))
    | some .string, some .string, some (.str s) => some (.str s)
    | _, _, _ => none
  | .makeFunc (.func f) first captured => match evalL T first.toList, evalL T captured.toList with
    | some a, some b => some (.fn f a b)
    | _, _ => none
  | .slice t x lo hi none => match P.underlying t, evalO T x, optO T lo, optO T hi with
    | some (.slice e), some .nils, some lo, some hi => match bounds 0 0 lo hi, sz P e with
      | some _, some _ => some .nils
      | _, _ => none
    | some (.slice e), some (.slice n off len cap esz ex), some lo, some hi => match bounds len cap lo hi, sz P e with
      | some (l, h), some size => cond (size.beq esz) (some (.slice n (off + l * esz) (h - l) (cap - l) esz ex)) none
      | _, _ => none
    | some (.array len e), some (.ptr n off), some lo, some hi => match bounds len len lo hi, sz P e with
      | some (l, h), some size => some (.slice n (off + l * size) (h - l) (len - l) size true)
      | _, _ => none
    | some .string, some (.str s), some lo, some hi => match bounds s.size s.size lo hi with
      | some (l, h) => some (.str (s.extract l h))
      | none => none
    | _, _, _, _ => none
  | .fieldAddr s x f => match P.underlying s, evalO T x with
    | some (.struct fs), some (.ptr n off) => match fs[f]? with
      | some f => match sz P f.type with
        | some (_ + 1) => some (.ptr n (off + f.offset))
        | _ => none
      | none => none
    | _, _ => none
  | .field t x f => match P.underlying t, evalO T x with
    | some (.struct fs), some (.agg cs) => match fs[f]? with
      | some f => partT P f.type cs f.offset
      | none => none
    | _, _ => none
  | .indexAddr t x ix => match P.underlying t, evalO T x, evalO T ix with
    | some (.array len e), some (.ptr n off), some ix => match natOf ix, sz P e with
      | some i, some s => cond (i.blt len) (some (.ptr n (off + i * s))) none
      | _, _ => none
    | some (.slice e), some (.slice n off len _ _ _), some ix => match natOf ix, sz P e with
      | some i, some s => cond (i.blt len) (some (.ptr n (off + i * s))) none
      | _, _ => none
    | _, _, _ => none
  | .index t x ix => match P.underlying t, evalO T x, evalO T ix with
    | some (.array len e), some (.agg cs), some ix => match natOf ix, sz P e with
      | some i, some s => cond (i.blt len) (partT P e cs (i * s)) none
      | _, _ => none
    | some .string, some (.str s), some ix => match natOf ix with
      | some i => (s[i]?).map fun b => .int .u8 b.toNat
      | none => none
    | _, _, _ => none
  | .extract x i => match evalO T x with
    | some (.tuple vs) => vs[i]?
    | _ => none
  | .call { callee := .builtin .max, args, .. } => match evalL T args.toList with
    | some [.int k a, .int _ b] => some (.int k (if b > a then b else a))
    | _ => none
  | .call { callee := .builtin .min, args, .. } => match evalL T args.toList with
    | some [.int k a, .int _ b] => some (.int k (if b < a then b else a))
    | _ => none
  | _ => none

def touch : Op → Bool
  | .move _ | .assign _ | .pick .. | .build .. | .nilCheck _ | .binOp .. | .unOp .. | .convert .. | .makeFunc .. | .slice .. | .fieldAddr .. | .field ..
  | .indexAddr .. | .index .. | .extract .. | .call { callee := .builtin .max, .. } | .call { callee := .builtin .min, .. } => false
  | _ => true

def keyEq : AV → AV → Option Bool
  | .int k a, .int k' b => if k = k' then some (a == b) else none
  | .str a, .str b => some (a == b)
  | .bool a, .bool b => some (a == b)
  | _, _ => none
def keyKind (t : TypeId) (v : AV) : Bool := match P.underlying t, v with
  | some (.int _), .int _ _ => true
  | some .string, .str _ => true
  | some .bool, .bool _ => true
  | _, _ => false
def findK (k : AV) : List (AV × AV × Nat) → Nat → Option (Option (Nat × AV))
  | [], _ => some none
  | e :: es, i => match keyEq k e.1 with
    | some true => some (some (i, e.2.1))
    | some false => findK k es (i + 1)
    | none => none
def flatC : List AV → Bool
  | [] => true
  | .int _ _ :: l => flatC l
  | .bool _ :: l => flatC l
  | _ => false
def eqC : List AV → List AV → Bool
  | [], [] => true
  | .int k a :: l, .int k' b :: l' => cond (decide (k = k')) (cond (a == b) (eqC l l') false) false
  | .bool a :: l, .bool b :: l' => cond (a == b) (eqC l l') false
  | _, _ => false
def eqAgg : AV → AV → Bool
  | .agg a, .agg b => eqC a b
  | _, _ => false
def flatT (t : TypeId) (v : Option AV) : Bool := match P.underlying t, v with
  | some (.int _), some (.int _ _) => true
  | some .bool, some (.bool _) => true
  | _, _ => false
def keyStr (t : TypeId) (v : AV) : Bool := match P.underlying t, v with
  | some (.struct fs), .agg cs => cond (flatC cs) (fs.toList.all fun f => flatT P f.type (partT P f.type cs f.offset)) false
  | _, _ => false
def findQ (t : TypeId) (k : AV) : List (AV × AV × Nat) → Nat → Option (Option (Nat × AV))
  | [], _ => some none
  | e :: es, i => match eqv P 8 t k e.1 with
    | some true => cond (eqAgg k e.1) (some (some (i, e.2.1))) none
    | some false => findQ t k es (i + 1)
    | none => none
def fndA (t : TypeId) (k : AV) (es : List (AV × AV × Nat)) : Option (Option (Nat × AV)) := cond (keyKind P t k) (findK k es 0) (cond (keyStr P t k) (findQ P t k es 0) none)
def mapAt (H : Hp) (r : Nat) : Option (List (AV × AV × Nat) × Nat) := match H.get r with
  | some (.map es c) => some (es, c)
  | _ => none
def lenV (H : Hp) (t : TypeId) (x : AV) : Option Nat := match P.underlying t, x with
  | some .string, .str s => some s.size
  | some (.array n _), _ => some n
  | some (.slice _), .nils => some 0
  | some (.slice _), .slice _ _ len _ _ _ => some len
  | some (.map _ _), .nilm => some 0
  | some (.map _ _), .map r => match mapAt H r with
    | some (es, _) => some es.length
    | none => none
  | _, _ => none
def capV (t : TypeId) (x : AV) : Option Nat := match P.underlying t, x with
  | some (.slice _), .nils => some 0
  | some (.slice _), .slice _ _ _ cap _ true => some cap
  | _, _ => none
def rowA (H : Hp) (n off len size : Nat) : Option (List AV) := cond (len.beq 0) (some []) (match cellsAt H n with
  | some cs => takeN cs off (len * size)
  | none => none)
def srcN (H : Hp) (e : TypeId) (size : Nat) (xt : TypeId) (x : AV) : Option (Nat × List AV) := match P.underlying xt, x with
  | some (.int _), .int .i64 (.ofNat k) => match zero P e with
    | some z => cond (z.cells.length.beq size) (cond (k.ble 100000) (some (k, repL z.cells k)) none) none
    | none => none
  | some (.slice _), .nils => some (0, [])
  | some (.slice _), .slice n off len _ _ _ => match rowA H n off len size with
    | some l => some (len, l)
    | none => none
  | some .string, .str s => cond (size.beq 1) (some (s.size, s.data.toList.map fun b => .int .u8 b.toNat)) none
  | _, _ => none
def small (need bytes : Nat) : Bool := (Nat.ble need 1000000) && (Nat.ble bytes 1000)

def growA (i : TypeInfo) (H : Hp) (nx k : Nat) (new : List AV) : AV → Option (AV × Hp × Nat)
  | .nils => some (.slice nx 0 k k i.size false, H.lay nx (.cells true new), nx + 1)
  | .slice n off len cap esz ex => cond (esz.beq i.size) (cond (small (len + k) 0)
      (cond ((len + k).ble cap)
        (match cellsW H n with
          | some cs => match setAt cs (off + len * esz) new with
            | some cs => cond (new.all AV.oneCell) (some (.slice n off (len + k) cap esz ex, H.put n (.cells true cs), nx)) none
            | none => none
          | none => none)
        (match rowA H n off len esz with
          | some old => cond ex (some (.slice nx 0 (len + k) (len + k) esz false, H.lay nx (.cells true (old ++ new)), nx + 1))
            (cond (lends H.bad) (match lentAt H n with
              | some (r, cs) => cond (off.beq 0) (cond (cs.length.beq (len * esz)) (cond (new.all AV.oneCell)
                  (some (.slice nx 0 (len + k) (len + k) esz false, ((dropL r (nx - (n + 1)) (n + 1) H).put n (.lent r cs)).lay nx (.lent r (cs ++ new)), nx + 1)) none) none) none
              | none => none) (match cellsW H n with
              | some cs => cond (off.beq 0) (cond (cs.length.beq (len * esz)) (cond (new.all AV.oneCell) (some (.slice nx 0 (len + k) (len + k) esz false, (H.del n).lay nx (.cells true (old ++ new)), nx + 1)) none) none) none
              | none => none))
          | none => none)) none) none
  | _ => none
def appendA (t xt : TypeId) (s x : AV) (H : Hp) (nx : Nat) : Option (AV × Hp × Nat) := match P.underlying t with
  | some (.slice e) => match P.info? e, zero P e with
    | some i, some z => cond (z.cells.length.beq i.size) (match srcN P H e i.size xt x with
      | some (0, _) => match s with
        | .nils => some (.nils, H, nx)
        | .slice n off len cap esz ex => some (.slice n off len cap esz ex, H, nx)
        | _ => none
      | some (k + 1, new) => cond (small (k + 1) i.bytes) (cond (i.size.beq 0) none (growA i H nx (k + 1) new s)) none
      | none => none) none
    | _, _ => none
  | _ => none
def copyA (t : TypeId) (s x : AV) (H : Hp) : Option (AV × Hp) := match P.underlying t with
  | some (.slice e) => match sz P e, s, x with
    | some _, .nils, .nils => some (.int .i64 0, H)
    | some _, .nils, .slice .. => some (.int .i64 0, H)
    | some _, .slice .., .nils => some (.int .i64 0, H)
    | some size, .slice n off len _ _ _, .slice n2 off2 len2 _ _ _ => cond ((min len2 len).beq 0) (some (.int .i64 0, H)) (match rowA H n2 off2 (min len2 len) size, cellsW H n with
      | some src, some cs => match setAt cs off src with
        | some cs => cond (src.all AV.oneCell) (cond (size.beq 0) none (some (.int .i64 (min len2 len : Nat), H.put n (.cells true cs)))) none
        | none => none
      | _, _ => none)
    | _, _, _ => none
  | _ => none

def clearA (t : TypeId) (x : AV) (H : Hp) : Option Hp := match P.underlying t, x with
  | some (.slice _), .nils => some H
  | some (.slice e), .slice n off len _ esz _ => cond (len.beq 0) (some H) (match zero P e, cellsW H n with
    | some z, some cs => cond (z.cells.length.beq esz) (cond (z.cells.all AV.oneCell) (cond (esz.beq 0) none (match setAt cs off (repL z.cells len) with
      | some cs => some (H.put n (.cells true cs))
      | none => none)) none) none
    | _, _ => none)
  | _, _ => none
inductive Ex where
  | normal
  | exit (id : Nat)
  | goto (l : Nat)
  | ret

structure St where
  tmps : Tr AV
  defers : List ADef
  heap : Hp
  next : Nat

inductive Task where
  | code (n : Nat) (round : Option Nat) (c : Code) (s : St)
  | call (f : FuncId) (args : List AV) (H : Hp) (next : Nat)
  | dcall (f : FuncId) (args : List AV) (H : Hp) (next : Nat)

inductive Res where
  | code (e : Ex) (s : St)
  | call (v : AV) (H : Hp) (next : Nat)

def ofArgs : List AV → Nat → Tr AV → Tr AV
  | [], _, t => t
  | v :: vs, i, t => ofArgs vs (i + 1) (t.set i v)

def resultA (H : Hp) (T : Tr AV) : ResultVar → Option AV
  | .tmp t => T.get t
  | .cell a t => match T.get a with
    | some (.ptr n off) => loadT P H t n off
    | _ => none
def resultsL (H : Hp) (T : Tr AV) : List ResultVar → Option (List AV)
  | [] => some []
  | r :: rs => match resultA P H T r, resultsL H T rs with
    | some a, some l => some (a :: l)
    | _, _ => none
def resultsA (H : Hp) (T : Tr AV) (rs : List ResultVar) : Option AV := match resultsL P H T rs with
  | some [v] => some v
  | some vs => some (.tuple vs)
  | none => none

def leaveA (rec : Task → Option Res) : List ADef → Hp → Nat → Option (Hp × Nat)
  | [], H, nx => some (H, nx)
  | .mark r :: ds, H, nx => match H.get r with
    | some (.dfr true) => leaveA rec ds (H.put r (.dfr false)) nx
    | _ => none
  | .fn f cap args :: ds, H, nx => match rec (.dcall f (args ++ cap) H nx) with
    | some (.call _ H nx) => leaveA rec ds H nx
    | _ => none

def bindA (n : Nat) : List Tmp → List AV → Tr AV → Option (Tr AV)
  | [], [], T => some T
  | p :: ps, v :: vs, T => bindA n ps vs (cond (p.blt n) (T.set p v) T)
  | _, _, _ => none

def yieldA (rec : Task → Option Res) (l : Nat) (args : List AV) (H : Hp) (next : Nat) : Option (AV × Hp × Nat) := match H.get l with
  | some (.loop L) => match L.state, bindA L.n L.params args L.tmps with
    | .ready, some T => match rec (.code L.n (some l) L.assign ⟨T, [], H, next⟩) with
      | some (.code .normal s) => match s.heap.get l with
        | some (.loop L1) => match L1.state with
          | .ready => match rec (.code L.n (some l) L.body ⟨s.tmps, s.defers, s.heap.put l (.loop { L1 with state := .busy }), s.next⟩) with
            | some (.code e s) => match s.heap.get l, s.defers with
              | some (.loop L2), [] => match e with
                | .normal => some (.bool true, s.heap.put l (.loop { L2 with state := .ready, pending := none }), s.next)
                | .ret => some (.bool false, s.heap.put l (.loop { L2 with state := .done, pending := some .ret }), s.next)
                | .exit id => some (.bool false, s.heap.put l (.loop { L2 with state := .done, pending := some (.exit id) }), s.next)
                | .goto t => some (.bool false, s.heap.put l (.loop { L2 with state := .done, pending := some (.goto t) }), s.next)
              | _, _ => none
            | _ => none
          | _ => none
        | _ => none
      | _ => none
    | _, _ => none
  | _ => none

def callV (rec : Task → Option Res) (f : AV) (args : List AV) (H : Hp) (next : Nat) : Option (AV × Hp × Nat) := match f with
  | .fn f first cap => match rec (.call f (first ++ args ++ cap) H next) with
    | some (.call v H nx) => some (v, H, nx)
    | _ => none
  | .yield l => yieldA rec l args H next
  | _ => none

def nextA {α : Type} (es : List (α × α × Nat)) (since : Nat) (seen : List Nat) (last : Nat) : Option (Option (α × α × Nat)) :=
  cond ((seen.isEmpty || es.isEmpty) || es.any (fun e => Nat.blt e.2.2 last)) (match es.filter (fun e => !(seen.any (Nat.beq e.2.2))) with
    | [] => some none
    | [e] => cond (Nat.blt e.2.2 since) (some (some e)) none
    | _ => none) none
def heapA (rec : Task → Option Res) (T : Tr AV) (H : Hp) (nx : Nat) : Op → Option (AV × Hp × Nat)
  | .alloc t => match zero P t with
    | some z => some (.ptr nx 0, H.lay nx (.cells true z.cells), nx + 1)
    | none => none
  | .box _ x => match evalO T x with
    | some v => some (.ptr nx 0, H.lay nx (.cells true v.cells), nx + 1)
    | none => none
  | .buildSlice t len parts => match P.underlying t with
    | some (.slice e) => match sz P e, zero P e, evalP T parts.toList with
      | some size, some z, some ps => cond (z.cells.length.beq size) (cond ((len * size).ble 10000) (
          match fillL (fun i => some (i * size, size)) (repL z.cells len) ps with
          | some cs => some (.slice nx 0 len len size true, H.lay nx (.cells true cs), nx + 1)
          | none => none) none) none
      | _, _, _ => none
    | _ => none
  | .load t x => match evalO T x with
    | some (.ptr n off) => match loadT P H t n off with
      | some v => some (v, H, nx)
      | none => none
    | _ => none
  | .store t a v => match evalO T a, evalO T v, sz P t with
    | some (.ptr n off), some v, some size => match cellsW H n with
      | some cs => match setAt cs off v.cells with
        | some cs => cond (v.cells.length.beq size) (cond (v.cells.all AV.oneCell) (cond (size.beq 0) none (some (.undef, H.put n (.cells true cs), nx))) none) none
        | none => none
      | none => none
    | _, _, _ => none
  | .makeMap _ none => some (.map nx, H.lay nx (.map [] 0), nx + 1)
  | .makeSlice t l c => match P.underlying t, evalO T l, evalO T c with
    | some (.slice e), some l, some c => match P.info? e, zero P e, natOf l, natOf c with
      | some i, some z, some l, some c => cond (z.cells.length.beq i.size) (cond (l.ble c) (cond (small c i.bytes) (some (.slice nx 0 l c i.size true, H.lay nx (.cells true (repL z.cells c)), nx + 1)) none) none) none
      | _, _, _, _ => none
    | _, _, _ => none
  | .lookup t x ix ok => match P.underlying t, evalO T x, evalO T ix with
    | some (.map kt et), some x, some k =>
        match (match x with | .nilm => some [] | .map r => (match mapAt H r with | some (es, _) => some es | none => none) | _ => none) with
        | some es => match fndA P kt k es with
          | some (some (_, v)) => some (cond ok (.tuple [v, .bool true]) v, H, nx)
          | some none => match zero P et with
            | some z => some (cond ok (.tuple [z, .bool false]) z, H, nx)
            | none => none
          | none => none
        | none => none
    | _, _, _ => none
  | .mapUpdate t m k v | .insert t m k v => match P.underlying t, evalO T m, evalO T k, evalO T v with
    | some (.map kt _), some (.map r), some k, some v =>
        match mapAt H r with
        | some (es, c) => match fndA P kt k es with
          | some (some (i, _)) => some (.undef, H.put r (.map (es.modify i fun e => (k, v, e.2.2)) c), nx)
          | some none => some (.undef, H.put r (.map (es ++ [(k, v, c)]) (c + 1)), nx)
          | none => none
        | none => none
    | _, _, _, _ => none
  | .range t x => match P.underlying t, evalO T x with
    | some (.map _ _), some .nilm => some (.ptr nx 0, H.lay nx (.iter none 0 [] 0), nx + 1)
    | some (.map _ _), some (.map r) => match mapAt H r with
      | some (_, c) => some (.ptr nx 0, H.lay nx (.iter (some r) c [] c), nx + 1)
      | none => none
    | _, _ => none
  | .next it false => match evalO T it with
    | some (.ptr n 0) => match H.get n with
      | some (.iter none _ _ _) => some (.tuple [.bool false], H, nx)
      | some (.iter (some r) since seen last) => match mapAt H r with
        | some (es, c) => match nextA es since seen last with
          | some none => some (.tuple [.bool false], H, nx)
          | some (some e) => some (.tuple [.bool true, e.1, e.2.1], H.put n (.iter (some r) since (seen ++ [e.2.2]) c), nx)
          | none => none
        | none => none
      | _ => none
    | _ => none
  | .entry it => match evalO T it with
    | some (.ptr n 0) => match H.get n with
      | some (.iter (some r) _ seen last) => match mapAt H r, seen.getLast? with
        | some (es, c), some b => cond (c.beq last) (match es.find? (fun e => Nat.beq e.2.2 b) with
          | some e => some (.tuple [e.1, e.2.1], H, nx)
          | none => none) none
        | _, _ => none
      | _ => none
    | _ => none
  | .call { callee := .value f, args, .. } => match evalO T f, evalL T args.toList with
    | some f, some vs => callV rec f vs H nx
    | _, _ => none
  | .call { callee := .builtin .len, args, argTypes } => match evalL T args.toList, argTypes[0]? with
    | some [x], some t => match lenV P H t x with
      | some n => some (.int .i64 n, H, nx)
      | none => none
    | _, _ => none
  | .call { callee := .builtin .cap, args, argTypes } => match evalL T args.toList, argTypes[0]? with
    | some [x], some t => match capV P t x with
      | some n => some (.int .i64 n, H, nx)
      | none => none
    | _, _ => none
  | .call { callee := .builtin .append, args, argTypes } => match evalL T args.toList, argTypes[0]?, argTypes[1]? with
    | some [s, x], some t, some xt => appendA P t xt s x H nx
    | _, _, _ => none
  | .call { callee := .builtin .copy, args, argTypes } => match evalL T args.toList, argTypes[0]? with
    | some [s, x], some t => match copyA P t s x H with
      | some (v, H) => some (v, H, nx)
      | none => none
    | _, _ => none
  | .call { callee := .builtin .clear, args, argTypes } => match evalL T args.toList, argTypes[0]? with
    | some [x], some t => match clearA P t x H with
      | some H => some (.tuple [], H, nx)
      | none => none
    | _, _ => none
  | .call { callee := .builtin .delete, args, argTypes } => match evalL T args.toList, argTypes[0]? with
    | some [.map r, k], some t => match P.underlying t with
      | some (.map kt _) => cond (keyKind P kt k) (match mapAt H r with
        | some (es, c) => match findK k es 0 with
          | some (some (i, _)) => some (.tuple [], H.put r (.map (es.eraseIdx i) c), nx)
          | some none => some (.tuple [], H, nx)
          | none => none
        | none => none) none
      | _ => none
    | _, _ => none
  | _ => none

def yieldedA (ops : Array Oper) (T : Tr AV) (j : Nat) : Option Bool := match ((ops[j]?).bind (·.dst)).bind T.get with
  | some (.bool b) => some b
  | _ => none
def wantedA (ops : Array Oper) (T : Tr AV) (o : Oper) : Bool := match o.guard with
  | none => true
  | some (j, want) => match yieldedA ops T j with
    | some b => cond b want !want
    | none => false
def askedA (ops : Array Oper) (T : Tr AV) (o : Oper) : Bool := match o.guard with
  | none => true
  | some (j, _) => match (ops[j]?).bind (·.dst) with
    | none => true
    | some t => (T.get t).isSome
def putA (n : Nat) (dst : Option Tmp) (v : AV) (T : Tr AV) : Option (Tr AV) := match dst with
  | none => some T
  | some d => cond (d.blt n) (some (T.set d v)) none
def stepSt (n : Nat) (dst : Option Tmp) (s : St) : Option (AV × Hp × Nat) → Option St
  | some (v, H, nx) => match putA n dst v s.tmps with
    | some T => some ⟨T, s.defers, H, nx⟩
    | none => none
  | none => none

def deferA (T : Tr AV) : Op → Option ADef
  | .defer { callee := .value f, args, .. } => match evalO T f, evalL T args.toList with
    | some (.fn f first cap), some args => some (.fn f cap (first ++ args))
    | _, _ => none
  | _ => none
def isDefer : Op → Bool
  | .defer _ => true
  | _ => false

def op1 (rec : Task → Option Res) (n : Nat) (round : Option Nat) (ops : Array Oper) (o : Oper) (s : St) : Option St :=
  cond (askedA ops s.tmps o) (cond (wantedA ops s.tmps o)
    (cond (touch o.op)
      (cond (isDefer o.op)
        (match round, deferA s.tmps o.op, putA n o.dst .undef s.tmps with
          | none, some d, some T => some ⟨T, d :: s.defers, s.heap, s.next⟩
          | _, _, _ => none)
        (stepSt n o.dst s (heapA P rec s.tmps s.heap s.next o.op)))
      (stepSt n o.dst s ((pureA P s.tmps o.op).map fun v => (v, s.heap, s.next))))
    (stepSt n o.dst s (some (.undef, s.heap, s.next)))) none
def ops1 (rec : Task → Option Res) (n : Nat) (round : Option Nat) (ops : Array Oper) : List Oper → St → Option St
  | [], s => some s
  | o :: os, s => match op1 P rec n round ops o s with
    | some s' => ops1 rec n round ops os s'
    | none => none

structure Dr where
  ss : List (Nat × Nat × Nat)
  rs : List (Nat × Nat)
  ws : List (Nat × Nat)
def unseen (pre : Nat) : List (Nat × Nat × Nat) → List (Nat × Nat) → List (Nat × Nat)
  | [], l => l
  | (i, a, b) :: ss, l => cond (pre.testBit i) (unseen pre ss l) ((a, b) :: unseen pre ss l)
def clear (pre n : Nat) : List (Nat × Nat) → Bool
  | [] => true
  | (i, k) :: l => cond (pre.testBit i) (clear pre n l) (cond (k.beq n) false (clear pre n l))
def isLoad : Op → Bool
  | .load .. => true
  | _ => false
def barAt (ops : Array Oper) (pre : Array Nat) (loads : Bool) (j : Nat) : Nat → Bool
  | 0 => true
  | i + 1 => cond (match ops[i]? with
      | some o => cond (touch o.op) (cond (isLoad o.op) (cond loads (cond (i.blt j) ((pre.getD j 0).testBit i) (cond (i.beq j) true ((pre.getD i 0).testBit j))) true) (cond (i.blt j) ((pre.getD j 0).testBit i) (cond (i.beq j) true ((pre.getD i 0).testBit j)))) true
      | none => true) (barAt ops pre loads j i) false
def nameO (T : Tr AV) (x : Operand) : Nat := match evalO T x with
  | some (.ptr n _) => n
  | _ => 0
def appN (T : Tr AV) : Op → Option Nat
  | .call { callee := .builtin .append, args, .. } => match evalL T args.toList with
    | some [.slice n _ _ _ _ _, _] => some n
    | _ => none
  | _ => none
def stay (pre nx : Nat) (t : Tr AObj) : List (Nat × Nat) → Bool
  | [] => true
  | (i, k) :: l => cond (pre.testBit i) (stay pre nx t l) (cond (k.blt nx) (match t.get k with
    | some _ => stay pre nx t l
    | none => false) false)
def may (l : Bool) (pre nx : Nat) (t : Tr AObj) (rs : List (Nat × Nat)) : Bool := cond l (stay pre nx t rs) true
def opD (rec : Task → Option Res) (n : Nat) (ops : Array Oper) (pre : Array Nat) (j : Nat) (o : Oper) (s : St) (d : Dr) : Option (St × Dr) :=
  cond (askedA ops s.tmps o) (cond (wantedA ops s.tmps o)
    (cond (touch o.op)
      (match heapA P rec s.tmps ⟨s.heap.t, unseen (pre.getD j 0) d.ss s.heap.bad, s.next⟩ s.next o.op with
        | some (v, H, nx) => match putA n o.dst v s.tmps with
          | some T => match o.op with
            | .load _ x => cond (clear (pre.getD j 0) (nameO s.tmps x) d.ws) (some (⟨T, s.defers, s.heap, s.next⟩, ⟨d.ss, (j, nameO s.tmps x) :: d.rs, d.ws⟩)) none
            | .store _ x _ => cond (clear (pre.getD j 0) (nameO s.tmps x) d.rs) (cond (barAt ops pre false j ops.size)
                (some (⟨T, s.defers, ⟨H.t, s.heap.bad, lower H.wr s.heap.wr⟩, s.next⟩, ⟨d.ss, d.rs, (j, nameO s.tmps x) :: d.ws⟩)) none) none
            | _ => cond (s.next.ble H.wr) (some (⟨T, s.defers, ⟨H.t, s.heap.bad, lower H.wr s.heap.wr⟩, nx⟩, cond (nx.ble s.next) d ⟨(j, s.next, nx) :: d.ss, d.rs, d.ws⟩))
              (cond (barAt ops pre true j ops.size) (some (⟨T, s.defers, ⟨H.t, s.heap.bad, lower H.wr s.heap.wr⟩, nx⟩, cond (nx.ble s.next) d ⟨(j, s.next, nx) :: d.ss, d.rs, d.ws⟩))
                (match appN s.tmps o.op with
                  | some nm => cond (may (lends (unseen (pre.getD j 0) d.ss s.heap.bad)) (pre.getD j 0) s.next H.t d.rs) (cond (clear (pre.getD j 0) nm d.rs) (cond (barAt ops pre false j ops.size)
                    (some (⟨T, s.defers, ⟨H.t, s.heap.bad, lower H.wr s.heap.wr⟩, nx⟩, ⟨cond (nx.ble s.next) d.ss ((j, s.next, nx) :: d.ss), d.rs, (j, nm) :: d.ws⟩)) none) none) none
                  | none => none))
          | none => none
        | none => none)
      (match stepSt n o.dst s ((pureA P s.tmps o.op).map fun v => (v, s.heap, s.next)) with
        | some s => some (s, d)
        | none => none))
    (match stepSt n o.dst s (some (.undef, s.heap, s.next)) with
      | some s => some (s, d)
      | none => none)) none
def opsD (rec : Task → Option Res) (n : Nat) (ops : Array Oper) (pre : Array Nat) : List Oper → Nat → St → Dr → Option St
  | [], _, s, _ => some s
  | o :: os, j, s, d => match opD P rec n ops pre j o s d with
    | some (s', d') => opsD rec n ops pre os (j + 1) s' d'
    | none => none

def step (rec : Task → Option Res) : Task → Option Res
  | .code n round c s => match c with
    | .skip | .label _ => some (.code .normal s)
    | .region _ ops false => match ops1 P rec n round ops ops.toList s with
      | some s => some (.code .normal s)
      | none => none
    | .region _ ops true => match opsD P rec n ops (Region.before ops) ops.toList 0 s ⟨[], [], []⟩ with
      | some s => some (.code .normal s)
      | none => none
    | .seq a b => match rec (.code n round a s) with
      | some (.code .normal s) => rec (.code n round b s)
      | r => r
    | .cond c a b => match evalO s.tmps c with
      | some (.bool t) => rec (.code n round (cond t a b) s)
      | _ => none
    | .block id c => match rec (.code n round c s) with
      | some (.code (.exit id') s) => cond (id'.beq id) (some (.code .normal s)) (some (.code (.exit id') s))
      | r => r
    | .scope c => match rec (.code n round c s) with
      | some (.code (.goto _) _) => none
      | r => r
    | .loop c => match rec (.code n round c s) with
      | some (.code .normal s) => rec (.code n round (.loop c) s)
      | r => r
    | .exit id => some (.code (.exit id) s)
    | .goto l => some (.code (.goto l) s)
    | .ret => some (.code .ret s)
    | .rangeFunc f ps assign body =>
      match evalO s.tmps f, (match round with
        | none => some (s.next, (⟨s.tmps, .mark s.next :: s.defers, s.heap.lay s.next (.dfr true), s.next + 1⟩ : St))
        | some l => match s.heap.get l with
          | some (.loop L) => some (L.defers, s)
          | _ => none) with
      | some (.fn g first cap), some (D, s) =>
        match rec (.call g (first ++ [.yield s.next] ++ cap) (s.heap.lay s.next (.loop ⟨.ready, none, n, s.tmps, ps.toList, assign, body, D⟩)) (s.next + 1)) with
        | some (.call _ H nx) => match H.get s.next with
          | some (.loop L) => match L.state with
            | .busy => none
            | _ => match L.pending with
              | none => some (.code .normal ⟨s.tmps, s.defers, H.put s.next (.loop { L with state := .exhausted }), nx⟩)
              | some c => rec (.code n round c ⟨s.tmps, s.defers, H.put s.next (.loop { L with state := .exhausted }), nx⟩)
          | _ => none
        | _ => none
      | _, _ => none
    | _ => none
  | .call f args H next => match P.funcs[f]? with
    | some fn => match fn.body with
      | some c => match rec (.code (max fn.ntmps args.length) none c ⟨ofArgs args 0 .nil, [], H, next⟩) with
        | some (.code .normal s) | some (.code .ret s) => match leaveA rec s.defers s.heap s.next with
          | some (H, nx) => match resultsA P H s.tmps fn.results.toList with
            | some v => some (.call v H nx)
            | none => none
          | none => none
        | _ => none
      | none => none
    | none => none
  | .dcall f args H next => match P.funcs[f]? with
    | some fn => match fn.body with
      | some c => match rec (.code (max fn.ntmps args.length) none c ⟨ofArgs args 0 .nil, [], H, next⟩) with
        | some (.code .normal s) | some (.code .ret s) => match s.defers with
          | [] => match resultsA P s.heap s.tmps fn.results.toList with
            | some v => some (.call v s.heap s.next)
            | none => none
          | _ => none
        | _ => none
      | none => none
    | none => none

def run : Nat → Task → Option Res
  | 0, _ => none
  | f + 1, t => step P (run f) t

def isTrue (f : FuncId) (fuel : Nat) : Bool := match run P fuel (.call f [] ⟨.nil, [], 0⟩ 0) with
  | some (.call (.bool true) _ _) => true
  | _ => false
end ops
end Abs
end Go.Proofs.YtekmmeikkafpmaaGreat
