/- The evaluator: closed calls; what the program is. -/
import Derived.Test.YtekmmeikkafpmaaGreatA5
set_option linter.unusedSimpArgs false
set_option linter.unusedVariables false
namespace Go.Proofs.YtekmmeikkafpmaaGreat
namespace Abs
open Go.RowKit
variable {P : Program}

theorem rel_nil (W : World) : Rel (fun _ => none) (⟨.nil, [], 0⟩ : Hp) W := ⟨fun n ob h => by simp [Hp.get, hid, Tr.get] at h, fun i j oi oj ki kj h => by simp [Hp.get, hid, Tr.get] at h⟩
theorem wf_nil : Wf (⟨.nil, [], 0⟩ : Hp) 0 := ⟨fun _ _ => rfl, fun p hp => (by cases hp), fun n ob h => by simp [Tr.get] at h⟩
theorem closed (hp : progOk P = true) {f : FuncId} {fuel : Nat} (h : isTrue P f fuel = true) (W : World) :
    Calls P f #[] W (fun e W' => e = .returned (.bool true) ∧ Below W.heap.size W W') := by
  unfold isTrue at h
  split at h
  · rename_i H' nx' hr
    have := sound hp fuel _ _ hr
    obtain ⟨_, _, h3⟩ := this wf_nil
    refine (h3 (fun _ => none) W #[] (by simp [VRs]) (rel_nil W) (fun _ _ _ => rfl) : Calls P f #[] W _).mono fun e W' he => ?_
    obtain ⟨v, m', he, hP, hv⟩ := he
    subst he
    exact ⟨by simp only [VR] at hv; rw [hv], hP.os, hP.tape, hP.output, hP.size, fun b hb => hP.frame b hb (fun ⟨i, oi, ki, _, hg, _⟩ => by simp [Hp.get, hid, Tr.get] at hg)⟩
  · cases h
end Abs
end Go.Proofs.YtekmmeikkafpmaaGreat

namespace Go.Proofs.YtekmmeikkafpmaaGreat
namespace Abs
section fast
variable {α : Type}
noncomputable def Tr.getF (t : Tr α) : Nat → Option α := Tr.rec (fun _ => none) (fun v _ _ a b k => cond (Nat.beq k 0) v (cond (Nat.beq (Nat.mod k 2) 1) (a (Nat.div k 2)) (b (Nat.sub (Nat.div k 2) 1)))) t
theorem Tr.getF_eq (t : Tr α) : t.getF = t.get := by
  induction t with
  | nil => rfl
  | node v l r ihl ihr =>
    funext k
    show cond (Nat.beq k 0) v (cond (Nat.beq (Nat.mod k 2) 1) (l.getF (Nat.div k 2)) (r.getF (Nat.sub (Nat.div k 2) 1))) = _
    rw [ihl, ihr]; rfl
def sonsF (a : Option α) (ih : Tr α → Nat → Tr α) (k : Nat) : Tr α → Tr α
  | .nil => cond (Nat.beq k 0) (.node a .nil .nil) (cond (Nat.beq (Nat.mod k 2) 1) (.node none (ih .nil (Nat.div k 2)) .nil) (.node none .nil (ih .nil (Nat.sub (Nat.div k 2) 1))))
  | .node v l r => cond (Nat.beq k 0) (.node a l r) (cond (Nat.beq (Nat.mod k 2) 1) (.node v (ih l (Nat.div k 2)) r) (.node v l (ih r (Nat.sub (Nat.div k 2) 1))))
noncomputable def Tr.setG (a : Option α) (f : Nat) : Tr α → Nat → Tr α := Nat.rec (fun t _ => t) (fun _ ih t k => sonsF a ih k t) f
theorem Tr.setG_eq (a : Option α) (f : Nat) : Tr.setG a f = Tr.setF a f := by
  induction f with
  | zero => funext t k; cases t <;> rfl
  | succ f ih =>
    funext t k
    show sonsF a (Tr.setG a f) k t = _
    rw [ih]; cases t <;> rfl
end fast

def wrapI (k : IntKind) : Int → Int
  | .ofNat m => cond (Nat.ble m 9223372036854775807) (.ofNat m) (k.wrap (.ofNat m))
  | .negSucc m => cond (Nat.ble m 9223372036854775807) (.negSucc m) (k.wrap (.negSucc m))
def wrapF : IntKind → Int → Int
  | .i64 => wrapI .i64
  | k => k.wrap
theorem wrapF_eq (k : IntKind) (n : Int) : wrapF k n = k.wrap n := by
  cases k <;> try rfl
  cases n with
  | ofNat m =>
    simp only [wrapF, wrapI, Bool.cond_eq_ite, Nat.ble_eq]
    split
    · rw [IntKind.wrap_i64, Int.ofNat_eq_natCast]; omega
    · rfl
  | negSucc m =>
    simp only [wrapF, wrapI, Bool.cond_eq_ite, Nat.ble_eq]
    split
    · rw [IntKind.wrap_i64, Int.negSucc_eq]; omega
    · rfl
def eqI : Int → Int → Bool
  | .ofNat a, .ofNat b => Nat.beq a b
  | .negSucc a, .negSucc b => Nat.beq a b
  | _, _ => false
theorem eqI_eq (a b : Int) : eqI a b = (a == b) := by
  cases a <;> cases b <;> simp [eqI, Int.negSucc_eq] <;> first | omega | skip
  all_goals (rw [Bool.eq_iff_iff]; simp; try omega)
def ltI : Int → Int → Bool
  | .ofNat a, .ofNat b => Nat.blt a b
  | .negSucc a, .negSucc b => Nat.blt b a
  | .negSucc _, .ofNat _ => true
  | .ofNat _, .negSucc _ => false
theorem ltI_eq (a b : Int) : ltI a b = decide (a < b) := by
  cases a <;> cases b <;> (rw [Bool.eq_iff_iff]; simp [ltI, Int.negSucc_eq]; try omega)
def addI : Int → Int → Int
  | .ofNat a, .ofNat b => .ofNat (Nat.add a b)
  | a, b => a + b
theorem addI_eq (a b : Int) : addI a b = a + b := by cases a <;> cases b <;> rfl
def arithF : BinOp → IntKind → Int → Int → Option AV
  | .add => fun k x y => some (.int k (wrapF k (addI x y)))
  | .sub => fun k x y => some (.int k (wrapF k (x - y)))
  | .mul => fun k x y => some (.int k (wrapF k (x * y)))
  | .quo => fun k x y => cond (eqI y 0) none (some (.int k (wrapF k (x.tdiv y))))
  | .rem => fun k x y => cond (eqI y 0) none (some (.int k (x.tmod y)))
  | .eql => fun _ x y => some (.bool (eqI x y))
  | .neq => fun _ x y => some (.bool (!eqI x y))
  | .lss => fun _ x y => some (.bool (ltI x y))
  | .leq => fun _ x y => some (.bool (!ltI y x))
  | .gtr => fun _ x y => some (.bool (ltI y x))
  | .geq => fun _ x y => some (.bool (!ltI x y))
  | op => fun k x y => arith op k x y
theorem arithF_eq (op : BinOp) (k : IntKind) (x y : Int) : arithF op k x y = arith op k x y := by
  cases op <;> simp [arithF, arith, wrapF_eq, addI_eq, eqI_eq, ltI_eq, Bool.cond_eq_ite, bne]
  all_goals (try (rw [Bool.eq_iff_iff]; simp; try omega))
end Abs
end Go.Proofs.YtekmmeikkafpmaaGreat

namespace Go.Proofs.YtekmmeikkafpmaaGreat
namespace Abs
noncomputable def evalF : Operand → Tr AV → Option AV
  | .tmp t => fun T => T.getF t
  | .const v => fun _ => ofV 5000 v
  | .global _ => fun _ => none
  | .func f => fun _ => some (.fn f [] [])
theorem evalF_eq (x : Operand) (T : Tr AV) : evalF x T = evalO T x := by cases x <;> simp [evalF, evalO, Tr.getF_eq]
noncomputable def evalLF : List Operand → Tr AV → Option (List AV)
  | [] => fun _ => some []
  | x :: xs => fun T => match evalF x T, evalLF xs T with
    | some a, some l => some (a :: l)
    | _, _ => none
theorem evalLF_eq (xs : List Operand) (T : Tr AV) : evalLF xs T = evalL T xs := by
  induction xs with
  | nil => rfl
  | cons x xs ih => simp only [evalLF, evalL, evalF_eq, ih]; rfl
noncomputable def evalPF : List (Nat × Operand) → Tr AV → Option (List (Nat × AV))
  | [] => fun _ => some []
  | (i, x) :: xs => fun T => match evalF x T, evalPF xs T with
    | some a, some l => some ((i, a) :: l)
    | _, _ => none
theorem evalPF_eq (xs : List (Nat × Operand)) (T : Tr AV) : evalPF xs T = evalP T xs := by
  induction xs with
  | nil => rfl
  | cons x xs ih => simp only [evalPF, evalP, evalF_eq, ih]; rfl
noncomputable def optF : Option Operand → Tr AV → Option (Option AV)
  | none => fun _ => some none
  | some x => fun T => match evalF x T with
    | some a => some (some a)
    | none => none
theorem optF_eq (x : Option Operand) (T : Tr AV) : optF x T = optO T x := by cases x <;> simp only [optF, optO, evalF_eq] <;> rfl
def kn : IntKind → Nat
  | .i8 => 0 | .i16 => 1 | .i32 => 2 | .i64 => 3 | .u8 => 4 | .u16 => 5 | .u32 => 6 | .u64 => 7
def kindEq (a b : IntKind) : Bool := Nat.beq (kn a) (kn b)
theorem kindEq_eq (a b : IntKind) : kindEq a b = decide (a = b) := by cases a <;> cases b <;> rfl
def intF : BinOp → IntKind → Int → IntKind → Int → Option AV
  | .shl => fun k a _ b => if b < 0 then none else some (.int k (k.wrap (a * 2 ^ (min b.toNat k.bits))))
  | .shr => fun k a _ b => if b < 0 then none else some (.int k (a.fdiv (2 ^ (min b.toNat k.bits))))
  | op => fun k a k' b => cond (kindEq k k') (arithF op k a b) none
def binF (op : BinOp) : AV → AV → Program → TypeId → Option AV
  | .int k a => fun y P t => match y with
    | .int k' b => intF op k a k' b
    | y => binV P op t (.int k a) y
  | x => fun y P t => binV P op t x y
theorem binF_eq (op : BinOp) (x y : AV) (P : Program) (t : TypeId) : binF op x y P t = binV P op t x y := by
  cases x with
  | int k a =>
    cases y with
    | int k' b =>
      simp only [binF]
      cases op <;> simp [intF, binV, kindEq_eq, arithF_eq, Bool.cond_eq_ite]
    | _ => rfl
  | _ => rfl
def bin2 (op : BinOp) (P : Program) (t : TypeId) : Option AV → Option AV → Option AV
  | some x => fun y => match y with
    | some y => binF op x y P t
    | none => none
  | none => fun _ => none
def pickF (T : Tr AV) (a b : Operand) : Option AV → Option AV
  | some (.bool c) => cond c (evalO T a) (evalO T b)
  | _ => none
def buildF (P : Program) (t : TypeId) : Option AV → Option (List (Nat × AV)) → Option AV
  | some z, some ps => buildA P t z.cells ps
  | _, _ => none
def nilF : Option AV → Option AV
  | some (.ptr n off) => some (.ptr n off)
  | some (.fn f a b) => some (.fn f a b)
  | some (.yield l) => some (.yield l)
  | _ => none
def unF (op : UnOp) : Option AV → Option AV
  | some x => unV op x
  | none => none
def convF (u w : Option TypeDesc) (x : Option AV) : Option AV := match u, w, x with
    | some (.int _), some (.int k), some (.int _ n) => some (.int k (k.wrap n))
    | some .string, some .string, some (.str s) => some (.str s)
    | _, _, _ => none
def funcF (P : Program) (T : Tr AV) (f : Fn) (first captured : Array Operand) : Option AV := pureA P T (.makeFunc f first captured)
def sliceF (P : Program) (u : Option TypeDesc) (x : Option AV) (lo hi : Option (Option AV)) : Option AV := match u, x, lo, hi with
    | some (.slice e), some .nils, some lo, some hi => match bounds 0 0 lo hi, sz P e with
      | some _, some _ => some .nils
      | _, _ => none
    | some (.slice e), some (.slice n off len cap esz ex), some lo, some hi => match bounds len cap lo hi, sz P e with
      | some (l, h), some size => cond (size.beq esz) (some (.slice n (off + l * esz) (h - l) (cap - l) esz ex)) none
      | _, _ => none
    | some (.array len e), some (.ptr n off), some lo, some hi => match bounds len len lo hi, sz P e with
      | some (l, h), some size => some (.slice n (off + l * size) (h - l) (len - l) size true)
      | _, _ => none
    | some .string, some (.str s), some lo, some hi => match bounds s.size s.size lo hi with
      | some (l, h) => some (.str (s.extract l h))
      | none => none
    | _, _, _, _ => none
def fieldAddrF (P : Program) (f : Nat) (u : Option TypeDesc) (x : Option AV) : Option AV := match u, x with
    | some (.struct fs), some (.ptr n off) => match fs[f]? with
      | some f => match sz P f.type with
        | some (_ + 1) => some (.ptr n (off + f.offset))
        | _ => none
      | none => none
    | _, _ => none
def fieldF (P : Program) (f : Nat) (u : Option TypeDesc) (x : Option AV) : Option AV := match u, x with
    | some (.struct fs), some (.agg cs) => match fs[f]? with
      | some f => partT P f.type cs f.offset
      | none => none
    | _, _ => none
def indexAddrF (P : Program) (u : Option TypeDesc) (x ix : Option AV) : Option AV := match u, x, ix with
    | some (.array len e), some (.ptr n off), some ix => match natOf ix, sz P e with
      | some i, some s => cond (i.blt len) (some (.ptr n (off + i * s))) none
      | _, _ => none
    | some (.slice e), some (.slice n off len _ _ _), some ix => match natOf ix, sz P e with
      | some i, some s => cond (i.blt len) (some (.ptr n (off + i * s))) none
      | _, _ => none
    | _, _, _ => none
def indexF (P : Program) (u : Option TypeDesc) (x ix : Option AV) : Option AV := match u, x, ix with
    | some (.array len e), some (.agg cs), some ix => match natOf ix, sz P e with
      | some i, some s => cond (i.blt len) (partT P e cs (i * s)) none
      | _, _ => none
    | some .string, some (.str s), some ix => match natOf ix with
      | some i => (s[i]?).map fun b => .int .u8 b.toNat
      | none => none
    | _, _, _ => none
def extractF (i : Nat) : Option AV → Option AV
  | some (.tuple vs) => vs[i]?
  | _ => none
noncomputable def pureF : Op → Program → Tr AV → Option AV
  | .move x => fun _ T => evalF x T
  | .assign x => fun _ T => evalF x T
  | .pick c a b => fun _ T => pickF T a b (evalF c T)
  | .build t parts => fun P T => buildF P t (zero P t) (evalPF parts.toList T)
  | .nilCheck x => fun _ T => nilF (evalF x T)
  | .binOp op t x y _ => fun P T => bin2 op P t (evalF x T) (evalF y T)
  | .unOp op _ x => fun _ T => unF op (evalF x T)
  | .convert src dst x => fun P T => convF (P.underlying src) (P.underlying dst) (evalF x T)
  | .makeFunc f a b => fun P T => funcF P T f a b
  | .slice t x lo hi none => fun P T => sliceF P (P.underlying t) (evalF x T) (optF lo T) (optF hi T)
  | .slice _ _ _ _ (some _) => fun _ _ => none
  | .fieldAddr s x f => fun P T => fieldAddrF P f (P.underlying s) (evalF x T)
  | .field s x f => fun P T => fieldF P f (P.underlying s) (evalF x T)
  | .indexAddr t x ix => fun P T => indexAddrF P (P.underlying t) (evalF x T) (evalF ix T)
  | .index t x ix => fun P T => indexF P (P.underlying t) (evalF x T) (evalF ix T)
  | .extract x i => fun _ T => extractF i (evalF x T)
  | op => fun P T => pureA P T op
theorem pureF_eq (op : Op) (P : Program) (T : Tr AV) : pureF op P T = pureA P T op := by
  cases op <;> try rfl
  case move x => exact evalF_eq x T
  case assign x => exact evalF_eq x T
  case pick c a b => simp only [pureF, pureA, evalF_eq]; cases evalO T c <;> rfl
  case build t ps => simp only [pureF, pureA, evalPF_eq]; rfl
  case nilCheck x => simp only [pureF, pureA, evalF_eq]; rfl
  case binOp op t x y u =>
    simp only [pureF, pureA, evalF_eq]
    cases evalO T x <;> cases evalO T y <;> simp [bin2, binF_eq]
  case unOp op t x => simp only [pureF, pureA, evalF_eq]; rfl
  case convert a b x => simp only [pureF, pureA, evalF_eq]; rfl
  case slice t x lo hi m => cases m <;> simp only [pureF, pureA, evalF_eq, optF_eq] <;> rfl
  case fieldAddr t x f => simp only [pureF, pureA, evalF_eq]; rfl
  case field t x f => simp only [pureF, pureA, evalF_eq]; rfl
  case indexAddr t x f => simp only [pureF, pureA, evalF_eq]; rfl
  case index t x f => simp only [pureF, pureA, evalF_eq]; rfl
  case extract x f => simp only [pureF, pureA, evalF_eq]; rfl
end Abs
end Go.Proofs.YtekmmeikkafpmaaGreat

namespace Go.Proofs.YtekmmeikkafpmaaGreat
namespace Abs
noncomputable def Tr.put {α : Type} (t : Tr α) (k : Nat) (a : α) : Tr α := Tr.setG (some a) (Nat.succ k) t k
theorem Tr.put_eq {α : Type} (t : Tr α) (k : Nat) (a : α) : t.put k a = t.set k a := by simp only [Tr.put, Tr.set, Tr.setG_eq]
noncomputable def Hp.getF (H : Hp) (n : Nat) : Option AObj := cond (hid H.bad n) none (H.t.getF n)
theorem Hp.getF_eq (H : Hp) (n : Nat) : H.getF n = H.get n := by simp only [Hp.getF, Hp.get, Tr.getF_eq]
noncomputable def Hp.layF (H : Hp) (n : Nat) (o : AObj) : Hp := ⟨H.t.put n o, H.bad, H.wr⟩
theorem Hp.layF_eq (H : Hp) (n : Nat) (o : AObj) : H.layF n o = H.lay n o := by simp only [Hp.layF, Hp.lay, Tr.put_eq]
noncomputable def Hp.putF (H : Hp) (n : Nat) (o : AObj) : Hp := ⟨H.t.put n o, H.bad, lower n H.wr⟩
theorem Hp.putF_eq (H : Hp) (n : Nat) (o : AObj) : H.putF n o = H.put n o := by simp only [Hp.putF, Hp.put, Tr.put_eq]
def cellsOf : Option AObj → Option (List AV)
  | some (.cells _ cs) => some cs
  | some (.lent _ cs) => some cs
  | _ => none
def cellsOfW : Option AObj → Option (List AV)
  | some (.cells true cs) => some cs
  | _ => none

abbrev Out := Option (AV × Hp × Nat)
noncomputable def allocF (H : Hp) (nx : Nat) : Option AV → Out
  | some z => some (.ptr nx 0, H.layF nx (.cells true z.cells), Nat.succ nx)
  | none => none
def partOf (P : Program) (t : TypeId) (off : Nat) : Option (List AV) → Option AV
  | some cs => partT P t cs off
  | none => none
def outV (H : Hp) (nx : Nat) : Option AV → Out
  | some v => some (v, H, nx)
  | none => none
noncomputable def loadF (P : Program) (t : TypeId) (H : Hp) (nx : Nat) : Option AV → Out
  | some (.ptr n off) => outV H nx (partOf P t off (cellsOf (H.getF n)))
  | _ => none
noncomputable def storeAt (H : Hp) (nx n : Nat) (off size : Nat) (vc : List AV) : Option (List AV) → Out
  | some cs => match setAt cs off vc with
    | some cs => cond (vc.length.beq size) (cond (vc.all AV.oneCell) (cond (size.beq 0) none (some (.undef, H.putF n (.cells true cs), nx))) none) none
    | none => none
  | none => none
noncomputable def storeF (H : Hp) (nx : Nat) (x v : Option AV) (s : Option Nat) : Out := match x, v, s with
  | some (.ptr n off), some v, some size => storeAt H nx n off size v.cells (cellsOfW (H.getF n))
  | _, _, _ => none
noncomputable def calledF : Option Res → Out
  | some (.call v H nx) => some (v, H, nx)
  | _ => none
noncomputable def fnF (rec : Task → Option Res) (H : Hp) (nx : Nat) : AV → List AV → Out
  | .fn f first cap => fun args => calledF (rec (.call f (first ++ args ++ cap) H nx))
  | .yield l => fun args => yieldA rec l args H nx
  | _ => fun _ => none
noncomputable def callF (rec : Task → Option Res) (H : Hp) (nx : Nat) (f : Option AV) (args : Option (List AV)) : Out := match f, args with
  | some f, some vs => fnF rec H nx f vs
  | _, _ => none
def lenF (P : Program) (H : Hp) (nx : Nat) (vs : Option (List AV)) (t : Option TypeId) : Out := match vs, t with
  | some [x], some t => match lenV P H t x with
      | some n => some (.int .i64 n, H, nx)
      | none => none
  | _, _ => none
def appF (P : Program) (H : Hp) (nx : Nat) (vs : Option (List AV)) (t xt : Option TypeId) : Out := match vs, t, xt with
  | some [s, x], some t, some xt => appendA P t xt s x H nx
  | _, _, _ => none
noncomputable def heapC (c : Call) : Program → (Task → Option Res) → Tr AV → Hp → Nat → Out := match c with
  | { callee := .value f, args, .. } => fun _ rec T H nx => callF rec H nx (evalF f T) (evalLF args.toList T)
  | { callee := .builtin .len, args, argTypes } => fun P _ T H nx => lenF P H nx (evalLF args.toList T) argTypes[0]?
  | { callee := .builtin .append, args, argTypes } => fun P _ T H nx => appF P H nx (evalLF args.toList T) argTypes[0]? argTypes[1]?
  | c => fun P rec T H nx => heapA P rec T H nx (.call c)
noncomputable def heapF : Op → Program → (Task → Option Res) → Tr AV → Hp → Nat → Out
  | .alloc t => fun P _ _ H nx => allocF H nx (zero P t)
  | .box _ x => fun _ _ T H nx => allocF H nx (evalF x T)
  | .load t x => fun P _ T H nx => loadF P t H nx (evalF x T)
  | .store t a v => fun P _ T H nx => storeF H nx (evalF a T) (evalF v T) (sz P t)
  | .call c => heapC c
  | op => fun P rec T H nx => heapA P rec T H nx op
theorem allocF_eq (H : Hp) (nx : Nat) (z : Option AV) : allocF H nx z = match z with
  | some z => some (.ptr nx 0, H.lay nx (.cells true z.cells), nx + 1)
  | none => none := by cases z <;> simp only [allocF, Hp.layF_eq] <;> rfl
theorem heapF_eq (op : Op) (P : Program) (rec : Task → Option Res) (T : Tr AV) (H : Hp) (nx : Nat) : heapF op P rec T H nx = heapA P rec T H nx op := by
  cases op <;> try rfl
  case alloc t => simp only [heapF, heapA, allocF_eq]; rfl
  case box t x => simp only [heapF, heapA, allocF_eq, evalF_eq]; rfl
  case load t x =>
    simp only [heapF, heapA, evalF_eq]
    cases evalO T x with
    | none => rfl
    | some a => cases a <;> try rfl
                rename_i n off
                simp only [loadF, loadT, cellsAt, Hp.getF_eq]
                cases H.get n with
                | none => rfl
                | some ob => cases ob <;> rfl
  case store t x v =>
    simp only [heapF, heapA, evalF_eq]
    cases evalO T x with
    | none => rfl
    | some a => cases a <;> try rfl
                rename_i n off
                cases evalO T v with
                | none => rfl
                | some v => cases sz P t with
                  | none => rfl
                  | some size =>
                    simp only [storeF, cellsW, Hp.getF_eq, Hp.putF_eq, storeAt]
                    cases H.get n with
                    | none => rfl
                    | some ob =>
                      cases ob <;> rfl
  case call c =>
    obtain ⟨callee, args, ts⟩ := c
    cases callee with
    | value f =>
      simp only [heapF, heapC, heapA, evalF_eq, evalLF_eq]
      cases evalO T f with
      | none => rfl
      | some g => cases evalL T args.toList with
        | none => rfl
        | some vs =>
          simp only [callF]
          cases g <;> rfl
    | invoke a b => rfl
    | builtin b => cases b <;> simp only [heapF, heapC, heapA, evalLF_eq] <;> rfl

noncomputable def yieldedF (ops : Array Oper) (T : Tr AV) (j : Nat) : Option Bool := match ((ops[j]?).bind (·.dst)).bind T.getF with
  | some (.bool b) => some b
  | _ => none
noncomputable def guardF (ops : Array Oper) (T : Tr AV) : Option (Nat × Bool) → Bool
  | none => true
  | some (j, want) => match yieldedF ops T j with
    | some b => cond b want !want
    | none => false
noncomputable def askedF (ops : Array Oper) (T : Tr AV) : Option (Nat × Bool) → Bool
  | none => true
  | some (j, _) => match (ops[j]?).bind (·.dst) with
    | none => true
    | some t => (T.getF t).isSome
theorem askedF_eq (ops : Array Oper) (T : Tr AV) (o : Oper) : askedF ops T o.guard = askedA ops T o := by
  unfold askedA askedF
  rw [Tr.getF_eq]
  rfl
theorem guardF_eq (ops : Array Oper) (T : Tr AV) (o : Oper) : guardF ops T o.guard = wantedA ops T o := by
  unfold wantedA guardF yieldedF yieldedA
  rw [Tr.getF_eq]
  rfl
noncomputable def putF (n : Nat) (v : AV) (T : Tr AV) : Option Tmp → Option (Tr AV)
  | none => some T
  | some d => cond (Nat.blt d n) (some (T.put d v)) none
theorem putF_eq (n : Nat) (v : AV) (T : Tr AV) (d : Option Tmp) : putF n v T d = putA n d v T := by cases d <;> simp only [putF, putA, Tr.put_eq]
def stOf (ds : List ADef) (H : Hp) (nx : Nat) : Option (Tr AV) → Option St
  | some T => some ⟨T, ds, H, nx⟩
  | none => none
noncomputable def outF (n : Nat) (dst : Option Tmp) (T : Tr AV) (ds : List ADef) : Out → Option St
  | some (v, H, nx) => stOf ds H nx (putF n v T dst)
  | none => none
theorem outF_eq (n : Nat) (dst : Option Tmp) (s : St) (r : Out) : outF n dst s.tmps s.defers r = stepSt n dst s r := by
  cases r with
  | none => rfl
  | some p => simp only [outF, stepSt, putF_eq]; cases putA n dst p.1 s.tmps <;> rfl
noncomputable def pureSt (n : Nat) (dst : Option Tmp) (T : Tr AV) (ds : List ADef) (H : Hp) (nx : Nat) : Option AV → Option St
  | some v => stOf ds H nx (putF n v T dst)
  | none => none
theorem pureSt_eq (n : Nat) (dst : Option Tmp) (s : St) (r : Option AV) : pureSt n dst s.tmps s.defers s.heap s.next r = stepSt n dst s (r.map fun v => (v, s.heap, s.next)) := by
  cases r with
  | none => rfl
  | some v => simp only [pureSt, stepSt, Option.map_some, putF_eq]; cases putA n dst v s.tmps <;> rfl
noncomputable def op1F (P : Program) (rec : Task → Option Res) (n : Nat) (round : Option Nat) (ops : Array Oper) (o : Oper) : St → Option St
  | ⟨T, ds, H, nx⟩ => cond (askedF ops T o.guard) (cond (guardF ops T o.guard)
    (cond (touch o.op)
      (cond (isDefer o.op) (op1 P rec n round ops o ⟨T, ds, H, nx⟩) (outF n o.dst T ds (heapF o.op P rec T H nx)))
      (pureSt n o.dst T ds H nx (pureF o.op P T)))
    (stOf ds H nx (putF n .undef T o.dst))) none
theorem op1F_eq (P : Program) (rec : Task → Option Res) (n : Nat) (round : Option Nat) (ops : Array Oper) (o : Oper) (s : St) : op1F P rec n round ops o s = op1 P rec n round ops o s := by
  obtain ⟨T, ds, H, nx⟩ := s
  unfold op1F
  simp only [guardF_eq, askedF_eq]
  cases ha : askedA ops T o with
  | false => simp only [op1, ha, cond_false]
  | true =>
  cases hw : wantedA ops T o with
  | false =>
    have := outF_eq n o.dst ⟨T, ds, H, nx⟩ (some (.undef, H, nx))
    simp only [op1, ha, hw, cond_true, cond_false]
    exact this
  | true =>
    cases ht : touch o.op with
    | false =>
      have := pureSt_eq n o.dst ⟨T, ds, H, nx⟩ (pureA P T o.op)
      simp only [op1, ha, hw, ht, cond_true, cond_false, pureF_eq]
      exact this
    | true =>
      cases hd : isDefer o.op with
      | true => simp only [op1, ha, hw, ht, hd, cond_true, cond_false]
      | false =>
        have := outF_eq n o.dst ⟨T, ds, H, nx⟩ (heapA P rec T H nx o.op)
        simp only [op1, ha, hw, ht, hd, cond_true, cond_false, heapF_eq]
        exact this
def afterF (k : St → Option St) : Option St → Option St
  | some s => k s
  | none => none
noncomputable def ops1F (P : Program) (rec : Task → Option Res) (n : Nat) (round : Option Nat) (ops : Array Oper) : List Oper → St → Option St
  | [] => fun s => some s
  | o :: os => fun s => afterF (ops1F P rec n round ops os) (op1F P rec n round ops o s)
theorem ops1F_eq (P : Program) (rec : Task → Option Res) (n : Nat) (round : Option Nat) (ops : Array Oper) : ∀ (os : List Oper) (s : St), ops1F P rec n round ops os s = ops1 P rec n round ops os s := by
  intro os
  induction os with
  | nil => intro s; rfl
  | cons o os ih =>
    intro s
    simp only [ops1F, ops1, op1F_eq]
    cases op1 P rec n round ops o s with
    | none => rfl
    | some s' => exact ih s'
end Abs
end Go.Proofs.YtekmmeikkafpmaaGreat

namespace Go.Proofs.YtekmmeikkafpmaaGreat
namespace Abs
def isStore : Op → Bool
  | .store .. => true
  | _ => false
def addrOf : Op → Operand
  | .load _ x => x
  | .store _ x _ => x
  | _ => .global 0
noncomputable def nameF : Option AV → Nat
  | some (.ptr n _) => n
  | _ => 0
abbrev OutD := Option (St × Dr)
def segF (d : Dr) (j nx nx' : Nat) : Dr := cond (Nat.ble nx' nx) d ⟨(j, nx, nx') :: d.ss, d.rs, d.ws⟩
def endLa (pre j nm : Nat) (ds : List ADef) (H : Hp) (nx : Nat) (d : Dr) (T : Tr AV) : OutD :=
  cond (clear pre nm d.ws) (some (⟨T, ds, H, nx⟩, ⟨d.ss, (j, nm) :: d.rs, d.ws⟩)) none
def endS (pre j nm : Nat) (bar : Bool) (ds : List ADef) (H H' : Hp) (nx : Nat) (d : Dr) (T : Tr AV) : OutD :=
  cond (clear pre nm d.rs) (cond bar (some (⟨T, ds, ⟨H'.t, H.bad, lower H'.wr H.wr⟩, nx⟩, ⟨d.ss, d.rs, (j, nm) :: d.ws⟩)) none) none
def segS (d : Dr) (j nx nx' nm : Nat) : Dr := ⟨cond (Nat.ble nx' nx) d.ss ((j, nx, nx') :: d.ss), d.rs, (j, nm) :: d.ws⟩
def endOa (pre j : Nat) (bar barF : Bool) (nmO : Option Nat) (ds : List ADef) (H H' : Hp) (nx nx' : Nat) (d : Dr) (T : Tr AV) : OutD :=
  cond (Nat.ble nx H'.wr) (some (⟨T, ds, ⟨H'.t, H.bad, lower H'.wr H.wr⟩, nx'⟩, segF d j nx nx')) (cond bar (some (⟨T, ds, ⟨H'.t, H.bad, lower H'.wr H.wr⟩, nx'⟩, segF d j nx nx'))
    (match nmO with
      | some nm => cond (may (lends (unseen pre d.ss H.bad)) pre nx H'.t d.rs) (cond (clear pre nm d.rs) (cond barF (some (⟨T, ds, ⟨H'.t, H.bad, lower H'.wr H.wr⟩, nx'⟩, segS d j nx nx' nm)) none) none) none
      | none => none))
def withT (k : Tr AV → OutD) : Option (Tr AV) → OutD
  | some T => k T
  | none => none
noncomputable def heapD (n : Nat) (ops : Array Oper) (pre : Array Nat) (j : Nat) (o : Oper) (T : Tr AV) (ds : List ADef) (H : Hp) (nx : Nat) (d : Dr) : Out → OutD
  | some (v, H', nx') => cond (isLoad o.op) (withT (endLa (pre.getD j 0) j (nameF (evalF (addrOf o.op) T)) ds H nx d) (putF n v T o.dst))
      (cond (isStore o.op) (withT (endS (pre.getD j 0) j (nameF (evalF (addrOf o.op) T)) (barAt ops pre false j ops.size) ds H H' nx d) (putF n v T o.dst))
        (withT (endOa (pre.getD j 0) j (barAt ops pre true j ops.size) (barAt ops pre false j ops.size) (appN T o.op) ds H H' nx nx' d) (putF n v T o.dst)))
  | none => none
def stD (d : Dr) : Option St → OutD
  | some s => some (s, d)
  | none => none
noncomputable def opDF (P : Program) (rec : Task → Option Res) (n : Nat) (ops : Array Oper) (pre : Array Nat) (j : Nat) (o : Oper) (d : Dr) : St → OutD
  | ⟨T, ds, H, nx⟩ => cond (askedF ops T o.guard) (cond (guardF ops T o.guard)
    (cond (touch o.op)
      (heapD n ops pre j o T ds H nx d (heapF o.op P rec T ⟨H.t, unseen (pre.getD j 0) d.ss H.bad, nx⟩ nx))
      (stD d (pureSt n o.dst T ds H nx (pureF o.op P T))))
    (stD d (stOf ds H nx (putF n .undef T o.dst)))) none
theorem nameF_eq (x : Operand) (T : Tr AV) : nameF (evalF x T) = nameO T x := by rw [evalF_eq]; rfl
theorem opDF_eq (P : Program) (rec : Task → Option Res) (n : Nat) (ops : Array Oper) (pre : Array Nat) (j : Nat) (o : Oper) (d : Dr) (s : St) : opDF P rec n ops pre j o d s = opD P rec n ops pre j o s d := by
  obtain ⟨T, ds, H, nx⟩ := s
  unfold opDF
  simp only [guardF_eq, askedF_eq]
  cases ha : askedA ops T o with
  | false => simp only [opD, ha, cond_false]
  | true =>
  cases hw : wantedA ops T o with
  | false =>
    have := outF_eq n o.dst ⟨T, ds, H, nx⟩ (some (.undef, H, nx))
    simp only [opD, ha, hw, cond_true, cond_false, stD, ← this, outF]
    rfl
  | true =>
    cases ht : touch o.op with
    | false =>
      have := pureSt_eq n o.dst ⟨T, ds, H, nx⟩ (pureA P T o.op)
      simp only [opD, ha, hw, ht, cond_true, cond_false, pureF_eq, stD, ← this]
      rfl
    | true =>
      simp only [opD, ha, hw, ht, cond_true, heapF_eq]
      cases hr : heapA P rec T ⟨H.t, unseen (pre.getD j 0) d.ss H.bad, nx⟩ nx o.op with
      | none => rfl
      | some p =>
        obtain ⟨v, H', nx'⟩ := p
        simp only [heapD, putF_eq, nameF_eq]
        cases putA n o.dst v T with
        | none => simp only [withT]; cases isLoad o.op <;> cases isStore o.op <;> rfl
        | some T' => cases o.op <;> rfl
def afterD (k : Dr → St → Option St) : OutD → Option St
  | some (s, d) => k d s
  | none => none
noncomputable def opsDF (P : Program) (rec : Task → Option Res) (n : Nat) (ops : Array Oper) (pre : Array Nat) : List Oper → Nat → Dr → St → Option St
  | [] => fun _ _ s => some s
  | o :: os => fun j d s => afterD (opsDF P rec n ops pre os (Nat.succ j)) (opDF P rec n ops pre j o d s)
theorem opsDF_eq (P : Program) (rec : Task → Option Res) (n : Nat) (ops : Array Oper) (pre : Array Nat) : ∀ (os : List Oper) (j : Nat) (d : Dr) (s : St), opsDF P rec n ops pre os j d s = opsD P rec n ops pre os j s d := by
  intro os
  induction os with
  | nil => intro j d s; rfl
  | cons o os ih =>
    intro j d s
    simp only [opsDF, opsD, opDF_eq]
    cases opD P rec n ops pre j o s d with
    | none => rfl
    | some p => exact ih (j + 1) p.2 p.1

def codeR : Option St → Option Res
  | some s => some (.code .normal s)
  | none => none
noncomputable def thenF (k : St → Option Res) : Option Res → Option Res
  | some (.code .normal s) => k s
  | r => r
noncomputable def condF (rec : Task → Option Res) (n : Nat) (round : Option Nat) (a b : Code) (s : St) : Option AV → Option Res
  | some (.bool true) => rec (.code n round a s)
  | some (.bool false) => rec (.code n round b s)
  | _ => none
def blockF (id : Nat) : Option Res → Option Res
  | some (.code (.exit id') s) => cond (Nat.beq id' id) (some (.code .normal s)) (some (.code (.exit id') s))
  | r => r
noncomputable def codeF : Code → Program → (Task → Option Res) → Nat → Option Nat → St → Option Res
  | .region _ ops false => fun P rec n round s => codeR (ops1F P rec n round ops ops.toList s)
  | .region _ ops true => fun P rec n _ s => codeR (opsDF P rec n ops (Region.before ops) ops.toList 0 ⟨[], [], []⟩ s)
  | .seq a b => fun _ rec n round s => thenF (fun s => rec (.code n round b s)) (rec (.code n round a s))
  | .cond c a b => fun _ rec n round s => condF rec n round a b s (evalF c s.tmps)
  | .block id c => fun _ rec n round s => blockF id (rec (.code n round c s))
  | .loop c => fun _ rec n round s => thenF (fun s => rec (.code n round (.loop c) s)) (rec (.code n round c s))
  | .exit id => fun _ _ _ _ s => some (.code (.exit id) s)
  | .ret => fun _ _ _ _ s => some (.code .ret s)
  | .skip => fun _ _ _ _ s => some (.code .normal s)
  | c => fun P rec n round s => step P rec (.code n round c s)
noncomputable def valF (H : Hp) (nx : Nat) : Option AV → Option Res
  | some v => some (.call v H nx)
  | none => none
noncomputable def leftF (P : Program) (rs : List ResultVar) (T : Tr AV) : Option (Hp × Nat) → Option Res
  | some (H, nx) => valF H nx (resultsA P H T rs)
  | none => none
noncomputable def endF (P : Program) (rec : Task → Option Res) (rs : List ResultVar) : St → Option Res
  | ⟨T, [], H, nx⟩ => valF H nx (resultsA P H T rs)
  | ⟨T, ds, H, nx⟩ => leftF P rs T (leaveA rec ds H nx)
noncomputable def retF (P : Program) (rec : Task → Option Res) (rs : List ResultVar) : Option Res → Option Res
  | some (.code .normal s) => endF P rec rs s
  | some (.code .ret s) => endF P rec rs s
  | _ => none
noncomputable def argsF : List AV → Nat → Tr AV → Tr AV
  | [] => fun _ t => t
  | v :: vs => fun i t => argsF vs (Nat.succ i) (t.put i v)
theorem argsF_eq : ∀ (vs : List AV) (i : Nat) (t : Tr AV), argsF vs i t = ofArgs vs i t := by
  intro vs
  induction vs with
  | nil => intro i t; rfl
  | cons v vs ih => intro i t; simp only [argsF, ofArgs, Tr.put_eq, ih]
noncomputable def bodyF (P : Program) (rec : Task → Option Res) (args : List AV) (H : Hp) (nx : Nat) (k : Nat) (rs : List ResultVar) : Option Code → Option Res
  | some c => retF P rec rs (rec (.code (max k args.length) none c ⟨argsF args 0 .nil, [], H, nx⟩))
  | none => none
noncomputable def funcG (P : Program) (rec : Task → Option Res) (args : List AV) (H : Hp) (nx : Nat) : Option Func → Option Res
  | some fn => bodyF P rec args H nx fn.ntmps fn.results.toList fn.body
  | none => none
noncomputable def stepF (P : Program) (rec : Task → Option Res) : Task → Option Res
  | .code n round c s => codeF c P rec n round s
  | .call f args H nx => funcG P rec args H nx P.funcs[f]?
  | .dcall f args H nx => step P rec (.dcall f args H nx)
theorem codeF_eq (P : Program) (rec : Task → Option Res) (n : Nat) (round : Option Nat) (c : Code) (s : St) : codeF c P rec n round s = step P rec (.code n round c s) := by
  cases c <;> try rfl
  case region id ops d =>
    cases d with
    | false => simp only [codeF, step, ops1F_eq]; cases ops1 P rec n round ops ops.toList s <;> rfl
    | true => simp only [codeF, step, opsDF_eq]; cases opsD P rec n ops (Region.before ops) ops.toList 0 s ⟨[], [], []⟩ <;> rfl
  case cond c a b =>
    simp only [codeF, step, evalF_eq]
    cases evalO s.tmps c with
    | none => rfl
    | some v => cases v <;> try rfl
                rename_i b; cases b <;> rfl
theorem endF_eq (P : Program) (rec : Task → Option Res) (rs : List ResultVar) (s : St) : endF P rec rs s = match leaveA rec s.defers s.heap s.next with
    | some (H, nx) => match resultsA P H s.tmps rs with
      | some v => some (.call v H nx)
      | none => none
    | none => none := by
  obtain ⟨T, ds, H, nx⟩ := s
  cases ds with
  | nil => simp only [endF, leaveA]; cases resultsA P H T rs <;> rfl
  | cons d ds =>
    simp only [endF]
    cases leaveA rec (d :: ds) H nx with
    | none => rfl
    | some p => simp only [leftF]; cases resultsA P p.1 T rs <;> rfl
theorem stepF_eq (P : Program) (rec : Task → Option Res) (t : Task) : stepF P rec t = step P rec t := by
  cases t with
  | code n round c s => exact codeF_eq P rec n round c s
  | call f args H nx =>
    simp only [stepF, step]
    cases P.funcs[f]? with
    | none => rfl
    | some fn =>
      simp only [funcG]
      cases fn.body with
      | none => rfl
      | some c =>
        simp only [bodyF, argsF_eq]
        cases rec (.code (max fn.ntmps args.length) none c ⟨ofArgs args 0 .nil, [], H, nx⟩) with
        | none => rfl
        | some r => cases r with
          | code e s => cases e <;> simp only [retF, endF_eq] <;> rfl
          | call _ _ _ => rfl
  | dcall f args H nx => rfl
noncomputable def runF (P : Program) (f : Nat) : Task → Option Res := Nat.rec (fun _ => none) (fun _ ih => stepF P ih) f
theorem runF_eq (P : Program) (f : Nat) : runF P f = run P f := by
  induction f with
  | zero => rfl
  | succ f ih =>
    funext t
    show stepF P (runF P f) t = step P (run P f) t
    rw [ih, stepF_eq]
end Abs
end Go.Proofs.YtekmmeikkafpmaaGreat

namespace Go.Proofs.YtekmmeikkafpmaaGreat
namespace Abs
open Go.RowKit
variable {P : Program}

def headC : Code → Code
  | .seq a _ => a
  | c => c
def tailC : Code → Code
  | .seq _ b => b
  | c => c
def isSeq : Code → Bool
  | .seq _ _ => true
  | _ => false
def bodyOf (P : Program) (f : FuncId) : Code := match P.funcs[f]? with
  | some fn => fn.body.getD .skip
  | none => .skip
def hasBody (P : Program) (f : FuncId) : Bool := match P.funcs[f]? with
  | some fn => fn.body.isSome
  | none => false
def resOf (P : Program) (f : FuncId) : List ResultVar := match P.funcs[f]? with
  | some fn => fn.results.toList
  | none => []
def tmpsCount (P : Program) (f : FuncId) : Nat := match P.funcs[f]? with
  | some fn => fn.ntmps
  | none => 0
noncomputable def keepT (t : Tr AObj) : List Nat → Tr AObj
  | [] => .nil
  | x :: l => match t.getF x with
    | some o => (keepT t l).put x o
    | none => keepT t l
theorem keepT_get {t : Tr AObj} {l : List Nat} {x : Nat} {o : AObj} (h : (keepT t l).get x = some o) : t.get x = some o := by
  induction l with
  | nil => simp [keepT, Tr.get] at h
  | cons y l ih =>
    simp only [keepT, Tr.getF_eq] at h
    cases hy : t.get y with
    | none => rw [hy] at h; exact ih h
    | some o' =>
      simp only [hy, Tr.put_eq, Tr.get_set] at h
      split at h
      · rename_i e; subst e; rw [hy]; exact h
      · exact ih h
noncomputable def forgetR (l : List Nat) : Option Res → Option St
  | some (.code .normal s) => some ⟨s.tmps, s.defers, ⟨keepT s.heap.t l, s.heap.bad, s.heap.wr⟩, s.next⟩
  | _ => none
noncomputable def piece (P : Program) (k n : Nat) (c : Code) (s : St) (l : List Nat) : Option St := forgetR l (runF P k (.code n none c s))
noncomputable def lastR (P : Program) (rs : List ResultVar) : Option Res → Bool
  | some (.code .ret ⟨T, [], H, _⟩) => isT (resultsA P H T rs)
  | _ => false
  where isT : Option AV → Bool
  | some (.bool true) => true
  | _ => false
noncomputable def lastOk (P : Program) (f : FuncId) (k n : Nat) (c : Code) (s : St) : Bool := lastR P (resOf P f) (runF P k (.code n none c s))

def Good (P : Program) (f : FuncId) (n : Nat) (c : Code) (s : St) : Prop := codeOk c = true → Wf s.heap s.next → ∀ (W0 : World) (m : NM) (W : World) (a : Act), SR m n s a → Rel m s.heap W → (∀ x, s.next ≤ x → m x = none) →
  (∀ x k, m x = some k → W0.heap.size ≤ k.b) → Below W0.heap.size W0 W →
    c.wpIn Fence.wide 0 P (fun e a' W' => e = .ret ∧ a'.defers = [] ∧ (∀ fn, P.funcs[f]? = some fn → (results fn a'.tmps).run P W' = .ok (.bool true) W') ∧ Below W0.heap.size W0 W') a W
theorem post_in {m m1 : NM} {H H1 : Hp} {nx n1 : Nat} {W0 W W1 : World} (p : Post m H nx W m1 H1 n1 W1) (hle : nx ≤ n1) (h3 : ∀ x, nx ≤ x → m x = none) (h4 : ∀ x k, m x = some k → W0.heap.size ≤ k.b) (h5 : Below W0.heap.size W0 W) :
    (∀ x, n1 ≤ x → m1 x = none) ∧ (∀ x k, m1 x = some k → W0.heap.size ≤ k.b) ∧ Below W0.heap.size W0 W1 := by
  have own : ∀ w b, Owns m H w b → W0.heap.size ≤ b := fun w b ⟨i, oi, ki, _, _, _, hm, hb⟩ => by rw [← hb]; exact h4 i ki hm
  refine ⟨fun x hx => ?_, fun x k hk => ?_, h5.trans ⟨p.os, p.tape, p.output, p.size, fun b hb => p.frame b (Nat.lt_of_lt_of_le hb h5.size) (fun ho => by have := own _ _ ho; omega)⟩⟩
  · cases hm : m1 x with
    | none => rfl
    | some k =>
      rcases p.new x k hm with h | ⟨_, h, _⟩
      · rw [h3 x (by omega)] at h; cases h
      · omega
  · rcases p.new x k hk with h | ⟨_, _, h | h⟩
    · exact h4 x k h
    · exact Nat.le_trans h5.size h
    · exact own _ _ h
theorem good_step (hp : progOk P = true) {f : FuncId} {k n : Nat} {c : Code} {s s2 : St} {l : List Nat} (hq : isSeq c = true) (h : piece P k n (headC c) s l = some s2) (hg : Good P f n (tailC c) s2) : Good P f n c s := by
  intro hc hW W0 m W a sr hR hF hN hB
  cases c <;> simp only [isSeq] at hq <;> try (cases hq; done)
  rename_i x y
  simp only [codeOk, Bool.and_eq_true] at hc
  simp only [headC] at h
  simp only [tailC] at hg
  unfold piece at h
  rw [runF_eq] at h
  cases hr : run P k (.code n none x s) with
  | none => simp [hr, forgetR] at h
  | some r =>
    cases r with
    | call _ _ _ => simp [hr, forgetR] at h
    | code e s1 =>
      cases e <;> simp only [hr, forgetR] at h <;> try (cases h; done)
      cases h
      obtain ⟨a1, w1⟩ := (sound hp k _ _ hr : CodeOk P n none x s .normal s1) hc.1 hW
      refine wpIn_seq (wpIn_mono (wpC_wpIn (w1 m W a Fence.wide sr hR (fun x h1 _ => hF x h1) rfl)) ?_)
      rintro ex a' W' ⟨rfl, m1, p1, sr1⟩
      obtain ⟨q1, q2, q3⟩ := post_in p1 a1.le hF hN hB
      have hsub : ∀ x o, (⟨keepT s1.heap.t l, s1.heap.bad, s1.heap.wr⟩ : Hp).get x = some o → s1.heap.get x = some o := fun x o h => by
        obtain ⟨h1, h2⟩ := Hp.get_some.1 h
        exact Hp.get_some.2 ⟨h1, keepT_get h2⟩
      refine hg hc.2 ⟨fun x hx => ?_, a1.wf.bad, fun x o h => a1.wf.ok x o (keepT_get h)⟩ W0 m1 W' a' ⟨sr1.tmps, sr1.defers⟩ (p1.rel.sub hsub) q1 q2 q3
      cases hk : (keepT s1.heap.t l).get x with
      | none => rfl
      | some o => have := keepT_get hk; rw [a1.wf.none x hx] at this; cases this
theorem good_last (hp : progOk P = true) {f : FuncId} {k n : Nat} {c : Code} {s : St} (h : lastOk P f k n c s = true) : Good P f n c s := by
  intro hc hW W0 m W a sr hR hF hN hB
  unfold lastOk at h
  rw [runF_eq] at h
  cases hr : run P k (.code n none c s) with
  | none => simp [hr, lastR] at h
  | some r =>
    cases r with
    | call _ _ _ => simp [hr, lastR] at h
    | code e s1 =>
      obtain ⟨T, ds, H, nx⟩ := s1
      cases e <;> cases ds <;> simp only [hr, lastR] at h <;> try (cases h; done)
      obtain ⟨a1, w1⟩ := (sound hp k _ _ hr : CodeOk P n none c s .ret _) hc hW
      refine wpIn_mono (wpC_wpIn (w1 m W a Fence.wide sr hR (fun x h1 _ => hF x h1) rfl)) ?_
      rintro ex a' W' ⟨rfl, m1, p1, sr1⟩
      obtain ⟨_, _, q3⟩ := post_in p1 a1.le hF hN hB
      refine ⟨rfl, sr1.defers, fun fn hf => ?_, q3⟩
      cases hv : resultsA P H T (resOf P f) with
      | none => simp [hv, lastR.isT] at h
      | some v =>
        have : v = .bool true := by
          cases v <;> simp only [hv, lastR.isT] at h <;> try (cases h; done)
          rename_i b; cases b <;> first | rfl | cases h
        subst this
        simp only [resOf, hf] at hv
        obtain ⟨v', g1, g2⟩ := results_ok p1.rel sr1.tmps hv
        simp only [VR] at g1
        rw [g2, g1]
theorem good_call (hp : progOk P = true) {f : FuncId} (hb : hasBody P f = true) (hg : Good P f (tmpsCount P f) (bodyOf P f) ⟨.nil, [], ⟨.nil, [], 0⟩, 0⟩) (W : World) :
    Calls P f #[] W (fun e W' => e = .returned (.bool true) ∧ Below W.heap.size W W') := by
  cases hf : P.funcs[f]? with
  | none => simp [hasBody, hf] at hb
  | some fn =>
    cases hbo : fn.body with
    | none => simp [hasBody, hf, hbo] at hb
    | some c =>
      obtain ⟨hc, _⟩ := progOk_fn hp hf hbo
      simp only [bodyOf, tmpsCount, hf, hbo, Option.getD_some] at hg
      refine (callsIn_wide (n := 0)).1 (callsIn_of_wp_marks hf hbo trivial ?_)
      have hT := enter_tr (m := fun _ => none) (N := fn.ntmps) (args := []) (xs := #[]) (by simp [VRs])
      refine wpIn_mono (hg hc wf_nil W (fun _ => none) W ⟨#[] ++ Array.replicate (fn.ntmps - (#[] : Array Value).size) undef, []⟩ ⟨by simpa [ofArgs] using hT, rfl⟩ (rel_nil W) (fun _ _ => rfl) (fun x k h => by cases h) (.refl _ _)) ?_
      rintro e a' W' ⟨rfl, hd, hr, hB⟩
      have fin : LeavesInM Fence.wide 0 P fn a'.tmps (fun e W' => e = .returned (.bool true) ∧ Below W.heap.size W W') a'.defers .returning W' := by
        rw [hd]; exact ⟨.bool true, hr fn hf, rfl, hB⟩
      exact fin
theorem wf_nilL : Wf ⟨.nil, [(1, 0)], 0⟩ 0 := ⟨fun n _ => rfl, fun p hp => (by simp at hp; subst hp; exact Nat.le_refl _), fun n ob h => (by simp [Tr.get] at h)⟩
theorem rel_nilL (W : World) : Rel (fun _ => none) ⟨.nil, [(1, 0)], 0⟩ W := ⟨fun n ob h => (by have := (Hp.get_some.1 h).2; simp [Tr.get] at this), fun i j oi oj ki kj h => (by have := (Hp.get_some.1 h).2; simp [Tr.get] at this)⟩
theorem good_callL (hp : progOk P = true) {f : FuncId} (hb : hasBody P f = true) (hg : Good P f (tmpsCount P f) (bodyOf P f) ⟨.nil, [], ⟨.nil, [(1, 0)], 0⟩, 0⟩) (W : World) :
    Calls P f #[] W (fun e W' => e = .returned (.bool true) ∧ Below W.heap.size W W') := by
  cases hf : P.funcs[f]? with
  | none => simp [hasBody, hf] at hb
  | some fn =>
    cases hbo : fn.body with
    | none => simp [hasBody, hf, hbo] at hb
    | some c =>
      obtain ⟨hc, _⟩ := progOk_fn hp hf hbo
      simp only [bodyOf, tmpsCount, hf, hbo, Option.getD_some] at hg
      refine (callsIn_wide (n := 0)).1 (callsIn_of_wp_marks hf hbo trivial ?_)
      have hT := enter_tr (m := fun _ => none) (N := fn.ntmps) (args := []) (xs := #[]) (by simp [VRs])
      refine wpIn_mono (hg hc wf_nilL W (fun _ => none) W ⟨#[] ++ Array.replicate (fn.ntmps - (#[] : Array Value).size) undef, []⟩ ⟨by simpa [ofArgs] using hT, rfl⟩ (rel_nilL W) (fun _ _ => rfl) (fun x k h => by cases h) (.refl _ _)) ?_
      rintro e a' W' ⟨rfl, hd, hr, hB⟩
      have fin : LeavesInM Fence.wide 0 P fn a'.tmps (fun e W' => e = .returned (.bool true) ∧ Below W.heap.size W W') a'.defers .returning W' := by
        rw [hd]; exact ⟨.bool true, hr fn hf, rfl, hB⟩
      exact fin
end Abs
end Go.Proofs.YtekmmeikkafpmaaGreat
