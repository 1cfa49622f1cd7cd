/- The evaluator: the other text: operations that look at what there is, regions, code. -/
import Derived.Test.YthiifonejoejpaaAb22
namespace Go.Proofs.Ythiifonejoejpaa
namespace Abs
/-! What there is. -/
noncomputable def Tr.put {α : Type} (t : Tr α) (k : Nat) (a : α) : Tr α := Tr.setG (some a) (Nat.succ k) t k
theorem Tr.put_eq {α : Type} (t : Tr α) (k : Nat) (a : α) : t.put k a = t.set k a := by simp only [Tr.put, Tr.set, Tr.setG_eq]
noncomputable def Hp.getF (H : Hp) (n : Nat) : Option AObj := cond (hid H.bad n) none (H.t.getF n)
theorem Hp.getF_eq (H : Hp) (n : Nat) : H.getF n = H.get n := by simp only [Hp.getF, Hp.get, Tr.getF_eq]
noncomputable def Hp.layF (H : Hp) (n : Nat) (o : AObj) : Hp := ⟨H.t.put n o, H.bad, H.wr⟩
theorem Hp.layF_eq (H : Hp) (n : Nat) (o : AObj) : H.layF n o = H.lay n o := by simp only [Hp.layF, Hp.lay, Tr.put_eq]
noncomputable def Hp.putF (H : Hp) (n : Nat) (o : AObj) : Hp := ⟨H.t.put n o, H.bad, lower n H.wr⟩
theorem Hp.putF_eq (H : Hp) (n : Nat) (o : AObj) : H.putF n o = H.put n o := by simp only [Hp.putF, Hp.put, Tr.put_eq]
def cellsOf : Option AObj → Option (List AV)
  | some (.cells _ cs) => some cs
  | _ => none
def cellsOfW : Option AObj → Option (List AV)
  | some (.cells true cs) => some cs
  | _ => none

abbrev Out := Option (AV × Hp × Nat)
noncomputable def allocF (H : Hp) (nx : Nat) : Option AV → Out
  | some z => some (.ptr nx 0, H.layF nx (.cells true z.cells), Nat.succ nx)
  | none => none
def partOf (P : Program) (t : TypeId) (off : Nat) : Option (List AV) → Option AV
  | some cs => partT P t cs off
  | none => none
def outV (H : Hp) (nx : Nat) : Option AV → Out
  | some v => some (v, H, nx)
  | none => none
noncomputable def loadF (P : Program) (t : TypeId) (H : Hp) (nx : Nat) : Option AV → Out
  | some (.ptr n off) => outV H nx (partOf P t off (cellsOf (H.getF n)))
  | _ => none
noncomputable def storeAt (H : Hp) (nx n : Nat) (off size : Nat) (vc : List AV) : Option (List AV) → Out
  | some cs => match setAt cs off vc with
    | some cs => cond (vc.length.beq size) (cond (vc.all AV.oneCell) (cond (size.beq 0) none (some (.undef, H.putF n (.cells true cs), nx))) none) none
    | none => none
  | none => none
noncomputable def storeF (H : Hp) (nx : Nat) (x v : Option AV) (s : Option Nat) : Out := match x, v, s with
  | some (.ptr n off), some v, some size => storeAt H nx n off size v.cells (cellsOfW (H.getF n))
  | _, _, _ => none
noncomputable def calledF : Option Res → Out
  | some (.call v H nx) => some (v, H, nx)
  | _ => none
noncomputable def fnF (rec : Task → Option Res) (H : Hp) (nx : Nat) : AV → List AV → Out
  | .fn f first cap => fun args => calledF (rec (.call f (first ++ args ++ cap) H nx))
  | .yield l => fun args => yieldA rec l args H nx
  | _ => fun _ => none
noncomputable def callF (rec : Task → Option Res) (H : Hp) (nx : Nat) (f : Option AV) (args : Option (List AV)) : Out := match f, args with
  | some f, some vs => fnF rec H nx f vs
  | _, _ => none
def lenF (P : Program) (H : Hp) (nx : Nat) (vs : Option (List AV)) (t : Option TypeId) : Out := match vs, t with
  | some [x], some t => match lenV P H t x with
      | some n => some (.int .i64 n, H, nx)
      | none => none
  | _, _ => none
def appF (P : Program) (H : Hp) (nx : Nat) (vs : Option (List AV)) (t xt : Option TypeId) : Out := match vs, t, xt with
  | some [s, x], some t, some xt => appendA P t xt s x H nx
  | _, _, _ => none
noncomputable def heapC (c : Call) : Program → (Task → Option Res) → Tr AV → Hp → Nat → Out := match c with
  | { callee := .value f, args, .. } => fun _ rec T H nx => callF rec H nx (evalF f T) (evalLF args.toList T)
  | { callee := .builtin .len, args, argTypes } => fun P _ T H nx => lenF P H nx (evalLF args.toList T) argTypes[0]?
  | { callee := .builtin .append, args, argTypes } => fun P _ T H nx => appF P H nx (evalLF args.toList T) argTypes[0]? argTypes[1]?
  | c => fun P rec T H nx => heapA P rec T H nx (.call c)
noncomputable def heapF : Op → Program → (Task → Option Res) → Tr AV → Hp → Nat → Out
  | .alloc t => fun P _ _ H nx => allocF H nx (zero P t)
  | .box _ x => fun _ _ T H nx => allocF H nx (evalF x T)
  | .load t x => fun P _ T H nx => loadF P t H nx (evalF x T)
  | .store t a v => fun P _ T H nx => storeF H nx (evalF a T) (evalF v T) (sz P t)
  | .call c => heapC c
  | op => fun P rec T H nx => heapA P rec T H nx op
theorem allocF_eq (H : Hp) (nx : Nat) (z : Option AV) : allocF H nx z = match z with
  | some z => some (.ptr nx 0, H.lay nx (.cells true z.cells), nx + 1)
  | none => none := by cases z <;> simp only [allocF, Hp.layF_eq] <;> rfl
theorem heapF_eq (op : Op) (P : Program) (rec : Task → Option Res) (T : Tr AV) (H : Hp) (nx : Nat) : heapF op P rec T H nx = heapA P rec T H nx op := by
  cases op <;> try rfl
  case alloc t => simp only [heapF, heapA, allocF_eq]; rfl
  case box t x => simp only [heapF, heapA, allocF_eq, evalF_eq]; rfl
  case load t x =>
    simp only [heapF, heapA, evalF_eq]
    cases evalO T x with
    | none => rfl
    | some a => cases a <;> try rfl
                rename_i n off
                simp only [loadF, loadT, cellsAt, Hp.getF_eq]
                cases H.get n with
                | none => rfl
                | some ob => cases ob <;> rfl
  case store t x v =>
    simp only [heapF, heapA, evalF_eq]
    cases evalO T x with
    | none => rfl
    | some a => cases a <;> try rfl
                rename_i n off
                cases evalO T v with
                | none => rfl
                | some v => cases sz P t with
                  | none => rfl
                  | some size =>
                    simp only [storeF, cellsW, Hp.getF_eq, Hp.putF_eq, storeAt]
                    cases H.get n with
                    | none => rfl
                    | some ob =>
                      cases ob <;> rfl
  case call c =>
    obtain ⟨callee, args, ts⟩ := c
    cases callee with
    | value f =>
      simp only [heapF, heapC, heapA, evalF_eq, evalLF_eq]
      cases evalO T f with
      | none => rfl
      | some g => cases evalL T args.toList with
        | none => rfl
        | some vs =>
          simp only [callF]
          cases g <;> rfl
    | invoke a b => rfl
    | builtin b => cases b <;> simp only [heapF, heapC, heapA, evalLF_eq] <;> rfl

/-! One operation, the operations in their order. -/
noncomputable def yieldedF (ops : Array Oper) (T : Tr AV) (j : Nat) : Option Bool := match ((ops[j]?).bind (·.dst)).bind T.getF with
  | some (.bool b) => some b
  | _ => none
noncomputable def guardF (ops : Array Oper) (T : Tr AV) : Option (Nat × Bool) → Bool
  | none => true
  | some (j, want) => match yieldedF ops T j with
    | some b => cond b want !want
    | none => false
theorem guardF_eq (ops : Array Oper) (T : Tr AV) (o : Oper) : guardF ops T o.guard = wantedA ops T o := by
  unfold wantedA guardF yieldedF yieldedA
  rw [Tr.getF_eq]
  rfl
noncomputable def putF (n : Nat) (v : AV) (T : Tr AV) : Option Tmp → Option (Tr AV)
  | none => some T
  | some d => cond (Nat.blt d n) (some (T.put d v)) none
theorem putF_eq (n : Nat) (v : AV) (T : Tr AV) (d : Option Tmp) : putF n v T d = putA n d v T := by cases d <;> simp only [putF, putA, Tr.put_eq]
def stOf (ds : List ADef) (H : Hp) (nx : Nat) : Option (Tr AV) → Option St
  | some T => some ⟨T, ds, H, nx⟩
  | none => none
noncomputable def outF (n : Nat) (dst : Option Tmp) (T : Tr AV) (ds : List ADef) : Out → Option St
  | some (v, H, nx) => stOf ds H nx (putF n v T dst)
  | none => none
theorem outF_eq (n : Nat) (dst : Option Tmp) (s : St) (r : Out) : outF n dst s.tmps s.defers r = stepSt n dst s r := by
  cases r with
  | none => rfl
  | some p => simp only [outF, stepSt, putF_eq]; cases putA n dst p.1 s.tmps <;> rfl
noncomputable def pureSt (n : Nat) (dst : Option Tmp) (T : Tr AV) (ds : List ADef) (H : Hp) (nx : Nat) : Option AV → Option St
  | some v => stOf ds H nx (putF n v T dst)
  | none => none
theorem pureSt_eq (n : Nat) (dst : Option Tmp) (s : St) (r : Option AV) : pureSt n dst s.tmps s.defers s.heap s.next r = stepSt n dst s (r.map fun v => (v, s.heap, s.next)) := by
  cases r with
  | none => rfl
  | some v => simp only [pureSt, stepSt, Option.map_some, putF_eq]; cases putA n dst v s.tmps <;> rfl
/-- One operation. -/
noncomputable def op1F (P : Program) (rec : Task → Option Res) (n : Nat) (round : Option Nat) (ops : Array Oper) (o : Oper) : St → Option St
  | ⟨T, ds, H, nx⟩ => cond (guardF ops T o.guard)
    (cond (touch o.op)
      (cond (isDefer o.op) (op1 P rec n round ops o ⟨T, ds, H, nx⟩) (outF n o.dst T ds (heapF o.op P rec T H nx)))
      (pureSt n o.dst T ds H nx (pureF o.op P T)))
    (stOf ds H nx (putF n .undef T o.dst))
theorem op1F_eq (P : Program) (rec : Task → Option Res) (n : Nat) (round : Option Nat) (ops : Array Oper) (o : Oper) (s : St) : op1F P rec n round ops o s = op1 P rec n round ops o s := by
  obtain ⟨T, ds, H, nx⟩ := s
  unfold op1F
  simp only [guardF_eq]
  cases hw : wantedA ops T o with
  | false =>
    have := outF_eq n o.dst ⟨T, ds, H, nx⟩ (some (.undef, H, nx))
    simp only [op1, hw, cond_false]
    exact this
  | true =>
    cases ht : touch o.op with
    | false =>
      have := pureSt_eq n o.dst ⟨T, ds, H, nx⟩ (pureA P T o.op)
      simp only [op1, hw, ht, cond_true, cond_false, pureF_eq]
      exact this
    | true =>
      cases hd : isDefer o.op with
      | true => rfl
      | false =>
        have := outF_eq n o.dst ⟨T, ds, H, nx⟩ (heapA P rec T H nx o.op)
        simp only [op1, hw, ht, hd, cond_true, cond_false, heapF_eq]
        exact this
def afterF (k : St → Option St) : Option St → Option St
  | some s => k s
  | none => none
noncomputable def ops1F (P : Program) (rec : Task → Option Res) (n : Nat) (round : Option Nat) (ops : Array Oper) : List Oper → St → Option St
  | [] => fun s => some s
  | o :: os => fun s => afterF (ops1F P rec n round ops os) (op1F P rec n round ops o s)
theorem ops1F_eq (P : Program) (rec : Task → Option Res) (n : Nat) (round : Option Nat) (ops : Array Oper) : ∀ (os : List Oper) (s : St), ops1F P rec n round ops os s = ops1 P rec n round ops os s := by
  intro os
  induction os with
  | nil => intro s; rfl
  | cons o os ih =>
    intro s
    simp only [ops1F, ops1, op1F_eq]
    cases op1 P rec n round ops o s with
    | none => rfl
    | some s' => exact ih s'
end Abs
end Go.Proofs.Ythiifonejoejpaa
