/- The evaluator: the other text: regions that draw their order, code, calls. -/
import Derived.Test.YthiifonejoejpaaAb23
namespace Go.Proofs.Ythiifonejoejpaa
namespace Abs
def isStore : Op → Bool
  | .store .. => true
  | _ => false
def addrOf : Op → Operand
  | .load _ x => x
  | .store _ x _ => x
  | _ => .global 0
noncomputable def nameF : Option AV → Nat
  | some (.ptr n _) => n
  | _ => 0
abbrev OutD := Option (St × Dr)
def segF (d : Dr) (j nx nx' : Nat) : Dr := cond (Nat.ble nx' nx) d ⟨(j, nx, nx') :: d.ss, d.rs, d.ws⟩
/-- Behind a load, a store, any other operation. -/
def endL (pre j nm : Nat) (ds : List ADef) (H : Hp) (nx : Nat) (d : Dr) (T : Tr AV) : OutD :=
  cond (clear pre nm d.ws) (some (⟨T, ds, H, nx⟩, ⟨d.ss, (j, nm) :: d.rs, d.ws⟩)) none
def endS (pre j nm : Nat) (bar : Bool) (ds : List ADef) (H H' : Hp) (nx : Nat) (d : Dr) (T : Tr AV) : OutD :=
  cond (clear pre nm d.rs) (cond bar (some (⟨T, ds, ⟨H'.t, H.bad, lower H'.wr H.wr⟩, nx⟩, ⟨d.ss, d.rs, (j, nm) :: d.ws⟩)) none) none
def endO (j : Nat) (bar : Bool) (ds : List ADef) (H H' : Hp) (nx nx' : Nat) (d : Dr) (T : Tr AV) : OutD :=
  cond (Nat.ble nx H'.wr) (some (⟨T, ds, ⟨H'.t, H.bad, lower H'.wr H.wr⟩, nx'⟩, segF d j nx nx')) (cond bar (some (⟨T, ds, ⟨H'.t, H.bad, lower H'.wr H.wr⟩, nx'⟩, segF d j nx nx')) none)
def withT (k : Tr AV → OutD) : Option (Tr AV) → OutD
  | some T => k T
  | none => none
noncomputable def heapD (n : Nat) (ops : Array Oper) (pre : Array Nat) (j : Nat) (o : Oper) (T : Tr AV) (ds : List ADef) (H : Hp) (nx : Nat) (d : Dr) : Out → OutD
  | some (v, H', nx') => cond (isLoad o.op) (withT (endL (pre.getD j 0) j (nameF (evalF (addrOf o.op) T)) ds H nx d) (putF n v T o.dst))
      (cond (isStore o.op) (withT (endS (pre.getD j 0) j (nameF (evalF (addrOf o.op) T)) (barAt ops pre false j ops.size) ds H H' nx d) (putF n v T o.dst))
        (withT (endO j (barAt ops pre true j ops.size) ds H H' nx nx' d) (putF n v T o.dst)))
  | none => none
def stD (d : Dr) : Option St → OutD
  | some s => some (s, d)
  | none => none
noncomputable def opDF (P : Program) (rec : Task → Option Res) (n : Nat) (ops : Array Oper) (pre : Array Nat) (j : Nat) (o : Oper) (d : Dr) : St → OutD
  | ⟨T, ds, H, nx⟩ => cond (guardF ops T o.guard)
    (cond (touch o.op)
      (heapD n ops pre j o T ds H nx d (heapF o.op P rec T ⟨H.t, unseen (pre.getD j 0) d.ss H.bad, nx⟩ nx))
      (stD d (pureSt n o.dst T ds H nx (pureF o.op P T))))
    (stD d (stOf ds H nx (putF n .undef T o.dst)))
theorem nameF_eq (x : Operand) (T : Tr AV) : nameF (evalF x T) = nameO T x := by rw [evalF_eq]; rfl
theorem opDF_eq (P : Program) (rec : Task → Option Res) (n : Nat) (ops : Array Oper) (pre : Array Nat) (j : Nat) (o : Oper) (d : Dr) (s : St) : opDF P rec n ops pre j o d s = opD P rec n ops pre j o s d := by
  obtain ⟨T, ds, H, nx⟩ := s
  unfold opDF
  simp only [guardF_eq]
  cases hw : wantedA ops T o with
  | false =>
    have := outF_eq n o.dst ⟨T, ds, H, nx⟩ (some (.undef, H, nx))
    simp only [opD, hw, cond_false, stD, ← this, outF]
    rfl
  | true =>
    cases ht : touch o.op with
    | false =>
      have := pureSt_eq n o.dst ⟨T, ds, H, nx⟩ (pureA P T o.op)
      simp only [opD, hw, ht, cond_true, cond_false, pureF_eq, stD, ← this]
      rfl
    | true =>
      simp only [opD, hw, ht, cond_true, heapF_eq]
      cases hr : heapA P rec T ⟨H.t, unseen (pre.getD j 0) d.ss H.bad, nx⟩ nx o.op with
      | none => rfl
      | some p =>
        obtain ⟨v, H', nx'⟩ := p
        simp only [heapD, putF_eq, nameF_eq]
        cases putA n o.dst v T with
        | none => simp only [withT]; cases isLoad o.op <;> cases isStore o.op <;> rfl
        | some T' => cases o.op <;> rfl
def afterD (k : Dr → St → Option St) : OutD → Option St
  | some (s, d) => k d s
  | none => none
noncomputable def opsDF (P : Program) (rec : Task → Option Res) (n : Nat) (ops : Array Oper) (pre : Array Nat) : List Oper → Nat → Dr → St → Option St
  | [] => fun _ _ s => some s
  | o :: os => fun j d s => afterD (opsDF P rec n ops pre os (Nat.succ j)) (opDF P rec n ops pre j o d s)
theorem opsDF_eq (P : Program) (rec : Task → Option Res) (n : Nat) (ops : Array Oper) (pre : Array Nat) : ∀ (os : List Oper) (j : Nat) (d : Dr) (s : St), opsDF P rec n ops pre os j d s = opsD P rec n ops pre os j s d := by
  intro os
  induction os with
  | nil => intro j d s; rfl
  | cons o os ih =>
    intro j d s
    simp only [opsDF, opsD, opDF_eq]
    cases opD P rec n ops pre j o s d with
    | none => rfl
    | some p => exact ih (j + 1) p.2 p.1

/-! Code. -/
def codeR : Option St → Option Res
  | some s => some (.code .normal s)
  | none => none
noncomputable def thenF (k : St → Option Res) : Option Res → Option Res
  | some (.code .normal s) => k s
  | r => r
noncomputable def condF (rec : Task → Option Res) (n : Nat) (round : Option Nat) (a b : Code) (s : St) : Option AV → Option Res
  | some (.bool true) => rec (.code n round a s)
  | some (.bool false) => rec (.code n round b s)
  | _ => none
def blockF (id : Nat) : Option Res → Option Res
  | some (.code (.exit id') s) => cond (Nat.beq id' id) (some (.code .normal s)) (some (.code (.exit id') s))
  | r => r
noncomputable def codeF : Code → Program → (Task → Option Res) → Nat → Option Nat → St → Option Res
  | .region _ ops false => fun P rec n round s => codeR (ops1F P rec n round ops ops.toList s)
  | .region _ ops true => fun P rec n _ s => codeR (opsDF P rec n ops (Region.before ops) ops.toList 0 ⟨[], [], []⟩ s)
  | .seq a b => fun _ rec n round s => thenF (fun s => rec (.code n round b s)) (rec (.code n round a s))
  | .cond c a b => fun _ rec n round s => condF rec n round a b s (evalF c s.tmps)
  | .block id c => fun _ rec n round s => blockF id (rec (.code n round c s))
  | .loop c => fun _ rec n round s => thenF (fun s => rec (.code n round (.loop c) s)) (rec (.code n round c s))
  | .exit id => fun _ _ _ _ s => some (.code (.exit id) s)
  | .ret => fun _ _ _ _ s => some (.code .ret s)
  | .skip => fun _ _ _ _ s => some (.code .normal s)
  | c => fun P rec n round s => step P rec (.code n round c s)
noncomputable def valF (H : Hp) (nx : Nat) : Option AV → Option Res
  | some v => some (.call v H nx)
  | none => none
noncomputable def leftF (P : Program) (rs : List ResultVar) (T : Tr AV) : Option (Hp × Nat) → Option Res
  | some (H, nx) => valF H nx (resultsA P H T rs)
  | none => none
noncomputable def endF (P : Program) (rec : Task → Option Res) (rs : List ResultVar) : St → Option Res
  | ⟨T, [], H, nx⟩ => valF H nx (resultsA P H T rs)
  | ⟨T, ds, H, nx⟩ => leftF P rs T (leaveA rec ds H nx)
noncomputable def retF (P : Program) (rec : Task → Option Res) (rs : List ResultVar) : Option Res → Option Res
  | some (.code .normal s) => endF P rec rs s
  | some (.code .ret s) => endF P rec rs s
  | _ => none
noncomputable def argsF : List AV → Nat → Tr AV → Tr AV
  | [] => fun _ t => t
  | v :: vs => fun i t => argsF vs (Nat.succ i) (t.put i v)
theorem argsF_eq : ∀ (vs : List AV) (i : Nat) (t : Tr AV), argsF vs i t = ofArgs vs i t := by
  intro vs
  induction vs with
  | nil => intro i t; rfl
  | cons v vs ih => intro i t; simp only [argsF, ofArgs, Tr.put_eq, ih]
noncomputable def bodyF (P : Program) (rec : Task → Option Res) (args : List AV) (H : Hp) (nx : Nat) (k : Nat) (rs : List ResultVar) : Option Code → Option Res
  | some c => retF P rec rs (rec (.code (max k args.length) none c ⟨argsF args 0 .nil, [], H, nx⟩))
  | none => none
noncomputable def funcG (P : Program) (rec : Task → Option Res) (args : List AV) (H : Hp) (nx : Nat) : Option Func → Option Res
  | some fn => bodyF P rec args H nx fn.ntmps fn.results.toList fn.body
  | none => none
noncomputable def stepF (P : Program) (rec : Task → Option Res) : Task → Option Res
  | .code n round c s => codeF c P rec n round s
  | .call f args H nx => funcG P rec args H nx P.funcs[f]?
  | .dcall f args H nx => step P rec (.dcall f args H nx)
theorem codeF_eq (P : Program) (rec : Task → Option Res) (n : Nat) (round : Option Nat) (c : Code) (s : St) : codeF c P rec n round s = step P rec (.code n round c s) := by
  cases c <;> try rfl
  case region id ops d =>
    cases d with
    | false => simp only [codeF, step, ops1F_eq]; cases ops1 P rec n round ops ops.toList s <;> rfl
    | true => simp only [codeF, step, opsDF_eq]; cases opsD P rec n ops (Region.before ops) ops.toList 0 s ⟨[], [], []⟩ <;> rfl
  case cond c a b =>
    simp only [codeF, step, evalF_eq]
    cases evalO s.tmps c with
    | none => rfl
    | some v => cases v <;> try rfl
                rename_i b; cases b <;> rfl
theorem endF_eq (P : Program) (rec : Task → Option Res) (rs : List ResultVar) (s : St) : endF P rec rs s = match leaveA rec s.defers s.heap s.next with
    | some (H, nx) => match resultsA P H s.tmps rs with
      | some v => some (.call v H nx)
      | none => none
    | none => none := by
  obtain ⟨T, ds, H, nx⟩ := s
  cases ds with
  | nil => simp only [endF, leaveA]; cases resultsA P H T rs <;> rfl
  | cons d ds =>
    simp only [endF]
    cases leaveA rec (d :: ds) H nx with
    | none => rfl
    | some p => simp only [leftF]; cases resultsA P p.1 T rs <;> rfl
theorem stepF_eq (P : Program) (rec : Task → Option Res) (t : Task) : stepF P rec t = step P rec t := by
  cases t with
  | code n round c s => exact codeF_eq P rec n round c s
  | call f args H nx =>
    simp only [stepF, step]
    cases P.funcs[f]? with
    | none => rfl
    | some fn =>
      simp only [funcG]
      cases fn.body with
      | none => rfl
      | some c =>
        simp only [bodyF, argsF_eq]
        cases rec (.code (max fn.ntmps args.length) none c ⟨ofArgs args 0 .nil, [], H, nx⟩) with
        | none => rfl
        | some r => cases r with
          | code e s => cases e <;> simp only [retF, endF_eq] <;> rfl
          | call _ _ _ => rfl
  | dcall f args H nx => rfl
noncomputable def runF (P : Program) (f : Nat) : Task → Option Res := Nat.rec (fun _ => none) (fun _ ih => stepF P ih) f
theorem runF_eq (P : Program) (f : Nat) : runF P f = run P f := by
  induction f with
  | zero => rfl
  | succ f ih =>
    funext t
    show stepF P (runF P f) t = step P (run P f) t
    rw [ih, stepF_eq]
def isTrueR : Option Res → Bool
  | some (.call (.bool true) _ _) => true
  | _ => false
noncomputable def isTrueF (P : Program) (f : FuncId) (fuel : Nat) : Bool := isTrueR (runF P fuel (.call f [] ⟨.nil, [], 0⟩ 0))
theorem isTrueF_eq (P : Program) (f : FuncId) (fuel : Nat) : isTrueF P f fuel = isTrue P f fuel := by
  unfold isTrueF isTrue; rw [runF_eq]; rfl
end Abs
end Go.Proofs.Ythiifonejoejpaa
