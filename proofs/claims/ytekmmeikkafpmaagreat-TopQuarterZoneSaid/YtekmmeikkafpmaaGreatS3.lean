/- The evaluator with unknowns: definitions. -/
import Derived.Test.YtekmmeikkafpmaaGreatS2
set_option linter.unusedSimpArgs false
set_option linter.unusedVariables false
namespace Go.Proofs.YtekmmeikkafpmaaGreat
namespace Abs
namespace Sx

inductive OT (α : Type) where
  | no
  | leaf (a : α)
  | ask (b : X) (t f : OT α)
  | need (l : List X) (t : OT α)
def OT.bind {α β : Type} (t : OT α) (f : α → OT β) : OT β := match t with
  | .no => .no
  | .leaf a => f a
  | .ask b t u => .ask b (t.bind f) (u.bind f)
  | .need l t => .need l (t.bind f)
def OT.map {α β : Type} (f : α → β) : OT α → OT β
  | .no => .no
  | .leaf a => .leaf (f a)
  | .ask b t u => .ask b (t.map f) (u.map f)
  | .need l t => .need l (t.map f)
def needT {α : Type} (l : List X) (t : OT α) : OT α := match l with
  | [] => t
  | l => .need l t
def retry {α β : Type} (f : List X → PR α) (k : List X → α → OT β) : Nat → List X → OT β
  | 0, _ => .no
  | n + 1, fs => match f fs with
    | .ok l a => needT l (k (l ++ fs) a)
    | .ask b => .ask b (retry f k n (X.nrm b true ++ fs)) (retry f k n (X.nrm b false ++ fs))
    | .no => .no

inductive SDef where
  | mark (r : Nat)
  | fn (f : FuncId) (captured args : List SV)
structure SSt where
  tmps : SE
  defers : List SDef
  heap : SH
  next : Nat
inductive STask where
  | code (n : Nat) (round : Option Nat) (c : Code) (s : SSt)
  | call (f : FuncId) (args : List SV) (H : SH) (next : Nat)
  | dcall (f : FuncId) (args : List SV) (H : SH) (next : Nat)
inductive SRes where
  | code (e : Ex) (s : SSt)
  | call (v : SV) (H : SH) (next : Nat)
abbrev SRec := List X → STask → OT (SRes × List X)
def ofArgsS : List SV → Nat → SE → SE
  | [], _, t => t
  | v :: vs, i, t => ofArgsS vs (i + 1) (t.set i v)
def bindS (n : Nat) : List Tmp → List SV → SE → Option SE
  | [], [], T => some T
  | p :: ps, v :: vs, T => bindS n ps vs (cond (p.blt n) (T.set p v) T)
  | _, _, _ => none
def putS (n : Nat) (dst : Option Tmp) (v : SV) (T : SE) : Option SE := match dst with
  | none => some T
  | some d => cond (d.blt n) (some (T.set d v)) none
section
variable (P : Program) (R : Rgs) (rec : SRec)
def leaveS : List X → List SDef → SH → Nat → OT ((SH × Nat) × List X)
  | fs, [], H, nx => .leaf ((H, nx), fs)
  | fs, .mark r :: ds, H, nx => match H.get r with
    | some (.dfr true) => leaveS fs ds (H.put r (.dfr false)) nx
    | _ => .no
  | fs, .fn f cap args :: ds, H, nx => (rec fs (.dcall f (args ++ cap) H nx)).bind fun x => match x with
    | (.call _ H nx, fs) => leaveS fs ds H nx
    | _ => .no
def yieldS (fs : List X) (l : Nat) (args : List SV) (H : SH) (next : Nat) : OT ((SV × SH × Nat) × List X) := match H.get l with
  | some (.loop L) => match L.state, bindS L.n L.params args L.tmps with
    | .ready, some T => (rec fs (.code L.n (some l) L.assign ⟨T, [], H, next⟩)).bind fun x => match x with
      | (.code .normal s, fs) => match s.heap.get l with
        | some (.loop L1) => match L1.state with
          | .ready => (rec fs (.code L.n (some l) L.body ⟨s.tmps, s.defers, s.heap.put l (.loop { L1 with state := .busy }), s.next⟩)).bind fun x => match x with
            | (.code e s, fs) => match s.heap.get l, s.defers with
              | some (.loop L2), [] => match e with
                | .normal => .leaf ((.bool (.lit 1), s.heap.put l (.loop { L2 with state := .ready, pending := none }), s.next), fs)
                | .ret => .leaf ((.bool (.lit 0), s.heap.put l (.loop { L2 with state := .done, pending := some .ret }), s.next), fs)
                | .exit id => .leaf ((.bool (.lit 0), s.heap.put l (.loop { L2 with state := .done, pending := some (.exit id) }), s.next), fs)
                | .goto t => .leaf ((.bool (.lit 0), s.heap.put l (.loop { L2 with state := .done, pending := some (.goto t) }), s.next), fs)
              | _, _ => .no
            | _ => .no
          | _ => .no
        | _ => .no
      | _ => .no
    | _, _ => .no
  | _ => .no
def hpS (fs : List X) (H : SH) (nx : Nat) : HP → OT ((SV × SH × Nat) × List X)
  | .val v H nx => .leaf ((v, H, nx), fs)
  | .call g vs => (rec fs (.call g vs H nx)).bind fun x => match x with
    | (.call v H nx, fs) => .leaf ((v, H, nx), fs)
    | _ => .no
  | .yield l vs => yieldS rec fs l vs H nx
def guardS (ops : Array Oper) (T : SE) (o : Oper) (fs : List X) : PR Bool := match o.guard with
  | none => .ok [] true
  | some (j, want) => match (ops[j]?).bind (·.dst) with
    | none => .ok [] false
    | some t => match T.get t with
      | none => .no
      | some (.bool x) => match X.dec R fs x with
        | some b => .ok [] (cond b want !want)
        | none => .ask x
      | some _ => .ok [] false
def deferS (T : SE) : Op → Option SDef
  | .defer { callee := .value f, args, .. } => match evS T f, evLS T args.toList with
    | some (.fn f first cap), some args => some (.fn f cap (first ++ args))
    | _, _ => none
  | _ => none
def rtry : Nat := 60
def op1S (n : Nat) (round : Option Nat) (ops : Array Oper) (o : Oper) (fs : List X) (s : SSt) : OT (SSt × List X) :=
  retry (guardS R ops s.tmps o) (fun fs w => cond w
    (cond (touch o.op)
      (cond (isDefer o.op)
        (match round, deferS s.tmps o.op, putS n o.dst .undef s.tmps with
          | none, some d, some T => .leaf (⟨T, d :: s.defers, s.heap, s.next⟩, fs)
          | _, _, _ => .no)
        (retry (fun fs => heapS P R fs s.tmps s.heap s.next o.op) (fun fs r => (hpS rec fs s.heap s.next r).bind fun x => match putS n o.dst x.1.1 s.tmps with
          | some T => .leaf (⟨T, s.defers, x.1.2.1, x.1.2.2⟩, x.2)
          | none => .no) rtry fs))
      (retry (fun fs => pureS P R fs s.tmps o.op) (fun fs v => match putS n o.dst v s.tmps with
        | some T => .leaf (⟨T, s.defers, s.heap, s.next⟩, fs)
        | none => .no) rtry fs))
    (match putS n o.dst .undef s.tmps with
      | some T => .leaf (⟨T, s.defers, s.heap, s.next⟩, fs)
      | none => .no)) rtry fs
def ops1S (n : Nat) (round : Option Nat) (ops : Array Oper) : List Oper → List X → SSt → OT (SSt × List X)
  | [], fs, s => .leaf (s, fs)
  | o :: os, fs, s => (op1S P R rec n round ops o fs s).bind fun x => ops1S n round ops os x.2 x.1
def nameS (T : SE) (x : Operand) : Nat := match evS T x with
  | some (.ptr n _) => n
  | some (.eptr n _ _ _) => n
  | _ => 0
def appNS (T : SE) : Op → Option Nat
  | .call { callee := .builtin .append, args, .. } => match evLS T args.toList with
    | some [.slice n _ _ _ _ _ _, _] => some n
    | _ => none
  | _ => none
def finD (n : Nat) (ops : Array Oper) (pre : Array Nat) (j : Nat) (o : Oper) (s : SSt) (d : Dr) (fs : List X) (v : SV) (H : SH) (nx : Nat) : OT ((SSt × Dr) × List X) :=
  match putS n o.dst v s.tmps with
  | some T => match o.op with
    | .load _ x => cond (clear (pre.getD j 0) (nameS s.tmps x) d.ws) (.leaf ((⟨T, s.defers, s.heap, s.next⟩, ⟨d.ss, (j, nameS s.tmps x) :: d.rs, d.ws⟩), fs)) .no
    | .store _ x _ => cond (clear (pre.getD j 0) (nameS s.tmps x) d.rs) (cond (barAt ops pre false j ops.size)
        (.leaf ((⟨T, s.defers, ⟨H.t, s.heap.bad, lower H.wr s.heap.wr⟩, s.next⟩, ⟨d.ss, d.rs, (j, nameS s.tmps x) :: d.ws⟩), fs)) .no) .no
    | _ => cond (s.next.ble H.wr) (.leaf ((⟨T, s.defers, ⟨H.t, s.heap.bad, lower H.wr s.heap.wr⟩, nx⟩, cond (nx.ble s.next) d ⟨(j, s.next, nx) :: d.ss, d.rs, d.ws⟩), fs))
      (cond (barAt ops pre true j ops.size) (.leaf ((⟨T, s.defers, ⟨H.t, s.heap.bad, lower H.wr s.heap.wr⟩, nx⟩, cond (nx.ble s.next) d ⟨(j, s.next, nx) :: d.ss, d.rs, d.ws⟩), fs))
        (match appNS s.tmps o.op with
          | some nm => cond (lends (unseen (pre.getD j 0) d.ss s.heap.bad)) .no (cond (clear (pre.getD j 0) nm d.rs) (cond (barAt ops pre false j ops.size)
            (.leaf ((⟨T, s.defers, ⟨H.t, s.heap.bad, lower H.wr s.heap.wr⟩, nx⟩, ⟨cond (nx.ble s.next) d.ss ((j, s.next, nx) :: d.ss), d.rs, (j, nm) :: d.ws⟩), fs)) .no) .no)
          | none => .no))
  | none => .no
def opDS (n : Nat) (ops : Array Oper) (pre : Array Nat) (j : Nat) (o : Oper) (fs : List X) (s : SSt) (d : Dr) : OT ((SSt × Dr) × List X) :=
  retry (guardS R ops s.tmps o) (fun fs w => cond w
    (cond (touch o.op)
      (retry (fun fs => heapS P R fs s.tmps ⟨s.heap.t, unseen (pre.getD j 0) d.ss s.heap.bad, s.next⟩ s.next o.op) (fun fs r => (hpS rec fs ⟨s.heap.t, unseen (pre.getD j 0) d.ss s.heap.bad, s.next⟩ s.next r).bind fun x => finD n ops pre j o s d x.2 x.1.1 x.1.2.1 x.1.2.2) rtry fs)
      (retry (fun fs => pureS P R fs s.tmps o.op) (fun fs v => match putS n o.dst v s.tmps with
        | some T => .leaf ((⟨T, s.defers, s.heap, s.next⟩, d), fs)
        | none => .no) rtry fs))
    (match putS n o.dst .undef s.tmps with
      | some T => .leaf ((⟨T, s.defers, s.heap, s.next⟩, d), fs)
      | none => .no)) rtry fs
def opsDS (n : Nat) (ops : Array Oper) (pre : Array Nat) : List Oper → Nat → List X → SSt → Dr → OT (SSt × List X)
  | [], _, fs, s, _ => .leaf (s, fs)
  | o :: os, j, fs, s, d => (opDS P R rec n ops pre j o fs s d).bind fun x => opsDS n ops pre os (j + 1) x.2 x.1.1 x.1.2
def resS (H : SH) (T : SE) (fs : List X) : ResultVar → PR SV
  | .tmp t => match T.get t with
    | some v => .ok [] v
    | none => .no
  | .cell a t => match T.get a with
    | some x => loadS P R fs H t x
    | _ => .no
def ressS (H : SH) (T : SE) (fs : List X) : List ResultVar → PR (List SV)
  | [] => .ok [] []
  | r :: rs => match resS P R H T fs r, ressS H T fs rs with
    | .ok l v, .ok l2 vs => .ok (l ++ l2) (v :: vs)
    | _, _ => .no
def one1 : List SV → SV
  | [v] => v
  | vs => .tuple vs
def condS (T : SE) (c : Operand) (fs : List X) : PR Bool := match evS T c with
  | some (.bool x) => match X.dec R fs x with
    | some b => .ok [] b
    | none => .ask x
  | _ => .no
def stepS (fs : List X) : STask → OT (SRes × List X)
  | .code n round c s => match c with
    | .skip | .label _ => .leaf (.code .normal s, fs)
    | .region _ ops false => (ops1S P R rec n round ops ops.toList fs s).map fun x => (.code .normal x.1, x.2)
    | .region _ ops true => (opsDS P R rec n ops (Region.before ops) ops.toList 0 fs s ⟨[], [], []⟩).map fun x => (.code .normal x.1, x.2)
    | .seq a b => (rec fs (.code n round a s)).bind fun x => match x with
      | (.code .normal s, fs) => rec fs (.code n round b s)
      | r => .leaf r
    | .cond c a b => retry (condS R s.tmps c) (fun fs t => rec fs (.code n round (cond t a b) s)) rtry fs
    | .block id c => (rec fs (.code n round c s)).bind fun x => match x with
      | (.code (.exit id') s, fs) => cond (id'.beq id) (.leaf (.code .normal s, fs)) (.leaf (.code (.exit id') s, fs))
      | r => .leaf r
    | .scope c => (rec fs (.code n round c s)).bind fun x => match x with
      | (.code (.goto _) _, _) => .no
      | r => .leaf r
    | .loop c => (rec fs (.code n round c s)).bind fun x => match x with
      | (.code .normal s, fs) => rec fs (.code n round (.loop c) s)
      | r => .leaf r
    | .exit id => .leaf (.code (.exit id) s, fs)
    | .goto l => .leaf (.code (.goto l) s, fs)
    | .ret => .leaf (.code .ret s, fs)
    | .rangeFunc f ps assign body =>
      match evS s.tmps f, (match round with
        | none => some (s.next, (⟨s.tmps, .mark s.next :: s.defers, s.heap.lay s.next (.dfr true), s.next + 1⟩ : SSt))
        | some l => match s.heap.get l with
          | some (.loop L) => some (L.defers, s)
          | _ => none) with
      | some (.fn g first cap), some (D, s) =>
        (rec fs (.call g (first ++ [.yield s.next] ++ cap) (s.heap.lay s.next (.loop ⟨.ready, none, n, s.tmps, ps.toList, assign, body, D⟩)) (s.next + 1))).bind fun x => match x with
        | (.call _ H nx, fs) => match H.get s.next with
          | some (.loop L) => match L.state with
            | .busy => .no
            | _ => match L.pending with
              | none => .leaf (.code .normal ⟨s.tmps, s.defers, H.put s.next (.loop { L with state := .exhausted }), nx⟩, fs)
              | some c => rec fs (.code n round c ⟨s.tmps, s.defers, H.put s.next (.loop { L with state := .exhausted }), nx⟩)
          | _ => .no
        | _ => .no
      | _, _ => .no
    | _ => .no
  | .call f args H next => match P.funcs[f]? with
    | some fn => match fn.body with
      | some c => (rec fs (.code (max fn.ntmps args.length) none c ⟨ofArgsS args 0 .nil, [], H, next⟩)).bind fun x => match x with
        | (.code .normal s, fs) | (.code .ret s, fs) => (leaveS rec fs s.defers s.heap s.next).bind fun y =>
          retry (fun fs => ressS P R y.1.1 s.tmps fs fn.results.toList) (fun fs vs => .leaf (.call (one1 vs) y.1.1 y.1.2, fs)) rtry y.2
        | _ => .no
      | none => .no
    | none => .no
  | .dcall f args H next => match P.funcs[f]? with
    | some fn => match fn.body with
      | some c => (rec fs (.code (max fn.ntmps args.length) none c ⟨ofArgsS args 0 .nil, [], H, next⟩)).bind fun x => match x with
        | (.code .normal s, fs) | (.code .ret s, fs) => match s.defers with
          | [] => retry (fun fs => ressS P R s.heap s.tmps fs fn.results.toList) (fun fs vs => .leaf (.call (one1 vs) s.heap s.next, fs)) rtry fs
          | _ => .no
        | _ => .no
      | none => .no
    | none => .no
end
abbrev Ctrs := FuncId → Option (List X → List SV → SH → Nat → OT (SRes × List X))
def exS (P : Program) (R : Rgs) (K : Ctrs) : Nat → SRec
  | 0, _, _ => .no
  | f + 1, fs, t => match t with
    | .call g args H nx => match K g with
      | some k => k fs args H nx
      | none => stepS P R (exS P R K f) fs (.call g args H nx)
    | t => stepS P R (exS P R K f) fs t

open Classical in
noncomputable def OT.sem {α : Type} (ρ : Val) : OT α → Option α
  | .no => none
  | .leaf a => some a
  | .ask b t f => cond (b.denB ρ) (OT.sem ρ t) (OT.sem ρ f)
  | .need l t => if Fcs ρ l then OT.sem ρ t else none
def AllB (ρ : Val) : List X → Prop
  | [] => True
  | x :: l => x.denB ρ = true ∧ AllB ρ l
def OT.vc {α : Type} (ρ : Val) (Q : α → Prop) : OT α → Prop
  | .no => False
  | .leaf a => Q a
  | .ask b t f => (b.denB ρ = true → OT.vc ρ Q t) ∧ (b.denB ρ = false → OT.vc ρ Q f)
  | .need l t => AllB ρ l ∧ OT.vc ρ Q t
section
variable {ρ : Val} {α β : Type}
theorem allB_fcs : ∀ {l : List X}, AllB ρ l → Fcs ρ l
  | [], _ => Fcs.nil
  | x :: l, h => fun y hy => by
    rcases List.mem_cons.1 hy with rfl | hy
    · exact h.1
    · exact allB_fcs h.2 y hy
theorem OT.sem_bind {f : α → OT β} : ∀ (t : OT α), OT.sem ρ (t.bind f) = (OT.sem ρ t).bind (fun a => OT.sem ρ (f a))
  | .no => rfl
  | .leaf a => rfl
  | .ask b t u => by
    simp only [OT.bind, OT.sem, OT.sem_bind t, OT.sem_bind u]
    cases b.denB ρ <;> rfl
  | .need l t => by
    simp only [OT.bind, OT.sem, OT.sem_bind t]
    split <;> rfl
theorem OT.sem_map {f : α → β} : ∀ (t : OT α), OT.sem ρ (t.map f) = (OT.sem ρ t).map f
  | .no => rfl
  | .leaf a => rfl
  | .ask b t u => by
    simp only [OT.map, OT.sem, OT.sem_map t, OT.sem_map u]
    cases b.denB ρ <;> rfl
  | .need l t => by
    simp only [OT.map, OT.sem, OT.sem_map t]
    split <;> rfl
theorem bind_some {t : OT α} {f : α → OT β} {b : β} (h : OT.sem ρ (t.bind f) = some b) : ∃ a, OT.sem ρ t = some a ∧ OT.sem ρ (f a) = some b := by
  rw [OT.sem_bind] at h
  cases ht : OT.sem ρ t with
  | none => rw [ht] at h; cases h
  | some a => rw [ht] at h; exact ⟨a, rfl, h⟩
theorem needT_some {l : List X} {t : OT α} {a : α} (h : OT.sem ρ (needT l t) = some a) : Fcs ρ l ∧ OT.sem ρ t = some a := by
  unfold needT at h
  split at h
  · exact ⟨Fcs.nil, h⟩
  · simp only [OT.sem] at h
    split at h
    · rename_i hl; exact ⟨hl, h⟩
    · cases h
theorem retry_some {f : List X → PR α} {k : List X → α → OT β} {b : β} : ∀ {n : Nat} {fs : List X}, OT.sem ρ (retry f k n fs) = some b → Fcs ρ fs →
    ∃ fs' l a, f fs' = .ok l a ∧ Fcs ρ fs' ∧ Fcs ρ l ∧ OT.sem ρ (k (l ++ fs') a) = some b
  | 0, _, h, _ => by cases h
  | n + 1, fs, h, hf => by
    simp only [retry] at h
    split at h
    · rename_i l a hl
      obtain ⟨h1, h2⟩ := needT_some h
      exact ⟨fs, l, a, hl, hf, h1, h2⟩
    · rename_i b' _
      simp only [OT.sem] at h
      cases hb : b'.denB ρ with
      | true => rw [hb] at h; exact retry_some h (.append (X.nrm_ok b' hb) hf)
      | false => rw [hb] at h; exact retry_some h (.append (X.nrm_ok b' hb) hf)
    · cases h
end
end Sx
end Abs
end Go.Proofs.YtekmmeikkafpmaaGreat

namespace Go.Proofs.YtekmmeikkafpmaaGreat
namespace Abs
namespace Sx
def SDef.den (ρ : Val) : SDef → ADef
  | .mark r => .mark r
  | .fn f c a => .fn f (SV.dens ρ c) (SV.dens ρ a)
def sD (ρ : Val) (s : SSt) : St := ⟨Tr.map (SV.den ρ) s.tmps, s.defers.map (SDef.den ρ), hD ρ s.heap, s.next⟩
def tD (ρ : Val) : STask → Task
  | .code n r c s => .code n r c (sD ρ s)
  | .call f args H nx => .call f (SV.dens ρ args) (hD ρ H) nx
  | .dcall f args H nx => .dcall f (SV.dens ρ args) (hD ρ H) nx
def rD (ρ : Val) : SRes → Res
  | .code e s => .code e (sD ρ s)
  | .call v H nx => .call (v.den ρ) (hD ρ H) nx
structure Sim (ρ : Val) (recS : SRec) (rec : Task → Option Res) : Prop where
  ok : ∀ fs t r fs', Fcs ρ fs → OT.sem ρ (recS fs t) = some (r, fs') → rec (tD ρ t) = some (rD ρ r) ∧ Fcs ρ fs'
section
variable {P : Program} {ρ : Val} {R : Rgs} {recS : SRec} {rec : Task → Option Res}
theorem leaf_some {α : Type} {a b : α} (h : OT.sem ρ (.leaf a) = some b) : a = b := by cases h; rfl
theorem putS_den {n : Nat} {dst : Option Tmp} {v : SV} {T T' : SE} (h : putS n dst v T = some T') : putA n dst (v.den ρ) (Tr.map (SV.den ρ) T) = some (Tr.map (SV.den ρ) T') := by
  unfold putS at h
  unfold putA
  cases dst with
  | none => cases h; rfl
  | some d =>
    simp only at h ⊢
    cases hb : d.blt n <;> rw [hb] at h <;> cases h
    rw [Tr.set_map]; rfl
theorem bindS_den {n : Nat} : ∀ {ps : List Tmp} {vs : List SV} {T T' : SE}, bindS n ps vs T = some T' → bindA n ps (SV.dens ρ vs) (Tr.map (SV.den ρ) T) = some (Tr.map (SV.den ρ) T')
  | [], [], T, T', h => by cases h; rfl
  | [], _ :: _, _, _, h => by cases h
  | _ :: _, [], _, _, h => by cases h
  | p :: ps, v :: vs, T, T', h => by
    simp only [bindS] at h
    simp only [SV.dens, bindA]
    rw [← bindS_den h]
    cases p.blt n
    · rfl
    · simp only [cond_true, Tr.set_map]
theorem ofArgsS_den : ∀ (l : List SV) (i : Nat) (T : SE), ofArgs (SV.dens ρ l) i (Tr.map (SV.den ρ) T) = Tr.map (SV.den ρ) (ofArgsS l i T)
  | [], _, _ => rfl
  | v :: l, i, T => by
    simp only [SV.dens, ofArgs, ofArgsS, ← Tr.set_map]
    exact ofArgsS_den l (i + 1) _
theorem hloop {H : SH} {l : Nat} {L : SLoop} (h : H.get l = some (.loop L)) : (hD ρ H).get l = some (.loop (L.den ρ)) := by rw [hD_get, h]; rfl
theorem leaveS_ok (hs : Sim ρ recS rec) : ∀ {ds : List SDef} {fs : List X} {H : SH} {nx : Nat} {x : (SH × Nat) × List X}, Fcs ρ fs → OT.sem ρ (leaveS recS fs ds H nx) = some x →
    leaveA rec (ds.map (SDef.den ρ)) (hD ρ H) nx = some (hD ρ x.1.1, x.1.2) ∧ Fcs ρ x.2
  | [], fs, H, nx, x, hf, h => by
    simp only [leaveS] at h
    have := leaf_some h
    subst this
    exact ⟨rfl, hf⟩
  | .mark r :: ds, fs, H, nx, x, hf, h => by
    simp only [leaveS] at h
    split at h <;> try (cases h; done)
    rename_i hg
    obtain ⟨g1, g2⟩ := leaveS_ok hs hf h
    refine ⟨?_, g2⟩
    have : (hD ρ H).get r = some (.dfr true) := by rw [hD_get, hg]; rfl
    simp only [List.map_cons, SDef.den, leaveA, this]
    rw [show AObj.dfr false = (SO.dfr false).den ρ from rfl, hD_put]
    exact g1
  | .fn f cap args :: ds, fs, H, nx, x, hf, h => by
    simp only [leaveS] at h
    obtain ⟨y, h1, h2⟩ := bind_some h
    obtain ⟨r, fs1⟩ := y
    obtain ⟨g1, g2⟩ := hs.ok _ _ _ _ hf h1
    cases r with
    | code e s => cases h2
    | call v H1 nx1 =>
      obtain ⟨g3, g4⟩ := leaveS_ok hs g2 h2
      refine ⟨?_, g4⟩
      simp only [tD, rD, dens_append] at g1
      simp only [List.map_cons, SDef.den, leaveA, g1]
      exact g3
theorem yieldS_ok (hs : Sim ρ recS rec) {fs : List X} {l nx : Nat} {args : List SV} {H : SH} {x : (SV × SH × Nat) × List X} (hf : Fcs ρ fs) (h : OT.sem ρ (yieldS recS fs l args H nx) = some x) :
    yieldA rec l (SV.dens ρ args) (hD ρ H) nx = some (x.1.1.den ρ, hD ρ x.1.2.1, x.1.2.2) ∧ Fcs ρ x.2 := by
  unfold yieldS at h
  split at h <;> try (cases h; done)
  rename_i L hL
  split at h <;> try (cases h; done)
  rename_i T hst hT
  obtain ⟨y, h1, h2⟩ := bind_some h
  obtain ⟨r, fs1⟩ := y
  obtain ⟨g1, g2⟩ := hs.ok _ _ _ _ hf h1
  split at h2 <;> try (cases h2; done)
  rename_i s1 fs1' e1
  cases e1
  split at h2 <;> try (cases h2; done)
  rename_i L1 hL1
  split at h2 <;> try (cases h2; done)
  rename_i hst1
  obtain ⟨z, h3, h4⟩ := bind_some h2
  obtain ⟨r2, fs2⟩ := z
  obtain ⟨g3, g4⟩ := hs.ok _ _ _ _ g2 h3
  split at h4 <;> try (cases h4; done)
  rename_i e s2 fs2' e2
  cases e2
  split at h4 <;> try (cases h4; done)
  rename_i L2 hL2 hds
  have hT' := bindS_den (ρ := ρ) hT
  simp only [tD, rD, sD, List.map_nil] at g1
  have hput : (hD ρ s1.heap).put l (.loop { L1.den ρ with state := .busy }) = hD ρ (s1.heap.put l (.loop { L1 with state := .busy })) := by rw [← hD_put]; rfl
  simp only [tD, rD, sD] at g3
  unfold yieldA
  have e1 : (L.den ρ).state = .ready := hst
  have e2 : (L1.den ρ).state = .ready := hst1
  have e3 : bindA (L.den ρ).n (L.den ρ).params (SV.dens ρ args) (L.den ρ).tmps = some (Tr.map (SV.den ρ) T) := hT'
  simp only [hloop hL, e1, e3]
  have a1 : rec (.code (L.den ρ).n (some l) (L.den ρ).assign ⟨Tr.map (SV.den ρ) T, [], hD ρ H, nx⟩) = some (.code .normal ⟨Tr.map (SV.den ρ) s1.tmps, s1.defers.map (SDef.den ρ), hD ρ s1.heap, s1.next⟩) := g1
  simp only [a1, hloop hL1, e2, hput]
  have a2 : rec (.code (L.den ρ).n (some l) (L.den ρ).body ⟨Tr.map (SV.den ρ) s1.tmps, s1.defers.map (SDef.den ρ), hD ρ (s1.heap.put l (.loop { L1 with state := .busy })), s1.next⟩) = some (.code e ⟨Tr.map (SV.den ρ) s2.tmps, s2.defers.map (SDef.den ρ), hD ρ s2.heap, s2.next⟩) := g3
  simp only [a2, hloop hL2, hds, List.map_nil]
  have fin : ∀ L3 : SLoop, (hD ρ s2.heap).put l (.loop (L3.den ρ)) = hD ρ (s2.heap.put l (.loop L3)) := fun L3 => by rw [← hD_put]; rfl
  cases e <;> (have := leaf_some h4; subst this; refine ⟨?_, g4⟩; simp only [← fin]; rfl)
theorem hpS_ok (hs : Sim ρ recS rec) {fs : List X} {T : SE} {H : SH} {nx : Nat} {o : Op} {r : HP} {x : (SV × SH × Nat) × List X} (hf : Fcs ρ fs) (hr : HPok P ρ rec T H nx o r) (h : OT.sem ρ (hpS recS fs H nx r) = some x) :
    heapA P rec (Tr.map (SV.den ρ) T) (hD ρ H) nx o = some (x.1.1.den ρ, hD ρ x.1.2.1, x.1.2.2) ∧ Fcs ρ x.2 := by
  cases r with
  | val v H' nx' =>
    simp only [hpS] at h
    have := leaf_some h
    subst this
    exact ⟨hr, hf⟩
  | call g vs =>
    simp only [hpS] at h
    obtain ⟨y, h1, h2⟩ := bind_some h
    obtain ⟨r, fs1⟩ := y
    obtain ⟨g1, g2⟩ := hs.ok _ _ _ _ hf h1
    cases r with
    | code e s => cases h2
    | call v H1 nx1 =>
      have := leaf_some h2
      subst this
      simp only [HPok] at hr
      simp only [tD, rD] at g1
      rw [g1] at hr
      exact ⟨hr, g2⟩
  | yield l vs =>
    simp only [hpS] at h
    obtain ⟨g1, g2⟩ := yieldS_ok hs hf h
    simp only [HPok] at hr
    rw [hr]
    exact ⟨g1, g2⟩
theorem evT_den (T : SE) (t : Tmp) : (Tr.map (SV.den ρ) T).get t = (T.get t).map (SV.den ρ) := Tr.get_map _ _
theorem guardS_ok (hR : R.ok ρ) {fs : List X} (hf : Fcs ρ fs) {ops : Array Oper} {T : SE} {o : Oper} {l : List X} {w : Bool} (h : guardS R ops T o fs = .ok l w) : askedA ops (Tr.map (SV.den ρ) T) o = true ∧ wantedA ops (Tr.map (SV.den ρ) T) o = w := by
  unfold guardS at h; unfold askedA wantedA yieldedA
  cases hg : o.guard with
  | none => rw [hg] at h; cases h; exact ⟨rfl, rfl⟩
  | some p =>
    obtain ⟨j, want⟩ := p
    rw [hg] at h
    simp only at h ⊢
    cases hd : (ops[j]?).bind (·.dst) with
    | none => rw [hd] at h; cases h; exact ⟨rfl, rfl⟩
    | some t =>
      rw [hd] at h
      simp only [Option.bind_some, evT_den] at h ⊢
      cases ht : T.get t with
      | none => rw [ht] at h; cases h
      | some v =>
        rw [ht] at h
        refine ⟨rfl, ?_⟩
        cases v with
        | bool x =>
          simp only at h
          split at h <;> cases h
          rename_i b hb
          simp only [Option.map_some, SV.den, X.dec_ok hR hf _ hb]
        | _ => cases h; rfl
theorem deferS_den {T : SE} {o : Op} {d : SDef} (h : deferS T o = some d) : deferA (Tr.map (SV.den ρ) T) o = some (d.den ρ) := by
  cases o <;> try (cases h; done)
  rename_i c
  obtain ⟨callee, args, ats⟩ := c
  cases callee <;> try (cases h; done)
  simp only [deferS] at h
  split at h <;> cases h
  rename_i h1 h2
  simp only [deferA, evO_den, evOL_den, h1, h2, Option.map_some, SV.den, SDef.den, dens_append]
theorem op1S_ok (hR : R.ok ρ) (hs : Sim ρ recS rec) {n : Nat} {round : Option Nat} {ops : Array Oper} {o : Oper} {fs : List X} {s : SSt} {x : SSt × List X} (hf : Fcs ρ fs) (h : OT.sem ρ (op1S P R recS n round ops o fs s) = some x) :
    op1 P rec n round ops o (sD ρ s) = some (sD ρ x.1) ∧ Fcs ρ x.2 := by
  unfold op1S at h
  obtain ⟨fs1, l1, w, h1, h2, h3, h4⟩ := retry_some h hf
  obtain ⟨a1, a2⟩ := guardS_ok hR h2 h1
  have hf1 := h3.append h2
  unfold op1
  have a1 : askedA ops (sD ρ s).tmps o = true := a1
  have a2 : wantedA ops (sD ρ s).tmps o = w := a2
  simp only [a1, a2, cond_true]
  have put : ∀ {v : SV} {T : SE} {H : SH} {nx : Nat}, putS n o.dst v s.tmps = some T → stepSt n o.dst (sD ρ s) (some (v.den ρ, hD ρ H, nx)) = some (sD ρ ⟨T, s.defers, H, nx⟩) := by
    intro v T H nx hp
    have := putS_den (ρ := ρ) hp
    simp only [stepSt, sD, this]
  cases w with
  | false =>
    simp only [cond_false] at h4 ⊢
    split at h4 <;> try (cases h4; done)
    rename_i T hp
    have := leaf_some h4
    subst this
    exact ⟨put hp, hf1⟩
  | true =>
    simp only [cond_true] at h4 ⊢
    cases ht : touch o.op with
    | false =>
      simp only [ht, cond_false] at h4 ⊢
      obtain ⟨fs2, l2, v, g1, g2, g3, g4⟩ := retry_some h4 hf1
      split at g4 <;> try (cases g4; done)
      rename_i T hp
      have := leaf_some g4
      subst this
      have hpu := pureS_ok hR g2 g1 g3
      rw [show eD ρ s.tmps = (sD ρ s).tmps.get from rfl, pureE_get] at hpu
      simp only [hpu, Option.map_some]
      exact ⟨put hp, g3.append g2⟩
    | true =>
      simp only [ht, cond_true] at h4 ⊢
      cases hd : isDefer o.op with
      | true =>
        simp only [hd, cond_true] at h4 ⊢
        split at h4 <;> try (cases h4; done)
        rename_i d T g1 g2
        have := leaf_some h4
        subst this
        have e1 := deferS_den (ρ := ρ) g1
        have e2 := putS_den (ρ := ρ) g2
        refine ⟨?_, hf1⟩
        simp only [sD, e1] at e2 ⊢
        rw [den_undef] at e2
        simp only [e2, List.map_cons]
      | false =>
        simp only [hd, cond_false] at h4 ⊢
        obtain ⟨fs2, l2, r, g1, g2, g3, g4⟩ := retry_some h4 hf1
        obtain ⟨y, k1, k2⟩ := bind_some g4
        have hh := heapS_ok (rec := rec) hR g2 g1 g3
        obtain ⟨m1, m2⟩ := hpS_ok hs (g3.append g2) hh k1
        split at k2 <;> try (cases k2; done)
        rename_i T hp
        have := leaf_some k2
        subst this
        have m1 : heapA P rec (sD ρ s).tmps (sD ρ s).heap (sD ρ s).next o.op = _ := m1
        rw [m1]
        exact ⟨put hp, m2⟩
theorem ops1S_ok (hR : R.ok ρ) (hs : Sim ρ recS rec) {n : Nat} {round : Option Nat} {ops : Array Oper} : ∀ {l : List Oper} {fs : List X} {s : SSt} {x : SSt × List X}, Fcs ρ fs → OT.sem ρ (ops1S P R recS n round ops l fs s) = some x →
    ops1 P rec n round ops l (sD ρ s) = some (sD ρ x.1) ∧ Fcs ρ x.2
  | [], fs, s, x, hf, h => by
    simp only [ops1S] at h
    have := leaf_some h
    subst this
    exact ⟨rfl, hf⟩
  | o :: l, fs, s, x, hf, h => by
    simp only [ops1S] at h
    obtain ⟨y, h1, h2⟩ := bind_some h
    obtain ⟨g1, g2⟩ := op1S_ok hR hs hf h1
    obtain ⟨g3, g4⟩ := ops1S_ok hR hs g2 h2
    exact ⟨by simp only [ops1, g1]; exact g3, g4⟩
theorem nameS_den (T : SE) (x : Operand) : nameO (Tr.map (SV.den ρ) T) x = nameS T x := by
  unfold nameO nameS
  rw [evO_den]
  cases evS T x with
  | none => rfl
  | some v => cases v <;> rfl
def finA (n : Nat) (ops : Array Oper) (pre : Array Nat) (j : Nat) (o : Oper) (s : St) (d : Dr) (v : AV) (H : Hp) (nx : Nat) : Option (St × Dr) := match putA n o.dst v s.tmps with
  | some T => match o.op with
    | .load _ x => cond (clear (pre.getD j 0) (nameO s.tmps x) d.ws) (some (⟨T, s.defers, s.heap, s.next⟩, ⟨d.ss, (j, nameO s.tmps x) :: d.rs, d.ws⟩)) none
    | .store _ x _ => cond (clear (pre.getD j 0) (nameO s.tmps x) d.rs) (cond (barAt ops pre false j ops.size)
        (some (⟨T, s.defers, ⟨H.t, s.heap.bad, lower H.wr s.heap.wr⟩, s.next⟩, ⟨d.ss, d.rs, (j, nameO s.tmps x) :: d.ws⟩)) none) none
    | _ => cond (s.next.ble H.wr) (some (⟨T, s.defers, ⟨H.t, s.heap.bad, lower H.wr s.heap.wr⟩, nx⟩, cond (nx.ble s.next) d ⟨(j, s.next, nx) :: d.ss, d.rs, d.ws⟩))
      (cond (barAt ops pre true j ops.size) (some (⟨T, s.defers, ⟨H.t, s.heap.bad, lower H.wr s.heap.wr⟩, nx⟩, cond (nx.ble s.next) d ⟨(j, s.next, nx) :: d.ss, d.rs, d.ws⟩))
        (match appN s.tmps o.op with
          | some nm => cond (may (lends (unseen (pre.getD j 0) d.ss s.heap.bad)) (pre.getD j 0) s.next H.t d.rs) (cond (clear (pre.getD j 0) nm d.rs) (cond (barAt ops pre false j ops.size)
            (some (⟨T, s.defers, ⟨H.t, s.heap.bad, lower H.wr s.heap.wr⟩, nx⟩, ⟨cond (nx.ble s.next) d.ss ((j, s.next, nx) :: d.ss), d.rs, (j, nm) :: d.ws⟩)) none) none) none
          | none => none))
  | none => none
theorem appNS_den (T : SE) (o : Op) : appN (Tr.map (SV.den ρ) T) o = appNS T o := by
  cases o <;> try rfl
  rename_i c
  obtain ⟨callee, args, ats⟩ := c
  cases callee <;> try rfl
  rename_i b
  cases b <;> try rfl
  simp only [appN, appNS, evOL_den]
  cases evLS T args.toList with
  | none => rfl
  | some l => cases l with
    | nil => rfl
    | cons a l => cases l with
      | nil => cases a <;> rfl
      | cons b l => cases l with
        | nil => cases a <;> rfl
        | cons c l => cases a <;> rfl
theorem finD_ok {n : Nat} {ops : Array Oper} {pre : Array Nat} {j : Nat} {o : Oper} {s : SSt} {d : Dr} {fs : List X} {v : SV} {H : SH} {nx : Nat} {x : (SSt × Dr) × List X} (h : OT.sem ρ (finD n ops pre j o s d fs v H nx) = some x) :
    finA n ops pre j o (sD ρ s) d (v.den ρ) (hD ρ H) nx = some (sD ρ x.1.1, x.1.2) ∧ fs = x.2 := by
  unfold finD at h
  unfold finA
  split at h <;> try (cases h; done)
  rename_i T hp
  have hp' : putA n o.dst (v.den ρ) (sD ρ s).tmps = some (Tr.map (SV.den ρ) T) := putS_den hp
  have hnm : ∀ y, nameO (sD ρ s).tmps y = nameS s.tmps y := fun y => nameS_den _ _
  simp only [hp']
  have e1 : (sD ρ s).next.ble (hD ρ H).wr = s.next.ble H.wr := rfl
  simp only [hnm, e1]
  have happ : appN (sD ρ s).tmps o.op = appNS s.tmps o.op := appNS_den _ _
  have rest : ∀ {x : (SSt × Dr) × List X} (nmo : Option Nat), OT.sem ρ (cond (s.next.ble H.wr) (.leaf ((⟨T, s.defers, ⟨H.t, s.heap.bad, lower H.wr s.heap.wr⟩, nx⟩, cond (nx.ble s.next) d ⟨(j, s.next, nx) :: d.ss, d.rs, d.ws⟩), fs))
      (cond (barAt ops pre true j ops.size) (.leaf ((⟨T, s.defers, ⟨H.t, s.heap.bad, lower H.wr s.heap.wr⟩, nx⟩, cond (nx.ble s.next) d ⟨(j, s.next, nx) :: d.ss, d.rs, d.ws⟩), fs))
        (match nmo with
          | some nm => cond (lends (unseen (pre.getD j 0) d.ss s.heap.bad)) .no (cond (clear (pre.getD j 0) nm d.rs) (cond (barAt ops pre false j ops.size)
            (.leaf ((⟨T, s.defers, ⟨H.t, s.heap.bad, lower H.wr s.heap.wr⟩, nx⟩, ⟨cond (nx.ble s.next) d.ss ((j, s.next, nx) :: d.ss), d.rs, (j, nm) :: d.ws⟩), fs)) .no) .no)
          | none => .no))) = some x →
      cond (s.next.ble H.wr) (some (⟨Tr.map (SV.den ρ) T, (sD ρ s).defers, ⟨(hD ρ H).t, (sD ρ s).heap.bad, lower (hD ρ H).wr (sD ρ s).heap.wr⟩, nx⟩, cond (nx.ble (sD ρ s).next) d ⟨(j, (sD ρ s).next, nx) :: d.ss, d.rs, d.ws⟩))
        (cond (barAt ops pre true j ops.size) (some (⟨Tr.map (SV.den ρ) T, (sD ρ s).defers, ⟨(hD ρ H).t, (sD ρ s).heap.bad, lower (hD ρ H).wr (sD ρ s).heap.wr⟩, nx⟩, cond (nx.ble (sD ρ s).next) d ⟨(j, (sD ρ s).next, nx) :: d.ss, d.rs, d.ws⟩))
          (match nmo with
            | some nm => cond (may (lends (unseen (pre.getD j 0) d.ss (sD ρ s).heap.bad)) (pre.getD j 0) (sD ρ s).next (hD ρ H).t d.rs) (cond (clear (pre.getD j 0) nm d.rs) (cond (barAt ops pre false j ops.size)
              (some (⟨Tr.map (SV.den ρ) T, (sD ρ s).defers, ⟨(hD ρ H).t, (sD ρ s).heap.bad, lower (hD ρ H).wr (sD ρ s).heap.wr⟩, nx⟩, ⟨cond (nx.ble (sD ρ s).next) d.ss ((j, (sD ρ s).next, nx) :: d.ss), d.rs, (j, nm) :: d.ws⟩)) none) none) none
            | none => none)) = some (sD ρ x.1.1, x.1.2) ∧ fs = x.2 := by
    intro x nmo h
    cases hw : s.next.ble H.wr <;> rw [hw] at h <;> simp only [cond_true, cond_false] at h ⊢
    · cases hb : barAt ops pre true j ops.size <;> rw [hb] at h <;> simp only [cond_true, cond_false] at h ⊢
      · cases nmo with
        | none => cases h
        | some nm =>
          simp only at h ⊢
          have eL : lends (unseen (pre.getD j 0) d.ss (sD ρ s).heap.bad) = lends (unseen (pre.getD j 0) d.ss s.heap.bad) := rfl
          rw [eL]
          cases hL : lends (unseen (pre.getD j 0) d.ss s.heap.bad) <;> rw [hL] at h <;> simp only [may, cond_true, cond_false] at h ⊢ <;> try (cases h; done)
          cases hc : clear (pre.getD j 0) nm d.rs <;> rw [hc] at h <;> simp only [cond_true, cond_false] at h ⊢ <;> try (cases h; done)
          cases hd : barAt ops pre false j ops.size <;> rw [hd] at h <;> simp only [cond_true, cond_false] at h ⊢ <;> try (cases h; done)
          have := leaf_some h
          subst this
          exact ⟨rfl, rfl⟩
      · have := leaf_some h
        subst this
        exact ⟨rfl, rfl⟩
    · have := leaf_some h
      subst this
      exact ⟨rfl, rfl⟩
  simp only [happ]
  generalize appNS s.tmps o.op = nmo at h ⊢
  generalize o.op = op at h ⊢
  cases op with
  | load t y =>
    simp only at h ⊢
    cases hc : clear (pre.getD j 0) (nameS s.tmps y) d.ws <;> rw [hc] at h <;> simp only [cond_true, cond_false] at h ⊢ <;> try (cases h; done)
    have := leaf_some h
    subst this
    exact ⟨rfl, rfl⟩
  | store t y z =>
    simp only at h ⊢
    cases hc : clear (pre.getD j 0) (nameS s.tmps y) d.rs <;> rw [hc] at h <;> simp only [cond_true, cond_false] at h ⊢ <;> try (cases h; done)
    cases hb : barAt ops pre false j ops.size <;> rw [hb] at h <;> simp only [cond_true, cond_false] at h ⊢ <;> try (cases h; done)
    have := leaf_some h
    subst this
    exact ⟨rfl, rfl⟩
  | _ => exact rest nmo h
theorem opDS_ok (hR : R.ok ρ) (hs : Sim ρ recS rec) {n : Nat} {ops : Array Oper} {pre : Array Nat} {j : Nat} {o : Oper} {fs : List X} {s : SSt} {d : Dr} {x : (SSt × Dr) × List X} (hf : Fcs ρ fs) (h : OT.sem ρ (opDS P R recS n ops pre j o fs s d) = some x) :
    opD P rec n ops pre j o (sD ρ s) d = some (sD ρ x.1.1, x.1.2) ∧ Fcs ρ x.2 := by
  unfold opDS at h
  obtain ⟨fs1, l1, w, h1, h2, h3, h4⟩ := retry_some h hf
  obtain ⟨a1, a2⟩ := guardS_ok hR h2 h1
  have hf1 := h3.append h2
  unfold opD
  have a1 : askedA ops (sD ρ s).tmps o = true := a1
  have a2 : wantedA ops (sD ρ s).tmps o = w := a2
  simp only [a1, a2, cond_true]
  have put : ∀ {v : SV} {T : SE} {H : SH} {nx : Nat}, putS n o.dst v s.tmps = some T → stepSt n o.dst (sD ρ s) (some (v.den ρ, hD ρ H, nx)) = some (sD ρ ⟨T, s.defers, H, nx⟩) := by
    intro v T H nx hp
    have := putS_den (ρ := ρ) hp
    simp only [stepSt, sD, this]
  cases w with
  | false =>
    simp only [cond_false] at h4 ⊢
    split at h4 <;> try (cases h4; done)
    rename_i T hp
    have := leaf_some h4
    subst this
    have := put (H := s.heap) (nx := s.next) hp
    rw [den_undef] at this
    refine ⟨?_, hf1⟩
    have e : stepSt n o.dst (sD ρ s) (some (.undef, (sD ρ s).heap, (sD ρ s).next)) = some (sD ρ ⟨T, s.defers, s.heap, s.next⟩) := this
    simp only [e]
  | true =>
    simp only [cond_true] at h4 ⊢
    cases ht : touch o.op with
    | false =>
      simp only [ht, cond_false] at h4 ⊢
      obtain ⟨fs2, l2, v, g1, g2, g3, g4⟩ := retry_some h4 hf1
      split at g4 <;> try (cases g4; done)
      rename_i T hp
      have := leaf_some g4
      subst this
      have hpu := pureS_ok hR g2 g1 g3
      rw [show eD ρ s.tmps = (sD ρ s).tmps.get from rfl, pureE_get] at hpu
      simp only [hpu, Option.map_some]
      refine ⟨?_, g3.append g2⟩
      have e : stepSt n o.dst (sD ρ s) (some (v.den ρ, (sD ρ s).heap, (sD ρ s).next)) = some (sD ρ ⟨T, s.defers, s.heap, s.next⟩) := put hp
      simp only [e]
    | true =>
      simp only [ht, cond_true] at h4 ⊢
      obtain ⟨fs2, l2, r, g1, g2, g3, g4⟩ := retry_some h4 hf1
      obtain ⟨y, k1, k2⟩ := bind_some g4
      have hh := heapS_ok (rec := rec) hR g2 g1 g3
      obtain ⟨m1, m2⟩ := hpS_ok hs (g3.append g2) hh k1
      obtain ⟨q1, q2⟩ := finD_ok k2
      have m1 : heapA P rec (sD ρ s).tmps ⟨(sD ρ s).heap.t, unseen (pre.getD j 0) d.ss (sD ρ s).heap.bad, (sD ρ s).next⟩ (sD ρ s).next o.op = _ := m1
      rw [m1]
      refine ⟨?_, q2 ▸ m2⟩
      rw [← q1]
      rfl
theorem opsDS_ok (hR : R.ok ρ) (hs : Sim ρ recS rec) {n : Nat} {ops : Array Oper} {pre : Array Nat} : ∀ {l : List Oper} {j : Nat} {fs : List X} {s : SSt} {d : Dr} {x : SSt × List X}, Fcs ρ fs → OT.sem ρ (opsDS P R recS n ops pre l j fs s d) = some x →
    opsD P rec n ops pre l j (sD ρ s) d = some (sD ρ x.1) ∧ Fcs ρ x.2
  | [], j, fs, s, d, x, hf, h => by
    simp only [opsDS] at h
    have := leaf_some h
    subst this
    exact ⟨rfl, hf⟩
  | o :: l, j, fs, s, d, x, hf, h => by
    simp only [opsDS] at h
    obtain ⟨y, h1, h2⟩ := bind_some h
    obtain ⟨g1, g2⟩ := opDS_ok hR hs hf h1
    obtain ⟨g3, g4⟩ := opsDS_ok hR hs g2 h2
    exact ⟨by simp only [opsD, g1]; exact g3, g4⟩
theorem ressS_ok (hR : R.ok ρ) {fs : List X} (hf : Fcs ρ fs) {H : SH} {T : SE} : ∀ {rs : List ResultVar} {l : List X} {vs : List SV}, ressS P R H T fs rs = .ok l vs → Fcs ρ l → resultsL P (hD ρ H) (Tr.map (SV.den ρ) T) rs = some (SV.dens ρ vs)
  | [], l, vs, h, _ => by cases h; rfl
  | r :: rs, l, vs, h, hn => by
    simp only [ressS] at h
    split at h <;> try (cases h; done)
    rename_i l1 v l2 vs2 h1 h2
    obtain ⟨rfl, rfl⟩ := PR.ok_inj h
    obtain ⟨n1, n2⟩ := hn.split
    have ih := ressS_ok hR hf h2 n2
    have hr : resultA P (hD ρ H) (Tr.map (SV.den ρ) T) r = some (v.den ρ) := by
      cases r with
      | tmp t =>
        simp only [resS] at h1
        split at h1 <;> cases h1
        rename_i ht
        simp only [resultA, evT_den, ht, Option.map_some]
      | cell a t =>
        simp only [resS] at h1
        split at h1 <;> try (cases h1; done)
        rename_i x hx
        obtain ⟨n, off, g1, g2⟩ := loadS_ok hR hf h1 n1
        simp only [resultA, evT_den, hx, Option.map_some, g1, g2]
    simp only [resultsL, hr, ih, SV.dens]
theorem ressA_ok (hR : R.ok ρ) {fs : List X} (hf : Fcs ρ fs) {H : SH} {T : SE} {rs : List ResultVar} {l : List X} {vs : List SV} (h : ressS P R H T fs rs = .ok l vs) (hn : Fcs ρ l) : resultsA P (hD ρ H) (Tr.map (SV.den ρ) T) rs = some ((one1 vs).den ρ) := by
  have := ressS_ok hR hf h hn
  unfold resultsA
  rw [this]
  cases vs with
  | nil => rfl
  | cons v l => cases l <;> rfl
end
end Sx
end Abs
end Go.Proofs.YtekmmeikkafpmaaGreat

namespace Go.Proofs.YtekmmeikkafpmaaGreat
namespace Abs
namespace Sx
open Go.RowKit
section
variable {P : Program} {ρ : Val} {R : Rgs} {recS : SRec} {rec : Task → Option Res}
theorem condS_ok (hR : R.ok ρ) {fs : List X} (hf : Fcs ρ fs) {T : SE} {c : Operand} {l : List X} {b : Bool} (h : condS R T c fs = .ok l b) : evalO (Tr.map (SV.den ρ) T) c = some (.bool b) := by
  unfold condS at h
  split at h <;> try (cases h; done)
  rename_i x hx
  split at h <;> cases h
  rename_i hb
  simp only [evO_den, hx, Option.map_some, SV.den, X.dec_ok hR hf _ hb]
theorem range_st {round : Option Nat} {s s1 : SSt} {D : Nat} : (match round with
    | none => some (s.next, (⟨s.tmps, .mark s.next :: s.defers, s.heap.lay s.next (.dfr true), s.next + 1⟩ : SSt))
    | some l => match s.heap.get l with
      | some (.loop L) => some (L.defers, s)
      | _ => none) = some (D, s1) → (match round with
    | none => some ((sD ρ s).next, (⟨(sD ρ s).tmps, .mark (sD ρ s).next :: (sD ρ s).defers, (sD ρ s).heap.lay (sD ρ s).next (.dfr true), (sD ρ s).next + 1⟩ : St))
    | some l => match (sD ρ s).heap.get l with
      | some (.loop L) => some (L.defers, sD ρ s)
      | _ => none) = some (D, sD ρ s1) := by
  intro hst
  cases round with
  | none =>
    simp only [Option.some.injEq, Prod.mk.injEq] at hst ⊢
    obtain ⟨rfl, rfl⟩ := hst
    exact ⟨rfl, by simp only [sD, List.map_cons, SDef.den, ← hD_lay, SO.den]⟩
  | some l =>
    simp only at hst ⊢
    split at hst <;> cases hst
    rename_i L1 hL1
    have : (sD ρ s).heap.get l = some (.loop (L1.den ρ)) := hloop hL1
    simp only [this]; rfl
set_option maxHeartbeats 1000000 in
theorem stepS_ok (hR : R.ok ρ) (hs : Sim ρ recS rec) {fs : List X} {t : STask} {x : SRes × List X} (hf : Fcs ρ fs) (h : OT.sem ρ (stepS P R recS fs t) = some x) :
    step P rec (tD ρ t) = some (rD ρ x.1) ∧ Fcs ρ x.2 := by
  cases t with
  | code n round c s =>
    cases c with
    | skip => simp only [stepS] at h; have := leaf_some h; subst this; exact ⟨rfl, hf⟩
    | label l => simp only [stepS] at h; have := leaf_some h; subst this; exact ⟨rfl, hf⟩
    | exit id => simp only [stepS] at h; have := leaf_some h; subst this; exact ⟨rfl, hf⟩
    | goto l => simp only [stepS] at h; have := leaf_some h; subst this; exact ⟨rfl, hf⟩
    | ret => simp only [stepS] at h; have := leaf_some h; subst this; exact ⟨rfl, hf⟩
    | scope c =>
      simp only [stepS] at h
      obtain ⟨⟨r, fs1⟩, h1, h2⟩ := bind_some h
      obtain ⟨g1, g2⟩ := hs.ok _ _ _ _ hf h1
      simp only [tD] at g1
      cases r with
      | call v H nx =>
        have := leaf_some h2; subst this
        exact ⟨by simp only [tD, step, g1, rD], g2⟩
      | code e s1 =>
        cases e with
        | goto j => cases h2
        | _ =>
          have := leaf_some h2; subst this
          exact ⟨by simp only [tD, step, g1, rD], g2⟩
    | refuse w => simp only [stepS] at h; cases h
    | region i ops d =>
      cases d with
      | false =>
        simp only [stepS, OT.sem_map] at h
        cases ho : OT.sem ρ (ops1S P R recS n round ops ops.toList fs s) with
        | none => rw [ho] at h; cases h
        | some y =>
          rw [ho] at h
          cases h
          obtain ⟨g1, g2⟩ := ops1S_ok hR hs hf ho
          exact ⟨by simp only [tD, step, g1]; rfl, g2⟩
      | true =>
        simp only [stepS, OT.sem_map] at h
        cases ho : OT.sem ρ (opsDS P R recS n ops (Region.before ops) ops.toList 0 fs s ⟨[], [], []⟩) with
        | none => rw [ho] at h; cases h
        | some y =>
          rw [ho] at h
          cases h
          obtain ⟨g1, g2⟩ := opsDS_ok hR hs hf ho
          exact ⟨by simp only [tD, step, g1]; rfl, g2⟩
    | seq a b =>
      simp only [stepS] at h
      obtain ⟨⟨r, fs1⟩, h1, h2⟩ := bind_some h
      obtain ⟨g1, g2⟩ := hs.ok _ _ _ _ hf h1
      simp only [tD] at g1
      cases r with
      | call v H nx =>
        have := leaf_some h2; subst this
        exact ⟨by simp only [tD, step, g1, rD], g2⟩
      | code e s1 =>
        cases e with
        | normal =>
          obtain ⟨r2, fs2⟩ := x
          obtain ⟨g3, g4⟩ := hs.ok _ _ _ _ g2 h2
          exact ⟨by simp only [tD, step, g1, rD] at g3 ⊢; exact g3, g4⟩
        | _ =>
          have := leaf_some h2; subst this
          exact ⟨by simp only [tD, step, g1, rD], g2⟩
    | cond c a b =>
      simp only [stepS] at h
      obtain ⟨fs1, l1, w, h1, h2, h3, h4⟩ := retry_some h hf
      have hc := condS_ok hR h2 h1
      obtain ⟨r, fs2⟩ := x
      obtain ⟨g1, g2⟩ := hs.ok _ _ _ _ (h3.append h2) h4
      refine ⟨?_, g2⟩
      have hc : evalO (sD ρ s).tmps c = some (.bool w) := hc
      simp only [tD, step, hc]
      exact g1
    | block id c =>
      simp only [stepS] at h
      obtain ⟨⟨r, fs1⟩, h1, h2⟩ := bind_some h
      obtain ⟨g1, g2⟩ := hs.ok _ _ _ _ hf h1
      simp only [tD] at g1
      cases r with
      | call v H nx =>
        have := leaf_some h2; subst this
        exact ⟨by simp only [tD, step, g1, rD], g2⟩
      | code e s1 =>
        cases e with
        | exit j =>
          simp only at h2
          cases hb : j.beq id <;> rw [hb] at h2 <;> simp only [cond_true, cond_false] at h2
          · have := leaf_some h2; subst this
            exact ⟨by simp only [tD, step, g1, rD, hb, cond_false], g2⟩
          · have := leaf_some h2; subst this
            exact ⟨by simp only [tD, step, g1, rD, hb, cond_true], g2⟩
        | _ =>
          have := leaf_some h2; subst this
          exact ⟨by simp only [tD, step, g1, rD], g2⟩
    | loop c =>
      simp only [stepS] at h
      obtain ⟨⟨r, fs1⟩, h1, h2⟩ := bind_some h
      obtain ⟨g1, g2⟩ := hs.ok _ _ _ _ hf h1
      simp only [tD] at g1
      cases r with
      | call v H nx =>
        have := leaf_some h2; subst this
        exact ⟨by simp only [tD, step, g1, rD], g2⟩
      | code e s1 =>
        cases e with
        | normal =>
          obtain ⟨r2, fs2⟩ := x
          obtain ⟨g3, g4⟩ := hs.ok _ _ _ _ g2 h2
          exact ⟨by simp only [tD, step, g1, rD] at g3 ⊢; exact g3, g4⟩
        | _ =>
          have := leaf_some h2; subst this
          exact ⟨by simp only [tD, step, g1, rD], g2⟩
    | rangeFunc f ps assign body =>
      simp only [stepS] at h
      split at h <;> try (cases h; done)
      rename_i g first cap D s1 hfv hst
      obtain ⟨⟨r, fs1⟩, h1, h2⟩ := bind_some h
      obtain ⟨g1, g2⟩ := hs.ok _ _ _ _ hf h1
      cases r with
      | code e s2 => cases h2
      | call v H nx =>
        simp only at h2
        split at h2 <;> try (cases h2; done)
        rename_i L hL
        have hfv' : evalO (sD ρ s).tmps f = some (.fn g (SV.dens ρ first) (SV.dens ρ cap)) := by
          have := evO_den (ρ := ρ) s.tmps f; rw [hfv] at this; exact this
        have hst' := range_st (ρ := ρ) hst
        have hcall : rec (.call g (SV.dens ρ first ++ [.yield (sD ρ s1).next] ++ SV.dens ρ cap) ((sD ρ s1).heap.lay (sD ρ s1).next (.loop ⟨.ready, none, n, (sD ρ s1).tmps, ps.toList, assign, body, D⟩)) ((sD ρ s1).next + 1)) = some (.call (v.den ρ) (hD ρ H) nx) := by
          have := g1
          simp only [tD, rD, dens_append, SV.dens, SV.den] at this
          rw [← this]
          simp only [sD, ← hD_lay, SO.den, SLoop.den]
        have hL' : (hD ρ H).get (sD ρ s1).next = some (.loop (L.den ρ)) := hloop hL
        have hput : ∀ L3 : SLoop, (hD ρ H).put (sD ρ s1).next (.loop (L3.den ρ)) = hD ρ (H.put s1.next (.loop L3)) := fun L3 => by rw [← hD_put]; rfl
        have fin : ∀ {y : SRes × List X}, L.state ≠ .busy → OT.sem ρ (match L.pending with
              | none => .leaf (.code .normal ⟨s1.tmps, s1.defers, H.put s1.next (.loop { L with state := .exhausted }), nx⟩, fs1)
              | some c => recS fs1 (.code n round c ⟨s1.tmps, s1.defers, H.put s1.next (.loop { L with state := .exhausted }), nx⟩)) = some y →
            (match (L.den ρ).pending with
              | none => some (.code .normal ⟨(sD ρ s1).tmps, (sD ρ s1).defers, (hD ρ H).put (sD ρ s1).next (.loop { L.den ρ with state := .exhausted }), nx⟩)
              | some c => rec (.code n round c ⟨(sD ρ s1).tmps, (sD ρ s1).defers, (hD ρ H).put (sD ρ s1).next (.loop { L.den ρ with state := .exhausted }), nx⟩)) = some (rD ρ y.1) ∧ Fcs ρ y.2 := by
          intro y _ hy
          have hp : (L.den ρ).pending = L.pending := rfl
          rw [hp]
          have he : (hD ρ H).put (sD ρ s1).next (.loop { L.den ρ with state := .exhausted }) = hD ρ (H.put s1.next (.loop { L with state := .exhausted })) := hput { L with state := .exhausted }
          rw [he]
          cases hpd : L.pending with
          | none =>
            rw [hpd] at hy
            have := leaf_some hy; subst this
            exact ⟨rfl, g2⟩
          | some c =>
            rw [hpd] at hy
            obtain ⟨y1, y2⟩ := y
            obtain ⟨q1, q2⟩ := hs.ok _ _ _ _ g2 hy
            exact ⟨q1, q2⟩
        have e0 : (L.den ρ).state = L.state := rfl
        simp only [tD, step, hfv']
        split
        · rename_i g' first' cap' D' s' q1 q2
          cases q1
          have q3 := q2.symm.trans hst'
          cases q3
          simp only [hcall, hL', e0]
          cases hsx : L.state with
          | busy => rw [hsx] at h2; cases h2
          | _ => rw [hsx] at h2; exact fin (by rw [hsx]; simp) h2
        · rename_i q
          exact (q _ _ _ _ _ rfl hst').elim
  | call f args H next =>
    simp only [stepS] at h
    split at h <;> try (cases h; done)
    rename_i fn hfn
    split at h <;> try (cases h; done)
    rename_i c hb
    obtain ⟨⟨r, fs1⟩, h1, h2⟩ := bind_some h
    obtain ⟨g1, g2⟩ := hs.ok _ _ _ _ hf h1
    simp only [tD, sD, List.map_nil, ← ofArgsS_den] at g1
    have hargs : (SV.dens ρ args).length = args.length := dens_length _
    have fin : ∀ (s : SSt), OT.sem ρ ((leaveS recS fs1 s.defers s.heap s.next).bind fun y =>
          retry (fun fs => ressS P R y.1.1 s.tmps fs fn.results.toList) (fun fs vs => .leaf (.call (one1 vs) y.1.1 y.1.2, fs)) rtry y.2) = some x →
        (match leaveA rec (sD ρ s).defers (sD ρ s).heap (sD ρ s).next with
          | some (H, nx) => match resultsA P H (sD ρ s).tmps fn.results.toList with
            | some v => some (Res.call v H nx)
            | none => none
          | none => none) = some (rD ρ x.1) ∧ Fcs ρ x.2 := by
      intro s h
      obtain ⟨y, k1, k2⟩ := bind_some h
      obtain ⟨m1, m2⟩ := leaveS_ok hs g2 k1
      obtain ⟨fs2, l2, vs, q1, q2, q3, q4⟩ := retry_some k2 m2
      have := leaf_some q4; subst this
      have hr := ressA_ok hR q2 q1 q3
      refine ⟨?_, q3.append q2⟩
      have m1 : leaveA rec (sD ρ s).defers (sD ρ s).heap (sD ρ s).next = some (hD ρ y.1.1, y.1.2) := m1
      have hr : resultsA P (hD ρ y.1.1) (sD ρ s).tmps fn.results.toList = some ((one1 vs).den ρ) := hr
      simp only [m1, hr]; rfl
    have g1' : rec (.code (max fn.ntmps (SV.dens ρ args).length) none c ⟨ofArgs (SV.dens ρ args) 0 .nil, [], hD ρ H, next⟩) = some (rD ρ r) := by
      rw [hargs]; exact g1
    cases r with
    | call v H nx => cases h2
    | code e s =>
      cases e with
      | normal => refine ⟨?_, (fin s h2).2⟩; simp only [tD, step, hfn, hb, g1', rD]; exact (fin s h2).1
      | ret => refine ⟨?_, (fin s h2).2⟩; simp only [tD, step, hfn, hb, g1', rD]; exact (fin s h2).1
      | exit j => cases h2
      | goto j => cases h2
  | dcall f args H next =>
    simp only [stepS] at h
    split at h <;> try (cases h; done)
    rename_i fn hfn
    split at h <;> try (cases h; done)
    rename_i c hb
    obtain ⟨⟨r, fs1⟩, h1, h2⟩ := bind_some h
    obtain ⟨g1, g2⟩ := hs.ok _ _ _ _ hf h1
    simp only [tD, sD, List.map_nil, ← ofArgsS_den] at g1
    have hargs : (SV.dens ρ args).length = args.length := dens_length _
    have fin : ∀ (s : SSt), OT.sem ρ (match s.defers with
          | [] => retry (fun fs => ressS P R s.heap s.tmps fs fn.results.toList) (fun fs vs => .leaf (.call (one1 vs) s.heap s.next, fs)) rtry fs1
          | _ => .no) = some x →
        (match (sD ρ s).defers with
          | [] => match resultsA P (sD ρ s).heap (sD ρ s).tmps fn.results.toList with
            | some v => some (Res.call v (sD ρ s).heap (sD ρ s).next)
            | none => none
          | _ => none) = some (rD ρ x.1) ∧ Fcs ρ x.2 := by
      intro s h
      split at h <;> try (cases h; done)
      rename_i hds
      obtain ⟨fs2, l2, vs, q1, q2, q3, q4⟩ := retry_some h g2
      have := leaf_some q4; subst this
      have hr := ressA_ok hR q2 q1 q3
      refine ⟨?_, q3.append q2⟩
      have hds' : (sD ρ s).defers = [] := by simp only [sD, hds, List.map_nil]
      have hr : resultsA P (sD ρ s).heap (sD ρ s).tmps fn.results.toList = some ((one1 vs).den ρ) := hr
      simp only [hds', hr]; rfl
    have g1' : rec (.code (max fn.ntmps (SV.dens ρ args).length) none c ⟨ofArgs (SV.dens ρ args) 0 .nil, [], hD ρ H, next⟩) = some (rD ρ r) := by
      rw [hargs]; exact g1
    cases r with
    | call v H nx => cases h2
    | code e s =>
      cases e with
      | normal => refine ⟨?_, (fin s h2).2⟩; simp only [tD, step, hfn, hb, g1', rD]; exact (fin s h2).1
      | ret => refine ⟨?_, (fin s h2).2⟩; simp only [tD, step, hfn, hb, g1', rD]; exact (fin s h2).1
      | exit j => cases h2
      | goto j => cases h2

structure Cts (P : Program) where
  C : FuncId → List AV → Hp → Nat → Res → Prop
  uniq : ∀ g a H nx r r', C g a H nx r → C g a H nx r' → r = r'
  ok : ∀ g a H nx r, C g a H nx r → TaskOk P (.call g a H nx) r
structure Cts.has (C : Cts P) (ρ : Val) (K : Ctrs) : Prop where
  ok : ∀ g k fs args H nx r fs', K g = some k → Fcs ρ fs → OT.sem ρ (k fs args H nx) = some (r, fs') → C.C g (SV.dens ρ args) (hD ρ H) nx (rD ρ r) ∧ Fcs ρ fs'
open Classical in
noncomputable def runK (P : Program) (C : Cts P) (K : Ctrs) : Nat → Task → Option Res
  | 0, _ => none
  | f + 1, t => match t with
    | .call g a H nx => if (K g).isSome then (if h : ∃ r, C.C g a H nx r then some h.choose else none) else step P (runK P C K f) (.call g a H nx)
    | t => step P (runK P C K f) t
theorem runK_sim {C : Cts P} {K : Ctrs} (hR : R.ok ρ) (hC : C.has ρ K) : ∀ f, Sim ρ (exS P R K f) (runK P C K f)
  | 0 => ⟨fun fs t r fs' _ h => by simp only [exS] at h; cases h⟩
  | f + 1 => ⟨fun fs t r fs' hf h => by
    have ih := runK_sim hR hC f
    cases t with
    | call g args H nx =>
      simp only [exS] at h
      cases hk : K g with
      | none =>
        rw [hk] at h
        obtain ⟨g1, g2⟩ := stepS_ok hR ih hf h
        refine ⟨?_, g2⟩
        simp only [tD] at g1 ⊢
        simp only [runK, hk, Option.isSome_none, Bool.false_eq_true, if_false]
        exact g1
      | some k =>
        rw [hk] at h
        obtain ⟨g1, g2⟩ := hC.ok _ _ _ _ _ _ _ _ hk hf h
        refine ⟨?_, g2⟩
        have hex : ∃ r, C.C g (SV.dens ρ args) (hD ρ H) nx r := ⟨_, g1⟩
        simp only [tD, runK, hk, Option.isSome_some, if_true, dif_pos hex]
        rw [C.uniq _ _ _ _ _ _ hex.choose_spec g1]
    | code n r c s =>
      simp only [exS] at h
      exact stepS_ok hR ih hf h
    | dcall g args H nx =>
      simp only [exS] at h
      exact stepS_ok hR ih hf h⟩
theorem runK_ok {C : Cts P} {K : Ctrs} (hp : progOk P = true) : ∀ f, RecOk P (runK P C K f) := by
  intro f
  induction f with
  | zero => intro t r h; simp [runK] at h
  | succ f ih =>
    intro t r h
    cases t with
    | code n round c s =>
      cases r with
      | code e s' => exact code_ok ih hp h
      | call v H nx => trivial
    | call g args H nx =>
      simp only [runK] at h
      split at h
      · split at h
        · rename_i hex
          cases h
          exact C.ok _ _ _ _ _ hex.choose_spec
        · cases h
      · cases r with
        | code e s' => trivial
        | call v H' nx' => exact call_ok ih hp h
    | dcall g args H nx =>
      cases r with
      | code e s' => trivial
      | call v H' nx' => exact dcall_ok ih hp h
theorem callH_of_ok {g : FuncId} {args : List AV} {H H' : Hp} {nx nx' : Nat} {v : AV} (h : CallOk P g args H nx v H' nx') : CallH P g args H nx (fun w H2 nx2 => w = v ∧ H2 = H' ∧ nx2 = nx') := by
  intro hW
  obtain ⟨hb, ha, hc⟩ := h hW
  refine ⟨hb, fun m W xs hxs hR ht => (hc m W xs hxs hR (fun n hn _ => ht n hn)).mono ?_⟩
  rintro e W' ⟨v', m', rfl, hP, hv⟩
  exact ⟨_, v', H', nx', m', rfl, (Inn.start hR hW ht).step ha hP, hv, rfl, rfl, rfl⟩
theorem tc_of_ok {B : Ent} {n : Nat} {rd : Option Nat} {c : Code} {s s' : St} {e : Ex} {Q : Qc} (h : CodeOk P n rd c s e s') (k : Q e s'.tmps.get s'.defers s'.heap s'.next) : TC P B n rd c s.tmps.get s.defers s.heap s.next Q := by
  refine ⟨?_⟩
  intro hc T hT F m W a A
  obtain ⟨ap, w⟩ := h hc A.inn.ap.wf
  have hTR : TR m n s.tmps a.tmps := ⟨A.tmps.1, fun t => by rw [← hT]; exact A.tmps.2 t⟩
  refine wpC_mono (w m W a F ⟨hTR, A.defers⟩ A.inn.rel (A.inn.fresh _) A.fr) ?_
  rintro ex a' W' ⟨rfl, m', p, sr⟩
  exact ⟨e, s'.tmps, s'.defers, s'.heap, s'.next, m', rfl, ⟨A.inn.step ap p, sr.tmps, sr.defers, A.fr.mono p.le⟩, k⟩
end
end Sx
end Abs
end Go.Proofs.YtekmmeikkafpmaaGreat
