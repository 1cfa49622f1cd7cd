/- Calls by what they promise: where a call stands, and what holds since it began. -/
import Derived.Test.YtanmiffgmiikfaaGreatA5
set_option linter.unusedSimpArgs false
set_option linter.unusedVariables false
namespace Go.Proofs.YtanmiffgmiikfaaGreat
namespace Abs
open Go.RowKit
variable {P : Program}

structure Ent where
  m : NM
  H : Hp
  nx : Nat
  W : World
structure Inn (e : Ent) (m : NM) (H : Hp) (nx : Nat) (W : World) : Prop where
  erel : Rel e.m e.H e.W
  eq : ∀ n, n < e.nx → m n = e.m n
  new : ∀ n k, e.nx ≤ n → m n = some k → e.W.heap.size ≤ k.b ∨ Owns e.m e.H H.wr k.b
  top : ∀ n, nx ≤ n → m n = none
  rel : Rel m H W
  frame : ∀ b, b < e.W.heap.size → ¬ Owns e.m e.H H.wr b → W.heap[b]? = e.W.heap[b]?
  os : W.os = e.W.os
  tape : W.tape = e.W.tape
  output : W.output = e.W.output
  size : e.W.heap.size ≤ W.heap.size
  ap : AP e.H e.nx H nx
section
variable {e : Ent} {m m' : NM} {H H' : Hp} {nx nx' : Nat} {W W' : World}
theorem Inn.le (I : Inn e m H nx W) (n : Nat) (k : Blk) (h1 : n < e.nx) (h2 : e.m n = some k) : m n = some k := (I.eq n h1).trans h2
theorem Owns.low {w w' b : Nat} (h : w' ≤ w) (k : Owns m H w b) : Owns m H w' b := let ⟨i, oi, ki, h1, h2⟩ := k; ⟨i, oi, ki, Nat.le_trans h h1, h2⟩
theorem Inn.owns (I : Inn e m H nx W) {w b : Nat} (hw : w ≤ H.wr) (h : Owns m H w b) : e.W.heap.size ≤ b ∨ Owns e.m e.H w b := by
  obtain ⟨i, oi, ki, h1, h2, h3, h4, rfl⟩ := h
  by_cases hi : i < e.nx
  · obtain ⟨o0, g1, g2⟩ := I.ap.get_old hi h2
    obtain ⟨k0, o, g3, _, _⟩ := I.erel.obj i o0 g1
    have := I.le i k0 hi g3
    rw [h4] at this
    cases this
    exact .inr ⟨i, o0, ki, h1, g1, by rw [g2.1]; exact h3, g3, rfl⟩
  · rcases I.new i ki (by omega) h4 with h | h
    · exact .inl h
    · exact .inr (h.low hw)
theorem Inn.start (hR : Rel m H W) (hW : Wf H nx) (ht : ∀ n, nx ≤ n → m n = none) : Inn ⟨m, H, nx, W⟩ m H nx W :=
  ⟨hR, fun _ _ => rfl, fun n k h1 h2 => (by rw [ht n h1] at h2; cases h2), ht, hR, fun _ _ _ => rfl, rfl, rfl, rfl, Nat.le_refl _, .refl hW⟩
theorem Inn.fresh (I : Inn e m H nx W) (n' : Nat) : Fresh m nx n' := fun n h _ => I.top n h
theorem Inn.step (I : Inn e m H nx W) (a : AP H nx H' nx') (p : Post m H nx W m' H' nx' W') : Inn e m' H' nx' W' where
  erel := I.erel
  eq n h1 := by
    rw [← I.eq n h1]
    cases hm : m n with
    | some k => exact p.le n k hm
    | none =>
      cases hm' : m' n with
      | none => rfl
      | some k =>
        rcases p.new n k hm' with h | ⟨h, _⟩
        · rw [hm] at h; cases h
        · have := I.ap.le; omega
  new n k h1 h2 := by
    rcases p.new n k h2 with h | ⟨_, _, h | h⟩
    · rcases I.new n k h1 h with h | h
      · exact .inl h
      · exact .inr (h.low a.wr)
    · exact .inl (Nat.le_trans I.size h)
    · exact I.owns a.wr h
  top n h := by
    cases hm : m' n with
    | none => rfl
    | some k =>
      rcases p.new n k hm with h1 | ⟨_, h1, _⟩
      · rw [I.top n (Nat.le_trans a.le h)] at h1; cases h1
      · omega
  rel := p.rel
  frame b h1 h2 := by
    rw [p.frame b (Nat.lt_of_lt_of_le h1 I.size) (fun h => ?_), I.frame b h1 (fun h => h2 (h.low a.wr))]
    rcases I.owns a.wr h with h | h
    · omega
    · exact h2 h
  os := p.os.trans I.os
  tape := p.tape.trans I.tape
  output := p.output.trans I.output
  size := Nat.le_trans I.size p.size
  ap := I.ap.trans a
end

structure Stt (B : Ent) (n : Nat) (rd : Option Nat) (F : Fence) (T : Tr AV) (ds : List ADef) (H : Hp) (nx : Nat) (m : NM) (W : World) (a : Act) : Prop where
  inn : Inn B m H nx W
  tmps : TR m n T a.tmps
  defers : DR m ds a.defers
  fr : FR m rd F
section
variable {B : Ent} {n : Nat} {rd : Option Nat} {F : Fence} {T T' : Tr AV} {ds : List ADef} {H H' : Hp} {nx nx' : Nat} {m m' : NM} {W W' : World} {a : Act}
theorem Stt.step (A : Stt B n rd F T ds H nx m W a) (ap : AP H nx H' nx') (p : Post m H nx W m' H' nx' W') : Stt B n rd F T ds H' nx' m' W' a := ⟨A.inn.step ap p, A.tmps.mono p.le, A.defers.mono p.le, A.fr.mono p.le⟩
theorem Stt.put {dst : Option Tmp} {v : AV} {v' : Value} (A : Stt B n rd F T ds H nx m W a) (h : putA n dst v T = some T') (hv : VR m v v') : Stt B n rd F T' ds H nx m W (a.put dst v') :=
  ⟨A.inn, put_tr h A.tmps hv, by have : (a.put dst v').defers = a.defers := by (cases dst <;> simp [Act.put])
                                 rw [this]; exact A.defers, A.fr⟩
end

def CallH (P : Program) (f : FuncId) (args : List AV) (H : Hp) (nx : Nat) (Post : AV → Hp → Nat → Prop) : Prop :=
  Wf H nx → HasBody P f ∧ ∀ m W (xs : Array Value), VRs m args xs.toList → Rel m H W → (∀ n, nx ≤ n → m n = none) →
    Calls P f xs W (fun e W' => ∃ v v' H' nx' m', e = .returned v' ∧ Inn ⟨m, H, nx, W⟩ m' H' nx' W' ∧ VR m' v v' ∧ Post v H' nx')
theorem CallH.mono {f : FuncId} {args : List AV} {H : Hp} {nx : Nat} {Q Q' : AV → Hp → Nat → Prop} (h : CallH P f args H nx Q) (hq : ∀ v H nx, Q v H nx → Q' v H nx) : CallH P f args H nx Q' := fun hW =>
  let ⟨h1, h2⟩ := h hW
  ⟨h1, fun m W xs a b c => (h2 m W xs a b c).mono fun e W' ⟨v, v', H', nx', m', k1, k2, k3, k4⟩ => ⟨v, v', H', nx', m', k1, k2, k3, hq _ _ _ k4⟩⟩
end Abs
end Go.Proofs.YtanmiffgmiikfaaGreat

namespace Go.Proofs.YtanmiffgmiikfaaGreat
namespace Abs
abbrev Env := Nat → Option AV
def Env.set (E : Env) (d : Nat) (v : AV) : Env := fun k => cond (Nat.beq k d) (some v) (E k)
def Env.setO (E : Env) (dst : Option Tmp) (v : AV) : Env := match dst with
  | some d => E.set d v
  | none => E

section ops
variable (P : Program)
def evE (E : Env) : Operand → Option AV
  | .tmp t => E t
  | .const v => ofV 5000 v
  | .global _ => none
  | .func f => some (.fn f [] [])
def evLE (E : Env) : List Operand → Option (List AV)
  | [] => some []
  | x :: xs => match evE E x, evLE E xs with
    | some a, some l => some (a :: l)
    | _, _ => none
def evPE (E : Env) : List (Nat × Operand) → Option (List (Nat × AV))
  | [] => some []
  | (i, x) :: xs => match evE E x, evPE E xs with
    | some a, some l => some ((i, a) :: l)
    | _, _ => none
def optE (E : Env) : Option Operand → Option (Option AV)
  | none => some none
  | some x => match evE E x with
    | some a => some (some a)
    | none => none
def pureE (E : Env) : Op → Option AV
  | .move x | .assign x => evE E x
  | .pick c a b => match evE E c with
    | some (.bool c) => cond c (evE E a) (evE E b)
    | _ => none
  | .build t parts => match zero P t, evPE E parts.toList with
    | some z, some ps => buildA P t z.cells ps
    | _, _ => none
  | .nilCheck x => match evE E x with
    | some (.ptr n off) => some (.ptr n off)
    | some (.fn f a b) => some (.fn f a b)
    | some (.yield l) => some (.yield l)
    | _ => none
  | .binOp op t x y _ => match evE E x, evE E y with
    | some x, some y => binV P op t x y
    | _, _ => none
  | .unOp op _ x => match evE E x with
    | some x => unV op x
    | none => none
  | .convert src dst x => match P.underlying src, P.underlying dst, evE E x with
    | some (.int _), some (.int k), some (.int _ n) => some (.int k (k.wrap n))
    | some .string, some .string, some (.str s) => some (.str s)
    | _, _, _ => none
  | .makeFunc (.func f) first captured => match evLE E first.toList, evLE E captured.toList with
    | some a, some b => some (.fn f a b)
    | _, _ => none
  | .slice t x lo hi none => match P.underlying t, evE E x, optE E lo, optE E hi with
    | some (.slice e), some .nils, some lo, some hi => match bounds 0 0 lo hi, sz P e with
      | some _, some _ => some .nils
      | _, _ => none
    | some (.slice e), some (.slice n off len cap esz ex), some lo, some hi => match bounds len cap lo hi, sz P e with
      | some (l, h), some size => cond (size.beq esz) (some (.slice n (off + l * esz) (h - l) (cap - l) esz ex)) none
      | _, _ => none
    | some (.array len e), some (.ptr n off), some lo, some hi => match bounds len len lo hi, sz P e with
      | some (l, h), some size => some (.slice n (off + l * size) (h - l) (len - l) size true)
      | _, _ => none
    | some .string, some (.str s), some lo, some hi => match bounds s.size s.size lo hi with
      | some (l, h) => some (.str (s.extract l h))
      | none => none
    | _, _, _, _ => none
  | .fieldAddr s x f => match P.underlying s, evE E x with
    | some (.struct fs), some (.ptr n off) => match fs[f]? with
      | some f => match sz P f.type with
        | some (_ + 1) => some (.ptr n (off + f.offset))
        | _ => none
      | none => none
    | _, _ => none
  | .field t x f => match P.underlying t, evE E x with
    | some (.struct fs), some (.agg cs) => match fs[f]? with
      | some f => partT P f.type cs f.offset
      | none => none
    | _, _ => none
  | .indexAddr t x ix => match P.underlying t, evE E x, evE E ix with
    | some (.array len e), some (.ptr n off), some ix => match natOf ix, sz P e with
      | some i, some s => cond (i.blt len) (some (.ptr n (off + i * s))) none
      | _, _ => none
    | some (.slice e), some (.slice n off len _ _ _), some ix => match natOf ix, sz P e with
      | some i, some s => cond (i.blt len) (some (.ptr n (off + i * s))) none
      | _, _ => none
    | _, _, _ => none
  | .index t x ix => match P.underlying t, evE E x, evE E ix with
    | some (.array len e), some (.agg cs), some ix => match natOf ix, sz P e with
      | some i, some s => cond (i.blt len) (partT P e cs (i * s)) none
      | _, _ => none
    | some .string, some (.str s), some ix => match natOf ix with
      | some i => (s[i]?).map fun b => .int .u8 b.toNat
      | none => none
    | _, _, _ => none
  | .extract x i => match evE E x with
    | some (.tuple vs) => vs[i]?
    | _ => none
  | .call { callee := .builtin .max, args, .. } => match evLE E args.toList with
    | some [.int k a, .int _ b] => some (.int k (if b > a then b else a))
    | _ => none
  | .call { callee := .builtin .min, args, .. } => match evLE E args.toList with
    | some [.int k a, .int _ b] => some (.int k (if b < a then b else a))
    | _ => none
  | _ => none


variable {P}
theorem evE_get (T : Tr AV) (x : Operand) : evE T.get x = evalO T x := by cases x <;> rfl
theorem evLE_get (T : Tr AV) : ∀ xs : List Operand, evLE T.get xs = evalL T xs
  | [] => rfl
  | x :: xs => by simp only [evLE, evalL, evE_get, evLE_get T xs]; rfl
theorem evPE_get (T : Tr AV) : ∀ xs : List (Nat × Operand), evPE T.get xs = evalP T xs
  | [] => rfl
  | (i, x) :: xs => by simp only [evPE, evalP, evE_get, evPE_get T xs]; rfl
theorem optE_get (T : Tr AV) (x : Option Operand) : optE T.get x = optO T x := by
  cases x with
  | none => rfl
  | some x => simp only [optE, optO, evE_get]; rfl
theorem pureE_get (T : Tr AV) (o : Op) : pureE P T.get o = pureA P T o := by
  cases o with
  | call c =>
    obtain ⟨callee, args, ats⟩ := c
    cases callee with
    | builtin b => cases b <;> simp only [pureE, pureA, evLE_get] <;> rfl
    | _ => rfl
  | makeFunc f a b => cases f <;> simp only [pureE, pureA, evLE_get] <;> rfl
  | slice t x lo hi mx => cases mx <;> simp only [pureE, pureA, optE_get, evE_get] <;> rfl
  | _ => simp only [pureE, pureA, evE_get, evLE_get, evPE_get, optE_get] <;> rfl

def guardE (ops : Array Oper) (E : Env) (o : Oper) : Option Bool := match o.guard with
  | none => some true
  | some (j, want) => match (ops[j]?).bind (·.dst) with
    | none => some false
    | some t => match E t with
      | some (.bool b) => some (cond b want !want)
      | some _ => some false
      | none => none
def guardSet (set : List Nat) (o : Oper) : Bool := match o.guard with
  | none => true
  | some (j, _) => set.any (Nat.beq j)
def dstLt (n : Nat) (o : Oper) : Bool := match o.dst with
  | none => true
  | some d => d.blt n
def lenE (P : Program) (E : Env) : Op → Option AV
  | .call { callee := .builtin .len, args, argTypes } => match evLE E args.toList, argTypes[0]? with
    | some [x], some t => (match x with
      | .map _ => none
      | x => match lenV P ⟨.nil, [], 0⟩ t x with
        | some k => some (.int .i64 k)
        | none => none)
    | _, _ => none
  | _ => none
end ops
section
variable {P : Program}
inductive Vw where
  | call (g : FuncId) (vs : List AV)
  | yield (r : Nat) (vs : List AV)
  | load (t : TypeId) (n off : Nat)
  | store (size n off : Nat) (cs : List AV)
  | alloc (cs : List AV)
  | row (len size : Nat) (cs : List AV)
  | mk (size l c : Nat) (z : List AV)
  | newMap
  | look (ok : Bool) (m : AV) (k z : AV)
  | upd (r : Nat) (k v : AV)
  | len (t : TypeId) (x : AV)
  | app (t xt : TypeId) (s x : AV)
  | copy (t : TypeId) (s x : AV)
  | defer (f : FuncId) (cap args : List AV)

def view (P : Program) (E : Env) : Op → Option Vw
  | .alloc t => match zero P t with
    | some z => some (.alloc z.cells)
    | none => none
  | .box _ x => match evE E x with
    | some v => some (.alloc v.cells)
    | none => none
  | .buildSlice t len parts => match P.underlying t with
    | some (.slice e) => match sz P e, zero P e, evPE E parts.toList with
      | some size, some z, some ps => cond (z.cells.length.beq size) (cond ((len * size).ble 10000) (
          match fillL (fun i => some (i * size, size)) (repL z.cells len) ps with
          | some cs => some (.row len size cs)
          | none => none) none) none
      | _, _, _ => none
    | _ => none
  | .load t x => match evE E x with
    | some (.ptr n off) => some (.load t n off)
    | _ => none
  | .store t a v => match evE E a, evE E v, sz P t with
    | some (.ptr n off), some v, some size => cond (v.cells.length.beq size) (cond (v.cells.all AV.oneCell) (cond (size.beq 0) none (some (.store size n off v.cells))) none) none
    | _, _, _ => none
  | .makeMap _ none => some .newMap
  | .makeSlice t l c => match P.underlying t, evE E l, evE E c with
    | some (.slice e), some l, some c => match P.info? e, zero P e, natOf l, natOf c with
      | some i, some z, some l, some c => cond (z.cells.length.beq i.size) (cond (l.ble c) (cond (small c i.bytes) (some (.mk i.size l c z.cells)) none) none) none
      | _, _, _, _ => none
    | _, _, _ => none
  | .lookup t x ix ok => match P.underlying t, evE E x, evE E ix with
    | some (.map kt et), some x, some k => cond (keyKind P kt k) (match zero P et with
      | some z => some (.look ok x k z)
      | none => none) none
    | _, _, _ => none
  | .mapUpdate t m k v | .insert t m k v => match P.underlying t, evE E m, evE E k, evE E v with
    | some (.map kt _), some (.map r), some k, some v => cond (keyKind P kt k) (some (.upd r k v)) none
    | _, _, _, _ => none
  | .call { callee := .value f, args, .. } => match evE E f, evLE E args.toList with
    | some (.fn g first cap), some vs => some (.call g (first ++ vs ++ cap))
    | some (.yield l), some vs => some (.yield l vs)
    | _, _ => none
  | .call { callee := .builtin .len, args, argTypes } => match evLE E args.toList, argTypes[0]? with
    | some [x], some t => some (.len t x)
    | _, _ => none
  | .call { callee := .builtin .append, args, argTypes } => match evLE E args.toList, argTypes[0]?, argTypes[1]? with
    | some [s, x], some t, some xt => some (.app t xt s x)
    | _, _, _ => none
  | .call { callee := .builtin .copy, args, argTypes } => match evLE E args.toList, argTypes[0]? with
    | some [s, x], some t => some (.copy t s x)
    | _, _ => none
  | .defer { callee := .value f, args, .. } => match evE E f, evLE E args.toList with
    | some (.fn f first cap), some args => some (.defer f cap (first ++ args))
    | _, _ => none
  | _ => none



def Vw.isDefer : Vw → Bool
  | .defer .. => true
  | _ => false

def manV (man : List Nat) : AV → Bool
  | .slice n .. => man.any (Nat.beq n)
  | .map n => man.any (Nat.beq n)
  | _ => false
def exec (P : Program) (man : List Nat) (H : Hp) (nx : Nat) : Vw → Option (AV × Hp × Nat)
  | .load t n off => cond (man.any (Nat.beq n)) none (match loadT P H t n off with
    | some v => some (v, H, nx)
    | none => none)
  | .store _ n off cs => cond (man.any (Nat.beq n)) none (match H.get n with
    | some (.cells true old) => match setAt old off cs with
      | some new => some (.undef, H.put n (.cells true new), nx)
      | none => none
    | _ => none)
  | .alloc cs => some (.ptr nx 0, H.lay nx (.cells true cs), nx + 1)
  | .row len size cs => some (.slice nx 0 len len size true, H.lay nx (.cells true cs), nx + 1)
  | .mk size l c z => some (.slice nx 0 l c size true, H.lay nx (.cells true (repL z c)), nx + 1)
  | .newMap => some (.map nx, H.lay nx (.map [] 0), nx + 1)
  | .app t xt s x => cond (manV man s || manV man x) none (appendA P t xt s x H nx)
  | .copy t s x => cond (manV man s || manV man x) none (match copyA P t s x H with
    | some (v, H') => some (v, H', nx)
    | none => none)
  | _ => none

inductive Mid where
  | mk (E : Env) (H : Hp) (nx : Nat) (l : List Oper)
def Mid.E : Mid → Env
  | .mk E _ _ _ => E
def Mid.H : Mid → Hp
  | .mk _ H _ _ => H
def Mid.nx : Mid → Nat
  | .mk _ _ nx _ => nx
def Mid.l : Mid → List Oper
  | .mk _ _ _ l => l
def hT (H : Hp) : Tr AObj := match H with
  | ⟨t, _, _⟩ => t
def stepE (P : Program) (man : List Nat) (n : Nat) (ops : Array Oper) (E : Env) (H : Hp) (nx : Nat) (o : Oper) : Option (Env × Hp × Nat) := cond (dstLt n o) (match guardE ops E o with
  | some true => cond (touch o.op) (match lenE P E o.op with
    | some v => some (E.setO o.dst v, H, nx)
    | none => match view P E o.op with
      | some w => match exec P man H nx w with
        | some (v, H', nx') => some (E.setO o.dst v, H', nx')
        | none => none
      | none => none) (match pureE P E o.op with
    | some v => some (E.setO o.dst v, H, nx)
    | none => none)
  | some false => some (E.setO o.dst .undef, H, nx)
  | none => none) none
def auto (P : Program) (man : List Nat) (n : Nat) (ops : Array Oper) (set : List Nat) : List Oper → Env → Hp → Nat → Mid
  | [], E, H, nx => ⟨E, H, nx, []⟩
  | o :: l, E, H, nx => cond (guardSet set o) (match stepE P man n ops E H nx o with
    | some (E', H', nx') => auto P man n ops set l E' H' nx'
    | none => ⟨E, H, nx, o :: l⟩) ⟨E, H, nx, o :: l⟩
def runK (P : Program) (man : List Nat) (n : Nat) (ops : Array Oper) : Nat → List Oper → Env → Hp → Nat → Mid
  | 0, l, E, H, nx => ⟨E, H, nx, l⟩
  | _ + 1, [], E, H, nx => ⟨E, H, nx, []⟩
  | k + 1, o :: l, E, H, nx => match stepE P man n ops E H nx o with
    | some (E', H', nx') => runK P man n ops k l E' H' nx'
    | none => ⟨E, H, nx, o :: l⟩
end
end Abs
end Go.Proofs.YtanmiffgmiikfaaGreat

namespace Go.Proofs.YtanmiffgmiikfaaGreat
namespace Abs
open Go.RowKit
section
variable {P : Program}
abbrev Qo := Env → List ADef → Hp → Nat → Prop
def norec : Task → Option Res := fun _ => none


variable {B : Ent} {man set : List Nat} {n : Nat} {rd : Option Nat} {ops : Array Oper} {l : List Oper} {E : Env} {ds : List ADef} {H : Hp} {nx : Nat} {Q : Qo}
def TO0 (P : Program) (B : Ent) (man set : List Nat) (n : Nat) (rd : Option Nat) (ops : Array Oper) (l : List Oper) (E : Env) (ds : List ADef) (H : Hp) (nx : Nat) (Q : Qo) : Prop :=
  ∀ j, ops.toList.drop j = l → ∀ T, T.get = E → ∀ F m W a, Stt B n rd F T ds H nx m W a → ∀ QQ : Exit → Act → World → Prop,
    (∀ T' ds' H' nx' m' W' a', Stt B n rd F T' ds' H' nx' m' W' a' → Q T'.get ds' H' nx' → QQ .normal a' W') → wpOpsIn F 0 P ops QQ (List.range' j l.length) a W
structure TO (P : Program) (B : Ent) (man set : List Nat) (n : Nat) (rd : Option Nat) (ops : Array Oper) (l : List Oper) (E : Env) (ds : List ADef) (H : Hp) (nx : Nat) (Q : Qo) : Prop where
  run : TO0 P B man set n rd ops l E ds H nx Q

def adv (P : Program) (k : Nat) (man : List Nat) (n : Nat) (ops : Array Oper) (set : List Nat) (l : List Oper) (E : Env) (H : Hp) (nx : Nat) : Mid := match k with
  | 0 => auto P man n ops set l E H nx
  | k + 1 => runK P man n ops k l E H nx

def ask (ops : Array Oper) (M : Mid) : Option (Nat × Tmp × AV) := match M.l with
  | o :: _ => match o.guard with
    | some (j, _) => match (ops[j]?).bind (·.dst) with
      | some d => match M.E d with
        | some v => some (j, d, v)
        | none => none
      | none => none
    | none => none
  | _ => none

def Mid.after (M : Mid) (v : AV) : Env := match M.l with
  | o :: _ => M.E.setO o.dst v
  | _ => M.E
def Mid.rest (M : Mid) : List Oper := M.l.tail


end
end Abs
end Go.Proofs.YtanmiffgmiikfaaGreat

namespace Go.Proofs.YtanmiffgmiikfaaGreat
namespace Abs
open Go.RowKit
section
variable {P : Program} {B : Ent} {n : Nat} {rd : Option Nat} {c : Code} {E : Env} {ds : List ADef} {H : Hp} {nx : Nat}

abbrev Qc := Ex → Env → List ADef → Hp → Nat → Prop
def Rx (B : Ent) (n : Nat) (rd : Option Nat) (F : Fence) (Q : Qc) (ex : Exit) (a' : Act) (W' : World) : Prop := ∃ e T' ds' H' nx' m', ex = Ex.toExit e ∧ Stt B n rd F T' ds' H' nx' m' W' a' ∧ Q e T'.get ds' H' nx'
def TC0 (P : Program) (B : Ent) (n : Nat) (rd : Option Nat) (c : Code) (E : Env) (ds : List ADef) (H : Hp) (nx : Nat) (Q : Qc) : Prop :=
  codeOk c = true → ∀ T : Tr AV, T.get = E → ∀ F m W a, Stt B n rd F T ds H nx m W a → wpC F P (Rx B n rd F Q) a W c

structure TC (P : Program) (B : Ent) (n : Nat) (rd : Option Nat) (c : Code) (E : Env) (ds : List ADef) (H : Hp) (nx : Nat) (Q : Qc) : Prop where
  run : TC0 P B n rd c E ds H nx Q





end
end Abs
end Go.Proofs.YtanmiffgmiikfaaGreat
