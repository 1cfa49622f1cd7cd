/- Calls by what they promise: where a call stands, and what holds since it began. -/
import Derived.Test.YtekmmeikkafpmaaGreatA5
set_option linter.unusedSimpArgs false
set_option linter.unusedVariables false
namespace Go.Proofs.YtekmmeikkafpmaaGreat
namespace Abs
open Go.RowKit
variable {P : Program}

structure Ent where
  m : NM
  H : Hp
  nx : Nat
  W : World
structure Inn (e : Ent) (m : NM) (H : Hp) (nx : Nat) (W : World) : Prop where
  erel : Rel e.m e.H e.W
  eq : ∀ n, n < e.nx → m n = e.m n
  new : ∀ n k, e.nx ≤ n → m n = some k → e.W.heap.size ≤ k.b ∨ Owns e.m e.H H.wr k.b
  top : ∀ n, nx ≤ n → m n = none
  rel : Rel m H W
  frame : ∀ b, b < e.W.heap.size → ¬ Owns e.m e.H H.wr b → W.heap[b]? = e.W.heap[b]?
  os : W.os = e.W.os
  tape : W.tape = e.W.tape
  output : W.output = e.W.output
  size : e.W.heap.size ≤ W.heap.size
  ap : AP e.H e.nx H nx
section
variable {e : Ent} {m m' : NM} {H H' : Hp} {nx nx' : Nat} {W W' : World}
theorem Inn.le (I : Inn e m H nx W) (n : Nat) (k : Blk) (h1 : n < e.nx) (h2 : e.m n = some k) : m n = some k := (I.eq n h1).trans h2
theorem Owns.low {w w' b : Nat} (h : w' ≤ w) (k : Owns m H w b) : Owns m H w' b := let ⟨i, oi, ki, h1, h2⟩ := k; ⟨i, oi, ki, Nat.le_trans h h1, h2⟩
theorem Inn.owns (I : Inn e m H nx W) {w b : Nat} (hw : w ≤ H.wr) (h : Owns m H w b) : e.W.heap.size ≤ b ∨ Owns e.m e.H w b := by
  obtain ⟨i, oi, ki, h1, h2, h3, h4, rfl⟩ := h
  by_cases hi : i < e.nx
  · obtain ⟨o0, g1, g2⟩ := I.ap.get_old hi h2
    obtain ⟨k0, o, g3, _, _⟩ := I.erel.obj i o0 g1
    have := I.le i k0 hi g3
    rw [h4] at this
    cases this
    exact .inr ⟨i, o0, ki, h1, g1, by rw [g2.1]; exact h3, g3, rfl⟩
  · rcases I.new i ki (by omega) h4 with h | h
    · exact .inl h
    · exact .inr (h.low hw)
theorem Inn.start (hR : Rel m H W) (hW : Wf H nx) (ht : ∀ n, nx ≤ n → m n = none) : Inn ⟨m, H, nx, W⟩ m H nx W :=
  ⟨hR, fun _ _ => rfl, fun n k h1 h2 => (by rw [ht n h1] at h2; cases h2), ht, hR, fun _ _ _ => rfl, rfl, rfl, rfl, Nat.le_refl _, .refl hW⟩
theorem Inn.fresh (I : Inn e m H nx W) (n' : Nat) : Fresh m nx n' := fun n h _ => I.top n h
theorem Inn.step (I : Inn e m H nx W) (a : AP H nx H' nx') (p : Post m H nx W m' H' nx' W') : Inn e m' H' nx' W' where
  erel := I.erel
  eq n h1 := by
    rw [← I.eq n h1]
    cases hm : m n with
    | some k => exact p.le n k hm
    | none =>
      cases hm' : m' n with
      | none => rfl
      | some k =>
        rcases p.new n k hm' with h | ⟨h, _⟩
        · rw [hm] at h; cases h
        · have := I.ap.le; omega
  new n k h1 h2 := by
    rcases p.new n k h2 with h | ⟨_, _, h | h⟩
    · rcases I.new n k h1 h with h | h
      · exact .inl h
      · exact .inr (h.low a.wr)
    · exact .inl (Nat.le_trans I.size h)
    · exact I.owns a.wr h
  top n h := by
    cases hm : m' n with
    | none => rfl
    | some k =>
      rcases p.new n k hm with h1 | ⟨_, h1, _⟩
      · rw [I.top n (Nat.le_trans a.le h)] at h1; cases h1
      · omega
  rel := p.rel
  frame b h1 h2 := by
    rw [p.frame b (Nat.lt_of_lt_of_le h1 I.size) (fun h => ?_), I.frame b h1 (fun h => h2 (h.low a.wr))]
    rcases I.owns a.wr h with h | h
    · omega
    · exact h2 h
  os := p.os.trans I.os
  tape := p.tape.trans I.tape
  output := p.output.trans I.output
  size := Nat.le_trans I.size p.size
  ap := I.ap.trans a
end

structure Stt (B : Ent) (n : Nat) (rd : Option Nat) (F : Fence) (T : Tr AV) (ds : List ADef) (H : Hp) (nx : Nat) (m : NM) (W : World) (a : Act) : Prop where
  inn : Inn B m H nx W
  tmps : TR m n T a.tmps
  defers : DR m ds a.defers
  fr : FR m rd F
section
variable {B : Ent} {n : Nat} {rd : Option Nat} {F : Fence} {T T' : Tr AV} {ds : List ADef} {H H' : Hp} {nx nx' : Nat} {m m' : NM} {W W' : World} {a : Act}
theorem Stt.step (A : Stt B n rd F T ds H nx m W a) (ap : AP H nx H' nx') (p : Post m H nx W m' H' nx' W') : Stt B n rd F T ds H' nx' m' W' a := ⟨A.inn.step ap p, A.tmps.mono p.le, A.defers.mono p.le, A.fr.mono p.le⟩
theorem Stt.put {dst : Option Tmp} {v : AV} {v' : Value} (A : Stt B n rd F T ds H nx m W a) (h : putA n dst v T = some T') (hv : VR m v v') : Stt B n rd F T' ds H nx m W (a.put dst v') :=
  ⟨A.inn, put_tr h A.tmps hv, by have : (a.put dst v').defers = a.defers := by (cases dst <;> simp [Act.put])
                                 rw [this]; exact A.defers, A.fr⟩
end

def CallH (P : Program) (f : FuncId) (args : List AV) (H : Hp) (nx : Nat) (Post : AV → Hp → Nat → Prop) : Prop :=
  Wf H nx → HasBody P f ∧ ∀ m W (xs : Array Value), VRs m args xs.toList → Rel m H W → (∀ n, nx ≤ n → m n = none) →
    Calls P f xs W (fun e W' => ∃ v v' H' nx' m', e = .returned v' ∧ Inn ⟨m, H, nx, W⟩ m' H' nx' W' ∧ VR m' v v' ∧ Post v H' nx')
theorem CallH.mono {f : FuncId} {args : List AV} {H : Hp} {nx : Nat} {Q Q' : AV → Hp → Nat → Prop} (h : CallH P f args H nx Q) (hq : ∀ v H nx, Q v H nx → Q' v H nx) : CallH P f args H nx Q' := fun hW =>
  let ⟨h1, h2⟩ := h hW
  ⟨h1, fun m W xs a b c => (h2 m W xs a b c).mono fun e W' ⟨v, v', H', nx', m', k1, k2, k3, k4⟩ => ⟨v, v', H', nx', m', k1, k2, k3, hq _ _ _ k4⟩⟩
end Abs
end Go.Proofs.YtekmmeikkafpmaaGreat

namespace Go.Proofs.YtekmmeikkafpmaaGreat
namespace Abs
abbrev Env := Nat → Option AV
def Env.set (E : Env) (d : Nat) (v : AV) : Env := fun k => cond (Nat.beq k d) (some v) (E k)
def Env.setO (E : Env) (dst : Option Tmp) (v : AV) : Env := match dst with
  | some d => E.set d v
  | none => E
def lk : List (Nat × AV) → Env → Env
  | [], E => E
  | p :: l, E => Env.set (lk l E) p.1 p.2
theorem Tr.get_set_env (T : Tr AV) (d : Nat) (v : AV) : (T.set d v).get = Env.set T.get d v := by
  funext k; simp only [Tr.get_set, Env.set, Bool.cond_eq_ite, Nat.beq_eq]

section ops
variable (P : Program)
def evE (E : Env) : Operand → Option AV
  | .tmp t => E t
  | .const v => ofV 5000 v
  | .global _ => none
  | .func f => some (.fn f [] [])
def evLE (E : Env) : List Operand → Option (List AV)
  | [] => some []
  | x :: xs => match evE E x, evLE E xs with
    | some a, some l => some (a :: l)
    | _, _ => none
def evPE (E : Env) : List (Nat × Operand) → Option (List (Nat × AV))
  | [] => some []
  | (i, x) :: xs => match evE E x, evPE E xs with
    | some a, some l => some ((i, a) :: l)
    | _, _ => none
def optE (E : Env) : Option Operand → Option (Option AV)
  | none => some none
  | some x => match evE E x with
    | some a => some (some a)
    | none => none
def pureE (E : Env) : Op → Option AV
  | .move x | .assign x => evE E x
  | .pick c a b => match evE E c with
    | some (.bool c) => cond c (evE E a) (evE E b)
    | _ => none
  | .build t parts => match zero P t, evPE E parts.toList with
    | some z, some ps => buildA P t z.cells ps
    | _, _ => none
  | .nilCheck x => match evE E x with
    | some (.ptr n off) => some (.ptr n off)
    | some (.fn f a b) => some (.fn f a b)
    | some (.yield l) => some (.yield l)
    | _ => none
  | .binOp op t x y _ => match evE E x, evE E y with
    | some x, some y => binV P op t x y
    | _, _ => none
  | .unOp op _ x => match evE E x with
    | some x => unV op x
    | none => none
  | .convert src dst x => match P.underlying src, P.underlying dst, evE E x with
    | some (.int _), some (.int k), some (.int _ n) => some (.int k (k.wrap n))
    | some .string, some .string, some (.str s) => some (.str s)
    | _, _, _ => none
  | .makeFunc (.func f) first captured => match evLE E first.toList, evLE E captured.toList with
    | some a, some b => some (.fn f a b)
    | _, _ => none
  | .slice t x lo hi none => match P.underlying t, evE E x, optE E lo, optE E hi with
    | some (.slice e), some .nils, some lo, some hi => match bounds 0 0 lo hi, sz P e with
      | some _, some _ => some .nils
      | _, _ => none
    | some (.slice e), some (.slice n off len cap esz ex), some lo, some hi => match bounds len cap lo hi, sz P e with
      | some (l, h), some size => cond (size.beq esz) (some (.slice n (off + l * esz) (h - l) (cap - l) esz ex)) none
      | _, _ => none
    | some (.array len e), some (.ptr n off), some lo, some hi => match bounds len len lo hi, sz P e with
      | some (l, h), some size => some (.slice n (off + l * size) (h - l) (len - l) size true)
      | _, _ => none
    | some .string, some (.str s), some lo, some hi => match bounds s.size s.size lo hi with
      | some (l, h) => some (.str (s.extract l h))
      | none => none
    | _, _, _, _ => none
  | .fieldAddr s x f => match P.underlying s, evE E x with
    | some (.struct fs), some (.ptr n off) => match fs[f]? with
      | some f => match sz P f.type with
        | some (_ + 1) => some (.ptr n (off + f.offset))
        | _ => none
      | none => none
    | _, _ => none
  | .field t x f => match P.underlying t, evE E x with
    | some (.struct fs), some (.agg cs) => match fs[f]? with
      | some f => partT P f.type cs f.offset
      | none => none
    | _, _ => none
  | .indexAddr t x ix => match P.underlying t, evE E x, evE E ix with
    | some (.array len e), some (.ptr n off), some ix => match natOf ix, sz P e with
      | some i, some s => cond (i.blt len) (some (.ptr n (off + i * s))) none
      | _, _ => none
    | some (.slice e), some (.slice n off len _ _ _), some ix => match natOf ix, sz P e with
      | some i, some s => cond (i.blt len) (some (.ptr n (off + i * s))) none
      | _, _ => none
    | _, _, _ => none
  | .index t x ix => match P.underlying t, evE E x, evE E ix with
    | some (.array len e), some (.agg cs), some ix => match natOf ix, sz P e with
      | some i, some s => cond (i.blt len) (partT P e cs (i * s)) none
      | _, _ => none
    | some .string, some (.str s), some ix => match natOf ix with
      | some i => (s[i]?).map fun b => .int .u8 b.toNat
      | none => none
    | _, _, _ => none
  | .extract x i => match evE E x with
    | some (.tuple vs) => vs[i]?
    | _ => none
  | .call { callee := .builtin .max, args, .. } => match evLE E args.toList with
    | some [.int k a, .int _ b] => some (.int k (if b > a then b else a))
    | _ => none
  | .call { callee := .builtin .min, args, .. } => match evLE E args.toList with
    | some [.int k a, .int _ b] => some (.int k (if b < a then b else a))
    | _ => none
  | _ => none


variable {P}
theorem evE_get (T : Tr AV) (x : Operand) : evE T.get x = evalO T x := by cases x <;> rfl
theorem evLE_get (T : Tr AV) : ∀ xs : List Operand, evLE T.get xs = evalL T xs
  | [] => rfl
  | x :: xs => by simp only [evLE, evalL, evE_get, evLE_get T xs]; rfl
theorem evPE_get (T : Tr AV) : ∀ xs : List (Nat × Operand), evPE T.get xs = evalP T xs
  | [] => rfl
  | (i, x) :: xs => by simp only [evPE, evalP, evE_get, evPE_get T xs]; rfl
theorem optE_get (T : Tr AV) (x : Option Operand) : optE T.get x = optO T x := by
  cases x with
  | none => rfl
  | some x => simp only [optE, optO, evE_get]; rfl
theorem pureE_get (T : Tr AV) (o : Op) : pureE P T.get o = pureA P T o := by
  cases o with
  | call c =>
    obtain ⟨callee, args, ats⟩ := c
    cases callee with
    | builtin b => cases b <;> simp only [pureE, pureA, evLE_get] <;> rfl
    | _ => rfl
  | makeFunc f a b => cases f <;> simp only [pureE, pureA, evLE_get] <;> rfl
  | slice t x lo hi mx => cases mx <;> simp only [pureE, pureA, optE_get, evE_get] <;> rfl
  | _ => simp only [pureE, pureA, evE_get, evLE_get, evPE_get, optE_get] <;> rfl

def guardE (ops : Array Oper) (E : Env) (o : Oper) : Option Bool := match o.guard with
  | none => some true
  | some (j, want) => match (ops[j]?).bind (·.dst) with
    | none => some false
    | some t => match E t with
      | some (.bool b) => some (cond b want !want)
      | some _ => some false
      | none => none
def guardSet (set : List Nat) (o : Oper) : Bool := match o.guard with
  | none => true
  | some (j, _) => set.any (Nat.beq j)
def dstLt (n : Nat) (o : Oper) : Bool := match o.dst with
  | none => true
  | some d => d.blt n
def lenE (P : Program) (E : Env) : Op → Option AV
  | .call { callee := .builtin .len, args, argTypes } => match evLE E args.toList, argTypes[0]? with
    | some [x], some t => (match x with
      | .map _ => none
      | x => match lenV P ⟨.nil, [], 0⟩ t x with
        | some k => some (.int .i64 k)
        | none => none)
    | _, _ => none
  | _ => none
end ops
section
variable {P : Program}
theorem lenE_ok {rec : Task → Option Res} {T : Tr AV} {o : Op} {v : AV} (h : lenE P T.get o = some v) (H : Hp) (nx : Nat) : heapA P rec T H nx o = some (v, H, nx) ∧ isDefer o = false ∧ ∀ f args ts, o ≠ .call { callee := .value f, args := args, argTypes := ts } := by
  cases o with
  | call c =>
    obtain ⟨callee, args, ats⟩ := c
    cases callee with
    | builtin b =>
      cases b with
      | len =>
        simp only [lenE, evLE_get] at h
        split at h <;> try (cases h; done)
        rename_i x t h1 h2
        have hl : ∀ k, lenV P ⟨.nil, [], 0⟩ t x = some k → (∀ r, x ≠ .map r) → lenV P H t x = some k := by
          intro k hk hm
          unfold lenV at hk ⊢
          split at hk <;> first | exact hk | (exact absurd rfl (hm _))
        refine ⟨?_, rfl, by simp⟩
        split at h
        · cases h
        · rename_i hm
          split at h <;> cases h
          rename_i k hk
          simp only [heapA, h1, h2, hl k hk (fun r e => hm r e)]
      | _ => simp only [lenE] at h; cases h
    | _ => simp only [lenE] at h; cases h
  | _ => simp only [lenE] at h; cases h
theorem guardE_ok {ops : Array Oper} {T : Tr AV} {o : Oper} {b : Bool} (h : guardE ops T.get o = some b) : askedA ops T o = true ∧ wantedA ops T o = b := by
  unfold guardE at h; unfold askedA wantedA yieldedA
  split at h
  · rename_i hg; rw [hg]; cases h; exact ⟨rfl, rfl⟩
  · rename_i j want hg
    rw [hg]
    simp only
    cases hd : (ops[j]?).bind (·.dst) with
    | none => rw [hd] at h; cases h; exact ⟨rfl, rfl⟩
    | some t =>
      rw [hd] at h
      simp only [Option.bind_some] at h ⊢
      cases ht : T.get t with
      | none => rw [ht] at h; cases h
      | some v =>
        rw [ht] at h
        refine ⟨rfl, ?_⟩
        cases v <;> simp only [Option.some.injEq] at h <;> subst h <;> rfl
theorem putA_ok {n : Nat} {o : Oper} (h : dstLt n o = true) (v : AV) (T : Tr AV) : ∃ T', putA n o.dst v T = some T' ∧ T'.get = Env.setO T.get o.dst v := by
  unfold dstLt at h
  cases hd : o.dst with
  | none => exact ⟨T, rfl, rfl⟩
  | some d =>
    rw [hd] at h
    exact ⟨T.set d v, by simp only [putA, h, cond_true], Tr.get_set_env T d v⟩
inductive Vw where
  | call (g : FuncId) (vs : List AV)
  | yield (r : Nat) (vs : List AV)
  | load (t : TypeId) (n off : Nat)
  | store (size n off : Nat) (cs : List AV)
  | alloc (cs : List AV)
  | row (len size : Nat) (cs : List AV)
  | mk (size l c : Nat) (z : List AV)
  | newMap
  | look (ok : Bool) (m : AV) (k z : AV)
  | upd (r : Nat) (k v : AV)
  | len (t : TypeId) (x : AV)
  | app (t xt : TypeId) (s x : AV)
  | copy (t : TypeId) (s x : AV)
  | defer (f : FuncId) (cap args : List AV)

def view (P : Program) (E : Env) : Op → Option Vw
  | .alloc t => match zero P t with
    | some z => some (.alloc z.cells)
    | none => none
  | .box _ x => match evE E x with
    | some v => some (.alloc v.cells)
    | none => none
  | .buildSlice t len parts => match P.underlying t with
    | some (.slice e) => match sz P e, zero P e, evPE E parts.toList with
      | some size, some z, some ps => cond (z.cells.length.beq size) (cond ((len * size).ble 10000) (
          match fillL (fun i => some (i * size, size)) (repL z.cells len) ps with
          | some cs => some (.row len size cs)
          | none => none) none) none
      | _, _, _ => none
    | _ => none
  | .load t x => match evE E x with
    | some (.ptr n off) => some (.load t n off)
    | _ => none
  | .store t a v => match evE E a, evE E v, sz P t with
    | some (.ptr n off), some v, some size => cond (v.cells.length.beq size) (cond (v.cells.all AV.oneCell) (cond (size.beq 0) none (some (.store size n off v.cells))) none) none
    | _, _, _ => none
  | .makeMap _ none => some .newMap
  | .makeSlice t l c => match P.underlying t, evE E l, evE E c with
    | some (.slice e), some l, some c => match P.info? e, zero P e, natOf l, natOf c with
      | some i, some z, some l, some c => cond (z.cells.length.beq i.size) (cond (l.ble c) (cond (small c i.bytes) (some (.mk i.size l c z.cells)) none) none) none
      | _, _, _, _ => none
    | _, _, _ => none
  | .lookup t x ix ok => match P.underlying t, evE E x, evE E ix with
    | some (.map kt et), some x, some k => cond (keyKind P kt k) (match zero P et with
      | some z => some (.look ok x k z)
      | none => none) none
    | _, _, _ => none
  | .mapUpdate t m k v | .insert t m k v => match P.underlying t, evE E m, evE E k, evE E v with
    | some (.map kt _), some (.map r), some k, some v => cond (keyKind P kt k) (some (.upd r k v)) none
    | _, _, _, _ => none
  | .call { callee := .value f, args, .. } => match evE E f, evLE E args.toList with
    | some (.fn g first cap), some vs => some (.call g (first ++ vs ++ cap))
    | some (.yield l), some vs => some (.yield l vs)
    | _, _ => none
  | .call { callee := .builtin .len, args, argTypes } => match evLE E args.toList, argTypes[0]? with
    | some [x], some t => some (.len t x)
    | _, _ => none
  | .call { callee := .builtin .append, args, argTypes } => match evLE E args.toList, argTypes[0]?, argTypes[1]? with
    | some [s, x], some t, some xt => some (.app t xt s x)
    | _, _, _ => none
  | .call { callee := .builtin .copy, args, argTypes } => match evLE E args.toList, argTypes[0]? with
    | some [s, x], some t => some (.copy t s x)
    | _, _ => none
  | .defer { callee := .value f, args, .. } => match evE E f, evLE E args.toList with
    | some (.fn f first cap), some args => some (.defer f cap (first ++ args))
    | _, _ => none
  | _ => none

def Does (P : Program) (w : Vw) (H : Hp) (nx : Nat) (v : AV) (H' : Hp) (nx' : Nat) : Prop := match w with
  | .call .. | .yield .. => False
  | .load t n off => loadT P H t n off = some v ∧ H' = H ∧ nx' = nx
  | .store _ n off cs => ∃ old new, H.get n = some (.cells true old) ∧ setAt old off cs = some new ∧ v = .undef ∧ H' = H.put n (.cells true new) ∧ nx' = nx
  | .alloc cs => v = .ptr nx 0 ∧ H' = H.lay nx (.cells true cs) ∧ nx' = nx + 1
  | .row len size cs => v = .slice nx 0 len len size true ∧ H' = H.lay nx (.cells true cs) ∧ nx' = nx + 1
  | .mk size l c z => v = .slice nx 0 l c size true ∧ H' = H.lay nx (.cells true (repL z c)) ∧ nx' = nx + 1
  | .newMap => v = .map nx ∧ H' = H.lay nx (.map [] 0) ∧ nx' = nx + 1
  | .look ok m k z => H' = H ∧ nx' = nx ∧ ((m = .nilm ∧ v = cond ok (.tuple [z, .bool false]) z) ∨ ∃ r es c, m = .map r ∧ mapAt H r = some (es, c) ∧
      ((∃ i x, findK k es 0 = some (some (i, x)) ∧ v = cond ok (.tuple [x, .bool true]) x) ∨ (findK k es 0 = some none ∧ v = cond ok (.tuple [z, .bool false]) z)))
  | .upd r k x => v = .undef ∧ nx' = nx ∧ ∃ es c, mapAt H r = some (es, c) ∧ ((∃ i y, findK k es 0 = some (some (i, y)) ∧ H' = H.put r (.map (es.modify i fun e => (k, x, e.2.2)) c)) ∨
      (findK k es 0 = some none ∧ H' = H.put r (.map (es ++ [(k, x, c)]) (c + 1))))
  | .len t x => ∃ n : Nat, lenV P H t x = some n ∧ v = .int .i64 n ∧ H' = H ∧ nx' = nx
  | .app t xt s x => appendA P t xt s x H nx = some (v, H', nx')
  | .copy t s x => copyA P t s x H = some (v, H') ∧ nx' = nx
  | .defer .. => False

theorem does_ok {rec : Task → Option Res} {T : Tr AV} {o : Op} {w : Vw} {H H' : Hp} {nx nx' : Nat} {v : AV} (h : view P T.get o = some w) (hd : Does P w H nx v H' nx') : heapA P rec T H nx o = some (v, H', nx') ∧ ∀ f args ts, o ≠ .call { callee := .value f, args := args, argTypes := ts } := by
  cases o with
  | alloc t =>
    simp only [view] at h; split at h <;> cases h
    rename_i z hz
    obtain ⟨rfl, rfl, rfl⟩ := hd
    exact ⟨by simp only [heapA, hz], by simp⟩
  | box t x =>
    simp only [view, evE_get] at h; split at h <;> cases h
    rename_i z hz
    obtain ⟨rfl, rfl, rfl⟩ := hd
    exact ⟨by simp only [heapA, hz], by simp⟩
  | buildSlice t len parts =>
    simp only [view, evPE_get] at h
    split at h <;> try (cases h; done)
    rename_i e he
    split at h <;> try (cases h; done)
    rename_i size z ps h1 h2 h3
    cases hb : z.cells.length.beq size <;> simp only [hb, cond_true, cond_false] at h <;> try (cases h; done)
    cases hc : (len * size).ble 10000 <;> simp only [hc, cond_true, cond_false] at h <;> try (cases h; done)
    split at h <;> cases h
    rename_i cs hf
    obtain ⟨rfl, rfl, rfl⟩ := hd
    exact ⟨by simp only [heapA, he, h1, h2, h3, hb, hc, hf, cond_true], by simp⟩
  | load t x =>
    simp only [view, evE_get] at h; split at h <;> cases h
    rename_i n off hx
    obtain ⟨h1, rfl, rfl⟩ := hd
    exact ⟨by simp only [heapA, hx, h1], by simp⟩
  | store t a x =>
    simp only [view, evE_get] at h
    split at h <;> try (cases h; done)
    rename_i n off y size h1 h2 h3
    cases hb : y.cells.length.beq size <;> simp only [hb, cond_true, cond_false] at h <;> try (cases h; done)
    cases hc : y.cells.all AV.oneCell <;> simp only [hc, cond_true, cond_false] at h <;> try (cases h; done)
    cases hz : size.beq 0 <;> simp only [hz, cond_true, cond_false] at h <;> cases h
    obtain ⟨old, new, g1, g2, rfl, rfl, rfl⟩ := hd
    exact ⟨by simp only [heapA, h1, h2, h3, cellsW, g1, g2, hb, hc, hz, cond_true, cond_false], by simp⟩
  | makeMap t r =>
    cases r with
    | some _ => simp only [view] at h; cases h
    | none =>
      simp only [view] at h; cases h
      obtain ⟨rfl, rfl, rfl⟩ := hd
      exact ⟨by simp only [heapA], by simp⟩
  | makeSlice t l c =>
    simp only [view, evE_get] at h
    split at h <;> try (cases h; done)
    rename_i e l' c' h1 h2 h3
    split at h <;> try (cases h; done)
    rename_i i z l2 c2 g1 g2 g3 g4
    cases hb : z.cells.length.beq i.size <;> simp only [hb, cond_true, cond_false] at h <;> try (cases h; done)
    cases hc : l2.ble c2 <;> simp only [hc, cond_true, cond_false] at h <;> try (cases h; done)
    cases hz : small c2 i.bytes <;> simp only [hz, cond_true, cond_false] at h <;> cases h
    obtain ⟨rfl, rfl, rfl⟩ := hd
    exact ⟨by simp only [heapA, h1, h2, h3, g1, g2, g3, g4, hb, hc, hz, cond_true], by simp⟩
  | lookup t x ix ok =>
    simp only [view, evE_get] at h
    split at h <;> try (cases h; done)
    rename_i kt et x' k h1 h2 h3
    cases hb : keyKind P kt k <;> simp only [hb, cond_true, cond_false] at h <;> try (cases h; done)
    split at h <;> cases h
    rename_i z hz
    obtain ⟨rfl, rfl, ⟨rfl, rfl⟩ | ⟨r, es, c, rfl, g1, ⟨i, x, g2, rfl⟩ | ⟨g2, rfl⟩⟩⟩ := hd
    · exact ⟨by simp only [heapA, h1, h2, h3, fndA, hb, hz, cond_true, findK], by simp⟩
    · exact ⟨by simp only [heapA, h1, h2, h3, fndA, hb, hz, cond_true, g1, g2], by simp⟩
    · exact ⟨by simp only [heapA, h1, h2, h3, fndA, hb, hz, cond_true, g1, g2], by simp⟩
  | mapUpdate t m k x =>
    simp only [view, evE_get] at h
    split at h <;> try (cases h; done)
    rename_i kt et r k' x' h1 h2 h3 h4
    cases hb : keyKind P kt k' <;> simp only [hb, cond_true, cond_false] at h <;> cases h
    obtain ⟨rfl, rfl, es, c, g1, ⟨i, y, g2, rfl⟩ | ⟨g2, rfl⟩⟩ := hd
    · exact ⟨by simp only [heapA, h1, h2, h3, h4, fndA, hb, cond_true, g1, g2], by simp⟩
    · exact ⟨by simp only [heapA, h1, h2, h3, h4, fndA, hb, cond_true, g1, g2], by simp⟩
  | insert t m k x =>
    simp only [view, evE_get] at h
    split at h <;> try (cases h; done)
    rename_i kt et r k' x' h1 h2 h3 h4
    cases hb : keyKind P kt k' <;> simp only [hb, cond_true, cond_false] at h <;> cases h
    obtain ⟨rfl, rfl, es, c, g1, ⟨i, y, g2, rfl⟩ | ⟨g2, rfl⟩⟩ := hd
    · exact ⟨by simp only [heapA, h1, h2, h3, h4, fndA, hb, cond_true, g1, g2], by simp⟩
    · exact ⟨by simp only [heapA, h1, h2, h3, h4, fndA, hb, cond_true, g1, g2], by simp⟩
  | defer c =>
    obtain ⟨callee, args, ats⟩ := c
    cases callee with
    | value f =>
      simp only [view] at h
      split at h <;> cases h
      exact hd.elim
    | _ => simp only [view] at h; cases h
  | call c =>
    obtain ⟨callee, args, ats⟩ := c
    cases callee with
    | value f =>
      simp only [view, evE_get, evLE_get] at h
      split at h <;> cases h <;> exact hd.elim
    | builtin b =>
      cases b with
      | len =>
        simp only [view, evLE_get] at h
        split at h <;> cases h
        rename_i x t h1 h2
        obtain ⟨k, g1, rfl, rfl, rfl⟩ := hd
        exact ⟨by simp only [heapA, h1, h2, g1], by simp⟩
      | append =>
        simp only [view, evLE_get] at h
        split at h <;> cases h
        rename_i s x t xt h1 h2 h3
        simp only [Does] at hd
        exact ⟨by simp only [heapA, h1, h2, h3, hd], by simp⟩
      | copy =>
        simp only [view, evLE_get] at h
        split at h <;> cases h
        rename_i s x t h1 h2
        obtain ⟨g1, rfl⟩ := hd
        exact ⟨by simp only [heapA, h1, h2, g1], by simp⟩
      | _ => simp only [view] at h; cases h
    | _ => simp only [view] at h; cases h
  | _ => simp only [view] at h; cases h

def Vw.isDefer : Vw → Bool
  | .defer .. => true
  | _ => false
theorem view_defer {E : Env} {o : Op} {w : Vw} (h : view P E o = some w) : isDefer o = w.isDefer := by
  cases o with
  | call c =>
    obtain ⟨callee, args, ats⟩ := c
    cases callee with
    | builtin b =>
      cases b <;> simp only [view] at h <;> first | (cases h; done) | (split at h <;> cases h <;> rfl)
    | value f => simp only [view] at h; split at h <;> cases h <;> rfl
    | invoke _ _ => simp only [view] at h; cases h
  | defer c =>
    obtain ⟨callee, args, ats⟩ := c
    cases callee with
    | value f => simp only [view] at h; split at h <;> cases h <;> rfl
    | _ => simp only [view] at h; cases h
  | buildSlice t len parts =>
    simp only [view] at h
    split at h <;> try (cases h; done)
    split at h <;> try (cases h; done)
    rename_i size z ps _ _ _
    cases hb : z.cells.length.beq size <;> simp only [hb, cond_true, cond_false] at h <;> try (cases h; done)
    cases hc : (len * size).ble 10000 <;> simp only [hc, cond_true, cond_false] at h <;> try (cases h; done)
    split at h <;> cases h; rfl
  | store t a x =>
    simp only [view] at h
    split at h <;> try (cases h; done)
    rename_i n off y size h1 h2 h3
    cases hb : y.cells.length.beq size <;> simp only [hb, cond_true, cond_false] at h <;> try (cases h; done)
    cases hc : y.cells.all AV.oneCell <;> simp only [hc, cond_true, cond_false] at h <;> try (cases h; done)
    cases hz : size.beq 0 <;> simp only [hz, cond_true, cond_false] at h <;> cases h; rfl
  | makeMap t r => cases r <;> simp only [view] at h <;> cases h; rfl
  | makeSlice t l c =>
    simp only [view] at h
    split at h <;> try (cases h; done)
    split at h <;> try (cases h; done)
    rename_i i z l2 c2 g1 g2 g3 g4
    cases hb : z.cells.length.beq i.size <;> simp only [hb, cond_true, cond_false] at h <;> try (cases h; done)
    cases hc : l2.ble c2 <;> simp only [hc, cond_true, cond_false] at h <;> try (cases h; done)
    cases hz : small c2 i.bytes <;> simp only [hz, cond_true, cond_false] at h <;> cases h; rfl
  | lookup t x ix ok =>
    simp only [view] at h
    split at h <;> try (cases h; done)
    rename_i kt et x' k h1 h2 h3
    cases hb : keyKind P kt k <;> simp only [hb, cond_true, cond_false] at h <;> try (cases h; done)
    split at h <;> cases h; rfl
  | mapUpdate t m k x =>
    simp only [view] at h
    split at h <;> try (cases h; done)
    rename_i kt et r k' x' h1 h2 h3 h4
    cases hb : keyKind P kt k' <;> simp only [hb, cond_true, cond_false] at h <;> cases h; rfl
  | insert t m k x =>
    simp only [view] at h
    split at h <;> try (cases h; done)
    rename_i kt et r k' x' h1 h2 h3 h4
    cases hb : keyKind P kt k' <;> simp only [hb, cond_true, cond_false] at h <;> cases h; rfl
  | _ => simp only [view] at h <;> first | (cases h; done) | (split at h <;> cases h <;> rfl)

def manV (man : List Nat) : AV → Bool
  | .slice n .. => man.any (Nat.beq n)
  | .map n => man.any (Nat.beq n)
  | _ => false
def exec (P : Program) (man : List Nat) (H : Hp) (nx : Nat) : Vw → Option (AV × Hp × Nat)
  | .load t n off => cond (man.any (Nat.beq n)) none (match loadT P H t n off with
    | some v => some (v, H, nx)
    | none => none)
  | .store _ n off cs => cond (man.any (Nat.beq n)) none (match H.get n with
    | some (.cells true old) => match setAt old off cs with
      | some new => some (.undef, H.put n (.cells true new), nx)
      | none => none
    | _ => none)
  | .alloc cs => some (.ptr nx 0, H.lay nx (.cells true cs), nx + 1)
  | .row len size cs => some (.slice nx 0 len len size true, H.lay nx (.cells true cs), nx + 1)
  | .mk size l c z => some (.slice nx 0 l c size true, H.lay nx (.cells true (repL z c)), nx + 1)
  | .newMap => some (.map nx, H.lay nx (.map [] 0), nx + 1)
  | .app t xt s x => cond (manV man s || manV man x) none (appendA P t xt s x H nx)
  | .copy t s x => cond (manV man s || manV man x) none (match copyA P t s x H with
    | some (v, H') => some (v, H', nx)
    | none => none)
  | _ => none
theorem exec_does {man : List Nat} {w : Vw} {H H' : Hp} {nx nx' : Nat} {v : AV} (h : exec P man H nx w = some (v, H', nx')) : Does P w H nx v H' nx' := by
  cases w with
  | load t n off =>
    simp only [exec, Bool.cond_eq_ite] at h
    split at h <;> try (cases h; done)
    split at h <;> cases h
    rename_i hl
    exact ⟨hl, rfl, rfl⟩
  | store size n off cs =>
    simp only [exec, Bool.cond_eq_ite] at h
    split at h <;> try (cases h; done)
    split at h <;> try (cases h; done)
    rename_i old hg
    split at h <;> cases h
    rename_i new hs
    exact ⟨old, new, hg, hs, rfl, rfl, rfl⟩
  | alloc cs => simp only [exec, Option.some.injEq, Prod.mk.injEq] at h; obtain ⟨rfl, rfl, rfl⟩ := h; exact ⟨rfl, rfl, rfl⟩
  | row len size cs => simp only [exec, Option.some.injEq, Prod.mk.injEq] at h; obtain ⟨rfl, rfl, rfl⟩ := h; exact ⟨rfl, rfl, rfl⟩
  | mk size l c z => simp only [exec, Option.some.injEq, Prod.mk.injEq] at h; obtain ⟨rfl, rfl, rfl⟩ := h; exact ⟨rfl, rfl, rfl⟩
  | newMap => simp only [exec, Option.some.injEq, Prod.mk.injEq] at h; obtain ⟨rfl, rfl, rfl⟩ := h; exact ⟨rfl, rfl, rfl⟩
  | app t xt s x =>
    simp only [exec, Bool.cond_eq_ite] at h
    split at h
    · cases h
    · exact h
  | copy t s x =>
    simp only [exec, Bool.cond_eq_ite] at h
    split at h <;> try (cases h; done)
    split at h <;> cases h
    rename_i hc
    exact ⟨hc, rfl⟩
  | _ => simp only [exec] at h; cases h

inductive Mid where
  | mk (E : Env) (H : Hp) (nx : Nat) (l : List Oper)
def Mid.E : Mid → Env
  | .mk E _ _ _ => E
def Mid.H : Mid → Hp
  | .mk _ H _ _ => H
def Mid.nx : Mid → Nat
  | .mk _ _ nx _ => nx
def Mid.l : Mid → List Oper
  | .mk _ _ _ l => l
def hT (H : Hp) : Tr AObj := match H with
  | ⟨t, _, _⟩ => t
def stepE (P : Program) (man : List Nat) (n : Nat) (ops : Array Oper) (E : Env) (H : Hp) (nx : Nat) (o : Oper) : Option (Env × Hp × Nat) := cond (dstLt n o) (match guardE ops E o with
  | some true => cond (touch o.op) (match lenE P E o.op with
    | some v => some (E.setO o.dst v, H, nx)
    | none => match view P E o.op with
      | some w => match exec P man H nx w with
        | some (v, H', nx') => some (E.setO o.dst v, H', nx')
        | none => none
      | none => none) (match pureE P E o.op with
    | some v => some (E.setO o.dst v, H, nx)
    | none => none)
  | some false => some (E.setO o.dst .undef, H, nx)
  | none => none) none
def auto (P : Program) (man : List Nat) (n : Nat) (ops : Array Oper) (set : List Nat) : List Oper → Env → Hp → Nat → Mid
  | [], E, H, nx => ⟨E, H, nx, []⟩
  | o :: l, E, H, nx => cond (guardSet set o) (match stepE P man n ops E H nx o with
    | some (E', H', nx') => auto P man n ops set l E' H' nx'
    | none => ⟨E, H, nx, o :: l⟩) ⟨E, H, nx, o :: l⟩
def runK (P : Program) (man : List Nat) (n : Nat) (ops : Array Oper) : Nat → List Oper → Env → Hp → Nat → Mid
  | 0, l, E, H, nx => ⟨E, H, nx, l⟩
  | _ + 1, [], E, H, nx => ⟨E, H, nx, []⟩
  | k + 1, o :: l, E, H, nx => match stepE P man n ops E H nx o with
    | some (E', H', nx') => runK P man n ops k l E' H' nx'
    | none => ⟨E, H, nx, o :: l⟩
end
end Abs
end Go.Proofs.YtekmmeikkafpmaaGreat

namespace Go.Proofs.YtekmmeikkafpmaaGreat
namespace Abs
open Go.RowKit
section
variable {P : Program}
abbrev Qo := Env → List ADef → Hp → Nat → Prop
def norec : Task → Option Res := fun _ => none
theorem norec_ok : RecOk P norec := fun _ _ h => by cases h

theorem stepE_ok {man : List Nat} {n : Nat} {rd : Option Nat} {ops : Array Oper} {T : Tr AV} {o : Oper} {E' : Env} {ds : List ADef} {H H' : Hp} {nx nx' : Nat} (h : stepE P man n ops T.get H nx o = some (E', H', nx')) :
    ∃ T', op1 P norec n rd ops o ⟨T, ds, H, nx⟩ = some ⟨T', ds, H', nx'⟩ ∧ T'.get = E' := by
  unfold stepE at h
  cases hd : dstLt n o with
  | false => rw [hd] at h; cases h
  | true =>
    rw [hd] at h
    simp only [cond_true] at h
    cases hg : guardE ops T.get o with
    | none => rw [hg] at h; cases h
    | some b =>
      obtain ⟨hk, hw⟩ := guardE_ok hg
      rw [hg] at h
      cases b with
      | false =>
        obtain ⟨T', h1, h2⟩ := putA_ok hd .undef T
        cases h
        exact ⟨T', by simp only [op1, hk, hw, cond_true, cond_false, stepSt, h1], h2⟩
      | true =>
        cases ht : touch o.op with
        | true =>
          simp only [ht, cond_true] at h
          cases hp : lenE P T.get o.op with
          | some v =>
            simp only [hp] at h
            obtain ⟨T', h1, h2⟩ := putA_ok hd v T
            cases h
            obtain ⟨h3, h4, _⟩ := lenE_ok (rec := norec) hp H nx
            exact ⟨T', by simp only [op1, hk, hw, ht, h3, h4, cond_true, cond_false, stepSt, h1], h2⟩
          | none =>
            simp only [hp] at h
            cases hv : view P T.get o.op with
            | none => simp [hv] at h
            | some w =>
              simp only [hv] at h
              cases he : exec P man H nx w with
              | none => simp [he] at h
              | some r =>
                obtain ⟨v, H1, nx1⟩ := r
                simp only [he] at h
                obtain ⟨T', h1, h2⟩ := putA_ok hd v T
                cases h
                have hdo := exec_does he
                obtain ⟨h3, _⟩ := does_ok (rec := norec) hv hdo
                have h4 : isDefer o.op = false := by rw [view_defer hv]; cases w <;> first | rfl | exact hdo.elim
                exact ⟨T', by simp only [op1, hk, hw, ht, h3, h4, cond_true, cond_false, stepSt, h1], h2⟩
        | false =>
          simp only [ht, cond_false] at h
          cases hp : pureE P T.get o.op with
          | none => simp [hp] at h
          | some v =>
            simp only [hp] at h
            obtain ⟨T', h1, h2⟩ := putA_ok hd v T
            cases h
            rw [pureE_get] at hp
            exact ⟨T', by simp only [op1, hk, hw, ht, cond_true, cond_false, hp, Option.map_some, stepSt, h1], h2⟩

variable {B : Ent} {man set : List Nat} {n : Nat} {rd : Option Nat} {ops : Array Oper} {l : List Oper} {E : Env} {ds : List ADef} {H : Hp} {nx : Nat} {Q : Qo}
def TO0 (P : Program) (B : Ent) (man set : List Nat) (n : Nat) (rd : Option Nat) (ops : Array Oper) (l : List Oper) (E : Env) (ds : List ADef) (H : Hp) (nx : Nat) (Q : Qo) : Prop :=
  ∀ j, ops.toList.drop j = l → ∀ T, T.get = E → ∀ F m W a, Stt B n rd F T ds H nx m W a → ∀ QQ : Exit → Act → World → Prop,
    (∀ T' ds' H' nx' m' W' a', Stt B n rd F T' ds' H' nx' m' W' a' → Q T'.get ds' H' nx' → QQ .normal a' W') → wpOpsIn F 0 P ops QQ (List.range' j l.length) a W
structure TO (P : Program) (B : Ent) (man set : List Nat) (n : Nat) (rd : Option Nat) (ops : Array Oper) (l : List Oper) (E : Env) (ds : List ADef) (H : Hp) (nx : Nat) (Q : Qo) : Prop where
  run : TO0 P B man set n rd ops l E ds H nx Q
theorem to_cons {o : Oper} (Q1 : Qo)
    (h1 : ∀ T, T.get = E → ∀ F m W a, Stt B n rd F T ds H nx m W a → ∀ (next : Act → World → Prop) (QQ : Exit → Act → World → Prop),
      (∀ T1 ds1 H1 nx1 m1 W1 a1, Stt B n rd F T1 ds1 H1 nx1 m1 W1 a1 → Q1 T1.get ds1 H1 nx1 → next a1 W1) → (if Region.wanted o (yielded ops a.tmps) then o.wpIn F 0 P a W next QQ else (∀ f, o.about P W a.eval = some f → F.fn f) ∧ next (a.put o.dst undef) W))
    (h2 : ∀ E1 ds1 H1 nx1, Q1 E1 ds1 H1 nx1 → TO P B man set n rd ops l E1 ds1 H1 nx1 Q) : TO P B man set n rd ops (o :: l) E ds H nx Q := by
  refine ⟨?_⟩
  intro j hd T hT F m W a A QQ hQ
  have hoj : ops[j]? = some o := by
    have : (ops.toList.drop j)[0]? = some o := by rw [hd]; rfl
    rw [List.getElem?_drop] at this
    simpa using this
  have hd' : ops.toList.drop (j + 1) = l := by
    have : (ops.toList.drop j).drop 1 = l := by rw [hd]; rfl
    rw [List.drop_drop] at this
    exact this
  rw [List.length_cons, List.range'_succ, wpOpsIn_cons]
  unfold wpOpIn
  simp only [hoj]
  exact h1 T hT F m W a A _ QQ (fun T1 ds1 H1 nx1 m1 W1 a1 A1 q1 => (h2 _ _ _ _ q1).run (j + 1) hd' T1 rfl F m1 W1 a1 A1 QQ hQ)
theorem to_op1 {o : Oper} {E' : Env} {ds' : List ADef} {H' : Hp} {nx' : Nat} (h : ∀ T, T.get = E → ∃ T', op1 P norec n rd ops o ⟨T, ds, H, nx⟩ = some ⟨T', ds', H', nx'⟩ ∧ T'.get = E')
    (k : TO P B man set n rd ops l E' ds' H' nx' Q) : TO P B man set n rd ops (o :: l) E ds H nx Q := by
  refine to_cons (fun E1 ds1 H1 nx1 => E1 = E' ∧ ds1 = ds' ∧ H1 = H' ∧ nx1 = nx') ?_ (fun E1 ds1 H1 nx1 ⟨e1, e2, e3, e4⟩ => by subst e1 e2 e3 e4; exact k)
  intro T hT F m W a A next QQ hn
  obtain ⟨T', h1, h2⟩ := h T hT
  obtain ⟨ap, w⟩ := op1_ok norec_ok A.inn.ap.wf h1
  refine w m W a F ⟨A.tmps, A.defers⟩ A.inn.rel (A.inn.fresh _) A.fr next QQ (fun a' m' W' p sr => ?_)
  exact hn T' ds' H' nx' m' W' a' ⟨A.inn.step ap p, sr.tmps, sr.defers, A.fr.mono p.le⟩ ⟨h2, rfl, rfl, rfl⟩

theorem to_auto : ∀ {l : List Oper} {E : Env} {H : Hp} {nx : Nat}, TO P B man set n rd ops (auto P man n ops set l E H nx).l (auto P man n ops set l E H nx).E ds (auto P man n ops set l E H nx).H (auto P man n ops set l E H nx).nx Q → TO P B man set n rd ops l E ds H nx Q
  | [], E, H, nx, h => h
  | o :: l, E, H, nx, h => by
    unfold auto at h
    cases hs : guardSet set o with
    | false => rw [hs] at h; exact h
    | true =>
      rw [hs] at h
      simp only [cond_true] at h
      cases hp : stepE P man n ops E H nx o with
      | none => rw [hp] at h; exact h
      | some r =>
        obtain ⟨E', H', nx'⟩ := r
        rw [hp] at h
        exact to_op1 (fun T hT => by subst hT; exact stepE_ok hp) (to_auto h)
theorem to_run : ∀ (k : Nat) {l : List Oper} {E : Env} {H : Hp} {nx : Nat}, TO P B man set n rd ops (runK P man n ops k l E H nx).l (runK P man n ops k l E H nx).E ds (runK P man n ops k l E H nx).H (runK P man n ops k l E H nx).nx Q → TO P B man set n rd ops l E ds H nx Q
  | 0, _, _, _, _, h => h
  | _ + 1, [], _, _, _, h => h
  | k + 1, o :: l, E, H, nx, h => by
    unfold runK at h
    cases hp : stepE P man n ops E H nx o with
    | none => rw [hp] at h; exact h
    | some r =>
      obtain ⟨E', H', nx'⟩ := r
      rw [hp] at h
      exact to_op1 (fun T hT => by subst hT; exact stepE_ok hp) (to_run k h)
def adv (P : Program) (k : Nat) (man : List Nat) (n : Nat) (ops : Array Oper) (set : List Nat) (l : List Oper) (E : Env) (H : Hp) (nx : Nat) : Mid := match k with
  | 0 => auto P man n ops set l E H nx
  | k + 1 => runK P man n ops k l E H nx
theorem to_adv (k : Nat) {l : List Oper} {E : Env} {H : Hp} {nx : Nat} (h : TO P B man set n rd ops (adv P k man n ops set l E H nx).l (adv P k man n ops set l E H nx).E ds (adv P k man n ops set l E H nx).H (adv P k man n ops set l E H nx).nx Q) : TO P B man set n rd ops l E ds H nx Q := by
  cases k with
  | zero => exact to_auto h
  | succ k => exact to_run k h
def noE : Env := fun _ => none
def trOf : List (Nat × AV) → Tr AV
  | [] => .nil
  | p :: l => (trOf l).set p.1 p.2
theorem trOf_get : ∀ L : List (Nat × AV), (trOf L).get = lk L noE
  | [] => rfl
  | p :: L => by simp only [trOf, lk, Tr.get_set_env, trOf_get L]
theorem to_end (M : Mid) (hM : auto P man n ops set l E H nx = M) (h : M.l = []) (k : Q M.E ds M.H M.nx) : TO P B man set n rd ops l E ds H nx Q := by
  refine to_auto ?_
  rw [hM, h]
  refine ⟨?_⟩
  intro j hd T hT F m W a A QQ hQ
  simp only [List.length_nil, List.range'_zero]
  unfold wpOpsIn
  exact hQ T ds M.H M.nx m W a A (by rw [hT]; exact k)

def ask (ops : Array Oper) (M : Mid) : Option (Nat × Tmp × AV) := match M.l with
  | o :: _ => match o.guard with
    | some (j, _) => match (ops[j]?).bind (·.dst) with
      | some d => match M.E d with
        | some v => some (j, d, v)
        | none => none
      | none => none
    | none => none
  | _ => none

def hdV (P : Program) (n : Nat) (ops : Array Oper) (M : Mid) : Option Vw := match M.l with
  | o :: _ => cond (dstLt n o) (match guardE ops M.E o with
    | some true => view P M.E o.op
    | _ => none) none
  | _ => none
def Mid.after (M : Mid) (v : AV) : Env := match M.l with
  | o :: _ => M.E.setO o.dst v
  | _ => M.E
def Mid.rest (M : Mid) : List Oper := M.l.tail


def CallIn (P : Program) (B : Ent) (g : FuncId) (vs : List AV) (H : Hp) (nx : Nat) (R : AV → Hp → Nat → Prop) : Prop :=
  Wf H nx → HasBody P g ∧ ∀ m W (xs : Array Value), Inn B m H nx W → VRs m vs xs.toList → Calls P g xs W (fun e W' => ∃ v v' H' nx' m', e = .returned v' ∧ Le m m' ∧ Inn B m' H' nx' W' ∧ VR m' v v' ∧ R v H' nx')
theorem to_call0 (x : Nat) {g : FuncId} {vs : List AV} {R : AV → Hp → Nat → Prop} {H0 : Hp} {nx0 : Nat} (hc : CallIn P B g vs H0 nx0 R) (hv : (hdV P n ops (adv P x man n ops set l E H nx), (adv P x man n ops set l E H nx).H, (adv P x man n ops set l E H nx).nx) = (some (.call g vs), H0, nx0))
    (k : ∀ v H' nx', R v H' nx' → TO P B man set n rd ops (adv P x man n ops set l E H nx).rest ((adv P x man n ops set l E H nx).after v) ds H' nx' Q) : TO P B man set n rd ops l E ds H nx Q := by
  refine to_adv x ?_
  generalize adv P x man n ops set l E H nx = M at hv k
  obtain ⟨E1, H1, nx1, l1⟩ := M
  simp only [Prod.mk.injEq, hdV, Mid.E, Mid.H, Mid.nx, Mid.l] at hv
  simp only [Mid.E, Mid.H, Mid.nx, Mid.l]
  obtain ⟨hv, rfl, rfl⟩ := hv
  cases l1 with
  | nil => simp at hv
  | cons o l1 =>
    simp only at hv
    simp only [Mid.rest, Mid.after, Mid.l, Mid.E, List.tail_cons] at k
    cases hl : dstLt n o <;> simp only [hl, cond_true, cond_false] at hv <;> try (cases hv; done)
    split at hv <;> try (cases hv; done)
    rename_i hg
    refine to_cons (fun E2 ds2 H2 nx2 => ∃ v, E2 = E1.setO o.dst v ∧ ds2 = ds ∧ R v H2 nx2) ?_ (fun E2 ds2 H2 nx2 ⟨v, e1, e2, r⟩ => by subst e1 e2; exact k v H2 nx2 r)
    intro T hT F m W a A next QQ hn
    subst hT
    obtain ⟨hk, hw⟩ := guardE_ok hg
    have hwant : Region.wanted o (yielded ops a.tmps) = true := by rw [← wanted_ok hk (fun g w t _ _ => A.tmps.2 t)]; exact hw
    rw [if_pos hwant]
    obtain ⟨hb, hcall⟩ := hc A.inn.ap.wf
    have hev := ev_of A.tmps o.op.operands
    obtain ⟨dst, op, ty, pos, aft, gd⟩ := o
    simp only at hv hev hl ⊢
    cases op <;> simp only [view, evE_get, evLE_get, evPE_get] at hv
    case call c =>
      obtain ⟨callee, args, ats⟩ := c
      cases callee with
      | value f =>
        simp only [view, evE_get, evLE_get] at hv
        split at hv <;> cases hv
        have h1 := ‹evalO T f = some (AV.fn _ _ _)›
        have h2 := ‹evalL T args.toList = some _›
        have r1 := hev f (by simp [Op.operands, Call.operands]) _ h1
        have r2 := evalL_ok (m := m) (ρ := a.eval) (fun y hy v hv => hev y (by simp [Op.operands, Call.operands]; right; simpa using hy) v hv) h2
        rw [← Array.toList_map] at r2
        simp only [VR] at r1
        obtain ⟨xs, ys, e1, e2, e3⟩ := r1
        have hx : (execOp a.eval ⟨dst, .call { callee := .value f, args := args, argTypes := ats }, ty, pos, aft, gd⟩).run P W = .ok (.enter g (xs ++ args.map a.eval ++ ys)) W := by
          simp only [execOp, resolve, e1, Deferred.ofValue, Sem.run_bind, Sem.run_pure, Result.andThen_ok, invoke]
          exact hb.call _ _
        refine wp_call A.fr (by simp) hx (hcall m W _ A.inn ?_) ?_
        · simp only [Array.toList_append]; exact (e2.append r2).append e3
        · rintro e W' ⟨v, v', H', nx', m', rfl, hle, I', hv', hr⟩
          obtain ⟨T', h3, h4⟩ := putA_ok hl v T
          exact ⟨v', rfl, hn T' ds H' nx' m' W' _ (Stt.put ⟨I', A.tmps.mono hle, A.defers.mono hle, A.fr.mono hle⟩ h3 hv') ⟨v, h4, rfl, hr⟩⟩
      | builtin b => cases b <;> simp only [view] at hv <;> first | (cases hv; done) | (split at hv <;> cases hv)
      | invoke _ _ => simp only [view] at hv; cases hv
    case defer c =>
      obtain ⟨callee, args, ats⟩ := c
      cases callee with
      | value f => simp only [view] at hv; split at hv <;> cases hv
      | _ => simp only [view] at hv; cases hv
    case makeMap t r => cases r <;> simp only [view] at hv <;> cases hv
    all_goals (repeat' first | (cases hv; done) | split at hv)
    all_goals simp only [Bool.cond_eq_ite] at hv
    all_goals (repeat' first | (cases hv; done) | split at hv)
end
end Abs
end Go.Proofs.YtekmmeikkafpmaaGreat

namespace Go.Proofs.YtekmmeikkafpmaaGreat
namespace Abs
open Go.RowKit
section
variable {P : Program} {B : Ent} {n : Nat} {rd : Option Nat} {c : Code} {E : Env} {ds : List ADef} {H : Hp} {nx : Nat}

abbrev Qc := Ex → Env → List ADef → Hp → Nat → Prop
def Rx (B : Ent) (n : Nat) (rd : Option Nat) (F : Fence) (Q : Qc) (ex : Exit) (a' : Act) (W' : World) : Prop := ∃ e T' ds' H' nx' m', ex = Ex.toExit e ∧ Stt B n rd F T' ds' H' nx' m' W' a' ∧ Q e T'.get ds' H' nx'
def TC0 (P : Program) (B : Ent) (n : Nat) (rd : Option Nat) (c : Code) (E : Env) (ds : List ADef) (H : Hp) (nx : Nat) (Q : Qc) : Prop :=
  codeOk c = true → ∀ T : Tr AV, T.get = E → ∀ F m W a, Stt B n rd F T ds H nx m W a → wpC F P (Rx B n rd F Q) a W c

structure TC (P : Program) (B : Ent) (n : Nat) (rd : Option Nat) (c : Code) (E : Env) (ds : List ADef) (H : Hp) (nx : Nat) (Q : Qc) : Prop where
  run : TC0 P B n rd c E ds H nx Q

def cA : Code → Code
  | .seq a _ => a
  | .cond _ a _ => a
  | .block _ c => c
  | .loop c => c
  | .rangeFunc _ _ _ b => b
  | c => c
def cB : Code → Code
  | .seq _ b => b
  | .cond _ _ b => b
  | .rangeFunc _ _ a _ => a
  | c => c
def cOps : Code → Array Oper
  | .region _ ops _ => ops
  | _ => #[]
def kind : Code → Nat
  | .skip => 0
  | .label _ => 0
  | .region _ _ false => 1
  | .region _ _ true => 2
  | .seq _ _ => 3
  | .cond _ _ _ => 4
  | .block _ _ => 5
  | .loop _ => 6
  | .rangeFunc _ _ _ _ => 7
  | .exit _ => 8
  | .ret => 9
  | .goto _ => 10
  | _ => 11
def cId : Code → Nat
  | .block i _ => i
  | .exit i => i
  | .goto i => i
  | _ => 0
def condE (E : Env) : Code → Option AV
  | .cond x _ _ => evE E x
  | _ => none
def rangeE (E : Env) : Code → Option AV
  | .rangeFunc x _ _ _ => evE E x
  | _ => none
def rangePs : Code → List Tmp
  | .rangeFunc _ ps _ _ => ps.toList
  | _ => []

theorem wpC_imp {F : Fence} {Q Q' : Exit → Act → World → Prop} {a : Act} {w : World} {c : Code} (h : c.wpIn F 0 P Q a w) (hl : ∀ c', c ≠ .loop c') : wpC F P Q a w c := by
  cases c <;> first | exact h | exact absurd rfl (hl _)
theorem tc_mono {Q Q' : Qc} (h : TC P B n rd c E ds H nx Q) (hq : ∀ e E ds H nx, Q e E ds H nx → Q' e E ds H nx) : TC P B n rd c E ds H nx Q' :=
  ⟨fun hc T hT F m W a A => wpC_mono (h.run hc T hT F m W a A) (fun _ _ _ ⟨e, T', ds', H', nx', m', h1, h2, h3⟩ => ⟨e, T', ds', H', nx', m', h1, h2, hq _ _ _ _ _ h3⟩)⟩

def Qseq (P : Program) (B : Ent) (n : Nat) (rd : Option Nat) (c : Code) (Q : Qc) : Qc := fun e E ds H nx => match e with
  | .normal => TC P B n rd c E ds H nx Q
  | e => Q e E ds H nx
def Qblk (id : Nat) (Q : Qc) : Qc := fun e E ds H nx => match e with
  | .exit j => cond (Nat.beq j id) (Q .normal E ds H nx) (Q (.exit j) E ds H nx)
  | e => Q e E ds H nx

theorem tc_reg0 {Q : Qc} (man : List Nat) (h : kind c = 1) (k : TO P B man [] n rd (cOps c) (cOps c).toList E ds H nx (Q .normal)) : TC P B n rd c E ds H nx Q := by
  refine ⟨?_⟩
  intro hc T hT F m W a A; clear hc
  cases c <;> simp only [kind] at h <;> try (cases h; done)
  rename_i i ops d
  cases d <;> simp only [kind] at h <;> try (cases h; done)
  simp only [cOps] at k
  have := k.run 0 rfl T hT F m W a A (Rx B n rd F Q) (fun T' ds' H' nx' m' W' a' A' q => ⟨.normal, T', ds', H', nx', m', rfl, A', q⟩)
  refine wpIn_region ?_
  rw [List.range_eq_range']
  rwa [Array.length_toList] at this
theorem tc_seq {Q : Qc} (h : kind c = 3) (k : TC P B n rd (cA c) E ds H nx (Qseq P B n rd (cB c) Q)) : TC P B n rd c E ds H nx Q := by
  refine ⟨?_⟩
  intro hc T hT F m W a A
  cases c <;> simp only [kind] at h <;> try (cases h; done)
  · rename_i ops d; cases d <;> simp [kind] at h
  rename_i x y
  simp only [codeOk, Bool.and_eq_true] at hc
  simp only [cA, cB] at k
  refine wpIn_seq (wpIn_mono (wpC_wpIn (k.run hc.1 T hT F m W a A)) ?_)
  rintro ex a' W' ⟨e, T', ds', H', nx', m', rfl, A', q⟩
  cases e with
  | normal => exact wpC_wpIn (q.run hc.2 T' rfl F m' W' a' A')
  | _ => exact ⟨_, T', ds', H', nx', m', rfl, A', q⟩
theorem tc_cond {Q : Qc} (b : Bool) (h : (kind c, condE E c) = (4, some (.bool b))) (k1 : b = true → TC P B n rd (cA c) E ds H nx Q) (k0 : b = false → TC P B n rd (cB c) E ds H nx Q) : TC P B n rd c E ds H nx Q := by
  refine ⟨?_⟩
  intro hc T hT F m W a A; subst hT
  cases c <;> simp only [kind, condE, Prod.mk.injEq] at h <;> try (exact absurd h.1 (by decide))
  · rename_i ops d; cases d <;> simp [kind] at h
  rename_i x y z
  have hx := h.2
  rw [evE_get] at hx
  simp only [codeOk, Bool.and_eq_true] at hc
  have he : a.eval x = .bool b := by
    have := ev_of A.tmps #[x] x (by simp) _ hx
    simpa only [VR] using this
  refine wpIn_cond he ?_
  cases b with
  | true => exact wpC_wpIn ((k1 rfl).run hc.1 T rfl F m W a A)
  | false => exact wpC_wpIn ((k0 rfl).run hc.2 T rfl F m W a A)
theorem tc_block {Q : Qc} (h : kind c = 5) (k : TC P B n rd (cA c) E ds H nx (Qblk (cId c) Q)) : TC P B n rd c E ds H nx Q := by
  refine ⟨?_⟩
  intro hc T hT F m W a A
  cases c <;> simp only [kind] at h <;> try (cases h; done)
  · rename_i ops d; cases d <;> simp [kind] at h
  rename_i i x
  simp only [codeOk] at hc
  simp only [cA, cId] at k
  refine wpIn_block (wpIn_mono (wpC_wpIn (k.run hc T hT F m W a A)) ?_)
  rintro ex a' W' ⟨e, T', ds', H', nx', m', rfl, A', q⟩
  cases e with
  | exit j =>
    simp only [Qblk] at q
    by_cases hj : j = i
    · subst hj
      rw [show Nat.beq j j = true by simp] at q
      simp only [Ex.toExit, Exit.inBlock, if_true]
      exact ⟨.normal, T', ds', H', nx', m', rfl, A', q⟩
    · rw [show Nat.beq j i = false by cases hb : Nat.beq j i with | false => rfl | true => exact absurd (Nat.eq_of_beq_eq_true hb) hj] at q
      simp only [Ex.toExit, Exit.inBlock, if_neg hj]
      exact ⟨.exit j, T', ds', H', nx', m', rfl, A', q⟩
  | normal => exact ⟨_, T', ds', H', nx', m', rfl, A', q⟩
  | goto t => exact ⟨_, T', ds', H', nx', m', rfl, A', q⟩
  | ret => exact ⟨_, T', ds', H', nx', m', rfl, A', q⟩

def argsE (args : List AV) : Env := fun k => args[k]?
theorem args_get (vs : List AV) : (ofArgs vs 0 .nil).get = argsE vs := by
  funext k; rw [ofArgs_get]; simp only [argsE, Nat.zero_le, true_and, Nat.zero_add, Nat.sub_zero]
  split
  · rfl
  · rw [List.getElem?_eq_none (by omega)]; rfl
def resE (P : Program) (H : Hp) (E : Env) : ResultVar → Option AV
  | .tmp t => E t
  | .cell a t => match E a with
    | some (.ptr n off) => loadT P H t n off
    | _ => none
def ressL (P : Program) (H : Hp) (E : Env) : List ResultVar → Option (List AV)
  | [] => some []
  | r :: rs => match resE P H E r, ressL P H E rs with
    | some a, some l => some (a :: l)
    | _, _ => none
def ressE (P : Program) (H : Hp) (E : Env) (rs : List ResultVar) : Option AV := match ressL P H E rs with
  | some [v] => some v
  | some vs => some (.tuple vs)
  | none => none
theorem ress_get (T : Tr AV) (rs : List ResultVar) : ressE P H T.get rs = resultsA P H T rs := by
  have : ∀ rs : List ResultVar, ressL P H T.get rs = resultsL P H T rs := by
    intro rs
    induction rs with
    | nil => rfl
    | cons r rs ih => simp only [ressL, resultsL, ih]; cases r <;> rfl
  simp only [ressE, resultsA, this]; rfl
def Qfun (P : Program) (rs : List ResultVar) (Post : AV → Hp → Nat → Prop) : Qc := fun e E ds H nx => match e with
  | .normal | .ret => ∃ H2 nx2, leaveA norec ds H nx = some (H2, nx2) ∧ ∃ v, ressE P H2 E rs = some v ∧ Post v H2 nx2
  | _ => False
theorem call_intro (hp : progOk P = true) {f : FuncId} {fn : Func} {args : List AV} {Post : AV → Hp → Nat → Prop} (hf : P.funcs[f]? = some fn) (hb : fn.body = some c)
    (k : ∀ m0 W0, TC P ⟨m0, H, nx, W0⟩ (max fn.ntmps args.length) none c (argsE args) [] H nx (Qfun P fn.results.toList Post)) : CallH P f args H nx Post := by
  intro hW
  obtain ⟨hc, hbody⟩ := progOk_fn hp hf hb
  refine ⟨hbody, fun m W xs hxs hR ht => ?_⟩
  refine (callsIn_wide (n := 0)).1 (callsIn_of_wp_marks hf hb trivial ?_)
  have I0 := Inn.start hR hW ht
  refine wpIn_mono (wpC_wpIn ((k m W).run hc _ (args_get args) Fence.wide m W ⟨xs ++ Array.replicate (fn.ntmps - xs.size) undef, []⟩ ⟨I0, enter_tr hxs, rfl, rfl⟩)) ?_
  rintro ex a' W' ⟨e, T', ds', H', nx', m', rfl, A', q⟩
  have fin : (∃ H2 nx2, leaveA norec ds' H' nx' = some (H2, nx2) ∧ ∃ v, ressE P H2 T'.get fn.results.toList = some v ∧ Post v H2 nx2) →
      LeavesInM Fence.wide 0 P fn a'.tmps (fun e W' => ∃ v v' H' nx' m', e = .returned v' ∧ Inn ⟨m, H, nx, W⟩ m' H' nx' W' ∧ VR m' v v' ∧ Post v H' nx') a'.defers .returning W' := by
    rintro ⟨H2, nx2, hl, v, hrs, hP⟩
    obtain ⟨a2, w2⟩ := leave_ok norec_ok A'.inn.ap.wf hl
    refine w2 m' W' _ A'.defers A'.inn.rel (A'.inn.fresh _) fn a'.tmps _ (fun m2 W2 p2 => ?_)
    rw [ress_get] at hrs
    obtain ⟨v', h1, h2⟩ := results_ok p2.rel (A'.tmps.mono p2.le) hrs
    exact ⟨v', h2, v, v', H2, nx2, m2, rfl, A'.inn.step a2 p2, h1, hP⟩
  cases e with
  | normal => exact fin q
  | ret => exact fin q
  | exit j => exact q.elim
  | goto t => exact q.elim
theorem qfun_ret {rs : List ResultVar} {Post : AV → Hp → Nat → Prop} {v : AV} (h : ressE P H E rs = some v) (k : Post v H nx) : Qfun P rs Post .ret E [] H nx := ⟨H, nx, rfl, v, h, k⟩
theorem qfun_end {rs : List ResultVar} {Post : AV → Hp → Nat → Prop} {v : AV} (h : ressE P H E rs = some v) (k : Post v H nx) : Qfun P rs Post .normal E [] H nx := ⟨H, nx, rfl, v, h, k⟩
end
end Abs
end Go.Proofs.YtekmmeikkafpmaaGreat
