/- Forms of states, with unknowns of their own: which state is of a form. -/
import Derived.Test.YtanmiffgmiikfaaGreatS3
set_option linter.unusedSimpArgs false
set_option linter.unusedVariables false
namespace Go.Proofs.YtanmiffgmiikfaaGreat
namespace Abs
namespace Sx
open Go.RowKit
def lkX : List (Nat × X) → Nat → Option X
  | [], _ => none
  | p :: l, i => cond (Nat.beq p.1 i) (some p.2) (lkX l i)
def X.isL : X → Bool
  | .nil => true
  | .cons _ _ => true
  | _ => false
def X.one (x : X) : X := cond x.isL (.lit 0) x
def mk1 (o : Bo) (a b : X) : X := cond (mk o a b).isL (.bin o a b) (mk o a b)
def Val.upd (ρ : Val) (l : List (Nat × X)) : Val := ⟨fun i => match lkX l i with
  | some x => x.one.den ρ
  | none => ρ.v i, ρ.fn⟩
def X.sub (l : List (Nat × X)) : X → X
  | .lit n => .lit n
  | .var i => match lkX l i with
    | some x => x.one
    | none => .var i
  | .bin o a b => mk1 o (X.sub l a) (X.sub l b)
  | .not a => .not (X.sub l a)
  | .ite c a b => .ite (X.sub l c) (X.sub l a) (X.sub l b)
  | .wrap k a => .wrap k (X.sub l a)
  | .app f a => .app f (X.sub l a)
  | .nil => .nil
  | .cons a b => .cons (X.sub l a) (X.sub l b)
def X.free (ids : List Nat) : X → Bool
  | .lit _ => true
  | .var i => !(ids.any (Nat.beq i))
  | .bin _ a b => cond (X.free ids a) (X.free ids b) false
  | .not a => X.free ids a
  | .ite c a b => cond (X.free ids c) (cond (X.free ids a) (X.free ids b) false) false
  | .wrap _ a => X.free ids a
  | .app _ a => X.free ids a
  | .nil => true
  | .cons a b => cond (X.free ids a) (X.free ids b) false
structure Agree (ids : List Nat) (ρ ρ' : Val) : Prop where
  v : ∀ i, i ∉ ids → ρ'.v i = ρ.v i
  fn : ρ'.fn = ρ.fn
section
variable {ρ ρ' : Val}
theorem X.sem_one {x : X} (h : x.isL = false) (ρ : Val) : x.sem ρ = [x.den ρ] := by cases x <;> first | rfl | cases h
theorem X.one_sem (x : X) (ρ : Val) : x.one.sem ρ = [x.one.den ρ] := by
  apply X.sem_one
  unfold X.one
  cases h : x.isL with
  | true => rfl
  | false => exact h
theorem mk1_sem (o : Bo) (a b : X) (ρ : Val) : (mk1 o a b).sem ρ = [o.ev (a.den ρ) (b.den ρ)] := by
  unfold mk1
  cases h : (mk o a b).isL with
  | true => rfl
  | false => rw [cond_false, X.sem_one h, mk_den]
end

def nmO (b : Nat) (K : List (Nat × Nat × Nat)) (n n' : Nat) : Bool := cond (n.blt b) (Nat.beq n n') (match sg K n with
  | some (p, o) => cond (Nat.beq p n') (Nat.beq o 0) false
  | none => false)
section
variable (R : Rgs) (fs : List X) (b : Nat) (K : List (Nat × Nat × Nat)) (l : List (Nat × X))
def cmBeq : List Cmp → List Cmp → Bool
  | [], [] => true
  | .int k f :: l, .int k' f' :: l' => cond (ikBeq k k') (cond (Nat.beq f f') (cmBeq l l') false) false
  | .bool f :: l, .bool f' :: l' => cond (Nat.beq f f') (cmBeq l l') false
  | _, _ => false
end
def tplT : List (Nat × SO) → Tr SO
  | [] => .nil
  | p :: l => (tplT l).set p.1 p.2
section
variable {R : Rgs} {fs : List X} {b : Nat} {K : List (Nat × Nat × Nat)} {l : List (Nat × X)} {ρ : Val}
theorem cmBeq_eq : ∀ {a c : List Cmp}, cmBeq a c = true → a = c
  | [], [], _ => rfl
  | [], _ :: _, h => by cases h
  | .int k f :: l, [], h => by cases h
  | .bool f :: l, [], h => by cases h
  | .int k f :: l, .int k' f' :: l', h => by
    simp only [cmBeq] at h
    obtain ⟨h1, h2⟩ := cond_true_false h
    obtain ⟨h2, h3⟩ := cond_true_false h2
    rw [ikBeq_eq h1, Nat.eq_of_beq_eq_true h2, cmBeq_eq h3]
  | .bool f :: l, .bool f' :: l', h => by
    simp only [cmBeq] at h
    obtain ⟨h1, h2⟩ := cond_true_false h
    rw [Nat.eq_of_beq_eq_true h1, cmBeq_eq h2]
  | .int k f :: l, .bool f' :: l', h => by cases h
  | .bool f :: l, .int k f' :: l', h => by cases h
theorem rowD_plain {cm : List Cmp} {q : List Int} : ∀ (n i : Nat), (rowD ρ cm q i n).all plain = true
  | 0, _ => rfl
  | n + 1, i => by
    simp only [rowD, List.all_append, rowD_plain n (i + 1), Bool.and_true, List.all_map, List.all_eq_true]
    intro c _; cases c <;> rfl
theorem rowD_fn {cm : List Cmp} {q : List Int} {ρ ρ' : Val} (h : ρ'.fn = ρ.fn) : ∀ (n i : Nat), rowD ρ' cm q i n = rowD ρ cm q i n
  | 0, _ => rfl
  | n + 1, i => by
    simp only [rowD, rowD_fn h n (i + 1)]
    congr 1
    apply List.map_congr_left
    intro c _; cases c <;> simp only [Cmp.den, h]
end
end Sx
end Abs
end Go.Proofs.YtanmiffgmiikfaaGreat

namespace Go.Proofs.YtanmiffgmiikfaaGreat
namespace Abs
namespace Sx
open Go.RowKit
structure Tpl where
  ids : List Nat
  sl : List (Nat × SV)
  ob : List (Nat × SO)
  ds : List SDef
  nx : Nat
  fs : List X
  it : Option FuncId := none
def trS : List (Nat × SV) → SE
  | [] => .nil
  | p :: l => (trS l).set p.1 p.2
def Tpl.st (T : Tpl) : SSt := ⟨trS T.sl, T.ds, ⟨tplT T.ob, [], 0⟩, T.nx⟩
inductive LT (α : Type) where
  | no
  | leaf (a : α)
  | ask (b : X) (t f : LT α)
  | need (l : List X) (t : LT α)
  | loop (j : Nat) (inst : List (Nat × X)) (t : LT α)
  | back (j : Nat) (inst : List (Nat × X))
def LT.map {α β : Type} (f : α → β) : LT α → LT β
  | .no => .no
  | .leaf a => .leaf (f a)
  | .ask b t u => .ask b (t.map f) (u.map f)
  | .need l t => .need l (t.map f)
  | .loop j i t => .loop j i (t.map f)
  | .back j i => .back j i
structure Cx where
  b : Nat
  n : Nat
  rd : Option Nat
  rc : Option (Nat × SLoop)
inductive Fr where
  | seq (b : Code) (pos : Nat)
  | blk (id : Nat)
  | lp (j : Nat)
  | un (a : Code) (pos : Nat)
  | it (x : Cx) (T : SE) (ds : List SDef) (l o : Nat)
  | cl (x : Cx) (ops : Array Oper) (rest : List Oper) (dst : Option Tmp) (T : SE) (ds : List SDef) (rs : List ResultVar) (o : Nat)
inductive LTask where
  | go (c : Code) (pos : Nat) (s : SSt) (K : List Fr)
  | nx (e : Ex) (s : SSt) (K : List Fr)
  | ops (ops : Array Oper) (l : List Oper) (s : SSt) (K : List Fr)
mutual
def svFree (ids : List Nat) : SV → Bool
  | .int _ x => x.free ids
  | .bool x => x.free ids
  | .eptr _ i _ _ => i.free ids
  | .slice _ _ eo len cap _ _ => cond (eo.free ids) (cond (len.free ids) (cap.free ids) false) false
  | .fn _ a c => cond (svsFree ids a) (svsFree ids c) false
  | .agg a => svsFree ids a
  | .tuple a => svsFree ids a
  | _ => true
def svsFree (ids : List Nat) : List SV → Bool
  | [] => true
  | v :: l => cond (svFree ids v) (svsFree ids l) false
end
def trFree (ids : List Nat) : Tr SV → Bool
  | .nil => true
  | .node v l r => cond (match v with | some v => svFree ids v | none => true) (cond (trFree ids l) (trFree ids r) false) false
section
variable {ρ ρ' : Val} {ids : List Nat}
end
def isMarks : List SDef → Bool
  | [] => true
  | .mark _ :: l => isMarks l
  | _ => false
def itAt (g : FuncId) : List Tpl → Nat → Option Nat
  | [], _ => none
  | T :: l, i => cond (match T.it with | some h => Nat.beq h g | none => false) (some i) (itAt g l (i + 1))
section
variable (P : Program) (R : Rgs) (Ks : Ctrs) (tps : List Tpl)
def lpLt (j : Nat) : List Fr → Bool
  | [] => true
  | .lp i :: K => cond (i.blt j) (lpLt j K) false
  | .it _ _ _ _ o :: K => cond (o.ble j) (lpLt j K) false
  | .cl _ _ _ _ _ _ _ o :: K => cond (o.ble j) (lpLt j K) false
  | .seq _ _ :: K => lpLt j K
  | .blk _ :: K => lpLt j K
  | .un _ _ :: K => lpLt j K
def idsF (j : Nat) : List Nat := (tps.drop j).flatMap Tpl.ids
def inl (T : SE) (o : Oper) : Option (FuncId × List SV × Nat) := match o.guard, o.op with
  | none, .call { callee := .value f, args, .. } => match evS T f, evLS T args.toList with
    | some (.fn g first cap), some vs => match itAt g tps 0 with
      | some k => some (g, first ++ vs ++ cap, k)
      | none => none
    | _, _ => none
  | _, _ => none
def Val.mix (ids : List Nat) (ρ : Val) (w : Nat → Int) : Val := ⟨fun i => cond (ids.any (Nat.beq i)) (w i) (ρ.v i), ρ.fn⟩
def RgB (R : Rgs) (ρ : Val) : List Nat → Prop
  | [] => True
  | i :: l => inR (ρ.v i) (nthR R.vr i) ∧ RgB R ρ l
def setM (M : Nat → Nat) (j k : Nat) : Nat → Nat := fun i => cond (Nat.beq i j) k (M i)
def fsOf (j : Nat) : List X := match tps[j]? with
  | some T => T.fs
  | none => []
def LT.vc {α : Type} (Inv : Nat → Val → Prop) (mu : Nat → Val → Nat) (Q : Val → α → Prop) : LT α → Val → (Nat → Nat) → Prop
  | .no, _, _ => False
  | .leaf a, ρ, _ => Q ρ a
  | .ask b t f, ρ, M => (b.denB ρ = true → LT.vc Inv mu Q t ρ M) ∧ (b.denB ρ = false → LT.vc Inv mu Q f ρ M)
  | .need l t, ρ, M => AllB ρ l ∧ LT.vc Inv mu Q t ρ M
  | .loop j inst t, ρ, M => Inv j (ρ.upd inst) ∧ ∀ w : Nat → Int, RgB R (ρ.mix (idsF tps j) w) (idsF tps j) → AllB (ρ.mix (idsF tps j) w) (fsOf tps j) → Inv j (ρ.mix (idsF tps j) w) →
      LT.vc Inv mu Q t (ρ.mix (idsF tps j) w) (setM M j (mu j (ρ.mix (idsF tps j) w)))
  | .back j inst, ρ, M => Inv j (ρ.upd inst) ∧ mu j (ρ.upd inst) < M j
end
end Sx
end Abs
end Go.Proofs.YtanmiffgmiikfaaGreat

namespace Go.Proofs.YtanmiffgmiikfaaGreat
namespace Abs
namespace Sx
open Go.RowKit
section
variable {P : Program} {R : Rgs} {Ks : Ctrs} {tps : List Tpl} {B : Ent} {b n : Nat} {rd : Option Nat}
theorem AllB_of {ρ : Val} : ∀ {l : List X}, Fcs ρ l → AllB ρ l
  | [], _ => trivial
  | x :: l, h => ⟨h x List.mem_cons_self, AllB_of fun y hy => h y (List.mem_cons_of_mem _ hy)⟩
theorem mix_agree {ρ : Val} {ids : List Nat} {w : Nat → Int} : Agree ids ρ (ρ.mix ids w) := by
  refine ⟨fun i hi => ?_, rfl⟩
  simp only [Val.mix]
  have : ids.any (Nat.beq i) = false := by
    rw [List.any_eq_false]
    intro x hx he
    have := Nat.eq_of_beq_eq_true he
    subst this
    exact hi hx
  rw [this]; rfl
theorem idsF_sub {i j : Nat} (h : i ≤ j) : ∀ x ∈ idsF tps j, x ∈ idsF tps i := by
  intro x hx
  simp only [idsF, List.mem_flatMap] at hx ⊢
  obtain ⟨T, h1, h2⟩ := hx
  refine ⟨T, ?_, h2⟩
  have : tps.drop j = (tps.drop i).drop (j - i) := by rw [List.drop_drop]; congr 1; omega
  rw [this] at h1
  exact List.mem_of_mem_drop h1
def cxLt (q : Nat) : Cx → List Fr → Prop
  | x, [] => x.b < q
  | x, .it y _ _ _ _ :: K => x.b < q ∧ cxLt q y K
  | x, .cl y _ _ _ _ _ _ _ :: K => x.b < q ∧ cxLt q y K
  | x, .seq _ _ :: K => cxLt q x K
  | x, .blk _ :: K => cxLt q x K
  | x, .lp _ :: K => cxLt q x K
  | x, .un _ _ :: K => cxLt q x K
theorem cxLt_mono {q q' : Nat} (hq : q ≤ q') : ∀ {K : List Fr} {x : Cx}, cxLt q x K → cxLt q' x K
  | [], _, h => Nat.lt_of_lt_of_le h hq
  | .it _ _ _ _ _ :: K, _, h => ⟨Nat.lt_of_lt_of_le h.1 hq, cxLt_mono hq (K := K) h.2⟩
  | .cl _ _ _ _ _ _ _ _ :: K, _, h => ⟨Nat.lt_of_lt_of_le h.1 hq, cxLt_mono hq (K := K) h.2⟩
  | .seq _ _ :: K, _, h => cxLt_mono hq (K := K) h
  | .blk _ :: K, _, h => cxLt_mono hq (K := K) h
  | .lp _ :: K, _, h => cxLt_mono hq (K := K) h
  | .un _ _ :: K, _, h => cxLt_mono hq (K := K) h
def Ctx (tps : List Tpl) (ρ : Val) (Es : Nat → Val) : List Fr → Prop
  | [] => True
  | .lp j :: K => Agree (idsF tps j) (Es j) ρ ∧ Ctx tps ρ Es K
  | .seq _ _ :: K => Ctx tps ρ Es K
  | .blk _ :: K => Ctx tps ρ Es K
  | .un _ _ :: K => Ctx tps ρ Es K
  | .it _ _ _ _ _ :: K => Ctx tps ρ Es K
  | .cl _ _ _ _ _ _ _ _ :: K => Ctx tps ρ Es K
theorem agree_mix {ρ0 ρ : Val} {i p : Nat} {w : Nat → Int} (hp : i ≤ p) (h : Agree (idsF tps i) ρ0 ρ) : Agree (idsF tps i) ρ0 (ρ.mix (idsF tps p) w) := by
  refine ⟨fun k hk => ?_, h.fn⟩
  rw [mix_agree.v k (fun hm => hk (idsF_sub hp k hm))]
  exact h.v k hk
theorem Ctx.mix {ρ : Val} {Es : Nat → Val} {p : Nat} {w : Nat → Int} : ∀ {K : List Fr}, lpLt p K = true → Ctx tps ρ Es K → Ctx tps (ρ.mix (idsF tps p) w) (fun i => cond (Nat.beq i p) ρ (Es i)) K
  | [], _, _ => trivial
  | .seq b q :: K, hk, h => Ctx.mix (K := K) hk h
  | .blk id :: K, hk, h => Ctx.mix (K := K) hk h
  | .un a q :: K, hk, h => Ctx.mix (K := K) hk h
  | .it _ _ _ _ _ :: K, hk, h => Ctx.mix (K := K) (cond_true_false hk).2 h
  | .cl _ _ _ _ _ _ _ _ :: K, hk, h => Ctx.mix (K := K) (cond_true_false hk).2 h
  | .lp j :: K, hk, h => by
    simp only [lpLt] at hk
    obtain ⟨h1, h2⟩ := cond_true_false hk
    rw [Nat.blt_eq] at h1
    refine ⟨?_, Ctx.mix h2 h.2⟩
    have e : Nat.beq j p = false := by cases hb : Nat.beq j p with
      | false => rfl
      | true => have := Nat.eq_of_beq_eq_true hb; omega
    simp only [e, cond_false]
    exact agree_mix (by omega) h.1
def CxOk (Bs : Nat → Ent) (x : Cx) : Prop := (Bs x.b).nx = x.b ∧ ∀ k L, x.rc = some (k, L) → ∃ L1, (Bs x.b).H.t.get k = some (.loop L1) ∧ L1.assign = L.assign ∧ L1.body = L.body
def CK (tps : List Tpl) (ρ : Val) (Bs : Nat → Ent) (Et : Nat → Val) : Cx → List Fr → Prop
  | x, [] => CxOk Bs x
  | x, .it y T ds _ o :: K => CxOk Bs x ∧ y.b < x.b ∧ y.rd = none ∧ trFree (idsF tps o) T = true ∧ isMarks ds = true ∧ Agree (idsF tps o) (Et x.b) ρ ∧ CK tps ρ Bs Et y K
  | x, .cl y _ _ _ T ds _ o :: K => CxOk Bs x ∧ y.b < x.b ∧ True ∧ trFree (idsF tps o) T = true ∧ isMarks ds = true ∧ Agree (idsF tps o) (Et x.b) ρ ∧ CK tps ρ Bs Et y K
  | x, .seq _ _ :: K => CK tps ρ Bs Et x K
  | x, .blk _ :: K => CK tps ρ Bs Et x K
  | x, .lp _ :: K => CK tps ρ Bs Et x K
  | x, .un _ _ :: K => CK tps ρ Bs Et x K
theorem CK.lt {ρ : Val} {Bs : Nat → Ent} {Et : Nat → Val} : ∀ {K : List Fr} {x : Cx}, CK tps ρ Bs Et x K → cxLt (x.b + 1) x K
  | [], x, _ => Nat.lt_succ_self _
  | .it y _ _ _ _ :: K, x, h => ⟨Nat.lt_succ_self _, cxLt_mono (by have := h.2.1; omega) (CK.lt (K := K) h.2.2.2.2.2.2)⟩
  | .cl y _ _ _ _ _ _ _ :: K, x, h => ⟨Nat.lt_succ_self _, cxLt_mono (by have := h.2.1; omega) (CK.lt (K := K) h.2.2.2.2.2.2)⟩
  | .seq _ _ :: K, _, h => CK.lt (K := K) h
  | .blk _ :: K, _, h => CK.lt (K := K) h
  | .lp _ :: K, _, h => CK.lt (K := K) h
  | .un _ _ :: K, _, h => CK.lt (K := K) h
theorem CK.mix {ρ : Val} {Bs : Nat → Ent} {Et : Nat → Val} {p : Nat} {w : Nat → Int} : ∀ {K : List Fr} {x : Cx}, lpLt p K = true → CK tps ρ Bs Et x K → CK tps (ρ.mix (idsF tps p) w) Bs Et x K
  | [], _, _, h => h
  | .it _ _ _ _ o :: K, _, hk, h => by
    obtain ⟨h1, h2⟩ := cond_true_false hk
    exact ⟨h.1, h.2.1, h.2.2.1, h.2.2.2.1, h.2.2.2.2.1, agree_mix (Nat.le_of_ble_eq_true h1) h.2.2.2.2.2.1, CK.mix (K := K) h2 h.2.2.2.2.2.2⟩
  | .cl _ _ _ _ _ _ _ o :: K, _, hk, h => by
    obtain ⟨h1, h2⟩ := cond_true_false hk
    exact ⟨h.1, h.2.1, h.2.2.1, h.2.2.2.1, h.2.2.2.2.1, agree_mix (Nat.le_of_ble_eq_true h1) h.2.2.2.2.2.1, CK.mix (K := K) h2 h.2.2.2.2.2.2⟩
  | .seq _ _ :: K, _, hk, h => CK.mix (K := K) hk h
  | .blk _ :: K, _, hk, h => CK.mix (K := K) hk h
  | .lp _ :: K, _, hk, h => CK.mix (K := K) (cond_true_false hk).2 h
  | .un _ _ :: K, _, hk, h => CK.mix (K := K) hk h
theorem CxOk.congr {Bs Bs' : Nat → Ent} {x : Cx} (h : Bs' x.b = Bs x.b) (k : CxOk Bs x) : CxOk Bs' x := by unfold CxOk; rw [h]; exact k
theorem CK.congr {ρ : Val} {Bs Bs' : Nat → Ent} {Et Et' : Nat → Val} {q : Nat} (h : ∀ i, i < q → Bs' i = Bs i ∧ Et' i = Et i) : ∀ {K : List Fr} {x : Cx}, cxLt q x K → CK tps ρ Bs Et x K → CK tps ρ Bs' Et' x K
  | [], x, hq, k => CxOk.congr (h x.b hq).1 k
  | .it y _ _ _ _ :: K, x, hq, k => ⟨CxOk.congr (h x.b hq.1).1 k.1, k.2.1, k.2.2.1, k.2.2.2.1, k.2.2.2.2.1, by rw [(h x.b hq.1).2]; exact k.2.2.2.2.2.1, CK.congr h (K := K) hq.2 k.2.2.2.2.2.2⟩
  | .cl y _ _ _ _ _ _ _ :: K, x, hq, k => ⟨CxOk.congr (h x.b hq.1).1 k.1, k.2.1, k.2.2.1, k.2.2.2.1, k.2.2.2.2.1, by rw [(h x.b hq.1).2]; exact k.2.2.2.2.2.1, CK.congr h (K := K) hq.2 k.2.2.2.2.2.2⟩
  | .seq _ _ :: K, _, hq, k => CK.congr h (K := K) hq k
  | .blk _ :: K, _, hq, k => CK.congr h (K := K) hq k
  | .lp _ :: K, _, hq, k => CK.congr h (K := K) hq k
  | .un _ _ :: K, _, hq, k => CK.congr h (K := K) hq k
section
variable {Inv : Nat → Val → Prop} {mu : Nat → Val → Nat} {α β : Type} {Q : Val → β → Prop}
end
def LTask.K : LTask → List Fr
  | .go _ _ _ K => K
  | .nx _ _ K => K
  | .ops _ _ _ K => K
end
end Sx
end Abs
end Go.Proofs.YtanmiffgmiikfaaGreat
