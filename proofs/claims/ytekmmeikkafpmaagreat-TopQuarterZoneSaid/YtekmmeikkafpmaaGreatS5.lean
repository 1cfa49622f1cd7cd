/- Functions, by what is shown of their code; promises of functions that only look. -/
import Derived.Test.YtekmmeikkafpmaaGreatS4
set_option linter.unusedSimpArgs false
set_option linter.unusedVariables false
namespace Go.Proofs.YtekmmeikkafpmaaGreat
namespace Abs
namespace Sx
open Go.RowKit
def LT.bindO {α β : Type} (t : LT α) (f : α → OT β) : LT β := match t with
  | .no => .no
  | .leaf a => (f a).toL .leaf
  | .ask b t u => .ask b (t.bindO f) (u.bindO f)
  | .need l t => .need l (t.bindO f)
  | .loop j i t => .loop j i (t.bindO f)
  | .back j i => .back j i
def endO (P : Program) (R : Rgs) (rs : List ResultVar) (x : (Ex × SSt) × List X) : OT (SV × SH × Nat) := match x with
  | ((.normal, s), fs) | ((.ret, s), fs) => (leaveS noS fs s.defers s.heap s.next).bind fun y =>
    retry (fun fs => ressS P R y.1.1 s.tmps fs rs) (fun _ vs => .leaf (one1 vs, y.1.1, y.1.2)) rtry y.2
  | _ => .no
section
variable {P : Program} {R : Rgs} {Ks : Ctrs} {tps : List Tpl} {ρ : Val} {Inv : Nat → Val → Prop} {mu : Nat → Val → Nat}
theorem vc_bindO {α β : Type} {Q : Val → β → Prop} {f : α → OT β} : ∀ {t : LT α} {ρ : Val} {M : Nat → Nat}, LT.vc R tps Inv mu Q (t.bindO f) ρ M → LT.vc R tps Inv mu (fun ρ a => ∃ c, OT.sem ρ (f a) = some c ∧ Q ρ c) t ρ M
  | .no, _, _, h => h
  | .leaf a, _, _, h => by
    obtain ⟨c, h1, h2⟩ := vc_toL h
    exact ⟨c, h1, h2⟩
  | .ask b t u, _, _, h => ⟨fun hb => vc_bindO (h.1 hb), fun hb => vc_bindO (h.2 hb)⟩
  | .need l t, _, _, h => ⟨h.1, vc_bindO h.2⟩
  | .loop j i t, _, _, h => ⟨h.1, fun w a b c => vc_bindO (h.2 w a b c)⟩
  | .back j i, _, _, h => h
theorem vc_map {α β : Type} {Q : Val → β → Prop} {f : α → β} : ∀ {t : LT α} {ρ : Val} {M : Nat → Nat}, LT.vc R tps Inv mu Q (t.map f) ρ M → LT.vc R tps Inv mu (fun ρ a => Q ρ (f a)) t ρ M
  | .no, _, _, h => h
  | .leaf a, _, _, h => h
  | .ask b t u, _, _, h => ⟨fun hb => vc_map (h.1 hb), fun hb => vc_map (h.2 hb)⟩
  | .need l t, _, _, h => ⟨h.1, vc_map h.2⟩
  | .loop j i t, _, _, h => ⟨h.1, fun w a b c => vc_map (h.2 w a b c)⟩
  | .back j i, _, _, h => h
theorem fn_exH {C : Cts P} {f : FuncId} {fn : Func} {c : Code} {args : List SV} {H : SH} {nx fuel : Nat} {fs : List X} {Q : Val → SV × SH × Nat → Prop} {Post : AV → Hp → Nat → Prop} (hp : progOk P = true) (hfn : P.funcs[f]? = some fn) (hbd : fn.body = some c)
    (hR : R.ok ρ) (hf : Fcs ρ fs) (hC : ∀ ρ' : Val, ρ'.fn = ρ.fn → R.ok ρ' → C.has ρ' Ks) (hQ : ∀ ρ x, Q ρ x → Post (x.1.den ρ) (hD ρ x.2.1) x.2.2)
    (k : LT.vc R tps Inv mu Q ((exL P R Ks tps nx (max fn.ntmps args.length) none fuel fs (.go c 0 ⟨ofArgsS args 0 .nil, [], H, nx⟩ [])).bindO (endO P R fn.results.toList)) ρ (fun _ => 0)) :
    CallH P f (SV.dens ρ args) (hD ρ H) nx Post := by
  refine call_intro hp hfn hbd fun m0 W0 => ?_
  have h1 := vc_bindO k
  have := exL_ok (B := ⟨m0, hD ρ H, nx, W0⟩) (Q0 := Qfun P fn.results.toList Post) hp hC rfl (fun ρ e s fs hR hf hq => ?_) fuel fs c 0 ⟨ofArgsS args 0 .nil, [], H, nx⟩ ρ (fun _ => 0) rfl hR hf h1
  · 
    have e : argsE (SV.dens ρ args) = eD ρ (ofArgsS args 0 .nil) := by
      unfold eD
      rw [← args_get, ← ofArgsS_den]; rfl
    rw [e, dens_length]
    exact this
  · obtain ⟨v, g1, g2⟩ := hq
    have fin : OT.sem ρ ((leaveS noS fs s.defers s.heap s.next).bind fun y => retry (fun fs => ressS P R y.1.1 s.tmps fs fn.results.toList) (fun _ vs => .leaf (one1 vs, y.1.1, y.1.2)) rtry y.2) = some v →
        ∃ H2 nx2, leaveA norec (s.defers.map (SDef.den ρ)) (hD ρ s.heap) s.next = some (H2, nx2) ∧ ∃ v, ressE P H2 (eD ρ s.tmps) fn.results.toList = some v ∧ Post v H2 nx2 := by
      intro g1
      obtain ⟨y, k1, k2⟩ := bind_some g1
      obtain ⟨m1, m2⟩ := leaveS_ok noS_sim hf k1
      obtain ⟨fs2, l2, vs, q1, q2, q3, q4⟩ := retry_some k2 m2
      have := leaf_some q4
      subst this
      have hr := ressA_ok (H := y.1.1) (T := s.tmps) hR q2 q1 q3
      refine ⟨_, _, m1, _, ?_, hQ _ _ g2⟩
      unfold eD
      rw [ress_get]; exact hr
    cases e with
    | normal => exact fin g1
    | ret => exact fin g1
    | exit j => cases g1
    | goto j => cases g1
theorem fn_ex {C : Cts P} {f : FuncId} {fn : Func} {c : Code} {args : List SV} {H : SH} {nx fuel : Nat} {fs : List X} {T : LT SV} {V : AV → Prop} (hp : progOk P = true) (hfn : P.funcs[f]? = some fn) (hbd : fn.body = some c)
    (hR : R.ok ρ) (hf : Fcs ρ fs) (hC : ∀ ρ' : Val, ρ'.fn = ρ.fn → R.ok ρ' → C.has ρ' Ks)
    (h : ((exL P R Ks tps nx (max fn.ntmps args.length) none fuel fs (.go c 0 ⟨ofArgsS args 0 .nil, [], H, nx⟩ [])).bindO (endO P R fn.results.toList)).map (·.1) = T)
    (k : LT.vc R tps Inv mu (fun ρ v => V (v.den ρ)) T ρ (fun _ => 0)) : CallH P f (SV.dens ρ args) (hD ρ H) nx (fun v _ _ => V v) := by
  subst h
  exact fn_exH hp hfn hbd hR hf hC (fun ρ x h => h) (vc_map k)

theorem callOk_look (L : List (Nat × Nat × Nat)) {g : FuncId} {argsc args : List AV} {tc : Tr AObj} {H : Hp} {nxc nx : Nat} {v0 v : AV}
    (hc : CallH P g argsc ⟨tc, [], 0⟩ nxc (fun v H' nx' => v = v0 ∧ H' = ⟨tc, [], 0⟩ ∧ nx' = nxc))
    (hWc : Wf ⟨tc, [], 0⟩ nxc) (hk : L.map (·.1) = upTo 0 nxc) (ha : renL (sg L) argsc = some args) (hE : EmbL (sg L) ⟨tc, [], 0⟩ H L) (hD : disB ⟨tc, [], 0⟩ L = true)
    (hro : (tc.allB fun o => !o.writable) = true) (hv : ren (sg L) v0 = some v) : CallOk P g args H nx v H nx := by
  intro hW
  obtain ⟨hb, h⟩ := hc hWc
  refine ⟨hb, .refl hW, fun m W xs hxs hR hF => ?_⟩
  have hRc := rel_emb hWc hk hE hD hR
  have htop : ∀ n, nxc ≤ n → mOf L m n = none := by
    intro n hn
    cases h : mOf L m n with
    | none => rfl
    | some k =>
      obtain ⟨p, o, k0, hs, _⟩ := mOf_some h
      have : n ∈ L.map (·.1) := List.mem_map.2 ⟨_, sg_mem hs, rfl⟩
      rw [hk, mem_upTo] at this; omega
  refine (h (mOf L m) W xs ((renL_iff mOf_lk argsc args ha _).2 hxs) hRc htop).mono ?_
  rintro e W' ⟨vc, v', Hc', nxc', mc', rfl, J, hv', rfl, rfl, e3⟩
  replace e3 := e3.symm
  subst e3
  have hfr : ∀ b, b < W.heap.size → W'.heap[b]? = W.heap[b]? := fun b hb => J.frame b hb (by
    rintro ⟨i, oi, ki, _, hg, hw, _⟩
    rw [hget] at hg
    have := Tr.allB_get hro hg
    simp only [Bool.not_eq_true'] at this
    rw [hw] at this; cases this)
  have hlk : Lk (sg L) mc' m := by
    intro n p o hs
    have hn : n < nxc := by
      have : n ∈ L.map (·.1) := List.mem_map.2 ⟨_, sg_mem hs, rfl⟩
      rw [hk, mem_upTo] at this; omega
    rw [J.eq n hn]
    simp only [mOf, hs]
  exact ⟨v', m, rfl, ⟨Le.refl m, fun n k h => .inl h, rel_frame hR hfr, fun b hb _ => hfr b hb, J.os, J.tape, J.output, J.size⟩, (ren_iff hlk _ _ hv _).1 hv'⟩
end
end Sx
end Abs
end Go.Proofs.YtekmmeikkafpmaaGreat

namespace Go.Proofs.YtekmmeikkafpmaaGreat
namespace Abs
namespace Sx
open Go.RowKit
inductive Sh where
  | int (k : IntKind)
  | bool
  | agg (l : List Sh)
  | row (cm : List Cmp)
  | fnc (f : FuncId)
  | lst (e : Nat) (l : List Sh)
  | clo (f : FuncId) (l : List Sh)
  | ptr (l : List Sh)
def len0 : X → X → Option Nat
  | .lit (.ofNat 0), .lit (.ofNat k) => some k
  | _, _ => none
theorem len0_ok {a b : X} {k : Nat} (h : len0 a b = some k) : a = .lit 0 ∧ b = .lit (k : Int) := by
  unfold len0 at h
  split at h <;> cases h
  exact ⟨rfl, rfl⟩
def posX (R : Rgs) (fs : List X) (y : X) : X := cond y.isL (.bin .max y (.lit 0)) (match X.dec R fs (.bin .le (.lit 0) y) with
  | some true => y
  | _ => .bin .max y (.lit 0))
theorem posX_den {R : Rgs} {fs : List X} {ρ : Val} (hR : R.ok ρ) (hf : Fcs ρ fs) (y : X) : (X.one (posX R fs y)).den ρ = ((y.den ρ).toNat : Int) := by
  have mx : (X.one (.bin .max y (.lit 0))).den ρ = ((y.den ρ).toNat : Int) := by
    simp only [X.one, X.isL, cond_false, X.den_max, X.den_lit]; omega
  unfold posX
  cases hl : y.isL with
  | true => exact mx
  | false =>
    simp only [cond_false]
    split
    · rename_i e
      have := dec_le_true hR hf e
      simp only [X.den_lit] at this
      simp only [X.one, hl, cond_false]; omega
    · exact mx
def b01 (R : Rgs) (fs : List X) (x : X) : X := match x with
  | .ite c (.lit 1) (.lit 0) => .ite c (.lit 1) (.lit 0)
  | .var i => match X.rng R fs (.var i) with
    | some (a, b) => cond (decide (0 ≤ a)) (cond (decide (b ≤ 1)) (.var i) (.ite (.var i) (.lit 1) (.lit 0))) (.ite (.var i) (.lit 1) (.lit 0))
    | none => .ite (.var i) (.lit 1) (.lit 0)
  | x => .ite x (.lit 1) (.lit 0)
theorem b01_ite {ρ : Val} (x : X) : X.isL (.ite x (.lit 1) (.lit 0)) = false ∧ X.den ρ (.ite x (.lit 1) (.lit 0)) = b2i (x.denB ρ) := by
  refine ⟨rfl, ?_⟩
  simp only [X.den_ite, X.den_lit]
  rfl
theorem b01_den {R : Rgs} {fs : List X} {ρ : Val} (hR : R.ok ρ) (hf : Fcs ρ fs) (x : X) : (b01 R fs x).isL = false ∧ (b01 R fs x).den ρ = b2i (x.denB ρ) := by
  unfold b01
  split
  · rename_i c
    refine ⟨rfl, ?_⟩
    simp only [X.denB, X.den_ite, X.den_lit]
    cases i2b (X.den ρ c) <;> rfl
  · rename_i i
    have h := X.rng_ok hR hf (.var i)
    split
    · rename_i a b e
      rw [e] at h
      simp only [inR] at h
      cases h1 : decide (0 ≤ a) with
      | false => exact b01_ite _
      | true =>
        cases h2 : decide (b ≤ 1) with
        | false => exact b01_ite _
        | true =>
          simp only [decide_eq_true_eq] at h1 h2
          refine ⟨rfl, ?_⟩
          simp only [X.denB, cond_true]
          rcases (by omega : X.den ρ (.var i) = 0 ∨ X.den ρ (.var i) = 1) with e | e <;> rw [e] <;> rfl
    · exact b01_ite _
  · exact b01_ite _
def fnS (f : FuncId) : SV → Option (List X × List Nat × List Bool)
  | .fn f' [] [] => cond (Nat.beq f f') (some ([], [], [])) none
  | _ => none
theorem fnS_ok {ρ : Val} {f : FuncId} {a : SV} {xs : List X} {ns : List Nat} {es : List Bool} (h : fnS f a = some (xs, ns, es)) : a.den ρ = .fn f [] [] ∧ xs = [] ∧ ns = [] ∧ es = [] := by
  unfold fnS at h
  split at h <;> try (cases h; done)
  rename_i f2
  cases hk : Nat.beq f f2 <;> rw [hk] at h <;> cases h
  rw [Nat.eq_of_beq_eq_true hk]
  exact ⟨rfl, rfl, rfl, rfl⟩
def cloS (f : FuncId) : SV → Option (List SV)
  | .fn f' [] cs => cond (Nat.beq f f') (some cs) none
  | _ => none
theorem cloS_ok {ρ : Val} {f : FuncId} {a : SV} {cs : List SV} (h : cloS f a = some cs) : a.den ρ = .fn f [] (SV.dens ρ cs) := by
  unfold cloS at h
  split at h <;> try (cases h; done)
  rename_i f2 c2
  cases hk : Nat.beq f f2 <;> rw [hk] at h <;> cases h
  rw [Nat.eq_of_beq_eq_true hk]
  rfl
mutual
def flS (R : Rgs) (fs : List X) (H : SH) : Sh → SV → Option (List X × List Nat × List Bool)
  | .int k, .int k' x => cond (ikBeq k k') (cond x.isL none (some ([x], [], []))) none
  | .bool, .bool x => some ([b01 R fs x], [], [])
  | .agg l, .agg cs => flSs R fs H l cs
  | .row cm, .slice n oc eo len cap esz ex => match H.get n with
    | some (.row _ ln .nil cm') => cond (cmBeq cm cm') (cond (X.beq ln len) (cond (X.beq eo (.lit 0)) (cond (Nat.beq oc 0) (cond (Nat.beq esz cm.length) (some ([posX R fs len, posX R fs cap], [n], [ex])) none) none) none) none) none
    | _ => none
  | .fnc f, a => fnS f a
  | .lst e l, .slice n oc eo ln cap esz ex => match len0 eo ln, H.get n with
    | some len, some (.cells _ cs) => cond (Nat.blt 0 e) (cond (Nat.beq oc 0) (cond (Nat.beq esz e) (cond (Nat.beq (len * e) l.length) (match flSs R fs H l cs with
        | some (xs, ns, es) => some (posX R fs cap :: xs, n :: ns, ex :: es)
        | _ => none) none) none) none) none
    | _, _ => none
  | .clo f l, a => match cloS f a with
    | some cs => flSs R fs H l cs
    | none => none
  | .ptr l, .ptr n off => match H.get n with
    | some (.cells _ cs) => cond (Nat.beq off 0) (match flSs R fs H l cs with
      | some (xs, ns, es) => some (xs, n :: ns, es)
      | none => none) none
    | _ => none
  | _, _ => none
def flSs (R : Rgs) (fs : List X) (H : SH) : List Sh → List SV → Option (List X × List Nat × List Bool)
  | [], [] => some ([], [], [])
  | s :: l, a :: cs => match flS R fs H s a, flSs R fs H l cs with
    | some (x, n, e), some (y, m, d) => some (x ++ y, n ++ m, e ++ d)
    | _, _ => none
  | _, _ => none
end
mutual
def FlR (ρ : Val) (H : Hp) : Sh → AV → List Int → List Nat → List Bool → Prop
  | .int k, a, xs, ns, es => ∃ n, a = .int k n ∧ xs = [n] ∧ ns = [] ∧ es = []
  | .bool, a, xs, ns, es => ∃ b, a = .bool b ∧ xs = [b2i b] ∧ ns = [] ∧ es = []
  | .agg l, a, xs, ns, es => ∃ cs, a = .agg cs ∧ FlRs ρ H l cs xs ns es
  | .row cm, a, xs, ns, es => ∃ (n len cap : Nat) (ex w : Bool), a = .slice n 0 len cap cm.length ex ∧ H.get n = some (.cells w (rowD ρ cm [] 0 len)) ∧ xs = [(len : Int), (cap : Int)] ∧ ns = [n] ∧ es = [ex]
  | .fnc f, a, xs, ns, es => a = .fn f [] [] ∧ xs = [] ∧ ns = [] ∧ es = []
  | .lst e l, a, xs, ns, es => ∃ (n len cap : Nat) (ex w : Bool) (cs : List AV) (ys : List Int) (ms : List Nat) (ds : List Bool), (0 < e ∧ len * e = l.length) ∧ a = .slice n 0 len cap e ex ∧ H.get n = some (.cells w cs) ∧ FlRs ρ H l cs ys ms ds ∧ xs = (cap : Int) :: ys ∧ ns = n :: ms ∧ es = ex :: ds
  | .clo f l, a, xs, ns, es => ∃ cs, a = .fn f [] cs ∧ FlRs ρ H l cs xs ns es
  | .ptr l, a, xs, ns, es => ∃ (n : Nat) (w : Bool) (cs : List AV) (ms : List Nat), a = .ptr n 0 ∧ H.get n = some (.cells w cs) ∧ FlRs ρ H l cs xs ms es ∧ ns = n :: ms
def FlRs (ρ : Val) (H : Hp) : List Sh → List AV → List Int → List Nat → List Bool → Prop
  | [], cs, xs, ns, es => cs = [] ∧ xs = [] ∧ ns = [] ∧ es = []
  | s :: l, cs, xs, ns, es => ∃ a t x y n m e d, cs = a :: t ∧ FlR ρ H s a x n e ∧ FlRs ρ H l t y m d ∧ xs = x ++ y ∧ ns = n ++ m ∧ es = e ++ d
end
def valX (fn : Nat → List Int → Int) (xs : List Int) : Val := ⟨fun i => xs.getD i 0, fn⟩
def getX : List X → Nat → X
  | [], _ => .lit 0
  | x :: _, 0 => x.one
  | _ :: l, n + 1 => getX l n
def X.ins (xs : List X) : X → X
  | .lit n => .lit n
  | .var i => getX xs i
  | .bin o a b => mk1 o (X.ins xs a) (X.ins xs b)
  | .not a => .not (X.ins xs a)
  | .ite c a b => .ite (X.ins xs c) (X.ins xs a) (X.ins xs b)
  | .wrap k a => .wrap k (X.ins xs a)
  | .app f a => .app f (X.ins xs a)
  | .nil => .nil
  | .cons a b => .cons (X.ins xs a) (X.ins xs b)
def nthN : List Nat → Nat → Nat
  | [], _ => 0
  | n :: _, 0 => n
  | _ :: l, i + 1 => nthN l i
mutual
def SV.ins (xs : List X) (ns : List Nat) : SV → SV
  | .int k x => .int k (x.ins xs)
  | .bool x => .bool (x.ins xs)
  | .slice n oc eo len cap esz ex => .slice (nthN ns n) oc (eo.ins xs) (len.ins xs) (cap.ins xs) esz ex
  | .agg cs => .agg (SV.inss xs ns cs)
  | .tuple cs => .tuple (SV.inss xs ns cs)
  | v => v
def SV.inss (xs : List X) (ns : List Nat) : List SV → List SV
  | [] => []
  | a :: l => SV.ins xs ns a :: SV.inss xs ns l
end
mutual
/-- It names nothing but what came in. -/
def SV.okN (k : Nat) : SV → Bool
  | .int _ _ | .bool _ | .str _ | .nilp | .nils | .nilm | .nilf | .nili => true
  | .slice n _ _ _ _ _ _ => n.blt k
  | .agg cs => SV.okNs k cs
  | .tuple cs => SV.okNs k cs
  | _ => false
def SV.okNs (k : Nat) : List SV → Bool
  | [] => true
  | a :: l => cond (SV.okN k a) (SV.okNs k l) false
end
def ndA (R : Rgs) (fs : List X) (xs : List X) : List X → List X
  | [] => []
  | p :: l => nd R fs (p.ins xs) ++ ndA R fs xs l
def insO (R : Rgs) (xs : List X) (ns : List Nat) : List X → OT SV → OT (SV × List X)
  | _, .no => .no
  | fs, .leaf v => cond (v.okN ns.length) (.leaf (v.ins xs ns, fs)) .no
  | fs, .ask b t f => match X.dec R fs (b.ins xs) with
    | some true => insO R xs ns fs t
    | some false => insO R xs ns fs f
    | none => .ask (b.ins xs) (insO R xs ns (X.nrm (b.ins xs) true ++ fs) t) (insO R xs ns (X.nrm (b.ins xs) false ++ fs) f)
  | fs, .need l t => needT (ndA R fs xs l) (insO R xs ns (ndA R fs xs l ++ fs) t)
structure Pr where
  g : FuncId
  sh : List Sh
  pre : List X
  out : List Bool → OT SV
def Pr.run (R : Rgs) (p : Pr) (fs : List X) (args : List SV) (H : SH) : OT (SV × List X) := match flSs R fs H p.sh args with
  | some (xs, ns, es) => needT (ndA R fs xs p.pre) (insO R xs ns (ndA R fs xs p.pre ++ fs) (p.out es))
  | none => .no
def findP : List Pr → FuncId → Option Pr
  | [], _ => none
  | p :: l, g => cond (Nat.beq p.g g) (some p) (findP l g)
def apart : List Sh → List Sh → Bool
  | .lst e l :: s, .lst e' l' :: s' => cond (Nat.beq e e') (cond (Nat.beq l.length l'.length) (apart s s') true) true
  | _ :: s, _ :: s' => apart s s'
  | _, _ => false
def selP (R : Rgs) (fs : List X) (H : SH) (args : List SV) (g : FuncId) : List Pr → Option Pr
  | [] => none
  | p :: l => cond (Nat.beq p.g g) (match flSs R fs H p.sh args with
    | some _ => some p
    | none => match selP R fs H args g l with
      | some q => cond (apart p.sh q.sh) (some q) none
      | none => none) (selP R fs H args g l)
def ksOf (R : Rgs) (l : List Pr) : Ctrs := fun g => match findP l g with
  | some _ => some (fun fs args H nx => match selP R fs H args g l with
    | some p => (p.run R fs args H).map fun x => (.call x.1 H nx, x.2)
    | none => .no)
  | none => none
def LL (ns : List Nat) : List (Nat × Nat × Nat) := (ns.zipIdx).map fun p => (p.2, p.1, 0)
def Pr.S (fn : Nat → List Int → Int) (p : Pr) (a : List AV) (H : Hp) (v : AV) : Prop := ∃ xs ns es w, FlRs (valX fn []) H p.sh a xs ns es ∧ AllB (valX fn xs) p.pre ∧ OT.sem (valX fn xs) (p.out es) = some w ∧ w.okN ns.length = true ∧ ren (sg (LL ns)) (w.den (valX fn xs)) = some v
section
variable {P : Program} {ρ : Val} {R : Rgs} {fs : List X}
theorem getX_sem (xs : List X) : ∀ i, (getX xs i).sem ρ = [(getX xs i).den ρ] := by
  induction xs with
  | nil => intro i; rfl
  | cons x l ih =>
    intro i
    cases i with
    | zero => exact X.one_sem x ρ
    | succ i => exact ih i
theorem getX_den (xs : List X) : ∀ i, (getX xs i).den ρ = (xs.map fun x => x.one.den ρ).getD i 0 := by
  induction xs with
  | nil => intro i; cases i <;> rfl
  | cons x l ih =>
    intro i
    cases i with
    | zero => rfl
    | succ i =>
      have := ih i
      simp only [List.map_cons, List.getD_cons_succ]
      exact this
def denX (ρ : Val) (xs : List X) : List Int := xs.map fun x => x.one.den ρ
theorem ins_sem (xs : List X) : ∀ x : X, (x.ins xs).sem ρ = x.sem (valX ρ.fn (denX ρ xs)) := by
  intro x
  induction x with
  | lit n => rfl
  | var i =>
    simp only [X.ins, getX_sem, getX_den]
    rfl
  | bin o a b iha ihb => simp only [X.ins, mk1_sem, X.den, iha, ihb, X.sem]
  | not a ih => simp only [X.ins, X.sem, ih]
  | ite c a b ihc iha ihb => simp only [X.ins, X.sem, ihc, iha, ihb]
  | wrap k a ih => simp only [X.ins, X.sem, ih]
  | app f a ih => simp only [X.ins, X.sem, ih]; rfl
  | nil => rfl
  | cons a b iha ihb => simp only [X.ins, X.sem, iha, ihb]
theorem ins_den (xs : List X) (x : X) : (x.ins xs).den ρ = x.den (valX ρ.fn (denX ρ xs)) := by simp only [X.den, ins_sem]
theorem ins_denB (xs : List X) (x : X) : (x.ins xs).denB ρ = x.denB (valX ρ.fn (denX ρ xs)) := by simp only [X.denB, ins_den]
theorem sg_LL (ns : List Nat) : ∀ (k i : Nat), sg ((ns.zipIdx k).map fun p => (p.2, p.1, 0)) (k + i) = (ns[i]?).map fun n => (n, 0) := by
  induction ns with
  | nil => intro k i; rfl
  | cons n ns ih =>
    intro k i
    simp only [List.zipIdx_cons, List.map_cons, sg]
    cases i with
    | zero => simp
    | succ i =>
      have : Nat.beq (k + (i + 1)) k = false := by cases hb : Nat.beq (k + (i + 1)) k with
        | false => rfl
        | true => have := Nat.eq_of_beq_eq_true hb; omega
      rw [this, cond_false]
      have := ih (k + 1) i
      rw [show k + 1 + i = k + (i + 1) by omega] at this
      rw [this]; simp
theorem sg_LL0 (ns : List Nat) (i : Nat) : sg (LL ns) i = (ns[i]?).map fun n => (n, 0) := by
  have := sg_LL ns 0 i
  rwa [Nat.zero_add] at this
theorem nthN_get : ∀ {ns : List Nat} {i : Nat}, i < ns.length → ns[i]? = some (nthN ns i)
  | [], i, h => by simp at h
  | n :: ns, 0, h => rfl
  | n :: ns, i + 1, h => by simpa [nthN] using nthN_get (ns := ns) (i := i) (by simpa using h)
mutual
theorem SV.ins_ren (xs : List X) (ns : List Nat) : ∀ v : SV, v.okN ns.length = true → ren (sg (LL ns)) (v.den (valX ρ.fn (denX ρ xs))) = some ((v.ins xs ns).den ρ) := by
  intro v h
  cases v <;> simp only [SV.okN] at h <;> try (cases h; done)
  case int k x => simp only [SV.ins, SV.den, Sx.ins_den, ren]
  case bool x => simp only [SV.ins, SV.den, ins_denB, ren]
  case slice n oc eo len cap esz ex =>
    rw [Nat.blt_eq] at h
    simp only [SV.ins, SV.den, Sx.ins_den, ren, sg_LL0, nthN_get h, Option.map_some, Nat.zero_add, show Nat.beq 0 0 = true from rfl, Bool.true_or, cond_true]
  case agg cs => simp only [SV.ins, SV.den, ren, SV.inss_ren xs ns cs h]
  case tuple cs => simp only [SV.ins, SV.den, ren, SV.inss_ren xs ns cs h]
  all_goals rfl
theorem SV.inss_ren (xs : List X) (ns : List Nat) : ∀ l : List SV, SV.okNs ns.length l = true → renL (sg (LL ns)) (SV.dens (valX ρ.fn (denX ρ xs)) l) = some (SV.dens ρ (SV.inss xs ns l)) := by
  intro l h
  cases l with
  | nil => rfl
  | cons a l =>
    simp only [SV.okNs] at h
    obtain ⟨h1, h2⟩ := cond_true_false h
    simp only [SV.inss, SV.dens, renL, SV.ins_ren xs ns a h1, SV.inss_ren xs ns l h2]
end
theorem ndA_ok (hR : R.ok ρ) (hf : Fcs ρ fs) {xs : List X} : ∀ {l : List X}, Fcs ρ (ndA R fs xs l) → AllB (valX ρ.fn (denX ρ xs)) l
  | [], _ => trivial
  | p :: l, h => by
    obtain ⟨n1, n2⟩ := h.split
    have := nd_ok hR hf n1
    rw [ins_denB] at this
    exact ⟨this, ndA_ok hR hf n2⟩
theorem insO_ok (hR : R.ok ρ) {xs : List X} {ns : List Nat} : ∀ {t : OT SV} {fs : List X} {x : SV × List X}, Fcs ρ fs → OT.sem ρ (insO R xs ns fs t) = some x →
    ∃ w, OT.sem (valX ρ.fn (denX ρ xs)) t = some w ∧ w.okN ns.length = true ∧ ren (sg (LL ns)) (w.den (valX ρ.fn (denX ρ xs))) = some (x.1.den ρ) ∧ Fcs ρ x.2
  | .no, _, _, _, h => by cases h
  | .leaf v, fs, x, hf, h => by
    simp only [insO] at h
    cases hb : v.okN ns.length <;> rw [hb] at h <;> simp only [cond_true, cond_false] at h <;> try (cases h; done)
    have := leaf_some h
    subst this
    exact ⟨v, rfl, hb, SV.ins_ren xs ns v hb, hf⟩
  | .ask b t f, fs, x, hf, h => by
    simp only [insO] at h
    simp only [OT.sem, ← ins_denB]
    split at h
    · rename_i e; rw [X.dec_ok hR hf _ e]; exact insO_ok hR hf h
    · rename_i e; rw [X.dec_ok hR hf _ e]; exact insO_ok hR hf h
    · simp only [OT.sem] at h
      cases hb : (b.ins xs).denB ρ with
      | true => rw [hb] at h; exact insO_ok hR (.append (X.nrm_ok _ hb) hf) h
      | false => rw [hb] at h; exact insO_ok hR (.append (X.nrm_ok _ hb) hf) h
  | .need l t, fs, x, hf, h => by
    simp only [insO] at h
    obtain ⟨h1, h2⟩ := needT_some h
    obtain ⟨w, g1, g2, g3, g4⟩ := insO_ok hR (h1.append hf) h2
    refine ⟨w, ?_, g2, g3, g4⟩
    simp only [OT.sem, if_pos (allB_fcs (ndA_ok hR hf h1)), g1]
mutual
theorem flS_ok {H : SH} (hR : R.ok ρ) (hf : Fcs ρ fs) : ∀ {s : Sh} {a : SV} {xs : List X} {ns : List Nat} {es : List Bool}, flS R fs H s a = some (xs, ns, es) → FlR (valX ρ.fn []) (hD ρ H) s (a.den ρ) (denX ρ xs) ns es := by
  intro s a xs ns es h
  cases s with
  | int k =>
    cases a <;> simp only [flS] at h <;> try (cases h; done)
    rename_i k' x
    cases hk : ikBeq k k' <;> rw [hk] at h <;> simp only [cond_true, cond_false] at h <;> try (cases h; done)
    have := ikBeq_eq hk
    subst this
    cases hl : x.isL <;> rw [hl] at h <;> cases h
    refine ⟨x.den ρ, rfl, ?_, rfl, rfl⟩
    simp only [denX, List.map_cons, List.map_nil, X.one, hl, cond_false]
  | bool =>
    cases a <;> simp only [flS] at h <;> cases h
    rename_i x
    refine ⟨x.denB ρ, rfl, ?_, rfl, rfl⟩
    obtain ⟨h1, h2⟩ := b01_den hR hf x
    simp only [denX, List.map_cons, List.map_nil, X.one, h1, cond_false, h2]
  | agg l =>
    cases a <;> simp only [flS] at h <;> try (cases h; done)
    exact ⟨_, rfl, flSs_ok hR hf h⟩
  | row cm =>
    cases a <;> simp only [flS] at h <;> try (cases h; done)
    rename_i n oc eo len cap esz ex
    split at h <;> try (cases h; done)
    rename_i w ln cm' hg
    cases h1 : cmBeq cm cm' <;> rw [h1] at h <;> simp only [cond_true, cond_false] at h <;> try (cases h; done)
    cases h2 : X.beq ln len <;> rw [h2] at h <;> simp only [cond_true, cond_false] at h <;> try (cases h; done)
    cases h3 : X.beq eo (.lit 0) <;> rw [h3] at h <;> simp only [cond_true, cond_false] at h <;> try (cases h; done)
    cases h4 : Nat.beq oc 0 <;> rw [h4] at h <;> simp only [cond_true, cond_false] at h <;> try (cases h; done)
    cases h5 : Nat.beq esz cm.length <;> rw [h5] at h <;> cases h
    have h1 := cmBeq_eq h1
    have h2 := X.beq_eq h2
    have h3 := X.beq_eq h3
    have h4 := Nat.eq_of_beq_eq_true h4
    have h5 := Nat.eq_of_beq_eq_true h5
    subst h1 h2 h3 h4 h5
    have mx : ∀ y : X, (X.one (posX R fs y)).den ρ = ((y.den ρ).toNat : Int) := fun y => posX_den hR hf y
    refine ⟨n, (ln.den ρ).toNat, (cap.den ρ).toNat, ex, w, ?_, ?_, ?_, rfl, rfl⟩
    · simp [SV.den]
    · rw [hD_get, hg]
      simp only [Option.map_some, SO.den, X.sem_nil]
      rw [rowD_fn (ρ := ρ) (ρ' := valX ρ.fn []) rfl]
    · simp only [denX, List.map_cons, List.map_nil, mx]
  | fnc f =>
    simp only [flS] at h
    obtain ⟨e, rfl, rfl, rfl⟩ := fnS_ok (ρ := ρ) h
    exact ⟨e, rfl, rfl, rfl⟩
  | lst e l =>
    cases a <;> simp only [flS] at h <;> try (cases h; done)
    rename_i n oc eo ln cap esz ex
    split at h <;> try (cases h; done)
    rename_i len w cs hlen hg
    obtain ⟨rfl, rfl⟩ := len0_ok hlen
    cases h2 : Nat.blt 0 e <;> rw [h2] at h <;> simp only [cond_true, cond_false] at h <;> try (cases h; done)
    cases h3 : Nat.beq oc 0 <;> rw [h3] at h <;> simp only [cond_true, cond_false] at h <;> try (cases h; done)
    cases h4 : Nat.beq esz e <;> rw [h4] at h <;> simp only [cond_true, cond_false] at h <;> try (cases h; done)
    cases h5 : Nat.beq (len * e) l.length <;> rw [h5] at h <;> simp only [cond_true, cond_false] at h <;> try (cases h; done)
    split at h <;> try (cases h; done)
    rename_i ys ms ds hfl
    cases h
    have h3 := Nat.eq_of_beq_eq_true h3
    have h4 := Nat.eq_of_beq_eq_true h4
    have h5 := Nat.eq_of_beq_eq_true h5
    subst h3 h4
    rw [Nat.blt_eq] at h2
    refine ⟨n, len, (cap.den ρ).toNat, ex, w, SV.dens ρ cs, denX ρ ys, ms, ds, ⟨h2, h5⟩, ?_, ?_, flSs_ok hR hf hfl, ?_, rfl, rfl⟩
    · simp [SV.den]
    · rw [hD_get, hg]; rfl
    · simp only [denX, List.map_cons, posX_den hR hf]
  | clo f l =>
    simp only [flS] at h
    split at h <;> try (cases h; done)
    rename_i cs hc
    exact ⟨SV.dens ρ cs, cloS_ok hc, flSs_ok hR hf h⟩
  | ptr l =>
    cases a <;> simp only [flS] at h <;> try (cases h; done)
    rename_i n off
    split at h <;> try (cases h; done)
    rename_i w cs hg
    cases hk : Nat.beq off 0 <;> rw [hk] at h <;> simp only [cond_true, cond_false] at h <;> try (cases h; done)
    have := Nat.eq_of_beq_eq_true hk
    subst this
    split at h <;> try (cases h; done)
    rename_i ys ms ds hfl
    cases h
    refine ⟨n, w, SV.dens ρ cs, ms, rfl, ?_, flSs_ok hR hf hfl, rfl⟩
    rw [hD_get, hg]; rfl
theorem flSs_ok {H : SH} (hR : R.ok ρ) (hf : Fcs ρ fs) : ∀ {s : List Sh} {a : List SV} {xs : List X} {ns : List Nat} {es : List Bool}, flSs R fs H s a = some (xs, ns, es) → FlRs (valX ρ.fn []) (hD ρ H) s (SV.dens ρ a) (denX ρ xs) ns es := by
  intro s a xs ns es h
  cases s with
  | nil =>
    cases a <;> simp only [flSs] at h <;> cases h
    exact ⟨rfl, rfl, rfl, rfl⟩
  | cons s l =>
    cases a <;> simp only [flSs] at h <;> try (cases h; done)
    split at h <;> cases h
    rename_i x n e y m d h1 h2
    exact ⟨_, _, _, _, _, _, _, _, rfl, flS_ok hR hf h1, flSs_ok hR hf h2, by simp only [denX, List.map_append], rfl, rfl⟩
end
end
end Sx
end Abs
end Go.Proofs.YtekmmeikkafpmaaGreat

namespace Go.Proofs.YtekmmeikkafpmaaGreat
namespace Abs
namespace Sx
open Go.RowKit
structure Cn where
  i : Nat
  q : Nat
  e : List Bool
  ob : List (Nat × SO)
def hdB : List Bool → Bool
  | [] => true
  | b :: _ => b
mutual
def cnS : Sh → Cn → SV × Cn
  | .int k, c => (.int k (.var c.i), ⟨c.i + 1, c.q, c.e, c.ob⟩)
  | .bool, c => (.bool (.var c.i), ⟨c.i + 1, c.q, c.e, c.ob⟩)
  | .agg l, c => (.agg (cnSs l c).1, (cnSs l c).2)
  | .row cm, c => (.slice c.q 0 (.lit 0) (.var c.i) (.var (c.i + 1)) cm.length (hdB c.e), ⟨c.i + 2, c.q + 1, c.e.tail, c.ob ++ [(c.q, .row false (.var c.i) .nil cm)]⟩)
  | .fnc f, c => (.fn f [] [], c)
  | .lst e l, c => (.slice c.q 0 (.lit 0) (.lit ((l.length / e : Nat) : Int)) (.var c.i) e (hdB c.e), (cnSs l ⟨c.i + 1, c.q + 1, c.e.tail, c.ob ++ [(c.q, .cells false (cnSs l ⟨c.i + 1, c.q + 1, c.e.tail, []⟩).1)]⟩).2)
  | .clo f l, c => (.fn f [] (cnSs l c).1, (cnSs l c).2)
  | .ptr l, c => (.ptr c.q 0, (cnSs l ⟨c.i, c.q + 1, c.e, c.ob ++ [(c.q, .cells false (cnSs l ⟨c.i, c.q + 1, c.e, []⟩).1)]⟩).2)
def cnSs : List Sh → Cn → List SV × Cn
  | [], c => ([], c)
  | s :: l, c => ((cnS s c).1 :: (cnSs l (cnS s c).2).1, (cnSs l (cnS s c).2).2)
end
def cn0 (e : List Bool) : Cn := ⟨0, 0, e, []⟩
section
variable {P : Program} {fn : Nat → List Int → Int} {H : Hp}
def ObsOk (fn : Nat → List Int → Int) (Z : List Int) (H : Hp) (ns : List Nat) (ob : List (Nat × SO)) : Prop := ∀ p ∈ ob, ∃ n w cs cs', ns[p.1]? = some n ∧ p.2.den (valX fn Z) = .cells false cs' ∧ H.get n = some (.cells w cs) ∧ renL (sg (LL ns)) cs' = some cs
theorem valX_at {Z : List Int} {i : Nat} {x : Int} (h : Z[i]? = some x) : (valX fn Z).v i = x := by simp [valX, List.getD, h]
mutual
theorem cnS_ok {Z : List Int} {ns : List Nat} : ∀ {s : Sh} {a : AV} {xs : List Int} {ms : List Nat} {es : List Bool} (i q : Nat) (ob : List (Nat × SO)) (e' : List Bool), FlR (valX fn []) H s a xs ms es → (∀ t, t < xs.length → Z[i + t]? = xs[t]?) → (∀ t, t < ms.length → ns[q + t]? = ms[t]?) → ObsOk fn Z H ns ob → (∀ p ∈ ob, p.1 < q) →
    ren (sg (LL ns)) ((cnS s ⟨i, q, es ++ e', ob⟩).1.den (valX fn Z)) = some a ∧ (cnS s ⟨i, q, es ++ e', ob⟩).2.i = i + xs.length ∧ (cnS s ⟨i, q, es ++ e', ob⟩).2.q = q + ms.length ∧ (cnS s ⟨i, q, es ++ e', ob⟩).2.e = e' ∧
      ObsOk fn Z H ns (cnS s ⟨i, q, es ++ e', ob⟩).2.ob ∧ (cnS s ⟨i, q, es ++ e', ob⟩).2.ob.map (·.1) = ob.map (·.1) ++ upTo q ms.length := by
  intro s a xs ms es i q ob e' h hX hN hO hq
  cases s with
  | int k =>
    obtain ⟨n, rfl, rfl, rfl, rfl⟩ := h
    refine ⟨?_, rfl, rfl, rfl, hO, by simp [upTo, cnS]⟩
    have := hX 0 (by simp)
    simp only [Nat.add_zero, List.getElem?_cons_zero] at this
    simp only [cnS, SV.den, ren, X.den_var, valX_at this]
  | bool =>
    obtain ⟨b, rfl, rfl, rfl, rfl⟩ := h
    refine ⟨?_, rfl, rfl, rfl, hO, by simp [upTo, cnS]⟩
    have := hX 0 (by simp)
    simp only [Nat.add_zero, List.getElem?_cons_zero] at this
    simp only [cnS, SV.den, ren, X.denB_var, valX_at this, i2b_b2i]
  | agg l =>
    obtain ⟨cs, rfl, h⟩ := h
    obtain ⟨h1, h2⟩ := cnSs_ok i q ob e' h hX hN hO hq
    refine ⟨?_, h2⟩
    simp only [cnS, SV.den, ren, h1]
  | fnc f =>
    obtain ⟨rfl, rfl, rfl, rfl⟩ := h
    exact ⟨rfl, rfl, rfl, rfl, hO, by simp [upTo, cnS]⟩
  | row cm =>
    obtain ⟨n, len, cap, ex, w, rfl, hg, rfl, rfl, rfl⟩ := h
    refine ⟨?_, rfl, rfl, rfl, ?_, by simp [upTo, cnS]⟩
    · have h0 := hX 0 (by simp)
      have h1 := hX 1 (by simp)
      have h2 := hN 0 (by simp)
      simp only [Nat.add_zero, List.getElem?_cons_zero, List.getElem?_cons_succ] at h0 h1 h2
      simp only [cnS, SV.den, ren, sg_LL0, h2, Option.map_some, X.den_var, valX_at h0, valX_at h1, X.den_lit]
      simp [hdB]
    · intro p hp
      simp only [cnS] at hp
      rcases List.mem_append.1 hp with hp | hp
      · exact hO p hp
      · rw [List.mem_singleton] at hp
        subst hp
        have h0 := hX 0 (by simp)
        have h2 := hN 0 (by simp)
        simp only [Nat.add_zero, List.getElem?_cons_zero] at h0 h2
        refine ⟨n, w, _, _, h2, ?_, hg, renL_plain (rowD_plain _ _)⟩
        simp only [SO.den, X.den_var, valX_at h0, X.sem_nil, Int.toNat_natCast]
        rw [rowD_fn (ρ := valX fn []) (ρ' := valX fn Z) rfl]
  | lst e l =>
    obtain ⟨n, len, cap, ex, w, cs, ys, ms', ds, ⟨he, hl⟩, rfl, hg, hfl, rfl, rfl, rfl⟩ := h
    have h0 := hX 0 (by simp)
    have h2 := hN 0 (by simp)
    simp only [Nat.add_zero, List.getElem?_cons_zero] at h0 h2
    have hdiv : l.length / e = len := by rw [← hl]; exact Nat.mul_div_cancel _ he
    have hN' : ∀ t, t < ms'.length → ns[q + 1 + t]? = ms'[t]? := fun t ht => by
      have := hN (t + 1) (by simp only [List.length_cons]; omega)
      rw [show q + 1 + t = q + (t + 1) by omega, this, List.getElem?_cons_succ]
    have hX' : ∀ t, t < ys.length → Z[i + 1 + t]? = ys[t]? := fun t ht => by
      have := hX (t + 1) (by simp only [List.length_cons]; omega)
      rw [show i + 1 + t = i + (t + 1) by omega, this, List.getElem?_cons_succ]
    have hin := (cnSs_ok (Z := Z) (ns := ns) (i + 1) (q + 1) [] e' hfl hX' hN' (fun p hp => by cases hp) (fun p hp => by cases hp)).1
    obtain ⟨g1, g2, g3, g4, g5⟩ := (cnSs_ok (Z := Z) (ns := ns) (i + 1) (q + 1) (ob ++ [(q, .cells false (cnSs l ⟨i + 1, q + 1, ds ++ e', []⟩).1)]) e' hfl hX' hN' (fun p hp => by
      rcases List.mem_append.1 hp with hp | hp
      · exact hO p hp
      · rw [List.mem_singleton] at hp
        subst hp
        exact ⟨n, w, cs, _, h2, rfl, hg, hin⟩) (fun p hp => by
      rcases List.mem_append.1 hp with hp | hp
      · have := hq p hp; omega
      · rw [List.mem_singleton] at hp
        subst hp
        exact Nat.lt_succ_self _)).2
    refine ⟨?_, ?_, ?_, g3, g4, ?_⟩
    · simp only [cnS, SV.den, ren, sg_LL0, h2, Option.map_some, X.den_var, valX_at h0, X.den_lit, hdiv]
      simp [hdB]
    · show (cnSs l ⟨i + 1, q + 1, ds ++ e', ob ++ [(q, .cells false (cnSs l ⟨i + 1, q + 1, ds ++ e', []⟩).1)]⟩).2.i = _
      rw [g1, List.length_cons]; omega
    · show (cnSs l ⟨i + 1, q + 1, ds ++ e', ob ++ [(q, .cells false (cnSs l ⟨i + 1, q + 1, ds ++ e', []⟩).1)]⟩).2.q = _
      rw [g2, List.length_cons]; omega
    · show (cnSs l ⟨i + 1, q + 1, ds ++ e', ob ++ [(q, .cells false (cnSs l ⟨i + 1, q + 1, ds ++ e', []⟩).1)]⟩).2.ob.map (·.1) = _
      rw [g5]
      simp only [List.map_append, List.map_cons, List.map_nil, List.length_cons, upTo, List.append_assoc, List.cons_append, List.nil_append]
  | clo f l =>
    obtain ⟨cs, rfl, h⟩ := h
    obtain ⟨h1, h2⟩ := cnSs_ok i q ob e' h hX hN hO hq
    refine ⟨?_, h2⟩
    simp only [cnS, SV.den, ren, SV.dens, renL, h1]
  | ptr l =>
    obtain ⟨n, w, cs, ms', rfl, hg, hfl, rfl⟩ := h
    have h2 := hN 0 (by simp)
    simp only [Nat.add_zero, List.getElem?_cons_zero] at h2
    have hN' : ∀ t, t < ms'.length → ns[q + 1 + t]? = ms'[t]? := fun t ht => by
      have := hN (t + 1) (by simp only [List.length_cons]; omega)
      rw [show q + 1 + t = q + (t + 1) by omega, this, List.getElem?_cons_succ]
    have hin := (cnSs_ok (Z := Z) (ns := ns) i (q + 1) [] e' hfl hX hN' (fun p hp => by cases hp) (fun p hp => by cases hp)).1
    obtain ⟨g1, g2, g3, g4, g5⟩ := (cnSs_ok (Z := Z) (ns := ns) i (q + 1) (ob ++ [(q, .cells false (cnSs l ⟨i, q + 1, es ++ e', []⟩).1)]) e' hfl hX hN' (fun p hp => by
      rcases List.mem_append.1 hp with hp | hp
      · exact hO p hp
      · rw [List.mem_singleton] at hp
        subst hp
        exact ⟨n, w, cs, _, h2, rfl, hg, hin⟩) (fun p hp => by
      rcases List.mem_append.1 hp with hp | hp
      · have := hq p hp; omega
      · rw [List.mem_singleton] at hp
        subst hp
        exact Nat.lt_succ_self _)).2
    refine ⟨?_, g1, by simp only [cnS, g2, List.length_cons]; omega, g3, g4, ?_⟩
    · simp only [cnS, SV.den, ren, sg_LL0, h2, Option.map_some, Nat.add_zero]
    · simp only [cnS, g5, List.map_append, List.map_cons, List.map_nil, List.length_cons, upTo, List.append_assoc, List.cons_append, List.nil_append]
theorem cnSs_ok {Z : List Int} {ns : List Nat} : ∀ {s : List Sh} {a : List AV} {xs : List Int} {ms : List Nat} {es : List Bool} (i q : Nat) (ob : List (Nat × SO)) (e' : List Bool), FlRs (valX fn []) H s a xs ms es → (∀ t, t < xs.length → Z[i + t]? = xs[t]?) → (∀ t, t < ms.length → ns[q + t]? = ms[t]?) → ObsOk fn Z H ns ob → (∀ p ∈ ob, p.1 < q) →
    renL (sg (LL ns)) (SV.dens (valX fn Z) (cnSs s ⟨i, q, es ++ e', ob⟩).1) = some a ∧ (cnSs s ⟨i, q, es ++ e', ob⟩).2.i = i + xs.length ∧ (cnSs s ⟨i, q, es ++ e', ob⟩).2.q = q + ms.length ∧ (cnSs s ⟨i, q, es ++ e', ob⟩).2.e = e' ∧
      ObsOk fn Z H ns (cnSs s ⟨i, q, es ++ e', ob⟩).2.ob ∧ (cnSs s ⟨i, q, es ++ e', ob⟩).2.ob.map (·.1) = ob.map (·.1) ++ upTo q ms.length := by
  intro s a xs ms es i q ob e' h hX hN hO hq
  cases s with
  | nil =>
    obtain ⟨rfl, rfl, rfl, rfl⟩ := h
    exact ⟨rfl, rfl, rfl, rfl, hO, by simp [cnSs, upTo]⟩
  | cons s l =>
    obtain ⟨a, t, x, y, n, m, e1, e2, rfl, h1, h2, rfl, rfl, rfl⟩ := h
    rw [List.append_assoc]
    obtain ⟨g1, g2, g3, g4, g5, g6⟩ := cnS_ok i q ob (e2 ++ e') h1 (fun t ht => by rw [hX t (by rw [List.length_append]; omega), List.getElem?_append_left ht]) (fun t ht => by rw [hN t (by rw [List.length_append]; omega), List.getElem?_append_left ht]) hO hq
    have hub : ∀ {k len : Nat}, ∀ z ∈ upTo k len, z < k + len := fun z hz => (mem_upTo.1 hz).2
    cases hcn : (cnS s ⟨i, q, e1 ++ (e2 ++ e'), ob⟩).2 with
    | mk i' q' e'' ob' =>
      rw [hcn] at g2 g3 g4 g5 g6
      simp only at g2 g3 g4 g5 g6
      subst g2 g3 g4
      obtain ⟨k1, k2, k3, k4, k5, k6⟩ := cnSs_ok (i + x.length) (q + n.length) ob' e' h2 (fun t ht => by
        rw [show i + x.length + t = i + (x.length + t) by omega, hX (x.length + t) (by rw [List.length_append]; omega), List.getElem?_append_right (by omega)]
        congr 1; omega) (fun t ht => by
        rw [show q + n.length + t = q + (n.length + t) by omega, hN (n.length + t) (by rw [List.length_append]; omega), List.getElem?_append_right (by omega)]
        congr 1; omega) g5 (fun p hp => by
        have : p.1 ∈ ob'.map (·.1) := List.mem_map.2 ⟨p, hp, rfl⟩
        rw [g6] at this
        rcases List.mem_append.1 this with h | h
        · obtain ⟨p', hp', e⟩ := List.mem_map.1 h
          have := hq p' hp'
          rw [e] at this; omega
        · exact hub _ h)
      simp only [cnSs, SV.dens, renL, g1, hcn, k1]
      refine ⟨trivial, by rw [k2, List.length_append]; omega, by rw [k3, List.length_append]; omega, k4, k5, ?_⟩
      rw [k6, g6, List.append_assoc]
      congr 1
      have up : ∀ (a k j : Nat), upTo a k ++ upTo (a + k) j = upTo a (k + j) := by
        intro a k
        induction k generalizing a with
        | zero => intro j; simp [upTo]
        | succ k ih =>
          intro j
          have e : k + 1 + j = (k + j) + 1 := by omega
          rw [e]
          simp only [upTo, List.cons_append]
          rw [← ih (a + 1) j]
          congr 3; omega
      rw [up, List.length_append]
end
mutual
def rwF : Sh → Nat → List X × Nat
  | .int _, i => ([], i + 1)
  | .bool, i => ([.bin .le (.lit 0) (.var i), .bin .le (.var i) (.lit 1)], i + 1)
  | .agg l, i => rwFs l i
  | .row _, i => ([.bin .le (.lit 0) (.var i), .bin .le (.lit 0) (.var (i + 1))], i + 2)
  | .fnc _, i => ([], i)
  | .lst _ l, i => (.bin .le (.lit 0) (.var i) :: (rwFs l (i + 1)).1, (rwFs l (i + 1)).2)
  | .clo _ l, i => rwFs l i
  | .ptr l, i => rwFs l i
def rwFs : List Sh → Nat → List X × Nat
  | [], i => ([], i)
  | s :: l, i => ((rwF s i).1 ++ (rwFs l (rwF s i).2).1, (rwFs l (rwF s i).2).2)
end
mutual
def rowN : Sh → Nat
  | .row _ => 1
  | .lst _ l => rowNs l + 1
  | .agg l => rowNs l
  | .clo _ l => rowNs l
  | .ptr l => rowNs l
  | _ => 0
def rowNs : List Sh → Nat
  | [] => 0
  | s :: l => rowNs l + rowN s
end
mutual
theorem rowN_ok : ∀ {s : Sh} {a : AV} {xs : List Int} {ms : List Nat} {es : List Bool}, FlR (valX fn []) H s a xs ms es → es.length = rowN s := by
  intro s a xs ms es h
  cases s with
  | int k => obtain ⟨n, rfl, rfl, rfl, rfl⟩ := h; rfl
  | bool => obtain ⟨n, rfl, rfl, rfl, rfl⟩ := h; rfl
  | agg l => obtain ⟨cs, rfl, h⟩ := h; exact rowNs_ok h
  | fnc f => obtain ⟨rfl, rfl, rfl, rfl⟩ := h; rfl
  | row cm => obtain ⟨n, len, cap, ex, w, rfl, hg, rfl, rfl, rfl⟩ := h; rfl
  | lst e l => obtain ⟨n, len, cap, ex, w, cs, ys, ms', ds, _, rfl, hg, hfl, rfl, rfl, rfl⟩ := h; rw [List.length_cons, rowNs_ok hfl]; rfl
  | clo f l => obtain ⟨cs, rfl, h⟩ := h; exact rowNs_ok h
  | ptr l => obtain ⟨n, w, cs, ms', rfl, _, h, rfl⟩ := h; exact rowNs_ok h
theorem rowNs_ok : ∀ {s : List Sh} {a : List AV} {xs : List Int} {ms : List Nat} {es : List Bool}, FlRs (valX fn []) H s a xs ms es → es.length = rowNs s := by
  intro s a xs ms es h
  cases s with
  | nil => obtain ⟨rfl, rfl, rfl, rfl⟩ := h; rfl
  | cons s l =>
    obtain ⟨a, t, x, y, n, m, e, d, rfl, h1, h2, rfl, rfl, rfl⟩ := h
    rw [List.length_append, rowN_ok h1, rowNs_ok h2]
    simp only [rowNs]; omega
end
def allEs : Nat → (List Bool → Prop) → Prop
  | 0, p => p []
  | n + 1, p => allEs n (fun es => p (true :: es)) ∧ allEs n (fun es => p (false :: es))
theorem allEs_at : ∀ {n : Nat} {p : List Bool → Prop}, allEs n p → ∀ es : List Bool, es.length = n → p es
  | 0, p, h, es, hl => by
    have : es = [] := List.length_eq_zero_iff.1 hl
    subst this; exact h
  | n + 1, p, h, es, hl => by
    cases es with
    | nil => cases hl
    | cons b es =>
      simp only [List.length_cons, Nat.add_right_cancel_iff] at hl
      cases b with
      | true => exact allEs_at h.1 es hl
      | false => exact allEs_at h.2 es hl
theorem AllB.append {ρ : Val} {a b : List X} (h : AllB ρ a) (k : AllB ρ b) : AllB ρ (a ++ b) := AllB_of ((allB_fcs h).append (allB_fcs k))
mutual
theorem rwF_ok {Z : List Int} : ∀ {s : Sh} {a : AV} {xs : List Int} {ms : List Nat} {es : List Bool} (i : Nat), FlR (valX fn []) H s a xs ms es → (∀ t, t < xs.length → Z[i + t]? = xs[t]?) → AllB (valX fn Z) (rwF s i).1 ∧ (rwF s i).2 = i + xs.length := by
  intro s a xs ms es i h hX
  cases s with
  | int k => obtain ⟨n, rfl, rfl, rfl, rfl⟩ := h; exact ⟨trivial, rfl⟩
  | bool =>
    obtain ⟨b, rfl, rfl, rfl, rfl⟩ := h
    have h0 := hX 0 (by simp)
    simp only [Nat.add_zero, List.getElem?_cons_zero] at h0
    have e := valX_at (fn := fn) h0
    refine ⟨⟨?_, ?_, trivial⟩, rfl⟩
    · rw [X.denB_le, X.den_lit, X.den_var, e]; cases b <;> rfl
    · rw [X.denB_le, X.den_lit, X.den_var, e]; cases b <;> rfl
  | agg l => obtain ⟨cs, rfl, h⟩ := h; exact rwFs_ok i h hX
  | fnc f => obtain ⟨rfl, rfl, rfl, rfl⟩ := h; exact ⟨trivial, rfl⟩
  | row cm =>
    obtain ⟨n, len, cap, ex, w, rfl, hg, rfl, rfl, rfl⟩ := h
    have h0 := hX 0 (by simp)
    have h1 := hX 1 (by simp)
    simp only [Nat.add_zero, List.getElem?_cons_zero, List.getElem?_cons_succ] at h0 h1
    have e0 := valX_at (fn := fn) h0
    have e1 := valX_at (fn := fn) h1
    refine ⟨⟨?_, ?_, trivial⟩, rfl⟩
    · rw [X.denB_le, X.den_lit, X.den_var, e0]; simp
    · rw [X.denB_le, X.den_lit, X.den_var, e1]; simp
  | lst e l =>
    obtain ⟨n, len, cap, ex, w, cs, ys, ms', ds, _, rfl, hg, hfl, rfl, rfl, rfl⟩ := h
    have h0 := hX 0 (by simp)
    simp only [Nat.add_zero, List.getElem?_cons_zero] at h0
    have e0 := valX_at (fn := fn) h0
    obtain ⟨g1, g2⟩ := rwFs_ok (i + 1) hfl (fun t ht => by
      have := hX (t + 1) (by simp only [List.length_cons]; omega)
      rw [show i + 1 + t = i + (t + 1) by omega, this, List.getElem?_cons_succ])
    refine ⟨⟨?_, g1⟩, by simp only [rwF, g2, List.length_cons]; omega⟩
    rw [X.denB_le, X.den_lit, X.den_var, e0]; simp
  | clo f l => obtain ⟨cs, rfl, h⟩ := h; exact rwFs_ok i h hX
  | ptr l => obtain ⟨n, w, cs, ms', rfl, _, h, rfl⟩ := h; exact rwFs_ok i h hX
theorem rwFs_ok {Z : List Int} : ∀ {s : List Sh} {a : List AV} {xs : List Int} {ms : List Nat} {es : List Bool} (i : Nat), FlRs (valX fn []) H s a xs ms es → (∀ t, t < xs.length → Z[i + t]? = xs[t]?) → AllB (valX fn Z) (rwFs s i).1 ∧ (rwFs s i).2 = i + xs.length := by
  intro s a xs ms es i h hX
  cases s with
  | nil => obtain ⟨rfl, rfl, rfl, rfl⟩ := h; exact ⟨trivial, rfl⟩
  | cons s l =>
    obtain ⟨a, t, x, y, n, m, e, d, rfl, h1, h2, rfl, rfl, rfl⟩ := h
    obtain ⟨g1, g2⟩ := rwF_ok i h1 (fun t ht => by rw [hX t (by rw [List.length_append]; omega), List.getElem?_append_left ht])
    obtain ⟨g3, g4⟩ := rwFs_ok (i + x.length) h2 (fun t ht => by
      rw [show i + x.length + t = i + (x.length + t) by omega, hX (x.length + t) (by rw [List.length_append]; omega), List.getElem?_append_right (by omega)]
      congr 1; omega)
    simp only [rwFs, g2]
    exact ⟨g1.append g3, by rw [g4, List.length_append]; omega⟩
end
mutual
theorem okN_ren {k : Nat} {ρ : Val} : ∀ v : SV, v.okN k = true → ren (upS k) (v.den ρ) = some (v.den ρ) := by
  intro v h
  cases v <;> simp only [SV.okN] at h <;> try (cases h; done)
  case slice n oc eo len cap esz ex => simp only [SV.den, ren, upS, h, cond_true, Nat.zero_add, show Nat.beq 0 0 = true from rfl, Bool.true_or]
  case agg cs => simp only [SV.den, ren, okNs_ren cs h]
  case tuple cs => simp only [SV.den, ren, okNs_ren cs h]
  all_goals rfl
theorem okNs_ren {k : Nat} {ρ : Val} : ∀ l : List SV, SV.okNs k l = true → renL (upS k) (SV.dens ρ l) = some (SV.dens ρ l) := by
  intro l h
  cases l with
  | nil => rfl
  | cons a l =>
    simp only [SV.okNs] at h
    obtain ⟨h1, h2⟩ := cond_true_false h
    simp only [SV.dens, renL, okN_ren a h1, okNs_ren l h2]
end
def Pr.SE (fn : Nat → List Int → Int) (p : Pr) (es : List Bool) (a : List AV) (H : Hp) (v : AV) : Prop := ∃ xs ns w, FlRs (valX fn []) H p.sh a xs ns es ∧ AllB (valX fn xs) p.pre ∧ OT.sem (valX fn xs) (p.out es) = some w ∧ w.okN ns.length = true ∧ ren (sg (LL ns)) (w.den (valX fn xs)) = some v
def Pr.OkE (P : Program) (fn : Nat → List Int → Int) (p : Pr) (es : List Bool) : Prop := ∀ a H nx v, p.SE fn es a H v → CallOk P p.g a H nx v H nx
def Pr.Ok (P : Program) (fn : Nat → List Int → Int) (p : Pr) : Prop := ∀ a H nx v, p.S fn a H v → CallOk P p.g a H nx v H nx
theorem tplT_get {ob : List (Nat × SO)} (hd : (ob.map (·.1)).Nodup) : ∀ {p : Nat × SO}, p ∈ ob → (tplT ob).get p.1 = some p.2 := by
  induction ob with
  | nil => intro p h; cases h
  | cons q l ih =>
    intro p hp
    simp only [List.map_cons, List.nodup_cons] at hd
    simp only [tplT, Tr.get_set]
    rcases List.mem_cons.1 hp with rfl | hp
    · simp
    · have : p.1 ≠ q.1 := fun e => hd.1 (List.mem_map.2 ⟨p, hp, e⟩)
      rw [if_neg this]; exact ih hd.2 hp
theorem tplT_mem {ob : List (Nat × SO)} : ∀ {n : Nat} {o : SO}, (tplT ob).get n = some o → (n, o) ∈ ob := by
  induction ob with
  | nil => intro n o h; cases h
  | cons q l ih =>
    intro n o h
    simp only [tplT, Tr.get_set] at h
    split at h
    · rename_i e; cases h; subst e; exact List.mem_cons_self
    · exact List.mem_cons_of_mem _ (ih h)
theorem upTo_nodup : ∀ (n a : Nat), (upTo a n).Nodup
  | 0, _ => List.nodup_nil
  | n + 1, a => by
    simp only [upTo, List.nodup_cons]
    exact ⟨fun h => by have := (mem_upTo.1 h).1; omega, upTo_nodup n (a + 1)⟩
theorem allB_of_get {t : Tr AObj} {f : AObj → Bool} (h : ∀ n o, t.get n = some o → f o = true) : t.allB f = true := by
  induction t with
  | nil => rfl
  | node v l r ihl ihr =>
    have hl := ihl (fun n o hn => h (2 * n + 1) o (by
      simp only [Tr.get]
      rw [show (2 * n + 1).beq 0 = false from rfl, show ((2 * n + 1) % 2).beq 1 = true by rw [show (2 * n + 1) % 2 = 1 by omega]; rfl, show (2 * n + 1) / 2 = n by omega]; exact hn))
    have hr := ihr (fun n o hn => h (2 * n + 2) o (by
      simp only [Tr.get]
      rw [show (2 * n + 2).beq 0 = false from rfl, show ((2 * n + 2) % 2).beq 1 = false by rw [show (2 * n + 2) % 2 = 0 by omega]; rfl, show (2 * n + 2) / 2 - 1 = n by omega]; exact hn))
    have hv : ∀ o, v = some o → f o = true := fun o e => h 0 o (by rw [e]; rfl)
    cases v with
    | none => simp only [Tr.allB, hl, hr]; rfl
    | some o => simp only [Tr.allB, hl, hr, hv o rfl]; rfl
theorem LL_fst (ns : List Nat) : ∀ k, ((ns.zipIdx k).map fun p => (p.2, p.1, 0)).map (fun x : Nat × Nat × Nat => x.1) = upTo k ns.length := by
  induction ns with
  | nil => intro k; rfl
  | cons n ns ih => intro k; simp only [List.zipIdx_cons, List.map_cons, ih, List.length_cons, upTo]
theorem renL_len {σ : Sg} : ∀ {l l' : List AV}, renL σ l = some l' → l'.length = l.length
  | [], _, h => by cases h; rfl
  | a :: l, l', h => by
    simp only [renL] at h
    split at h <;> cases h
    rename_i b k h1 h2
    simp only [List.length_cons, renL_len h2]
theorem embW {σ : Sg} {Hc H : Hp} {i p : Nat} (cs cs' : List AV) (w : Bool) (h : (Hc.get i, H.get p) = (some (.cells false cs'), some (.cells w cs))) (hr : renL σ cs' = some cs) : EmbE σ Hc H (i, p, 0) :=
  embV cs' w cs h (by rw [renL_len hr]; omega) (by rw [List.drop_zero, ← renL_len hr, List.take_length]; exact hr)
theorem embL_of {σ : Sg} {Hc H : Hp} : ∀ {l : List (Nat × Nat × Nat)}, (∀ x ∈ l, EmbE σ Hc H x) → EmbL σ Hc H l
  | [], _ => trivial
  | x :: l, h => ⟨h x List.mem_cons_self, embL_of fun y hy => h y (List.mem_cons_of_mem _ hy)⟩
theorem pr_okE {p : Pr} {es : List Bool} (h : ∀ (xs : List Int), xs.length = (rwFs p.sh 0).2 → es.length = rowNs p.sh → AllB (valX fn xs) p.pre → AllB (valX fn xs) (rwFs p.sh 0).1 → CallH P p.g (SV.dens (valX fn xs) (cnSs p.sh (cn0 es)).1) (hD (valX fn xs) ⟨tplT (cnSs p.sh (cn0 es)).2.ob, [], 0⟩) (cnSs p.sh (cn0 es)).2.q
    (fun v _ _ => ∃ w, OT.sem (valX fn xs) (p.out es) = some w ∧ v = w.den (valX fn xs))) : p.OkE P fn es := by
  rintro a H nx v ⟨xs, ns, w, hfl, hpre, hsem, hokn, hrv⟩
  obtain ⟨h1, h2, h3, h4, h5, h6⟩ := cnSs_ok (Z := xs) (ns := ns) 0 0 [] [] hfl (fun t _ => by rw [Nat.zero_add]) (fun t _ => by rw [Nat.zero_add]) (fun p hp => by cases hp) (fun p hp => by cases hp)
  obtain ⟨hrw, hlen⟩ := rwFs_ok (Z := xs) 0 hfl (fun t _ => by rw [Nat.zero_add])
  have hc := h xs (by rw [hlen, Nat.zero_add]) (rowNs_ok hfl) hpre hrw
  have ec : (⟨0, 0, es ++ [], []⟩ : Cn) = cn0 es := by rw [List.append_nil]; rfl
  rw [ec] at h1 h2 h3 h4 h5 h6
  generalize cnSs p.sh (cn0 es) = R at *
  obtain ⟨args, i, q, e', ob⟩ := R
  simp only at h1 h2 h3 h4 h5 h6 hc
  rw [List.map_nil, List.nil_append] at h6
  have hnd : (ob.map (·.1)).Nodup := by rw [h6]; exact upTo_nodup _ _
  rw [Nat.zero_add] at h3
  subst h3
  have hget : ∀ n o, (Tr.map (SO.den (valX fn xs)) (tplT ob)).get n = some o → ∃ m w cs cs', n < ns.length ∧ ns[n]? = some m ∧ o = .cells false cs' ∧ H.get m = some (.cells w cs) ∧ renL (sg (LL ns)) cs' = some cs := by
    intro n o hn
    rw [Tr.get_map] at hn
    cases hg : (tplT ob).get n with
    | none => rw [hg] at hn; cases hn
    | some o' =>
      rw [hg] at hn
      cases hn
      have hm := tplT_mem hg
      obtain ⟨m, w, cs, cs', k1, k2, k3, k4⟩ := h5 _ hm
      refine ⟨m, w, cs, cs', ?_, k1, k2, k3, k4⟩
      have : n ∈ ob.map (·.1) := List.mem_map.2 ⟨_, hm, rfl⟩
      rw [h6, mem_upTo] at this; omega
  have hro : ((Tr.map (SO.den (valX fn xs)) (tplT ob)).allB fun o => !o.writable) = true := allB_of_get fun n o hn => by
    obtain ⟨m, w, cs, cs', _, _, rfl, _⟩ := hget n o hn
    rfl
  have hW : Wf (⟨Tr.map (SO.den (valX fn xs)) (tplT ob), [], 0⟩ : Hp) ns.length := ⟨fun n hn => by
    cases hg : (Tr.map (SO.den (valX fn xs)) (tplT ob)).get n with
    | none => rfl
    | some o => obtain ⟨m, w, cs, cs', k, _⟩ := hget n o hg; omega, fun p hp => (by cases hp), fun n o hn => by
    obtain ⟨m, w, cs, cs', _, _, rfl, _⟩ := hget n o hn
    trivial⟩
  have hc2 := call_forget (V := fun v => ∃ w, OT.sem (valX fn xs) (p.out es) = some w ∧ v = w.den (valX fn xs)) hc hro (fun v hv => by
    obtain ⟨w', g1, rfl⟩ := hv
    rw [hsem] at g1
    cases g1
    exact okN_ren w hokn)
  refine callOk_look (LL ns) (hc2.mono fun v H' nx' ⟨⟨w', g1, g2⟩, g3, g4⟩ => ⟨?_, g3, g4⟩) hW (LL_fst ns 0) h1 (embL_of ?_) ?_ hro hrv
  · rw [hsem] at g1; cases g1; exact g2
  · intro x hx
    obtain ⟨⟨m, k⟩, hm, rfl⟩ := List.mem_map.1 hx
    have hk := List.mem_zipIdx hm
    have hkn : ns[k]? = some m := by
      have := List.getElem?_eq_some_iff.2 ⟨(by omega : k < ns.length), by have := hk.2.2; simpa using this.symm⟩
      exact this
    have hin : k ∈ ob.map (·.1) := by rw [h6, mem_upTo]; omega
    obtain ⟨⟨k', o⟩, hp, rfl⟩ := List.mem_map.1 hin
    obtain ⟨m', w, cs, cs', k1, k2, k3, k4⟩ := h5 _ hp
    simp only at k1 hkn
    rw [hkn] at k1
    cases k1
    refine embW cs cs' w ?_ k4
    rw [k3]
    have : (⟨Tr.map (SO.den (valX fn xs)) (tplT ob), [], 0⟩ : Hp).get k' = some (.cells false cs') := by
      rw [Abs.hget, Tr.get_map, tplT_get hnd hp]
      exact congrArg some k2
    rw [this]
  · unfold disB
    rw [List.all_eq_true]
    intro x _
    cases hg : (⟨Tr.map (SO.den (valX fn xs)) (tplT ob), [], 0⟩ : Hp).get x.1 with
    | none => rfl
    | some o =>
      rw [Abs.hget] at hg
      obtain ⟨m, w, cs, cs', _, _, rfl, _⟩ := hget _ _ hg
      rfl
theorem pr_ok {p : Pr} (h : ∀ (xs : List Int) (es : List Bool), xs.length = (rwFs p.sh 0).2 → es.length = rowNs p.sh → AllB (valX fn xs) p.pre → AllB (valX fn xs) (rwFs p.sh 0).1 → CallH P p.g (SV.dens (valX fn xs) (cnSs p.sh (cn0 es)).1) (hD (valX fn xs) ⟨tplT (cnSs p.sh (cn0 es)).2.ob, [], 0⟩) (cnSs p.sh (cn0 es)).2.q
    (fun v _ _ => ∃ w, OT.sem (valX fn xs) (p.out es) = some w ∧ v = w.den (valX fn xs))) : p.Ok P fn :=
  fun a H nx v ⟨xs, ns, es, w, h1, h2, h3, h4, h5⟩ => pr_okE (es := es) (fun xs => h xs es) a H nx v ⟨xs, ns, w, h1, h2, h3, h4, h5⟩
end
end Sx
end Abs
end Go.Proofs.YtekmmeikkafpmaaGreat

namespace Go.Proofs.YtekmmeikkafpmaaGreat
namespace Abs
namespace Sx
open Go.RowKit
def OT.is (ρ : Val) (v : AV) : OT SV → Prop
  | .no => False
  | .leaf w => v = w.den ρ
  | .ask b t f => (b.denB ρ = true → OT.is ρ v t) ∧ (b.denB ρ = false → OT.is ρ v f)
  | .need l t => AllB ρ l ∧ OT.is ρ v t
def PrsOk (P : Program) (fn : Nat → List Int → Int) : List Pr → Prop
  | [] => True
  | p :: l => p.Ok P fn ∧ PrsOk P fn l
def vrB : Nat → List (Option (Int × Int)) → Bool
  | _, [] => true
  | n + 1, none :: l => vrB n l
  | _ + 1, some _ :: _ => false
  | 0, none :: l => vrB 0 l
  | 0, some (a, b) :: l => decide (a ≤ 0) && (decide (0 ≤ b) && vrB 0 l)
section
variable {P : Program} {fn : Nat → List Int → Int}
theorem OT.is_sem {ρ : Val} {v : AV} : ∀ {t : OT SV}, OT.is ρ v t → ∃ w, OT.sem ρ t = some w ∧ v = w.den ρ
  | .no, h => h.elim
  | .leaf w, h => ⟨w, rfl, h⟩
  | .ask b t f, h => by
    simp only [OT.sem]
    cases hb : b.denB ρ with
    | true => exact OT.is_sem (h.1 hb)
    | false => exact OT.is_sem (h.2 hb)
  | .need l t, h => by
    simp only [OT.sem, if_pos (allB_fcs h.1)]
    exact OT.is_sem h.2
mutual
theorem FlR_uniq {ρ : Val} {H : Hp} : ∀ {s : Sh} {a : AV} {xs ys : List Int} {ns ms : List Nat} {es ds : List Bool}, FlR ρ H s a xs ns es → FlR ρ H s a ys ms ds → xs = ys ∧ ns = ms ∧ es = ds := by
  intro s a xs ys ns ms es ds h k
  cases s with
  | int => obtain ⟨n, rfl, rfl, rfl, rfl⟩ := h; obtain ⟨m, e, rfl, rfl, rfl⟩ := k; cases e; exact ⟨rfl, rfl, rfl⟩
  | bool => obtain ⟨n, rfl, rfl, rfl, rfl⟩ := h; obtain ⟨m, e, rfl, rfl, rfl⟩ := k; cases e; exact ⟨rfl, rfl, rfl⟩
  | agg l => obtain ⟨cs, rfl, h⟩ := h; obtain ⟨cs', e, k⟩ := k; cases e; exact FlRs_uniq h k
  | fnc f => obtain ⟨rfl, rfl, rfl, rfl⟩ := h; obtain ⟨_, rfl, rfl, rfl⟩ := k; exact ⟨rfl, rfl, rfl⟩
  | row cm => obtain ⟨n, len, cap, ex, w, rfl, _, rfl, rfl, rfl⟩ := h; obtain ⟨n', len', cap', ex', w', e, _, rfl, rfl, rfl⟩ := k; cases e; exact ⟨rfl, rfl, rfl⟩
  | lst e l =>
    obtain ⟨n, len, cap, ex, w, cs, ys, ms', ds', _, rfl, hg, h1, rfl, rfl, rfl⟩ := h
    obtain ⟨n', len', cap', ex', w', cs', ys', ms'', ds'', _, e, hg', h2, rfl, rfl, rfl⟩ := k
    cases e
    rw [hg] at hg'
    cases hg'
    obtain ⟨rfl, rfl, rfl⟩ := FlRs_uniq h1 h2
    exact ⟨rfl, rfl, rfl⟩
  | clo f l => obtain ⟨cs, rfl, h⟩ := h; obtain ⟨cs', e, k⟩ := k; cases e; exact FlRs_uniq h k
  | ptr l =>
    obtain ⟨n, w, cs, ms', rfl, hg, h1, rfl⟩ := h
    obtain ⟨n', w', cs', ms'', e, hg', h2, rfl⟩ := k
    cases e
    rw [hg] at hg'
    cases hg'
    obtain ⟨rfl, rfl, rfl⟩ := FlRs_uniq h1 h2
    exact ⟨rfl, rfl, rfl⟩
theorem FlRs_uniq {ρ : Val} {H : Hp} : ∀ {s : List Sh} {a : List AV} {xs ys : List Int} {ns ms : List Nat} {es ds : List Bool}, FlRs ρ H s a xs ns es → FlRs ρ H s a ys ms ds → xs = ys ∧ ns = ms ∧ es = ds := by
  intro s a xs ys ns ms es ds h k
  cases s with
  | nil => obtain ⟨rfl, rfl, rfl, rfl⟩ := h; obtain ⟨_, rfl, rfl, rfl⟩ := k; exact ⟨rfl, rfl, rfl⟩
  | cons s l =>
    obtain ⟨a, t, x, y, n, m, e1, d1, rfl, h1, h2, rfl, rfl, rfl⟩ := h
    obtain ⟨a', t', x', y', n', m', e2, d2, e, k1, k2, rfl, rfl, rfl⟩ := k
    cases e
    obtain ⟨rfl, rfl, rfl⟩ := FlR_uniq h1 k1
    obtain ⟨rfl, rfl, rfl⟩ := FlRs_uniq h2 k2
    exact ⟨rfl, rfl, rfl⟩
end
theorem Pr.S_uniq {p : Pr} {a : List AV} {H : Hp} {v w : AV} (h : p.S fn a H v) (k : p.S fn a H w) : v = w := by
  obtain ⟨xs, ns, es, v', h1, h2, h3, h4, h5⟩ := h
  obtain ⟨ys, ms, ds, w', k1, k2, k3, k4, k5⟩ := k
  obtain ⟨rfl, rfl, rfl⟩ := FlRs_uniq h1 k1
  rw [h3] at k3
  cases k3
  rw [h5] at k5
  cases k5
  rfl
theorem apart_not {ρ : Val} {H : Hp} : ∀ {s s' : List Sh} {a : List AV} {xs ys : List Int} {ns ms : List Nat} {es ds : List Bool}, apart s s' = true → FlRs ρ H s a xs ns es → FlRs ρ H s' a ys ms ds → False
  | [], s', _, _, _, _, _, _, _, h, _, _ => by cases s' <;> simp [apart] at h
  | s :: l, [], _, _, _, _, _, _, _, h, _, _ => by cases s <;> simp [apart] at h
  | s :: l, s' :: l', a, xs, ys, ns, ms, es, ds, h, h1, h2 => by
    obtain ⟨a1, t1, x1, y1, n1, m1, e1, d1, rfl, g1, k1, _, _, _⟩ := h1
    obtain ⟨a2, t2, x2, y2, n2, m2, e2, d2, e, g2, k2, _, _, _⟩ := h2
    cases e
    have rest : apart l l' = true → False := fun h => apart_not h k1 k2
    cases s <;> cases s' <;> first
      | exact rest h
      | (simp only [apart, Bool.cond_eq_ite, Nat.beq_eq] at h
         obtain ⟨n, len, cap, ex, w, cs, ys', ms', ds', ⟨_, q1⟩, rfl, _⟩ := g1
         obtain ⟨n', len', cap', ex', w', cs', ys'', ms'', ds'', ⟨_, q2⟩, e, _⟩ := g2
         cases e
         rw [if_pos rfl, if_pos (q1.symm.trans q2)] at h
         exact rest h)
def SelQ (g : FuncId) : List Pr → Pr → Prop
  | [], _ => False
  | p :: l, q => (p.g = g ∧ q = p) ∨ ((p.g = g → apart p.sh q.sh = true) ∧ SelQ g l q)
theorem selQ_ok : ∀ {l : List Pr} {g : FuncId} {q : Pr}, PrsOk P fn l → SelQ g l q → q.g = g ∧ q.Ok P fn
  | [], _, _, _, h => h.elim
  | p :: l, g, q, hl, h => by
    rcases h with ⟨h1, rfl⟩ | ⟨_, h⟩
    · exact ⟨h1, hl.1⟩
    · exact selQ_ok hl.2 h
theorem selQ_uniq {a : List AV} {H : Hp} {v w : AV} : ∀ {l : List Pr} {g : FuncId} {q r : Pr}, SelQ g l q → SelQ g l r → q.S fn a H v → r.S fn a H w → v = w
  | [], _, _, _, h, _, _, _ => h.elim
  | p :: l, g, q, r, h, k, hs, ks => by
    have no : ∀ {p q : Pr} {v w : AV}, apart p.sh q.sh = true → p.S fn a H v → q.S fn a H w → False := fun h hs ks => by
      obtain ⟨_, _, _, _, h1, _⟩ := hs
      obtain ⟨_, _, _, _, k1, _⟩ := ks
      exact apart_not h h1 k1
    rcases h with ⟨h1, rfl⟩ | ⟨h1, h⟩ <;> rcases k with ⟨k1, rfl⟩ | ⟨k1, k⟩
    · exact Pr.S_uniq hs ks
    · exact (no (k1 h1) hs ks).elim
    · exact (no (h1 k1) ks hs).elim
    · exact selQ_uniq h k hs ks
theorem selP_sel {R : Rgs} {fs : List X} {H : SH} {args : List SV} {g : FuncId} : ∀ {l : List Pr} {q : Pr}, selP R fs H args g l = some q → SelQ g l q
  | [], _, h => by cases h
  | p :: l, q, h => by
    simp only [selP] at h
    cases hb : Nat.beq p.g g <;> rw [hb] at h
    · rw [cond_false] at h
      exact .inr ⟨fun e => (by rw [e, Nat.beq_refl] at hb; cases hb), selP_sel h⟩
    · rw [cond_true] at h
      have hg := Nat.eq_of_beq_eq_true hb
      split at h
      · cases h; exact .inl ⟨hg, rfl⟩
      · split at h <;> try (cases h; done)
        rename_i r hr
        cases ha : apart p.sh r.sh <;> rw [ha] at h <;> cases h
        exact .inr ⟨fun _ => ha, selP_sel hr⟩
def ctsOf (l : List Pr) (hl : PrsOk P fn l) : Cts P where
  C g a H nx r := ∃ p v, SelQ g l p ∧ p.S fn a H v ∧ r = .call v H nx
  uniq g a H nx r r' h k := by
    obtain ⟨p, v, h1, h2, rfl⟩ := h
    obtain ⟨q, w, k1, k2, rfl⟩ := k
    rw [selQ_uniq h1 k1 h2 k2]
  ok g a H nx r h := by
    obtain ⟨p, v, h1, h2, rfl⟩ := h
    obtain ⟨e, hok⟩ := selQ_ok hl h1
    have := hok a H nx v h2
    rw [e] at this
    exact this
theorem ctsOf_has {R : Rgs} {ρ : Val} (l : List Pr) (hl : PrsOk P fn l) (hfn : ρ.fn = fn) (hR : R.ok ρ) : (ctsOf l hl).has ρ (ksOf R l) := by
  refine ⟨fun g k fs args H nx r fs' hk hf h => ?_⟩
  unfold ksOf at hk
  split at hk <;> cases hk
  dsimp only at h
  split at h
  case h_2 => cases h
  rename_i p hp
  rw [OT.sem_map] at h
  cases hr : OT.sem ρ (p.run R fs args H) with
  | none => rw [hr] at h; cases h
  | some x =>
    rw [hr] at h
    cases h
    unfold Pr.run at hr
    split at hr <;> try (cases hr; done)
    rename_i xs ns es hfl
    obtain ⟨h1, h2⟩ := needT_some hr
    obtain ⟨w, g1, g2, g3, g4⟩ := insO_ok hR (h1.append hf) h2
    have e1 := flSs_ok (ρ := ρ) hR hf hfl
    have e2 := ndA_ok hR hf h1
    rw [hfn] at e1 e2 g1 g3
    exact ⟨⟨p, _, selP_sel hp, ⟨denX ρ xs, ns, es, w, e1, e2, g1, g2, g3⟩, rfl⟩, g4⟩
theorem vr_ok : ∀ {n : Nat} {vr : List (Option (Int × Int))}, vrB n vr = true → ∀ {xs : List Int}, xs.length = n → ∀ i, inR (xs.getD i 0) (nthR vr i)
  | _, [], _, _, _, i => by cases i <;> trivial
  | n + 1, none :: l, h, xs, hl, i => by
    cases xs with
    | nil => cases hl
    | cons x xs =>
      cases i with
      | zero => trivial
      | succ i => simpa only [List.getD_cons_succ, nthR] using vr_ok (vr := l) h (xs := xs) (by simpa using hl) i
  | n + 1, some _ :: l, h, xs, hl, i => by cases h
  | 0, none :: l, h, xs, hl, i => by
    have : xs = [] := List.length_eq_zero_iff.1 hl
    subst this
    cases i with
    | zero => trivial
    | succ i => have := vr_ok (vr := l) (n := 0) h (xs := []) rfl i; simpa [nthR] using this
  | 0, some (a, b) :: l, h, xs, hl, i => by
    have : xs = [] := List.length_eq_zero_iff.1 hl
    subst this
    simp only [vrB, Bool.and_eq_true, decide_eq_true_eq] at h
    cases i with
    | zero => simp only [nthR, inR, List.getD_nil]; omega
    | succ i => have := vr_ok (vr := l) (n := 0) h.2.2 (xs := []) rfl i; simpa [nthR] using this
theorem fn_pr {p : Pr} {l : List Pr} {R : Rgs} {tps : List Bool → List Tpl} {f : Func} {c : Code} {fuel : Nat} {Inv : List Int → Nat → Val → Prop} {mu : List Int → Nat → Val → Nat} (T : List Bool → LT SV) (hp : progOk P = true) (hfn : P.funcs[p.g]? = some f) (hbd : f.body = some c) (hl : PrsOk P fn l)
    (hv : vrB (rwFs p.sh 0).2 R.vr = true) (hfr : ∀ i l, inR (fn i l) (nthR R.fr i))
    (h : allEs (rowNs p.sh) fun es => ((exL P R (ksOf R l) (tps es) (cnSs p.sh (cn0 es)).2.q (max f.ntmps (cnSs p.sh (cn0 es)).1.length) none fuel ((rwFs p.sh 0).1 ++ p.pre) (.go c 0 ⟨ofArgsS (cnSs p.sh (cn0 es)).1 0 .nil, [], ⟨tplT (cnSs p.sh (cn0 es)).2.ob, [], 0⟩, (cnSs p.sh (cn0 es)).2.q⟩ [])).bindO (endO P R f.results.toList)).map (·.1) = T es)
    (k : ∀ (xs : List Int) (es : List Bool), xs.length = (rwFs p.sh 0).2 → AllB (valX fn xs) p.pre → AllB (valX fn xs) (rwFs p.sh 0).1 → LT.vc R (tps es) (Inv xs) (mu xs) (fun ρ v => OT.is (valX fn xs) (v.den ρ) (p.out es)) (T es) (valX fn xs) (fun _ => 0)) : p.Ok P fn := by
  refine pr_ok fun xs es hlen hes hpre hrw => ?_
  have hR : R.ok (valX fn xs) := ⟨fun i => vr_ok hv hlen i, hfr⟩
  have := fn_ex (ρ := valX fn xs) (fs := (rwFs p.sh 0).1 ++ p.pre) (V := fun v => OT.is (valX fn xs) v (p.out es)) hp hfn hbd hR ((allB_fcs hrw).append (allB_fcs hpre)) (fun ρ' h1 h2 => ctsOf_has l hl h1 h2) (allEs_at h es hes) (k xs es hlen hpre hrw)
  exact this.mono fun v _ _ hv => OT.is_sem hv
theorem allE0 {n : Nat} {p : List Bool → Prop} (hn : n = 0) (h : p []) : allEs n p := by subst hn; exact h
section
variable {p : Pr} {l : List Pr} {R : Rgs} {fuel : Nat} (T : List Bool → OT SV) (hp : progOk P = true) (hl : PrsOk P fn l) (hv : vrB (rwFs p.sh 0).2 R.vr = true) (hfr : ∀ i l, inR (fn i l) (nthR R.fr i)) (hk : (ksOf R l p.g).isNone = true)
def codeP (P : Program) (g : FuncId) : Code := match P.funcs[g]? with
  | some f => match f.body with
    | some c => c
    | none => .skip
  | none => .skip
def runP (P : Program) (R : Rgs) (l : List Pr) (tps : List Bool → List Tpl) (p : Pr) (fuel : Nat) (f : Func) (es : List Bool) : LT SV := ((exL P R (ksOf R l) (tps es) (cnSs p.sh (cn0 es)).2.q (max f.ntmps (cnSs p.sh (cn0 es)).1.length) none fuel ((rwFs p.sh 0).1 ++ p.pre) (.go (codeP P p.g) 0 ⟨ofArgsS (cnSs p.sh (cn0 es)).1 0 .nil, [], ⟨tplT (cnSs p.sh (cn0 es)).2.ob, [], 0⟩, (cnSs p.sh (cn0 es)).2.q⟩ [])).bindO (endO P R f.results.toList)).map (·.1)
end
section
variable {p : Pr} {l : List Pr} {R : Rgs} {tps : List Bool → List Tpl} {f : Func} {c : Code} {fuel : Nat} {Inv : List Int → Nat → Val → Prop} {mu : List Int → Nat → Val → Nat} (T : List Bool → LT SV) (hp : progOk P = true) (hfn : P.funcs[p.g]? = some f) (hbd : f.body = some c) (hl : PrsOk P fn l)
    (hv : vrB (rwFs p.sh 0).2 R.vr = true) (hfr : ∀ i l, inR (fn i l) (nthR R.fr i))
def Goal1 (fn : Nat → List Int → Int) (p : Pr) (R : Rgs) (tps : List Bool → List Tpl) (Inv : List Int → Nat → Val → Prop) (mu : List Int → Nat → Val → Nat) (T : List Bool → LT SV) : Prop := ∀ (xs : List Int) (es : List Bool), xs.length = (rwFs p.sh 0).2 → AllB (valX fn xs) p.pre → AllB (valX fn xs) (rwFs p.sh 0).1 → LT.vc R (tps es) (Inv xs) (mu xs) (fun ρ v => OT.is (valX fn xs) (v.den ρ) (p.out es)) (T es) (valX fn xs) (fun _ => 0)
theorem codeP_eq (hfn : P.funcs[p.g]? = some f) (hbd : f.body = some c) : codeP P p.g = c := by simp only [codeP, hfn, hbd]
include hp hfn hbd hl hv hfr in
theorem lp0 (hn : rowNs p.sh = 0) (h : runP P R l tps p fuel f [] = T []) (k : Goal1 fn p R tps Inv mu T) : p.Ok P fn := by
  simp only [runP, codeP_eq hfn hbd] at h
  exact fn_pr T hp hfn hbd hl hv hfr (allE0 hn h) k
end
section
variable {p : Pr} {l : List Pr} {R : Rgs} {fuel : Nat} {es : List Bool}
end
end
end Sx
end Abs
end Go.Proofs.YtekmmeikkafpmaaGreat

namespace Go.Proofs.YtekmmeikkafpmaaGreat
namespace Abs
namespace Sx
def leB (a b : Int) : Bool := decide (a ≤ b)
def ltB (a b : Int) : Bool := decide (a < b)
def eqB (a b : Int) : Bool := a == b
theorem leB_t (a b : Int) : (leB a b = true) = (a ≤ b) := by simp [leB]
theorem ltB_t (a b : Int) : (ltB a b = true) = (a < b) := by simp [ltB]
theorem eqB_t (a b : Int) : (eqB a b = true) = (a = b) := by simp [eqB]
theorem leB_f (a b : Int) : (leB a b = false) = (b < a) := by simp [leB]
theorem ltB_f (a b : Int) : (ltB a b = false) = (b ≤ a) := by simp [ltB]
theorem eqB_f (a b : Int) : (eqB a b = false) = (a ≠ b) := by simp [eqB]
section
variable {ρ : Val}
theorem X.dB_lt (a b : X) : X.denB ρ (.bin .lt a b) = ltB (a.den ρ) (b.den ρ) := i2b_b2i _
theorem X.dB_le (a b : X) : X.denB ρ (.bin .le a b) = leB (a.den ρ) (b.den ρ) := i2b_b2i _
theorem X.dB_ite (c a b : X) : X.denB ρ (.ite c a b) = cond (c.denB ρ) (a.denB ρ) (b.denB ρ) := by
  simp only [X.denB, X.den_ite]; cases i2b (X.den ρ c) <;> rfl
theorem X.dB_eq (a b : X) : X.denB ρ (.bin .eq a b) = eqB (a.den ρ) (b.den ρ) := i2b_b2i _
end
theorem cond_tf (b : Bool) : cond b true false = b := by cases b <;> rfl
theorem mix_v (ids : List Nat) (ρ : Val) (w : Nat → Int) (i : Nat) : (Val.mix ids ρ w).v i = if i ∈ ids then w i else ρ.v i := by
  have : ids.any (Nat.beq i) = decide (i ∈ ids) := by
    induction ids with
    | nil => simp
    | cons a l ih => simp only [List.any_cons, ih, List.mem_cons, Bool.decide_or]; congr 1; by_cases h : i = a
                     · subst h; simp
                     · simp [h, Bool.eq_false_iff]
  simp only [Val.mix, this]; by_cases h : i ∈ ids <;> simp [h]
theorem mix_fn (ids : List Nat) (ρ : Val) (w : Nat → Int) : (Val.mix ids ρ w).fn = ρ.fn := rfl
theorem upd_fn (l : List (Nat × X)) (ρ : Val) : (ρ.upd l).fn = ρ.fn := rfl
theorem upd_nil (ρ : Val) (i : Nat) : (ρ.upd []).v i = ρ.v i := rfl
theorem upd_cons (ρ : Val) (j : Nat) (x : X) (l : List (Nat × X)) (i : Nat) : (ρ.upd ((j, x) :: l)).v i = if i = j then x.one.den ρ else (ρ.upd l).v i := by
  by_cases h : i = j
  · subst h; simp [Val.upd, lkX]
  · have : Nat.beq j i = false := by simpa [Bool.eq_false_iff] using fun e => h e.symm
    simp [Val.upd, lkX, h, this]
theorem valX_fn (fn : Nat → List Int → Int) (xs : List Int) : (valX fn xs).fn = fn := rfl
theorem valX_v (fn : Nat → List Int → Int) (xs : List Int) (i : Nat) : (valX fn xs).v i = xs.getD i 0 := rfl
theorem setM_v (M : Nat → Nat) (j k i : Nat) : setM M j k i = if i = j then k else M i := by
  by_cases h : i = j
  · subst h; simp [setM]
  · have : Nat.beq i j = false := by
      cases hh : Nat.beq i j
      · rfl
      · exact absurd (Nat.eq_of_beq_eq_true hh) h
    simp [setM, h, this]
end Sx
end Abs
end Go.Proofs.YtekmmeikkafpmaaGreat
