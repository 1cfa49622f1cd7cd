/- Forms of states, with unknowns of their own: which state is of a form. -/
import Derived.Test.YtekmmeikkafpmaaGreatS3
set_option linter.unusedSimpArgs false
set_option linter.unusedVariables false
namespace Go.Proofs.YtekmmeikkafpmaaGreat
namespace Abs
namespace Sx
open Go.RowKit
def lkX : List (Nat × X) → Nat → Option X
  | [], _ => none
  | p :: l, i => cond (Nat.beq p.1 i) (some p.2) (lkX l i)
def X.isL : X → Bool
  | .nil => true
  | .cons _ _ => true
  | _ => false
def X.one (x : X) : X := cond x.isL (.lit 0) x
def mk1 (o : Bo) (a b : X) : X := cond (mk o a b).isL (.bin o a b) (mk o a b)
def Val.upd (ρ : Val) (l : List (Nat × X)) : Val := ⟨fun i => match lkX l i with
  | some x => x.one.den ρ
  | none => ρ.v i, ρ.fn⟩
def X.sub (l : List (Nat × X)) : X → X
  | .lit n => .lit n
  | .var i => match lkX l i with
    | some x => x.one
    | none => .var i
  | .bin o a b => mk1 o (X.sub l a) (X.sub l b)
  | .not a => .not (X.sub l a)
  | .ite c a b => .ite (X.sub l c) (X.sub l a) (X.sub l b)
  | .wrap k a => .wrap k (X.sub l a)
  | .app f a => .app f (X.sub l a)
  | .nil => .nil
  | .cons a b => .cons (X.sub l a) (X.sub l b)
def X.free (ids : List Nat) : X → Bool
  | .lit _ => true
  | .var i => !(ids.any (Nat.beq i))
  | .bin _ a b => cond (X.free ids a) (X.free ids b) false
  | .not a => X.free ids a
  | .ite c a b => cond (X.free ids c) (cond (X.free ids a) (X.free ids b) false) false
  | .wrap _ a => X.free ids a
  | .app _ a => X.free ids a
  | .nil => true
  | .cons a b => cond (X.free ids a) (X.free ids b) false
structure Agree (ids : List Nat) (ρ ρ' : Val) : Prop where
  v : ∀ i, i ∉ ids → ρ'.v i = ρ.v i
  fn : ρ'.fn = ρ.fn
section
variable {ρ ρ' : Val}
theorem X.sem_one {x : X} (h : x.isL = false) (ρ : Val) : x.sem ρ = [x.den ρ] := by cases x <;> first | rfl | cases h
theorem X.one_sem (x : X) (ρ : Val) : x.one.sem ρ = [x.one.den ρ] := by
  apply X.sem_one
  unfold X.one
  cases h : x.isL with
  | true => rfl
  | false => exact h
theorem mk1_sem (o : Bo) (a b : X) (ρ : Val) : (mk1 o a b).sem ρ = [o.ev (a.den ρ) (b.den ρ)] := by
  unfold mk1
  cases h : (mk o a b).isL with
  | true => rfl
  | false => rw [cond_false, X.sem_one h, mk_den]
theorem X.sem_sub (l : List (Nat × X)) (ρ : Val) : ∀ x : X, (x.sub l).sem ρ = x.sem (ρ.upd l) := by
  intro x
  induction x with
  | lit n => rfl
  | var i =>
    simp only [X.sub, X.sem, Val.upd]
    cases lkX l i with
    | none => rfl
    | some x => exact X.one_sem x ρ
  | bin o a b iha ihb => simp only [X.sub, mk1_sem, X.den, iha, ihb, X.sem]
  | not a ih => simp only [X.sub, X.sem, ih]
  | ite c a b ihc iha ihb => simp only [X.sub, X.sem, ihc, iha, ihb]
  | wrap k a ih => simp only [X.sub, X.sem, ih]
  | app f a ih => simp only [X.sub, X.sem, ih]; rfl
  | nil => rfl
  | cons a b iha ihb => simp only [X.sub, X.sem, iha, ihb]
theorem X.den_subst (l : List (Nat × X)) (ρ : Val) (x : X) : (x.sub l).den ρ = x.den (ρ.upd l) := by simp only [X.den, X.sem_sub]
theorem X.denB_subst (l : List (Nat × X)) (ρ : Val) (x : X) : (x.sub l).denB ρ = x.denB (ρ.upd l) := by simp only [X.denB, X.den_subst]
theorem X.sem_free {ids : List Nat} (h : Agree ids ρ ρ') : ∀ {x : X}, x.free ids = true → x.sem ρ' = x.sem ρ := by
  intro x
  induction x with
  | lit n => intro _; rfl
  | var i =>
    intro hx
    simp only [X.free, Bool.not_eq_true'] at hx
    have : i ∉ ids := fun hi => by
      rw [List.any_eq_false] at hx
      exact hx i hi (by simp)
    simp only [X.sem, h.v i this]
  | bin o a b iha ihb => intro hx; obtain ⟨h1, h2⟩ := cond_true_false hx; simp only [X.sem, iha h1, ihb h2]
  | not a ih => intro hx; simp only [X.sem, ih hx]
  | ite c a b ihc iha ihb =>
    intro hx
    obtain ⟨h1, h2⟩ := cond_true_false hx
    obtain ⟨h2, h3⟩ := cond_true_false h2
    simp only [X.sem, ihc h1, iha h2, ihb h3]
  | wrap k a ih => intro hx; simp only [X.sem, ih hx]
  | app f a ih => intro hx; simp only [X.sem, ih hx, h.fn]
  | nil => intro _; rfl
  | cons a b iha ihb => intro hx; obtain ⟨h1, h2⟩ := cond_true_false hx; simp only [X.sem, iha h1, ihb h2]
def keepF (ids : List Nat) : List X → List X
  | [] => []
  | f :: fs => cond (f.free ids) (f :: keepF ids fs) (keepF ids fs)
theorem keepF_ok {ids : List Nat} (h : Agree ids ρ ρ') : ∀ {fs : List X}, Fcs ρ fs → Fcs ρ' (keepF ids fs)
  | [], _ => Fcs.nil
  | f :: fs, hf => by
    have ih := keepF_ok h (fs := fs) (fun x hx => hf x (List.mem_cons_of_mem _ hx))
    simp only [keepF]
    cases hb : f.free ids with
    | false => exact ih
    | true =>
      refine Fcs.append (a := [f]) (Fcs.one ?_) ih
      have := hf f List.mem_cons_self
      simp only [X.denB, X.den, X.sem_free h hb] at this ⊢
      exact this
end

def nmO (b : Nat) (K : List (Nat × Nat × Nat)) (n n' : Nat) : Bool := cond (n.blt b) (Nat.beq n n') (match sg K n with
  | some (p, o) => cond (Nat.beq p n') (Nat.beq o 0) false
  | none => false)
section
variable (R : Rgs) (fs : List X) (b : Nat) (K : List (Nat × Nat × Nat)) (l : List (Nat × X))
def eqN (p a : X) : List X := nd R fs (.bin .eq (p.sub l) a)
mutual
def mtV : SV → SV → Option (List X)
  | .int k p, .int k' a => cond (ikBeq k k') (some (eqN R fs l p a)) none
  | .bool p, .bool a => some (nd R fs (mkEqB (p.sub l) a))
  | .nilp, .nilp => some []
  | .ptr n o, .ptr n' o' => cond (nmO b K n' n) (cond (Nat.beq o o') (some []) none) none
  | .eptr n i s c, .eptr n' i' s' c' => cond (nmO b K n' n) (cond (Nat.beq s s') (cond (Nat.beq c c') (some (eqN R fs l i i')) none) none) none
  | .nils, .nils => some []
  | .slice n oc eo len cap esz ex, .slice n' oc' eo' len' cap' esz' ex' => cond (nmO b K n' n) (cond (Nat.beq oc oc') (cond (Nat.beq esz esz') (cond (ex == ex')
      (some (eqN R fs l eo eo' ++ (eqN R fs l len len' ++ eqN R fs l cap cap'))) none) none) none) none
  | .nilm, .nilm => some []
  | .map r, .map r' => cond (nmO b K r' r) (some []) none
  | .fn f a c, .fn f' a' c' => cond (Nat.beq f f') (match mtVs a a', mtVs c c' with
    | some x, some y => some (x ++ y)
    | _, _ => none) none
  | .yield r, .yield r' => cond (nmO b K r' r) (some []) none
  | .nilf, .nilf => some []
  | .nili, .nili => some []
  | .agg a, .agg a' => mtVs a a'
  | .tuple a, .tuple a' => mtVs a a'
  | _, _ => none
def mtVs : List SV → List SV → Option (List X)
  | [], [] => some []
  | p :: ps, a :: ys => match mtV p a, mtVs ps ys with
    | some x, some y => some (x ++ y)
    | _, _ => none
  | _, _ => none
end
def cmBeq : List Cmp → List Cmp → Bool
  | [], [] => true
  | .int k f :: l, .int k' f' :: l' => cond (ikBeq k k') (cond (Nat.beq f f') (cmBeq l l') false) false
  | .bool f :: l, .bool f' :: l' => cond (Nat.beq f f') (cmBeq l l') false
  | _, _ => false
def eqL : X → X → Option (List X)
  | .nil, .nil => some []
  | .cons p q, .cons a c => match eqL q c with
    | some r => some (eqN R fs l p a ++ r)
    | none => none
  | _, _ => none
def mtEs : List (SV × SV × Nat) → List (SV × SV × Nat) → Option (List X)
  | [], [] => some []
  | p :: ps, a :: ys => cond (Nat.beq p.2.2 a.2.2) (match mtV R fs b K l p.1 a.1, mtV R fs b K l p.2.1 a.2.1, mtEs ps ys with
    | some x, some y, some z => some (x ++ (y ++ z))
    | _, _, _ => none) none
  | _, _ => none
def mtTr : Tr SV → Tr SV → Option (List X)
  | .nil, .nil => some []
  | .node v l1 r1, .node v' l2 r2 => match (match v, v' with
      | none, none => some []
      | some p, some a => mtV R fs b K l p a
      | _, _ => none), mtTr l1 l2, mtTr r1 r2 with
    | some x, some y, some z => some (x ++ (y ++ z))
    | _, _, _ => none
  | _, _ => none
def mtO : SO → SO → Option (List X)
  | .cells w p, .cells w' a => cond (w == w') (mtVs R fs b K l p a) none
  | .row w len q cm, .row w' len' q' cm' => cond (w == w') (cond (cmBeq cm cm') (match eqL R fs l q q' with
    | some r => some (eqN R fs l len len' ++ r)
    | none => none) none) none
  | .row w len q cm, .cells w' cs => cond (w == w') (cond (cm.length.beq 0) none (cond ((cs.length % cm.length).beq 0) (match eqCells R fs (elems (q.sub l) cm 0 (cs.length / cm.length)) cs with
    | some r => some (eqN R fs l len (.lit (cs.length / cm.length : Nat)) ++ r)
    | none => none) none)) none
  | .map es c, .map es' c' => cond (Nat.beq c c') (mtEs R fs b K l es es') none
  | .dfr x, .dfr y => cond (x == y) (some []) none
  | .iter (some r) s l c, .iter (some r') s' l' c' => cond (nmO b K r' r) (cond (Nat.beq s s') (cond (l == l') (cond (Nat.beq c c') (some []) none) none) none) none
  | .loop p, .loop a => cond (decide (p.state = a.state)) (cond (p.pending.isNone && a.pending.isNone) (cond (Nat.beq p.n a.n) (cond (p.params == a.params) (cond (nmO b K a.defers p.defers)
      (mtTr R fs b K l p.tmps a.tmps) none) none) none) none) none
  | _, _ => none
def CodeEq (p a : SO) : Prop := ∀ L L', p = .loop L → a = .loop L' → L.assign = L'.assign ∧ L.body = L'.body
def mtD : List SDef → List SDef → Option (List X)
  | [], [] => some []
  | .mark r :: ps, .mark r' :: ys => cond (nmO b K r' r) (mtD ps ys) none
  | _, _ => none
def mtT (T : SE) : List (Nat × SV) → Option (List X)
  | [] => some []
  | (s, p) :: L => match T.get s with
    | some a => match mtV R fs b K l p a, mtT T L with
      | some x, some y => some (x ++ y)
      | _, _ => none
    | none => none
def mtH (t : Tr SO) : List (Nat × Nat) → List (Nat × SO) → Option (List X)
  | [], [] => some []
  | (old, new) :: L, obs => match t.get old with
    | none => mtH t L obs
    | some a => match obs with
      | (n, p) :: obs => cond (Nat.beq n new) (match mtO R fs b K l p a, mtH t L obs with
        | some x, some y => some (x ++ y)
        | _, _ => none) none
      | [] => none
  | _, _ => none
end
def tplT : List (Nat × SO) → Tr SO
  | [] => .nil
  | p :: l => (tplT l).set p.1 p.2
section
variable {R : Rgs} {fs : List X} {b : Nat} {K : List (Nat × Nat × Nat)} {l : List (Nat × X)} {ρ : Val}
theorem nmO_ok {n n' : Nat} (h : nmO b K n n' = true) : sgK b K n = some (n', 0) := by
  unfold nmO at h
  unfold sgK
  cases hb : n.blt b <;> rw [hb] at h <;> simp only [cond_true, cond_false] at h ⊢
  · split at h
    · rename_i p o hs
      obtain ⟨h1, h2⟩ := cond_true_false h
      rw [hs, Nat.eq_of_beq_eq_true h1, Nat.eq_of_beq_eq_true h2]
    · cases h
  · rw [Nat.eq_of_beq_eq_true h]
theorem eqN_ok (hR : R.ok ρ) (hf : Fcs ρ fs) {p a : X} (h : Fcs ρ (eqN R fs l p a)) : a.den ρ = p.den (ρ.upd l) := by
  have := nd_ok hR hf h
  rw [X.denB_eq, beq_iff_eq, X.den_subst] at this
  exact this.symm
mutual
theorem mtV_ok (hR : R.ok ρ) (hf : Fcs ρ fs) : ∀ (p a : SV) {n : List X}, mtV R fs b K l p a = some n → Fcs ρ n → ren (sgK b K) (a.den ρ) = some (p.den (ρ.upd l)) := by
  intro p a n h hn
  cases p <;> cases a <;> simp only [mtV] at h <;> try (cases h; done)
  case int.int k p k' a =>
    cases hk : ikBeq k k' <;> rw [hk] at h <;> cases h
    have := ikBeq_eq hk
    subst this
    simp only [SV.den, ren, eqN_ok hR hf hn]
  case bool.bool p a =>
    cases h
    have := nd_ok hR hf hn
    rw [mkEqB_den, beq_iff_eq, X.denB_subst] at this
    simp only [SV.den, ren, this]
  case nilp.nilp => rfl
  case ptr.ptr n o n' o' =>
    cases h1 : nmO b K n' n <;> rw [h1] at h <;> simp only [cond_true, cond_false] at h <;> try (cases h; done)
    cases h2 : Nat.beq o o' <;> rw [h2] at h <;> cases h
    simp only [SV.den, ren, nmO_ok h1, Nat.eq_of_beq_eq_true h2, Nat.zero_add]
  case eptr.eptr n i s c n' i' s' c' =>
    cases h1 : nmO b K n' n <;> rw [h1] at h <;> simp only [cond_true, cond_false] at h <;> try (cases h; done)
    cases h2 : Nat.beq s s' <;> rw [h2] at h <;> simp only [cond_true, cond_false] at h <;> try (cases h; done)
    cases h3 : Nat.beq c c' <;> rw [h3] at h <;> cases h
    simp only [SV.den, ren, nmO_ok h1, Nat.eq_of_beq_eq_true h2, Nat.eq_of_beq_eq_true h3, eqN_ok hR hf hn, Nat.zero_add]
  case nils.nils => rfl
  case slice.slice n oc eo len cap esz ex n' oc' eo' len' cap' esz' ex' =>
    cases h1 : nmO b K n' n <;> rw [h1] at h <;> simp only [cond_true, cond_false] at h <;> try (cases h; done)
    cases h2 : Nat.beq oc oc' <;> rw [h2] at h <;> simp only [cond_true, cond_false] at h <;> try (cases h; done)
    cases h3 : Nat.beq esz esz' <;> rw [h3] at h <;> simp only [cond_true, cond_false] at h <;> try (cases h; done)
    cases h4 : ex == ex' <;> rw [h4] at h <;> cases h
    obtain ⟨n1, n2⟩ := hn.split
    obtain ⟨n2, n3⟩ := n2.split
    simp only [SV.den, ren, nmO_ok h1, show Nat.beq 0 0 = true from rfl, Bool.true_or, cond_true, Nat.eq_of_beq_eq_true h2, Nat.eq_of_beq_eq_true h3, eq_of_beq h4, eqN_ok hR hf n1, eqN_ok hR hf n2, eqN_ok hR hf n3, Nat.zero_add]
  case nilm.nilm => rfl
  case map.map r r' =>
    cases h1 : nmO b K r' r <;> rw [h1] at h <;> cases h
    simp only [SV.den, ren, nmO_ok h1]
  case fn.fn f a c f' a' c' =>
    cases h1 : Nat.beq f f' <;> rw [h1] at h <;> simp only [cond_true, cond_false] at h <;> try (cases h; done)
    split at h <;> cases h
    rename_i x y h2 h3
    obtain ⟨n1, n2⟩ := hn.split
    simp only [SV.den, ren, mtVs_ok hR hf a a' h2 n1, mtVs_ok hR hf c c' h3 n2, Nat.eq_of_beq_eq_true h1]
  case yield.yield r r' =>
    cases h1 : nmO b K r' r <;> rw [h1] at h <;> cases h
    simp only [SV.den, ren, nmO_ok h1]
  case nilf.nilf => rfl
  case nili.nili => rfl
  case agg.agg a a' => simp only [SV.den, ren, mtVs_ok hR hf a a' h hn]
  case tuple.tuple a a' => simp only [SV.den, ren, mtVs_ok hR hf a a' h hn]
theorem mtVs_ok (hR : R.ok ρ) (hf : Fcs ρ fs) : ∀ (p a : List SV) {n : List X}, mtVs R fs b K l p a = some n → Fcs ρ n → renL (sgK b K) (SV.dens ρ a) = some (SV.dens (ρ.upd l) p) := by
  intro p a n h hn
  cases p with
  | nil => cases a with
    | nil => rfl
    | cons y ys => simp only [mtVs] at h; cases h
  | cons x ps => cases a with
    | nil => simp only [mtVs] at h; cases h
    | cons y ys =>
      simp only [mtVs] at h
      split at h <;> cases h
      rename_i h1 h2
      obtain ⟨n1, n2⟩ := hn.split
      simp only [SV.dens, renL, mtV_ok hR hf x y h1 n1, mtVs_ok hR hf ps ys h2 n2]
end
theorem cmBeq_eq : ∀ {a c : List Cmp}, cmBeq a c = true → a = c
  | [], [], _ => rfl
  | [], _ :: _, h => by cases h
  | .int k f :: l, [], h => by cases h
  | .bool f :: l, [], h => by cases h
  | .int k f :: l, .int k' f' :: l', h => by
    simp only [cmBeq] at h
    obtain ⟨h1, h2⟩ := cond_true_false h
    obtain ⟨h2, h3⟩ := cond_true_false h2
    rw [ikBeq_eq h1, Nat.eq_of_beq_eq_true h2, cmBeq_eq h3]
  | .bool f :: l, .bool f' :: l', h => by
    simp only [cmBeq] at h
    obtain ⟨h1, h2⟩ := cond_true_false h
    rw [Nat.eq_of_beq_eq_true h1, cmBeq_eq h2]
  | .int k f :: l, .bool f' :: l', h => by cases h
  | .bool f :: l, .int k f' :: l', h => by cases h
theorem eqL_ok (hR : R.ok ρ) (hf : Fcs ρ fs) : ∀ {p a : X} {n : List X}, eqL R fs l p a = some n → Fcs ρ n → a.sem ρ = p.sem (ρ.upd l) := by
  intro p
  induction p with
  | nil => intro a n h _; cases a <;> first | rfl | (simp only [eqL] at h; cases h)
  | cons p q ihp ihq =>
    intro a n h hn
    cases a <;> simp only [eqL] at h <;> try (cases h; done)
    split at h <;> cases h
    rename_i r hr
    obtain ⟨n1, n2⟩ := hn.split
    simp only [X.sem_cons, eqN_ok hR hf n1, ihq hr n2]
  | _ => intro a n h _; simp only [eqL] at h; cases h
theorem mtEs_ok (hR : R.ok ρ) (hf : Fcs ρ fs) : ∀ {p a : List (SV × SV × Nat)} {n : List X}, mtEs R fs b K l p a = some n → Fcs ρ n → renE (sgK b K) (a.map (enD ρ)) = some (p.map (enD (ρ.upd l)))
  | [], [], _, _, _ => rfl
  | [], _ :: _, _, h, _ => by simp only [mtEs] at h; cases h
  | _ :: _, [], _, h, _ => by simp only [mtEs] at h; cases h
  | p :: ps, a :: ys, n, h, hn => by
    simp only [mtEs] at h
    cases h1 : Nat.beq p.2.2 a.2.2 <;> rw [h1] at h <;> simp only [cond_true, cond_false] at h <;> try (cases h; done)
    split at h <;> cases h
    rename_i x y z h2 h3 h4
    obtain ⟨n1, n2⟩ := hn.split
    obtain ⟨n2, n3⟩ := n2.split
    simp only [List.map_cons, renE, enD, mtV_ok hR hf _ _ h2 n1, mtV_ok hR hf _ _ h3 n2]
    have := mtEs_ok hR hf h4 n3
    rw [show (enD ρ) = fun e => (e.1.den ρ, e.2.1.den ρ, e.2.2) from rfl] at this
    rw [show (ys.map (enD ρ)) = ys.map fun e => (e.1.den ρ, e.2.1.den ρ, e.2.2) from rfl, this]
    simp only [Nat.eq_of_beq_eq_true h1]
theorem rowD_plain {cm : List Cmp} {q : List Int} : ∀ (n i : Nat), (rowD ρ cm q i n).all plain = true
  | 0, _ => rfl
  | n + 1, i => by
    simp only [rowD, List.all_append, rowD_plain n (i + 1), Bool.and_true, List.all_map, List.all_eq_true]
    intro c _; cases c <;> rfl
theorem rowD_fn {cm : List Cmp} {q : List Int} {ρ ρ' : Val} (h : ρ'.fn = ρ.fn) : ∀ (n i : Nat), rowD ρ' cm q i n = rowD ρ cm q i n
  | 0, _ => rfl
  | n + 1, i => by
    simp only [rowD, rowD_fn h n (i + 1)]
    congr 1
    apply List.map_congr_left
    intro c _; cases c <;> simp only [Cmp.den, h]
theorem mtTr_ok (hR : R.ok ρ) (hf : Fcs ρ fs) : ∀ {p a : Tr SV} {n : List X}, mtTr R fs b K l p a = some n → Fcs ρ n → renT (sgK b K) (Tr.map (SV.den ρ) a) = some (Tr.map (SV.den (ρ.upd l)) p)
  | .nil, .nil, _, _, _ => rfl
  | .nil, .node _ _ _, _, h, _ => by simp only [mtTr] at h; cases h
  | .node _ _ _, .nil, _, h, _ => by simp only [mtTr] at h; cases h
  | .node v l1 r1, .node v' l2 r2, n, h, hn => by
    simp only [mtTr] at h
    split at h <;> cases h
    rename_i x y z h1 h2 h3
    obtain ⟨n1, n2⟩ := hn.split
    obtain ⟨n2, n3⟩ := n2.split
    simp only [Tr.map, renT, mtTr_ok hR hf h2 n2, mtTr_ok hR hf h3 n3]
    cases v <;> cases v' <;> simp only at h1 <;> first | (cases h1; done) | skip
    · rfl
    · rename_i p a
      simp only [mtV_ok hR hf p a h1 n1]
theorem mtO_ok (hR : R.ok ρ) (hf : Fcs ρ fs) {p a : SO} {n : List X} (hc : CodeEq p a) (h : mtO R fs b K l p a = some n) (hn : Fcs ρ n) : renO (sgK b K) (a.den ρ) = some (p.den (ρ.upd l)) := by
  have hfn : (ρ.upd l).fn = ρ.fn := rfl
  cases p <;> cases a <;> simp only [mtO] at h <;> try (cases h; done)
  case cells.cells w p w' a =>
    cases h1 : w == w' <;> rw [h1] at h <;> simp only [cond_true, cond_false] at h <;> try (cases h; done)
    simp only [SO.den, renO, mtVs_ok hR hf _ _ h hn, eq_of_beq h1]
  case row.row w len q cm w' len' q' cm' =>
    cases h1 : w == w' <;> rw [h1] at h <;> simp only [cond_true, cond_false] at h <;> try (cases h; done)
    cases h2 : cmBeq cm cm' <;> rw [h2] at h <;> simp only [cond_true, cond_false] at h <;> try (cases h; done)
    split at h <;> cases h
    rename_i r hr
    obtain ⟨n1, n2⟩ := hn.split
    have h2 := cmBeq_eq h2
    subst h2
    simp only [SO.den, renO, renL_plain (rowD_plain _ _), eq_of_beq h1, eqN_ok hR hf n1, eqL_ok hR hf hr n2, rowD_fn hfn]
  case row.cells w len q cm w' cs =>
    cases h1 : w == w' <;> rw [h1] at h <;> simp only [cond_true, cond_false] at h <;> try (cases h; done)
    cases h2 : cm.length.beq 0 <;> rw [h2] at h <;> simp only [cond_true, cond_false] at h <;> try (cases h; done)
    cases h3 : (cs.length % cm.length).beq 0 <;> rw [h3] at h <;> simp only [cond_true, cond_false] at h <;> try (cases h; done)
    split at h <;> cases h
    rename_i r hr
    obtain ⟨n1, n2⟩ := hn.split
    have e1 := eqN_ok hR hf n1
    have e2 := eqCells_ok hR hf hr n2
    rw [elems_den, X.sem_sub] at e2
    simp only [X.den_lit] at e1
    have e3 : (len.den (ρ.upd l)).toNat = cs.length / cm.length := by rw [← e1]; exact Int.toNat_natCast _
    simp only [SO.den, renO, ← e2, renL_plain (rowD_plain _ _), eq_of_beq h1, e3, rowD_fn hfn]
  case map.map es c es' c' =>
    cases h1 : Nat.beq c c' <;> rw [h1] at h <;> simp only [cond_true, cond_false] at h <;> try (cases h; done)
    simp only [SO.den, renO, mtEs_ok hR hf h hn, Nat.eq_of_beq_eq_true h1]
  case dfr.dfr x y =>
    cases h1 : x == y <;> rw [h1] at h <;> cases h
    simp only [SO.den, renO, eq_of_beq h1]
  case loop.loop p a =>
    obtain ⟨c1, c2⟩ := hc p a rfl rfl
    cases h1 : decide (p.state = a.state) <;> rw [h1] at h <;> simp only [cond_true, cond_false] at h <;> try (cases h; done)
    cases h2 : (p.pending.isNone && a.pending.isNone) <;> rw [h2] at h <;> simp only [cond_true, cond_false] at h <;> try (cases h; done)
    cases h3 : Nat.beq p.n a.n <;> rw [h3] at h <;> simp only [cond_true, cond_false] at h <;> try (cases h; done)
    cases h4 : p.params == a.params <;> rw [h4] at h <;> simp only [cond_true, cond_false] at h <;> try (cases h; done)
    cases h5 : nmO b K a.defers p.defers <;> rw [h5] at h <;> simp only [cond_true, cond_false] at h <;> try (cases h; done)
    have h1 := of_decide_eq_true h1
    simp only [Bool.and_eq_true, Option.isNone_iff_eq_none] at h2
    simp only [SO.den, SLoop.den, renO, mtTr_ok hR hf h hn, nmO_ok h5, h1, h2.1, h2.2, Nat.eq_of_beq_eq_true h3, eq_of_beq h4, c1, c2]
  case iter.iter o s q c o' s' q' c' =>
    cases o <;> cases o' <;> simp only [mtO] at h <;> try (cases h; done)
    cases h1 : nmO b K _ _ <;> rw [h1] at h <;> simp only [cond_true, cond_false] at h <;> try (cases h; done)
    cases h2 : Nat.beq s s' <;> rw [h2] at h <;> simp only [cond_true, cond_false] at h <;> try (cases h; done)
    cases h3 : q == q' <;> rw [h3] at h <;> simp only [cond_true, cond_false] at h <;> try (cases h; done)
    cases h4 : Nat.beq c c' <;> rw [h4] at h <;> simp only [cond_true, cond_false] at h <;> try (cases h; done)
    simp only [SO.den, renO, nmO_ok h1, Nat.eq_of_beq_eq_true h2, eq_of_beq h3, Nat.eq_of_beq_eq_true h4]
theorem mtD_ok : ∀ {p a : List SDef} {n : List X}, mtD b K p a = some n → renD (sgK b K) (a.map (SDef.den ρ)) = some (p.map (SDef.den (ρ.upd l)))
  | [], [], _, _ => rfl
  | [], _ :: _, _, h => by simp only [mtD] at h; cases h
  | .mark r :: ps, [], _, h => by simp only [mtD] at h; cases h
  | .fn _ _ _ :: ps, [], _, h => by simp only [mtD] at h; cases h
  | .mark r :: ps, .mark r' :: ys, n, h => by
    simp only [mtD] at h
    cases h1 : nmO b K r' r <;> rw [h1] at h <;> simp only [cond_true, cond_false] at h <;> try (cases h; done)
    simp only [List.map_cons, SDef.den, renD, nmO_ok h1]
    rw [mtD_ok h]
  | .mark r :: ps, .fn _ _ _ :: ys, n, h => by simp only [mtD] at h; cases h
  | .fn _ _ _ :: ps, .mark r' :: ys, n, h => by simp only [mtD] at h; cases h
  | .fn _ _ _ :: ps, .fn _ _ _ :: ys, n, h => by simp only [mtD] at h; cases h
theorem mtT_ok (hR : R.ok ρ) (hf : Fcs ρ fs) {T : SE} : ∀ {L : List (Nat × SV)} {n : List X}, mtT R fs b K l T L = some n → Fcs ρ n → buildL (sgK b K) (eD ρ T) (L.map (·.1)) = some (L.map fun p => (p.1, p.2.den (ρ.upd l)))
  | [], _, _, _ => rfl
  | (s, p) :: L, n, h, hn => by
    simp only [mtT] at h
    split at h <;> try (cases h; done)
    rename_i a ha
    split at h <;> cases h
    rename_i x y h1 h2
    obtain ⟨n1, n2⟩ := hn.split
    have ih := mtT_ok hR hf h2 n2
    simp only [List.map_cons, buildL, eD_get, ha, Option.map_some, ih, mtV_ok hR hf p a h1 n1]
theorem mtH_ok (hR : R.ok ρ) (hf : Fcs ρ fs) {t : Tr SO} : ∀ {L : List (Nat × Nat)} {obs : List (Nat × SO)} {n : List X}, (∀ old new p a, (old, new) ∈ L → (new, p) ∈ obs → t.get old = some a → CodeEq p a) → mtH R fs b K l t L obs = some n → Fcs ρ n → buildT (sgK b K) [] (Tr.map (SO.den ρ) t) L = some (Tr.map (SO.den (ρ.upd l)) (tplT obs))
  | [], [], _, _, _, _ => rfl
  | [], _ :: _, _, _, h, _ => by simp only [mtH] at h; cases h
  | (old, new) :: L, obs, n, hc, h, hn => by
    have hg : (Tr.map (SO.den ρ) t).get old = (t.get old).map (SO.den ρ) := Tr.get_map _ _
    simp only [mtH] at h
    simp only [buildT, hg]
    cases ha : t.get old with
    | none => rw [ha] at h; exact mtH_ok hR hf (fun o n p a h1 h2 h3 => hc o n p a (List.mem_cons_of_mem _ h1) h2 h3) h hn
    | some a =>
      rw [ha] at h
      simp only at h
      split at h <;> try (cases h; done)
      rename_i n0 p obs
      cases h1 : Nat.beq n0 new <;> rw [h1] at h <;> simp only [cond_true, cond_false] at h <;> try (cases h; done)
      split at h <;> cases h
      rename_i x y h2 h3
      obtain ⟨n1, n2⟩ := hn.split
      have h1 := Nat.eq_of_beq_eq_true h1
      subst h1
      have hc1 := hc old n0 p a List.mem_cons_self List.mem_cons_self ha
      have hc2 := mtH_ok hR hf (fun o n p a h1 h2 h3 => hc o n p a (List.mem_cons_of_mem _ h1) (List.mem_cons_of_mem _ h2) h3) h3 n2
      simp only [Option.map_some, List.any_nil, cond_false, mtO_ok hR hf hc1 h2 n1, hc2, tplT, Tr.set_map]
end
end Sx
end Abs
end Go.Proofs.YtekmmeikkafpmaaGreat

namespace Go.Proofs.YtekmmeikkafpmaaGreat
namespace Abs
namespace Sx
open Go.RowKit
structure Tpl where
  ids : List Nat
  sl : List (Nat × SV)
  ob : List (Nat × SO)
  ds : List SDef
  nx : Nat
  fs : List X
  it : Option FuncId := none
def trS : List (Nat × SV) → SE
  | [] => .nil
  | p :: l => (trS l).set p.1 p.2
def Tpl.st (T : Tpl) : SSt := ⟨trS T.sl, T.ds, ⟨tplT T.ob, [], 0⟩, T.nx⟩
inductive LT (α : Type) where
  | no
  | leaf (a : α)
  | ask (b : X) (t f : LT α)
  | need (l : List X) (t : LT α)
  | loop (j : Nat) (inst : List (Nat × X)) (t : LT α)
  | back (j : Nat) (inst : List (Nat × X))
def OT.toL {α β : Type} (t : OT α) (f : α → LT β) : LT β := match t with
  | .no => .no
  | .leaf a => f a
  | .ask b t u => .ask b (t.toL f) (u.toL f)
  | .need l t => .need l (t.toL f)
def LT.map {α β : Type} (f : α → β) : LT α → LT β
  | .no => .no
  | .leaf a => .leaf (f a)
  | .ask b t u => .ask b (t.map f) (u.map f)
  | .need l t => .need l (t.map f)
  | .loop j i t => .loop j i (t.map f)
  | .back j i => .back j i
def needL {α : Type} (l : List X) (t : LT α) : LT α := match l with
  | [] => t
  | l => .need l t
def insOb (b : Nat) (x : Nat × SO) : List (Nat × SO) → List (Nat × SO)
  | [] => [x]
  | p :: l => cond (p.1.blt b) (p :: insOb b x l) (x :: p :: l)
def recO (L : SLoop) : SO := .loop ⟨.ready, none, L.n, L.tmps, L.params, L.assign, L.body, L.defers⟩
def Tpl.obR (b : Nat) (rc : Option (Nat × SLoop)) (T : Tpl) : List (Nat × SO) := match rc with
  | none => T.ob
  | some (l, L) => insOb b (l, recO L) T.ob
def Tpl.stR (b : Nat) (rc : Option (Nat × SLoop)) (T : Tpl) : SSt := ⟨trS T.sl, T.ds, ⟨tplT (T.obR b rc), [], 0⟩, T.nx⟩
structure Cx where
  b : Nat
  n : Nat
  rd : Option Nat
  rc : Option (Nat × SLoop)
inductive Fr where
  | seq (b : Code) (pos : Nat)
  | blk (id : Nat)
  | lp (j : Nat)
  | un (a : Code) (pos : Nat)
  | it (x : Cx) (T : SE) (ds : List SDef) (l o : Nat)
  | cl (x : Cx) (ops : Array Oper) (rest : List Oper) (dst : Option Tmp) (T : SE) (ds : List SDef) (rs : List ResultVar) (o : Nat)
inductive LTask where
  | go (c : Code) (pos : Nat) (s : SSt) (K : List Fr)
  | nx (e : Ex) (s : SSt) (K : List Fr)
  | ops (ops : Array Oper) (l : List Oper) (s : SSt) (K : List Fr)
def nl : Code → Nat
  | .seq a b => nl a + nl b
  | .cond _ a b => nl a + nl b
  | .block _ c => nl c
  | .loop c => nl c + 1
  | .rangeFunc _ _ a b => nl a + nl b
  | .scope c => nl c
  | _ => 0
mutual
def colV (ids : List Nat) : SV → SV → List (Nat × Nat) × List (Nat × X)
  | .int _ (.var i), .int _ x => ([], cond (ids.any (Nat.beq i)) [(i, x)] [])
  | .bool (.var i), .bool x => ([], cond (ids.any (Nat.beq i)) [(i, x)] [])
  | .ptr n _, .ptr n' _ => ([(n', n)], [])
  | .eptr n i _ _, .eptr n' i' _ _ => ([(n', n)], colX ids i i')
  | .slice n _ eo len cap _ _, .slice n' _ eo' len' cap' _ _ => ([(n', n)], colX ids eo eo' ++ (colX ids len len' ++ colX ids cap cap'))
  | .map r, .map r' => ([(r', r)], [])
  | .fn _ a c, .fn _ a' c' => ((colVs ids a a').1 ++ (colVs ids c c').1, (colVs ids a a').2 ++ (colVs ids c c').2)
  | .yield r, .yield r' => ([(r', r)], [])
  | .agg a, .agg a' => colVs ids a a'
  | .tuple a, .tuple a' => colVs ids a a'
  | _, _ => ([], [])
def colVs (ids : List Nat) : List SV → List SV → List (Nat × Nat) × List (Nat × X)
  | p :: ps, a :: l => ((colV ids p a).1 ++ (colVs ids ps l).1, (colV ids p a).2 ++ (colVs ids ps l).2)
  | _, _ => ([], [])
def colX (ids : List Nat) : X → X → List (Nat × X)
  | .var i, x => cond (ids.any (Nat.beq i)) [(i, x)] []
  | _, _ => []
end
def colO (ids : List Nat) : SO → SO → List (Nat × Nat) × List (Nat × X)
  | .cells _ p, .cells _ a => colVs ids p a
  | .row _ len _ cm, .row _ len' _ _ => ([], colX ids len len')
  | .row _ len _ cm, .cells _ cs => ([], colX ids len (.lit (cs.length / cm.length : Nat)))
  | .map es _, .map es' _ => colVs ids (es.map (·.2.1)) (es'.map (·.2.1))
  | .iter (some r) _ _ _, .iter (some r') _ _ _ => ([(r', r)], [])
  | _, _ => ([], [])
def colT (ids : List Nat) (T : SE) : List (Nat × SV) → List (Nat × Nat) × List (Nat × X)
  | [] => ([], [])
  | (s, p) :: l => match T.get s with
    | some a => ((colV ids p a).1 ++ (colT ids T l).1, (colV ids p a).2 ++ (colT ids T l).2)
    | none => colT ids T l
def obOf : List (Nat × SO) → Nat → Option SO
  | [], _ => none
  | (n, o) :: l, k => cond (Nat.beq n k) (some o) (obOf l k)
def hasP (l : List (Nat × Nat)) (p : Nat × Nat) : Bool := l.any fun q => Nat.beq q.1 p.1 && Nat.beq q.2 p.2
def colH (ids : List Nat) (t : Tr SO) (ob : List (Nat × SO)) : Nat → List (Nat × Nat) → List (Nat × Nat) → List (Nat × X) → List (Nat × Nat) × List (Nat × X)
  | 0, _, done, xs => (done, xs)
  | _ + 1, [], done, xs => (done, xs)
  | f + 1, p :: todo, done, xs => cond (hasP done p) (colH ids t ob f todo done xs) (match t.get p.1, obOf ob p.2 with
    | some a, some o => colH ids t ob f ((colO ids o a).1 ++ todo) (p :: done) ((colO ids o a).2 ++ xs)
    | _, _ => colH ids t ob f todo (p :: done) xs)
def pairsK (b : Nat) (done : List (Nat × Nat)) : List (Nat × SO) → List (Nat × Nat × Nat)
  | [] => []
  | (n, _) :: l => cond (n.blt b) (pairsK b done l) (match done.find? (fun p => Nat.beq p.2 n) with
    | some p => (p.1, n, 0) :: pairsK b done l
    | none => pairsK b done l)
def instK (xs : List (Nat × X)) : List Nat → List (Nat × X)
  | [] => []
  | i :: l => match lkX xs i with
    | some x => (i, x) :: instK xs l
    | none => instK xs l
def rgN (R : Rgs) (fs : List X) (inst : List (Nat × X)) : List X
  := match inst with
  | [] => []
  | p :: l => (match nthR R.vr p.1 with
    | some (a, b) => nd R fs (.bin .le (.lit a) p.2.one) ++ nd R fs (.bin .le p.2.one (.lit b))
    | none => []) ++ rgN R fs l
def fsN (R : Rgs) (fs : List X) (inst : List (Nat × X)) : List X → List X
  | [] => []
  | f :: l => nd R fs (f.sub inst) ++ fsN R fs inst l
mutual
def svFree (ids : List Nat) : SV → Bool
  | .int _ x => x.free ids
  | .bool x => x.free ids
  | .eptr _ i _ _ => i.free ids
  | .slice _ _ eo len cap _ _ => cond (eo.free ids) (cond (len.free ids) (cap.free ids) false) false
  | .fn _ a c => cond (svsFree ids a) (svsFree ids c) false
  | .agg a => svsFree ids a
  | .tuple a => svsFree ids a
  | _ => true
def svsFree (ids : List Nat) : List SV → Bool
  | [] => true
  | v :: l => cond (svFree ids v) (svsFree ids l) false
end
def trFree (ids : List Nat) : Tr SV → Bool
  | .nil => true
  | .node v l r => cond (match v with | some v => svFree ids v | none => true) (cond (trFree ids l) (trFree ids r) false) false
section
variable {ρ ρ' : Val} {ids : List Nat}
theorem X.den_free (h : Agree ids ρ ρ') {x : X} (hx : x.free ids = true) : x.den ρ' = x.den ρ := by simp only [X.den, X.sem_free h hx]
mutual
theorem svFree_den (h : Agree ids ρ ρ') : ∀ v : SV, svFree ids v = true → v.den ρ' = v.den ρ := by
  intro v hv
  cases v <;> simp only [svFree] at hv <;> simp only [SV.den]
  case int k x => rw [X.den_free h hv]
  case bool x => simp only [X.denB, X.den_free h hv]
  case eptr n i s c => rw [X.den_free h hv]
  case slice n oc eo len cap esz ex =>
    obtain ⟨h1, h2⟩ := cond_true_false hv
    obtain ⟨h2, h3⟩ := cond_true_false h2
    rw [X.den_free h h1, X.den_free h h2, X.den_free h h3]
  case fn f a c =>
    obtain ⟨h1, h2⟩ := cond_true_false hv
    rw [svsFree_den h a h1, svsFree_den h c h2]
  case agg a => rw [svsFree_den h a hv]
  case tuple a => rw [svsFree_den h a hv]
theorem svsFree_den (h : Agree ids ρ ρ') : ∀ l : List SV, svsFree ids l = true → SV.dens ρ' l = SV.dens ρ l := by
  intro l hl
  cases l with
  | nil => rfl
  | cons v l =>
    obtain ⟨h1, h2⟩ := cond_true_false hl
    simp only [SV.dens, svFree_den h v h1, svsFree_den h l h2]
end
theorem trFree_den (h : Agree ids ρ ρ') : ∀ {T : Tr SV}, trFree ids T = true → Tr.map (SV.den ρ') T = Tr.map (SV.den ρ) T
  | .nil, _ => rfl
  | .node v l r, ht => by
    obtain ⟨h1, h2⟩ := cond_true_false ht
    obtain ⟨h2, h3⟩ := cond_true_false h2
    simp only [Tr.map, trFree_den h h2, trFree_den h h3]
    cases v with
    | none => rfl
    | some v => simp only [svFree_den h v h1]
end
def isMarks : List SDef → Bool
  | [] => true
  | .mark _ :: l => isMarks l
  | _ => false
theorem isMarks_den {ρ ρ' : Val} : ∀ {l : List SDef}, isMarks l = true → l.map (SDef.den ρ') = l.map (SDef.den ρ)
  | [], _ => rfl
  | .mark r :: l, h => by simp only [List.map_cons, SDef.den]; rw [isMarks_den (l := l) (ρ := ρ) (ρ' := ρ') h]
  | .fn _ _ _ :: _, h => by cases h
def noLoop : List (Nat × SO) → Bool
  | [] => true
  | (_, .loop _) :: _ => false
  | _ :: l => noLoop l
def rcOk (b : Nat) : Option (Nat × SLoop) → Bool
  | none => true
  | some (l, _) => l.blt b
def itAt (g : FuncId) : List Tpl → Nat → Option Nat
  | [], _ => none
  | T :: l, i => cond (match T.it with | some h => Nat.beq h g | none => false) (some i) (itAt g l (i + 1))
def anyIt : List Tpl → Bool
  | [] => false
  | T :: l => cond T.it.isSome true (anyIt l)
def hasRf : Code → Bool
  | .seq a b => cond (hasRf a) true (hasRf b)
  | .cond _ a b => cond (hasRf a) true (hasRf b)
  | .block _ c => hasRf c
  | .loop c => hasRf c
  | .scope c => hasRf c
  | .rangeFunc _ _ _ _ => true
  | _ => false
section
variable (P : Program) (R : Rgs) (Ks : Ctrs) (tps : List Tpl)
def fitsR (b : Nat) (rd : Option Nat) (rc : Option (Nat × SLoop)) (fs : List X) (T : Tpl) (s : SSt) : Option (List (Nat × X) × List X) :=
  let c := colT T.ids s.tmps T.sl
  let d := colH T.ids s.heap.t (T.obR b rc) 400 (c.1 ++ (upTo 0 b).map (fun i => (i, i))) [] c.2
  let K := pairsK b d.1 (T.obR b rc)
  let inst := instK d.2 T.ids
  cond (Nat.beq inst.length T.ids.length && (kB b T.nx K && (Nat.ble b T.nx && (rdB b K rd && ((Nat.beq s.heap.wr 0 && s.heap.bad.isEmpty) && (noLoop T.ob && rcOk b rc))))))
    (match mtT R fs b K inst s.tmps T.sl, mtH R fs b K inst s.heap.t ((upTo 0 b).map (fun i => (i, i)) ++ K.map (fun x => (x.1, x.2.1))) (T.obR b rc), mtD b K T.ds s.defers with
      | some x, some y, some z => some (inst, x ++ (y ++ (z ++ (rgN R fs inst ++ fsN R fs inst T.fs))))
      | _, _, _ => none) none
def lpLt (j : Nat) : List Fr → Bool
  | [] => true
  | .lp i :: K => cond (i.blt j) (lpLt j K) false
  | .it _ _ _ _ o :: K => cond (o.ble j) (lpLt j K) false
  | .cl _ _ _ _ _ _ _ o :: K => cond (o.ble j) (lpLt j K) false
  | .seq _ _ :: K => lpLt j K
  | .blk _ :: K => lpLt j K
  | .un _ _ :: K => lpLt j K
def idsF (j : Nat) : List Nat := (tps.drop j).flatMap Tpl.ids
def isUn (T : Tpl) : Bool := cond T.ids.isEmpty T.sl.isEmpty false
def isCallV : Op → Bool
  | .call { callee := .value _, .. } => true
  | _ => false
def anyCall : List Oper → Bool
  | [] => false
  | o :: l => cond (isCallV o.op) true (anyCall l)
def hasCall : Code → Bool
  | .seq a b => cond (hasCall a) true (hasCall b)
  | .cond _ a b => cond (hasCall a) true (hasCall b)
  | .block _ c => hasCall c
  | .loop c => hasCall c
  | .scope c => hasCall c
  | .region _ ops false => anyCall ops.toList
  | _ => false
def simple (c : Code) : Bool := cond (Nat.beq (nl c) 0) (cond (anyIt tps) (cond (hasRf c) false (!(hasCall c))) true) false
def inl (T : SE) (o : Oper) : Option (FuncId × List SV × Nat) := match o.guard, o.op with
  | none, .call { callee := .value f, args, .. } => match evS T f, evLS T args.toList with
    | some (.fn g first cap), some vs => match itAt g tps 0 with
      | some k => some (g, first ++ vs ++ cap, k)
      | none => none
    | _, _ => none
  | _, _ => none
def itRec (x : Cx) (s : SSt) (ps : List Tmp) (assign body : Code) : SLoop := ⟨.ready, none, x.n, s.tmps, ps, assign, body, s.next⟩
def itHeap (s : SSt) (L : SLoop) : SH := (s.heap.lay s.next (.dfr true)).lay (s.next + 1) (.loop L)
def noS : SRec := fun _ _ => .no
def exM : Nat → List X → Cx → LTask → LT ((Ex × SSt) × List X)
  | 0, _, _, _ => .no
  | f + 1, fs, x, .go c pos s K => cond (simple tps c)
      ((exS P R Ks f fs (.code x.n x.rd c s)).toL fun r => match r with
        | (.code e s, fs) => exM f fs x (.nx e s K)
        | _ => .no)
      (match c with
        | .seq a b => exM f fs x (.go a pos s (.seq b (pos + nl a) :: K))
        | .block id a => exM f fs x (.go a pos s (.blk id :: K))
        | .cond q a b => (retry (condS R s.tmps q) (fun fs t => .leaf (t, fs)) rtry fs).toL fun y => exM f y.2 x (.go (cond y.1 a b) (cond y.1 pos (pos + nl a)) s K)
        | .loop a => match tps[pos]? with
          | some T => cond (isUn T) (exM f fs x (.go a (pos + 1) s (.un a pos :: K))) (match fitsR R x.b x.rd x.rc fs T s with
            | some (inst, l) => cond (lpLt pos K) (needL l (.loop pos inst (exM f (T.fs ++ keepF (idsF tps pos) fs) x (.go a (pos + 1) (T.stR x.b x.rc) (.lp pos :: K))))) .no
            | none => .no)
          | none => .no
        | .region _ ops false => exM f fs x (.ops ops ops.toList s K)
        | .rangeFunc fo ps assign body => match x.rd, evS s.tmps fo with
          | none, some (.fn g first cap) => match itAt g tps 0, P.funcs[g]? with
            | some o, some fn => match fn.body with
              | some c2 => cond fn.results.isEmpty (cond (Nat.blt x.b (s.next + 2)) (cond (trFree (idsF tps o) s.tmps) (cond (isMarks s.defers) (cond (lpLt o K)
                  (exM f fs ⟨s.next + 2, max fn.ntmps (first ++ [SV.yield (s.next + 1)] ++ cap).length, none, some (s.next + 1, itRec x s ps.toList assign body)⟩
                    (.go c2 o ⟨ofArgsS (first ++ [SV.yield (s.next + 1)] ++ cap) 0 .nil, [], itHeap s (itRec x s ps.toList assign body), s.next + 2⟩ (.it x s.tmps (.mark s.next :: s.defers) (s.next + 1) o :: K))) .no) .no) .no) .no) .no
              | none => .no
            | _, _ => .no
          | _, _ => .no
        | _ => .no)
  | f + 1, fs, x, .ops ops l s K => match l with
    | [] => exM f fs x (.nx .normal s K)
    | o :: rest => match inl tps s.tmps o with
      | some (g, args, k) => match P.funcs[g]? with
        | some fn => match fn.body with
          | some c2 => cond (Nat.blt x.b s.next) (cond (dstLt x.n o) (cond (trFree (idsF tps k) s.tmps) (cond (isMarks s.defers) (cond (lpLt k K)
              (exM f fs ⟨s.next, max fn.ntmps args.length, none, none⟩ (.go c2 k ⟨ofArgsS args 0 .nil, [], s.heap, s.next⟩ (.cl x ops rest o.dst s.tmps s.defers fn.results.toList k :: K))) .no) .no) .no) .no) .no
          | none => .no
        | none => .no
      | none => (op1S P R (exS P R Ks f) x.n x.rd ops o fs s).toL fun r => exM f r.2 x (.ops ops rest r.1 K)
  | f + 1, fs, x, .nx e s K => match K with
    | [] => .leaf ((e, s), fs)
    | .cl y ops rest dst T ds rs _ :: K => match e with
      | .normal | .ret => (leaveS noS fs s.defers s.heap s.next).toL fun z => (retry (fun fs => ressS P R z.1.1 s.tmps fs rs) (fun fs vs => .leaf (one1 vs, fs)) rtry z.2).toL fun r => match putS y.n dst r.1 T with
        | some T => exM f r.2 y (.ops ops rest ⟨T, ds, z.1.1, z.1.2⟩ K)
        | none => .no
      | _ => .no
    | .seq b pos :: K => match e with
      | .normal => exM f fs x (.go b pos s K)
      | e => exM f fs x (.nx e s K)
    | .blk id :: K => match e with
      | .exit j => cond (Nat.beq j id) (exM f fs x (.nx .normal s K)) (exM f fs x (.nx (.exit j) s K))
      | e => exM f fs x (.nx e s K)
    | .lp j :: K => match e with
      | .normal => match tps[j]? with
        | some T => match fitsR R x.b x.rd x.rc fs T s with
          | some (inst, l) => needL l (.back j inst)
          | none => .no
        | none => .no
      | e => exM f fs x (.nx e s K)
    | .un a pos :: K => match e with
      | .normal => exM f fs x (.go (.loop a) pos s K)
      | e => exM f fs x (.nx e s K)
    | .it y T ds l _ :: K => match e with
      | .normal | .ret => cond s.defers.isEmpty (match s.heap.get l with
        | some (.loop L) => match L.state with
          | .busy => .no
          | _ => match L.pending with
            | none => exM f fs y (.nx .normal ⟨T, ds, s.heap.put l (.loop { L with state := .exhausted }), s.next⟩ K)
            | some c => cond (simple tps c) (exM f fs y (.go c 0 ⟨T, ds, s.heap.put l (.loop { L with state := .exhausted }), s.next⟩ K)) .no
        | _ => .no) .no
      | _ => .no
def exL (b n : Nat) (rd : Option Nat) (f : Nat) (fs : List X) (t : LTask) : LT ((Ex × SSt) × List X) := exM P R Ks tps f fs ⟨b, n, rd, none⟩ t
def Val.mix (ids : List Nat) (ρ : Val) (w : Nat → Int) : Val := ⟨fun i => cond (ids.any (Nat.beq i)) (w i) (ρ.v i), ρ.fn⟩
def RgB (R : Rgs) (ρ : Val) : List Nat → Prop
  | [] => True
  | i :: l => inR (ρ.v i) (nthR R.vr i) ∧ RgB R ρ l
def setM (M : Nat → Nat) (j k : Nat) : Nat → Nat := fun i => cond (Nat.beq i j) k (M i)
def fsOf (j : Nat) : List X := match tps[j]? with
  | some T => T.fs
  | none => []
def LT.vc {α : Type} (Inv : Nat → Val → Prop) (mu : Nat → Val → Nat) (Q : Val → α → Prop) : LT α → Val → (Nat → Nat) → Prop
  | .no, _, _ => False
  | .leaf a, ρ, _ => Q ρ a
  | .ask b t f, ρ, M => (b.denB ρ = true → LT.vc Inv mu Q t ρ M) ∧ (b.denB ρ = false → LT.vc Inv mu Q f ρ M)
  | .need l t, ρ, M => AllB ρ l ∧ LT.vc Inv mu Q t ρ M
  | .loop j inst t, ρ, M => Inv j (ρ.upd inst) ∧ ∀ w : Nat → Int, RgB R (ρ.mix (idsF tps j) w) (idsF tps j) → AllB (ρ.mix (idsF tps j) w) (fsOf tps j) → Inv j (ρ.mix (idsF tps j) w) →
      LT.vc Inv mu Q t (ρ.mix (idsF tps j) w) (setM M j (mu j (ρ.mix (idsF tps j) w)))
  | .back j inst, ρ, M => Inv j (ρ.upd inst) ∧ mu j (ρ.upd inst) < M j
end
end Sx
end Abs
end Go.Proofs.YtekmmeikkafpmaaGreat

namespace Go.Proofs.YtekmmeikkafpmaaGreat
namespace Abs
namespace Sx
open Go.RowKit
section
variable {P : Program} {R : Rgs} {Ks : Ctrs} {tps : List Tpl} {B : Ent} {b n : Nat} {rd : Option Nat}
def Cv (B : Ent) (n : Nat) (rd : Option Nat) (E : Env) (ds : List ADef) (H : Hp) (nx : Nat) (E2 : Env) (ds2 : List ADef) (H2 : Hp) (nx2 : Nat) : Prop :=
  ∀ F m W a T, T.get = E → Stt B n rd F T ds H nx m W a → ∃ T2 m2, T2.get = E2 ∧ Stt B n rd F T2 ds2 H2 nx2 m2 W a
theorem tc_cv {c : Code} {E E2 : Env} {ds ds2 : List ADef} {H H2 : Hp} {nx nx2 : Nat} {Q : Qc} (h : Cv B n rd E ds H nx E2 ds2 H2 nx2) (k : TC P B n rd c E2 ds2 H2 nx2 Q) : TC P B n rd c E ds H nx Q := by
  refine ⟨?_⟩
  intro hc T hT F m W a A
  obtain ⟨T2, m2, h1, h2⟩ := h F m W a T hT A
  exact k.run hc T2 h1 F m2 W a h2
def QloopC (B : Ent) (n : Nat) (rd : Option Nat) (I : Nat → Env → List ADef → Hp → Nat → Prop) (m : Nat) (Q : Qc) : Qc := fun e E ds H nx => match e with
  | .normal => ∃ m2, m2 < m ∧ ∃ E2 ds2 H2 nx2, Cv B n rd E ds H nx E2 ds2 H2 nx2 ∧ I m2 E2 ds2 H2 nx2
  | e => Q e E ds H nx
theorem tc_loopC {c : Code} {E : Env} {ds : List ADef} {H : Hp} {nx : Nat} {Q : Qc} (I : Nat → Env → List ADef → Hp → Nat → Prop) (m : Nat) (h0 : I m E ds H nx)
    (hs : ∀ m E ds H nx, I m E ds H nx → TC P B n rd c E ds H nx (QloopC B n rd I m Q)) : TC P B n rd (.loop c) E ds H nx Q := by
  refine ⟨?_⟩
  intro hc
  have hcx : codeOk c = true := by simpa only [codeOk] using hc
  induction m using Nat.strongRecOn generalizing E ds H nx with
  | _ m ih =>
    intro T hT F mm W a A
    refine wpC_loop (wpIn_mono (wpC_wpIn ((hs m E ds H nx h0).run hcx T hT F mm W a A)) ?_)
    rintro ex a' W' ⟨e, T', ds', H', nx', m', rfl, A', q⟩
    cases e with
    | normal =>
      obtain ⟨m2, hm, E2, ds2, H2, nx2, hcv, hI⟩ := q
      obtain ⟨T2, mm2, g1, g2⟩ := hcv F m' W' a' T' rfl A'
      exact ih m2 hm hI T2 g1 F mm2 W' a' g2
    | exit j => exact ⟨_, T', ds', H', nx', m', rfl, A', q⟩
    | goto t => exact ⟨_, T', ds', H', nx', m', rfl, A', q⟩
    | ret => exact ⟨_, T', ds', H', nx', m', rfl, A', q⟩
def Qun (P : Program) (B : Ent) (n : Nat) (rd : Option Nat) (c : Code) (Q : Qc) : Qc := fun e E ds H nx => match e with
  | .normal => TC P B n rd (.loop c) E ds H nx Q
  | e => Q e E ds H nx
theorem tc_unroll {c : Code} {E : Env} {ds : List ADef} {H : Hp} {nx : Nat} {Q : Qc} (h : TC P B n rd c E ds H nx (Qun P B n rd c Q)) : TC P B n rd (.loop c) E ds H nx Q := by
  refine ⟨?_⟩
  intro hc
  have hcx : codeOk c = true := by simpa only [codeOk] using hc
  intro T hT F mm W a A
  refine wpC_loop (wpIn_mono (wpC_wpIn (h.run hcx T hT F mm W a A)) ?_)
  rintro ex a' W' ⟨e, T', ds', H', nx', m', rfl, A', q⟩
  cases e with
  | normal => exact q.run hc T' rfl F m' W' a' A'
  | exit j => exact ⟨_, T', ds', H', nx', m', rfl, A', q⟩
  | goto t => exact ⟨_, T', ds', H', nx', m', rfl, A', q⟩
  | ret => exact ⟨_, T', ds', H', nx', m', rfl, A', q⟩
theorem trS_map {ρ : Val} : ∀ L : List (Nat × SV), Tr.map (SV.den ρ) (trS L) = trOf (L.map fun p => (p.1, p.2.den ρ))
  | [] => rfl
  | p :: L => by simp only [trS, Tr.set_map, trS_map L, List.map_cons, trOf]
theorem insOb_mem {b : Nat} {x y : Nat × SO} : ∀ {l : List (Nat × SO)}, y ∈ insOb b x l → y = x ∨ y ∈ l
  | [], h => by simp only [insOb, List.mem_singleton] at h; exact .inl h
  | p :: l, h => by
    simp only [insOb, Bool.cond_eq_ite] at h
    split at h
    · rcases List.mem_cons.1 h with rfl | h
      · exact .inr List.mem_cons_self
      · rcases insOb_mem h with h | h
        · exact .inl h
        · exact .inr (List.mem_cons_of_mem _ h)
    · rcases List.mem_cons.1 h with rfl | h
      · exact .inl rfl
      · exact .inr h
theorem noLoop_mem {n : Nat} {L : SLoop} : ∀ {l : List (Nat × SO)}, noLoop l = true → (n, SO.loop L) ∈ l → False
  | [], _, h => by cases h
  | (k, o) :: l, hn, h => by
    rcases List.mem_cons.1 h with e | h2
    · cases e; cases hn
    · cases o <;> simp only [noLoop] at hn <;> first | (cases hn; done) | exact noLoop_mem hn h2
theorem obR_loop {b : Nat} {rc : Option (Nat × SLoop)} {T : Tpl} {new : Nat} {L : SLoop} (hn : noLoop T.ob = true) (h : (new, SO.loop L) ∈ T.obR b rc) : ∃ L0, rc = some (new, L0) ∧ L.assign = L0.assign ∧ L.body = L0.body := by
  unfold Tpl.obR at h
  cases rc with
  | none => exact (noLoop_mem hn h).elim
  | some p =>
    obtain ⟨l, L0⟩ := p
    rcases insOb_mem h with e | h
    · simp only [recO, Prod.mk.injEq, SO.loop.injEq] at e
      obtain ⟨rfl, rfl⟩ := e
      exact ⟨L0, rfl, rfl, rfl⟩
    · exact (noLoop_mem hn h).elim
theorem fitsR_ok {ρ : Val} {fs : List X} {rc : Option (Nat × SLoop)} {T : Tpl} {s : SSt} {inst : List (Nat × X)} {l : List X} (hb : B.nx = b)
    (hrc : ∀ k L, rc = some (k, L) → ∃ L1, B.H.t.get k = some (.loop L1) ∧ L1.assign = L.assign ∧ L1.body = L.body) (hR : R.ok ρ) (hf : Fcs ρ fs) (h : fitsR R b rd rc fs T s = some (inst, l)) (hn : Fcs ρ l) :
    Cv B n rd (eD ρ s.tmps) (s.defers.map (SDef.den ρ)) (hD ρ s.heap) s.next (eD (ρ.upd inst) (T.stR b rc).tmps) ((T.stR b rc).defers.map (SDef.den (ρ.upd inst))) (hD (ρ.upd inst) (T.stR b rc).heap) (T.stR b rc).next ∧
      (∃ xs, inst = instK xs T.ids) ∧ Fcs ρ (rgN R fs inst) ∧ Fcs ρ (fsN R fs inst T.fs) := by
  unfold fitsR at h
  simp only at h
  generalize pairsK b (colH T.ids s.heap.t (T.obR b rc) 400 ((colT T.ids s.tmps T.sl).1 ++ (upTo 0 b).map (fun i => (i, i))) [] (colT T.ids s.tmps T.sl).2).1 (T.obR b rc) = K at h
  generalize (colH T.ids s.heap.t (T.obR b rc) 400 ((colT T.ids s.tmps T.sl).1 ++ (upTo 0 b).map (fun i => (i, i))) [] (colT T.ids s.tmps T.sl).2).2 = xs at h
  rw [Bool.cond_eq_ite] at h
  split at h <;> try (cases h; done)
  rename_i hk
  simp only [Bool.and_eq_true, Nat.beq_eq, Nat.ble_eq] at hk
  obtain ⟨_, hk1, hk2, hk3, ⟨hk4, hk5⟩, hk6, hk7⟩ := hk
  split at h <;> cases h
  rename_i x y z h1 h2 h3
  obtain ⟨n1, n2⟩ := hn.split
  obtain ⟨n2, n3⟩ := n2.split
  obtain ⟨n3, n4⟩ := n3.split
  obtain ⟨n4, n5⟩ := n4.split
  refine ⟨?_, ⟨xs, rfl⟩, n4, n5⟩
  intro F m W a T0 hT0 A
  have hH : hD ρ s.heap = ⟨Tr.map (SO.den ρ) s.heap.t, [], 0⟩ := by
    simp only [hD, hk4]
    congr 1
    exact List.isEmpty_iff.1 hk5
  have hcode : ∀ old new p a, (old, new) ∈ ((upTo 0 b).map (fun i => (i, i)) ++ K.map (fun x => (x.1, x.2.1))) → (new, p) ∈ T.obR b rc → s.heap.t.get old = some a → CodeEq p a := by
    rintro old new p a hm1 hm2 hg L L' rfl rfl
    obtain ⟨L0, hr0, c1, c2⟩ := obR_loop hk6 hm2
    obtain ⟨L1, g1, g2, g3⟩ := hrc new L0 hr0
    have hlt : new < b := by rw [hr0] at hk7; exact blt_lt hk7
    have hold : old = new := by
      rcases List.mem_append.1 hm1 with h | h
      · obtain ⟨i, _, e⟩ := List.mem_map.1 h
        cases e; rfl
      · obtain ⟨y, hy, e⟩ := List.mem_map.1 h
        simp only [Prod.mk.injEq] at e
        have := List.all_eq_true.1 hk1 y hy
        simp only [Bool.and_eq_true, Nat.ble_eq] at this
        have h2 := this.2.1
        omega
    subst hold
    have hgt : (hD ρ s.heap).t.get old = some (.loop (L'.den ρ)) := by
      have : (hD ρ s.heap).t.get old = (s.heap.t.get old).map (SO.den ρ) := Tr.get_map _ _
      rw [this, hg]; rfl
    obtain ⟨o0, e0, kin⟩ := A.inn.ap.old old _ (by omega) hgt
    rw [g1] at e0
    cases e0
    obtain ⟨L2, e2, k1, k2⟩ := kin.2 L1 rfl
    cases e2
    exact ⟨c1.trans (g2.symm.trans k1.symm), c2.trans (g3.symm.trans k2.symm)⟩
  rw [hH] at A
  subst hb
  have g1 := mtT_ok (b := B.nx) (K := K) hR hf h1 n1
  have g2 := mtH_ok (b := B.nx) (K := K) hR hf hcode h2 n2
  have g3 := mtD_ok (ρ := ρ) (l := instK xs T.ids) h3
  obtain ⟨m2, A2⟩ := stt_shift (pl := []) (S := T.sl.map (·.1)) hk1 hk2 trivial hk3 (by rw [shiftS, hT0, g1, g3, g2]) A
  refine ⟨_, m2, ?_, A2⟩
  unfold eD
  rw [show (T.stR B.nx rc).tmps = trS T.sl from rfl, trS_map]
theorem AllB_of {ρ : Val} : ∀ {l : List X}, Fcs ρ l → AllB ρ l
  | [], _ => trivial
  | x :: l, h => ⟨h x List.mem_cons_self, AllB_of fun y hy => h y (List.mem_cons_of_mem _ hy)⟩
theorem lk_mem {l : List (Nat × X)} : ∀ {i : Nat} {x : X}, lkX l i = some x → (i, x) ∈ l := by
  induction l with
  | nil => intro i x h; cases h
  | cons p l ih =>
    intro i x h
    simp only [lkX, Bool.cond_eq_ite, Nat.beq_eq] at h
    split at h
    · rename_i e; cases h; subst e; exact List.mem_cons_self
    · exact List.mem_cons_of_mem _ (ih h)
theorem instK_mem {xs : List (Nat × X)} : ∀ {ids : List Nat} {i : Nat} {x : X}, (i, x) ∈ instK xs ids → i ∈ ids
  | [], i, x, h => by simp [instK] at h
  | k :: ids, i, x, h => by
    simp only [instK] at h
    split at h
    · rcases List.mem_cons.1 h with e | h
      · cases e; exact List.mem_cons_self
      · exact List.mem_cons_of_mem _ (instK_mem h)
    · exact List.mem_cons_of_mem _ (instK_mem h)
theorem upd_out {ρ : Val} {xs : List (Nat × X)} {ids : List Nat} {i : Nat} (h : i ∉ ids) : (ρ.upd (instK xs ids)).v i = ρ.v i := by
  simp only [Val.upd]
  cases hl : lkX (instK xs ids) i with
  | none => rfl
  | some x => exact absurd (instK_mem (lk_mem hl)) h
theorem mix_self {ρ0 ρ1 : Val} {ids : List Nat} (h : Agree ids ρ0 ρ1) : ρ0.mix ids ρ1.v = ρ1 := by
  have hv : (ρ0.mix ids ρ1.v).v = ρ1.v := by
    funext i
    simp only [Val.mix]
    cases hi : ids.any (Nat.beq i) with
    | true => rfl
    | false =>
      have : i ∉ ids := fun hm => by
        rw [List.any_eq_false] at hi
        exact hi i hm (by simp)
      exact (h.v i this).symm
  have hf : (ρ0.mix ids ρ1.v).fn = ρ1.fn := h.fn.symm
  cases ρ1
  cases hm : ρ0.mix ids _ with
  | mk v f => rw [hm] at hv hf; simp only at hv hf; rw [hv, hf]
theorem mix_agree {ρ : Val} {ids : List Nat} {w : Nat → Int} : Agree ids ρ (ρ.mix ids w) := by
  refine ⟨fun i hi => ?_, rfl⟩
  simp only [Val.mix]
  have : ids.any (Nat.beq i) = false := by
    rw [List.any_eq_false]
    intro x hx he
    have := Nat.eq_of_beq_eq_true he
    subst this
    exact hi hx
  rw [this]; rfl
theorem rgN_ok {ρ : Val} {fs : List X} (hR : R.ok ρ) (hf : Fcs ρ fs) : ∀ {inst : List (Nat × X)}, Fcs ρ (rgN R fs inst) → ∀ i x, (i, x) ∈ inst → inR (x.one.den ρ) (nthR R.vr i)
  | [], _, i, x, h => by cases h
  | p :: l, hn, i, x, h => by
    obtain ⟨n1, n2⟩ := hn.split
    rcases List.mem_cons.1 h with rfl | h
    · cases hr : nthR R.vr i with
      | none => trivial
      | some r =>
        obtain ⟨c, d⟩ := r
        simp only [hr] at n1
        obtain ⟨n1, n3⟩ := n1.split
        have := le_need hR hf n1
        have := le_need hR hf n3
        simp only [X.den_lit] at *
        exact ⟨by assumption, by assumption⟩
    · exact rgN_ok hR hf n2 i x h
theorem upd_rok {ρ : Val} {fs : List X} {xs : List (Nat × X)} {ids : List Nat} (hR : R.ok ρ) (hf : Fcs ρ fs) (hn : Fcs ρ (rgN R fs (instK xs ids))) : R.ok (ρ.upd (instK xs ids)) := by
  refine ⟨fun i => ?_, hR.f⟩
  simp only [Val.upd]
  cases hl : lkX (instK xs ids) i with
  | none => exact hR.v i
  | some x => exact rgN_ok hR hf hn i x (lk_mem hl)
theorem fsN_ok {ρ : Val} {fs : List X} {inst : List (Nat × X)} (hR : R.ok ρ) (hf : Fcs ρ fs) : ∀ {l : List X}, Fcs ρ (fsN R fs inst l) → AllB (ρ.upd inst) l
  | [], _ => trivial
  | x :: l, hn => by
    obtain ⟨n1, n2⟩ := hn.split
    have := nd_ok hR hf n1
    rw [X.denB_subst] at this
    exact ⟨this, fsN_ok hR hf n2⟩
theorem rgB_of {ρ : Val} (hR : R.ok ρ) : ∀ ids : List Nat, RgB R ρ ids
  | [] => trivial
  | i :: l => ⟨hR.v i, rgB_of hR l⟩
theorem rgB_mem {ρ : Val} : ∀ {ids : List Nat}, RgB R ρ ids → ∀ i ∈ ids, inR (ρ.v i) (nthR R.vr i)
  | _ :: l, h, i, hi => by
    rcases List.mem_cons.1 hi with rfl | hi
    · exact h.1
    · exact rgB_mem h.2 i hi
theorem mix_rok {ρ : Val} {ids : List Nat} {w : Nat → Int} (hR : R.ok ρ) (h : RgB R (ρ.mix ids w) ids) : R.ok (ρ.mix ids w) := by
  refine ⟨fun i => ?_, hR.f⟩
  by_cases hi : i ∈ ids
  · exact rgB_mem h i hi
  · rw [mix_agree.v i hi]; exact hR.v i
theorem idsF_sub {i j : Nat} (h : i ≤ j) : ∀ x ∈ idsF tps j, x ∈ idsF tps i := by
  intro x hx
  simp only [idsF, List.mem_flatMap] at hx ⊢
  obtain ⟨T, h1, h2⟩ := hx
  refine ⟨T, ?_, h2⟩
  have : tps.drop j = (tps.drop i).drop (j - i) := by rw [List.drop_drop]; congr 1; omega
  rw [this] at h1
  exact List.mem_of_mem_drop h1
theorem ids_idsF {j : Nat} {T : Tpl} (h : tps[j]? = some T) : ∀ x ∈ T.ids, x ∈ idsF tps j := by
  intro x hx
  simp only [idsF, List.mem_flatMap]
  refine ⟨T, ?_, hx⟩
  have : (tps.drop j)[0]? = some T := by rw [List.getElem?_drop]; exact h
  exact List.mem_of_getElem? this
variable (R tps) (Inv : Nat → Val → Prop) (mu : Nat → Val → Nat) in
def IofJ (b : Nat) (rc : Option (Nat × SLoop)) (j : Nat) (ρ0 : Val) : Nat → Env → List ADef → Hp → Nat → Prop := fun m E ds H nx => ∃ T w, tps[j]? = some T ∧ RgB R (ρ0.mix (idsF tps j) w) (idsF tps j) ∧ AllB (ρ0.mix (idsF tps j) w) (fsOf tps j) ∧ Inv j (ρ0.mix (idsF tps j) w) ∧
  mu j (ρ0.mix (idsF tps j) w) = m ∧ E = eD (ρ0.mix (idsF tps j) w) (T.stR b rc).tmps ∧ ds = (T.stR b rc).defers.map (SDef.den (ρ0.mix (idsF tps j) w)) ∧ H = hD (ρ0.mix (idsF tps j) w) (T.stR b rc).heap ∧ nx = (T.stR b rc).next
def Qit (P : Program) (B : Ent) (n : Nat) (E : Env) (ds : List ADef) (l : Nat) (Q : Qc) : Qc := fun e _ ds' H nx => (e = .normal ∨ e = .ret) ∧ ds' = [] ∧ ∃ L3, H.get l = some (.loop L3) ∧ L3.state ≠ .busy ∧ (match L3.pending with
  | none => Q .normal E ds (H.put l (.loop { L3 with state := .exhausted })) nx
  | some c => TC P B n none c E ds (H.put l (.loop { L3 with state := .exhausted })) nx Q)
def Qcl (P : Program) (B : Ent) (n : Nat) (rd : Option Nat) (ops : Array Oper) (rest : List Oper) (dst : Option Tmp) (E : Env) (ds : List ADef) (rs : List ResultVar) (Q : Qc) : Qc := fun e E' ds' H nx => (e = .normal ∨ e = .ret) ∧ ∃ H2 nx2, leaveA norec ds' H nx = some (H2, nx2) ∧ ∃ v, ressE P H2 E' rs = some v ∧
  TO P B [] [] n rd ops rest (E.setO dst v) ds H2 nx2 (Q .normal)
variable (P R tps) (Inv : Nat → Val → Prop) (mu : Nat → Val → Nat) (Q0 : Qc) in
def QK (Bs : Nat → Ent) (Et Es : Nat → Val) (M : Nat → Nat) : Cx → List Fr → Qc
  | _, [] => Q0
  | x, .seq b _ :: K => Qseq P (Bs x.b) x.n x.rd b (QK Bs Et Es M x K)
  | x, .blk id :: K => Qblk id (QK Bs Et Es M x K)
  | x, .lp j :: K => QloopC (Bs x.b) x.n x.rd (IofJ R tps Inv mu x.b x.rc j (Es j)) (M j) (QK Bs Et Es M x K)
  | x, .un a _ :: K => Qun P (Bs x.b) x.n x.rd a (QK Bs Et Es M x K)
  | x, .it y T ds l _ :: K => Qit P (Bs y.b) y.n (eD (Et x.b) T) (ds.map (SDef.den (Et x.b))) l (QK Bs Et Es M y K)
  | x, .cl y ops rest dst T ds rs _ :: K => Qcl P (Bs y.b) y.n y.rd ops rest dst (eD (Et x.b) T) (ds.map (SDef.den (Et x.b))) rs (QK Bs Et Es M y K)
def cxLt (q : Nat) : Cx → List Fr → Prop
  | x, [] => x.b < q
  | x, .it y _ _ _ _ :: K => x.b < q ∧ cxLt q y K
  | x, .cl y _ _ _ _ _ _ _ :: K => x.b < q ∧ cxLt q y K
  | x, .seq _ _ :: K => cxLt q x K
  | x, .blk _ :: K => cxLt q x K
  | x, .lp _ :: K => cxLt q x K
  | x, .un _ _ :: K => cxLt q x K
theorem cxLt_self {q : Nat} : ∀ {K : List Fr} {x : Cx}, cxLt q x K → x.b < q
  | [], _, h => h
  | .it _ _ _ _ _ :: _, _, h => h.1
  | .cl _ _ _ _ _ _ _ _ :: _, _, h => h.1
  | .seq _ _ :: K, _, h => cxLt_self (K := K) h
  | .blk _ :: K, _, h => cxLt_self (K := K) h
  | .lp _ :: K, _, h => cxLt_self (K := K) h
  | .un _ _ :: K, _, h => cxLt_self (K := K) h
theorem cxLt_mono {q q' : Nat} (hq : q ≤ q') : ∀ {K : List Fr} {x : Cx}, cxLt q x K → cxLt q' x K
  | [], _, h => Nat.lt_of_lt_of_le h hq
  | .it _ _ _ _ _ :: K, _, h => ⟨Nat.lt_of_lt_of_le h.1 hq, cxLt_mono hq (K := K) h.2⟩
  | .cl _ _ _ _ _ _ _ _ :: K, _, h => ⟨Nat.lt_of_lt_of_le h.1 hq, cxLt_mono hq (K := K) h.2⟩
  | .seq _ _ :: K, _, h => cxLt_mono hq (K := K) h
  | .blk _ :: K, _, h => cxLt_mono hq (K := K) h
  | .lp _ :: K, _, h => cxLt_mono hq (K := K) h
  | .un _ _ :: K, _, h => cxLt_mono hq (K := K) h
theorem QK_congr {Inv : Nat → Val → Prop} {mu : Nat → Val → Nat} {Q0 : Qc} {Bs Bs' : Nat → Ent} {Et Et' Es Es' : Nat → Val} {M M' : Nat → Nat} {p q : Nat} (h : ∀ j, j < p → Es' j = Es j ∧ M' j = M j) (h2 : ∀ i, i < q → Bs' i = Bs i ∧ Et' i = Et i) :
    ∀ {K : List Fr} {x : Cx}, lpLt p K = true → cxLt q x K → QK P R tps Inv mu Q0 Bs' Et' Es' M' x K = QK P R tps Inv mu Q0 Bs Et Es M x K
  | [], _, _, _ => rfl
  | .seq b _ :: K, x, hk, hq => by simp only [QK, QK_congr h h2 (K := K) hk hq, (h2 x.b (cxLt_self hq)).1]
  | .blk id :: K, x, hk, hq => by simp only [QK, QK_congr h h2 (K := K) hk hq]
  | .un a _ :: K, x, hk, hq => by simp only [QK, QK_congr h h2 (K := K) hk hq, (h2 x.b (cxLt_self hq)).1]
  | .lp j :: K, x, hk, hq => by
    simp only [lpLt] at hk
    obtain ⟨h1, h3⟩ := cond_true_false hk
    rw [Nat.blt_eq] at h1
    simp only [QK, QK_congr h h2 (K := K) h3 hq, h j h1, (h2 x.b (cxLt_self hq)).1]
  | .it y T ds l o :: K, x, hk, hq => by
    simp only [lpLt] at hk
    obtain ⟨h1, h3⟩ := cond_true_false hk
    simp only [QK, QK_congr h h2 (K := K) h3 hq.2, (h2 x.b hq.1).2, (h2 y.b (cxLt_self hq.2)).1]
  | .cl y ops rest dst T ds rs o :: K, x, hk, hq => by
    simp only [lpLt] at hk
    obtain ⟨h1, h3⟩ := cond_true_false hk
    simp only [QK, QK_congr h h2 (K := K) h3 hq.2, (h2 x.b hq.1).2, (h2 y.b (cxLt_self hq.2)).1]
def Ctx (tps : List Tpl) (ρ : Val) (Es : Nat → Val) : List Fr → Prop
  | [] => True
  | .lp j :: K => Agree (idsF tps j) (Es j) ρ ∧ Ctx tps ρ Es K
  | .seq _ _ :: K => Ctx tps ρ Es K
  | .blk _ :: K => Ctx tps ρ Es K
  | .un _ _ :: K => Ctx tps ρ Es K
  | .it _ _ _ _ _ :: K => Ctx tps ρ Es K
  | .cl _ _ _ _ _ _ _ _ :: K => Ctx tps ρ Es K
theorem agree_mix {ρ0 ρ : Val} {i p : Nat} {w : Nat → Int} (hp : i ≤ p) (h : Agree (idsF tps i) ρ0 ρ) : Agree (idsF tps i) ρ0 (ρ.mix (idsF tps p) w) := by
  refine ⟨fun k hk => ?_, h.fn⟩
  rw [mix_agree.v k (fun hm => hk (idsF_sub hp k hm))]
  exact h.v k hk
theorem Ctx.mix {ρ : Val} {Es : Nat → Val} {p : Nat} {w : Nat → Int} : ∀ {K : List Fr}, lpLt p K = true → Ctx tps ρ Es K → Ctx tps (ρ.mix (idsF tps p) w) (fun i => cond (Nat.beq i p) ρ (Es i)) K
  | [], _, _ => trivial
  | .seq b q :: K, hk, h => Ctx.mix (K := K) hk h
  | .blk id :: K, hk, h => Ctx.mix (K := K) hk h
  | .un a q :: K, hk, h => Ctx.mix (K := K) hk h
  | .it _ _ _ _ _ :: K, hk, h => Ctx.mix (K := K) (cond_true_false hk).2 h
  | .cl _ _ _ _ _ _ _ _ :: K, hk, h => Ctx.mix (K := K) (cond_true_false hk).2 h
  | .lp j :: K, hk, h => by
    simp only [lpLt] at hk
    obtain ⟨h1, h2⟩ := cond_true_false hk
    rw [Nat.blt_eq] at h1
    refine ⟨?_, Ctx.mix h2 h.2⟩
    have e : Nat.beq j p = false := by cases hb : Nat.beq j p with
      | false => rfl
      | true => have := Nat.eq_of_beq_eq_true hb; omega
    simp only [e, cond_false]
    exact agree_mix (by omega) h.1
def CxOk (Bs : Nat → Ent) (x : Cx) : Prop := (Bs x.b).nx = x.b ∧ ∀ k L, x.rc = some (k, L) → ∃ L1, (Bs x.b).H.t.get k = some (.loop L1) ∧ L1.assign = L.assign ∧ L1.body = L.body
def CK (tps : List Tpl) (ρ : Val) (Bs : Nat → Ent) (Et : Nat → Val) : Cx → List Fr → Prop
  | x, [] => CxOk Bs x
  | x, .it y T ds _ o :: K => CxOk Bs x ∧ y.b < x.b ∧ y.rd = none ∧ trFree (idsF tps o) T = true ∧ isMarks ds = true ∧ Agree (idsF tps o) (Et x.b) ρ ∧ CK tps ρ Bs Et y K
  | x, .cl y _ _ _ T ds _ o :: K => CxOk Bs x ∧ y.b < x.b ∧ True ∧ trFree (idsF tps o) T = true ∧ isMarks ds = true ∧ Agree (idsF tps o) (Et x.b) ρ ∧ CK tps ρ Bs Et y K
  | x, .seq _ _ :: K => CK tps ρ Bs Et x K
  | x, .blk _ :: K => CK tps ρ Bs Et x K
  | x, .lp _ :: K => CK tps ρ Bs Et x K
  | x, .un _ _ :: K => CK tps ρ Bs Et x K
theorem CK.self {ρ : Val} {Bs : Nat → Ent} {Et : Nat → Val} : ∀ {K : List Fr} {x : Cx}, CK tps ρ Bs Et x K → CxOk Bs x
  | [], _, h => h
  | .it _ _ _ _ _ :: _, _, h => h.1
  | .cl _ _ _ _ _ _ _ _ :: _, _, h => h.1
  | .seq _ _ :: K, _, h => CK.self (K := K) h
  | .blk _ :: K, _, h => CK.self (K := K) h
  | .lp _ :: K, _, h => CK.self (K := K) h
  | .un _ _ :: K, _, h => CK.self (K := K) h
theorem CK.lt {ρ : Val} {Bs : Nat → Ent} {Et : Nat → Val} : ∀ {K : List Fr} {x : Cx}, CK tps ρ Bs Et x K → cxLt (x.b + 1) x K
  | [], x, _ => Nat.lt_succ_self _
  | .it y _ _ _ _ :: K, x, h => ⟨Nat.lt_succ_self _, cxLt_mono (by have := h.2.1; omega) (CK.lt (K := K) h.2.2.2.2.2.2)⟩
  | .cl y _ _ _ _ _ _ _ :: K, x, h => ⟨Nat.lt_succ_self _, cxLt_mono (by have := h.2.1; omega) (CK.lt (K := K) h.2.2.2.2.2.2)⟩
  | .seq _ _ :: K, _, h => CK.lt (K := K) h
  | .blk _ :: K, _, h => CK.lt (K := K) h
  | .lp _ :: K, _, h => CK.lt (K := K) h
  | .un _ _ :: K, _, h => CK.lt (K := K) h
theorem CK.mix {ρ : Val} {Bs : Nat → Ent} {Et : Nat → Val} {p : Nat} {w : Nat → Int} : ∀ {K : List Fr} {x : Cx}, lpLt p K = true → CK tps ρ Bs Et x K → CK tps (ρ.mix (idsF tps p) w) Bs Et x K
  | [], _, _, h => h
  | .it _ _ _ _ o :: K, _, hk, h => by
    obtain ⟨h1, h2⟩ := cond_true_false hk
    exact ⟨h.1, h.2.1, h.2.2.1, h.2.2.2.1, h.2.2.2.2.1, agree_mix (Nat.le_of_ble_eq_true h1) h.2.2.2.2.2.1, CK.mix (K := K) h2 h.2.2.2.2.2.2⟩
  | .cl _ _ _ _ _ _ _ o :: K, _, hk, h => by
    obtain ⟨h1, h2⟩ := cond_true_false hk
    exact ⟨h.1, h.2.1, h.2.2.1, h.2.2.2.1, h.2.2.2.2.1, agree_mix (Nat.le_of_ble_eq_true h1) h.2.2.2.2.2.1, CK.mix (K := K) h2 h.2.2.2.2.2.2⟩
  | .seq _ _ :: K, _, hk, h => CK.mix (K := K) hk h
  | .blk _ :: K, _, hk, h => CK.mix (K := K) hk h
  | .lp _ :: K, _, hk, h => CK.mix (K := K) (cond_true_false hk).2 h
  | .un _ _ :: K, _, hk, h => CK.mix (K := K) hk h
theorem CxOk.congr {Bs Bs' : Nat → Ent} {x : Cx} (h : Bs' x.b = Bs x.b) (k : CxOk Bs x) : CxOk Bs' x := by unfold CxOk; rw [h]; exact k
theorem CK.congr {ρ : Val} {Bs Bs' : Nat → Ent} {Et Et' : Nat → Val} {q : Nat} (h : ∀ i, i < q → Bs' i = Bs i ∧ Et' i = Et i) : ∀ {K : List Fr} {x : Cx}, cxLt q x K → CK tps ρ Bs Et x K → CK tps ρ Bs' Et' x K
  | [], x, hq, k => CxOk.congr (h x.b hq).1 k
  | .it y _ _ _ _ :: K, x, hq, k => ⟨CxOk.congr (h x.b hq.1).1 k.1, k.2.1, k.2.2.1, k.2.2.2.1, k.2.2.2.2.1, by rw [(h x.b hq.1).2]; exact k.2.2.2.2.2.1, CK.congr h (K := K) hq.2 k.2.2.2.2.2.2⟩
  | .cl y _ _ _ _ _ _ _ :: K, x, hq, k => ⟨CxOk.congr (h x.b hq.1).1 k.1, k.2.1, k.2.2.1, k.2.2.2.1, k.2.2.2.2.1, by rw [(h x.b hq.1).2]; exact k.2.2.2.2.2.1, CK.congr h (K := K) hq.2 k.2.2.2.2.2.2⟩
  | .seq _ _ :: K, _, hq, k => CK.congr h (K := K) hq k
  | .blk _ :: K, _, hq, k => CK.congr h (K := K) hq k
  | .lp _ :: K, _, hq, k => CK.congr h (K := K) hq k
  | .un _ _ :: K, _, hq, k => CK.congr h (K := K) hq k
section
variable {Inv : Nat → Val → Prop} {mu : Nat → Val → Nat} {α β : Type} {Q : Val → β → Prop}
theorem vc_toL {ρ : Val} {M : Nat → Nat} {f : α → LT β} : ∀ {t : OT α}, LT.vc R tps Inv mu Q (t.toL f) ρ M → ∃ a, OT.sem ρ t = some a ∧ LT.vc R tps Inv mu Q (f a) ρ M
  | .no, h => h.elim
  | .leaf a, h => ⟨a, rfl, h⟩
  | .ask b t u, h => by
    simp only [OT.sem]
    cases hb : b.denB ρ with
    | true => exact vc_toL (h.1 hb)
    | false => exact vc_toL (h.2 hb)
  | .need l t, h => by
    simp only [OT.sem, if_pos (allB_fcs h.1)]
    exact vc_toL h.2
theorem vc_needL {ρ : Val} {M : Nat → Nat} {l : List X} {t : LT β} (h : LT.vc R tps Inv mu Q (needL l t) ρ M) : Fcs ρ l ∧ LT.vc R tps Inv mu Q t ρ M := by
  unfold needL at h
  split at h
  · exact ⟨Fcs.nil, h⟩
  · exact ⟨allB_fcs h.1, h.2⟩
end
def LOk (P : Program) (R : Rgs) (tps : List Tpl) (Inv : Nat → Val → Prop) (mu : Nat → Val → Nat) (Q0 : Qc) (Bs : Nat → Ent) (Et Es : Nat → Val) (M : Nat → Nat) (ρ : Val) (x : Cx) : LTask → Prop
  | .go c _ s K => TC P (Bs x.b) x.n x.rd c (eD ρ s.tmps) (s.defers.map (SDef.den ρ)) (hD ρ s.heap) s.next (QK P R tps Inv mu Q0 Bs Et Es M x K)
  | .nx e s K => QK P R tps Inv mu Q0 Bs Et Es M x K e (eD ρ s.tmps) (s.defers.map (SDef.den ρ)) (hD ρ s.heap) s.next
  | .ops ops l s K => TO P (Bs x.b) [] [] x.n x.rd ops l (eD ρ s.tmps) (s.defers.map (SDef.den ρ)) (hD ρ s.heap) s.next (QK P R tps Inv mu Q0 Bs Et Es M x K .normal)
def LTask.K : LTask → List Fr
  | .go _ _ _ K => K
  | .nx _ _ K => K
  | .ops _ _ _ K => K
theorem to_op1r {rec : Task → Option Res} (hrec : RecOk P rec) {man set : List Nat} {ops : Array Oper} {l : List Oper} {o : Oper} {s s' : St} {Q : Qo} (h : op1 P rec n rd ops o s = some s')
    (k : TO P B man set n rd ops l s'.tmps.get s'.defers s'.heap s'.next Q) : TO P B man set n rd ops (o :: l) s.tmps.get s.defers s.heap s.next Q := by
  refine to_cons (fun E1 ds1 H1 nx1 => E1 = s'.tmps.get ∧ ds1 = s'.defers ∧ H1 = s'.heap ∧ nx1 = s'.next) ?_ (fun E1 ds1 H1 nx1 ⟨e1, e2, e3, e4⟩ => by subst e1 e2 e3 e4; exact k)
  intro T hT F m W a A next QQ hn
  obtain ⟨ap, w⟩ := op1_ok hrec A.inn.ap.wf h
  refine w m W a F ⟨⟨A.tmps.1, fun t => by rw [← hT]; exact A.tmps.2 t⟩, A.defers⟩ A.inn.rel (A.inn.fresh _) A.fr next QQ (fun a' m' W' p sr => ?_)
  exact hn s'.tmps s'.defers s'.heap s'.next m' W' a' ⟨A.inn.step ap p, sr.tmps, sr.defers, A.fr.mono p.le⟩ ⟨rfl, rfl, rfl, rfl⟩
theorem agree_refl {ids : List Nat} {ρ : Val} : Agree ids ρ ρ := ⟨fun _ _ => rfl, rfl⟩
theorem argsE_dens {ρ : Val} (args : List SV) : argsE (SV.dens ρ args) = eD ρ (ofArgsS args 0 .nil) := by
  unfold eD
  rw [← args_get, ← ofArgsS_den]; rfl
set_option maxHeartbeats 2000000 in
theorem noS_sim {ρ : Val} : Sim ρ noS norec := ⟨fun fs t r fs' _ h => by simp only [noS] at h; cases h⟩
theorem exM_ok {C : Cts P} {fn0 : Nat → List Int → Int} {Inv : Nat → Val → Prop} {mu : Nat → Val → Nat} {Q0 : Qc} {Q : Val → (Ex × SSt) × List X → Prop} (hp : progOk P = true) (hC : ∀ ρ : Val, ρ.fn = fn0 → R.ok ρ → C.has ρ Ks)
    (hQ : ∀ ρ e s fs, R.ok ρ → Fcs ρ fs → Q ρ ((e, s), fs) → Q0 e (eD ρ s.tmps) (s.defers.map (SDef.den ρ)) (hD ρ s.heap) s.next) :
    ∀ (f : Nat) (fs : List X) (t : LTask) (x : Cx) (ρ : Val) (M : Nat → Nat) (Es : Nat → Val) (Bs : Nat → Ent) (Et : Nat → Val), ρ.fn = fn0 → R.ok ρ → Fcs ρ fs → Ctx tps ρ Es t.K → CK tps ρ Bs Et x t.K →
      LT.vc R tps Inv mu Q (exM P R Ks tps f fs x t) ρ M → LOk P R tps Inv mu Q0 Bs Et Es M ρ x t := by
  intro f
  induction f with
  | zero => intro fs t x ρ M Es Bs Et _ _ _ _ _ h; simp only [exM] at h; exact h.elim
  | succ f ih =>
    intro fs t x ρ M Es Bs Et hfn hR hf hK hX h
    cases t with
    | go c pos s K =>
      have hK : Ctx tps ρ Es K := hK
      have hX : CK tps ρ Bs Et x K := hX
      simp only [LOk]
      simp only [exM, Bool.cond_eq_ite] at h
      split at h
      · obtain ⟨⟨r, fs1⟩, h1, h2⟩ := vc_toL h
        obtain ⟨g1, g2⟩ := (runK_sim hR (hC ρ hfn hR) f).ok _ _ _ _ hf h1
        have hok := runK_ok hp f _ _ g1
        cases r with
        | call v H nx => exact h2.elim
        | code e s' =>
          have := ih fs1 (.nx e s' K) x ρ M Es Bs Et hfn hR g2 hK hX h2
          exact tc_of_ok (s := sD ρ s) (s' := sD ρ s') hok this
      · cases c with
        | seq y z =>
          have := ih fs (.go y pos s (.seq z (pos + nl y) :: K)) x ρ M Es Bs Et hfn hR hf hK hX h
          exact tc_seq rfl this
        | block id y =>
          have := ih fs (.go y pos s (.blk id :: K)) x ρ M Es Bs Et hfn hR hf hK hX h
          exact tc_block rfl this
        | cond q u v =>
          obtain ⟨⟨w, fs1⟩, h1, h2⟩ := vc_toL h
          obtain ⟨fs2, l, w2, g1, g2, g3, g4⟩ := retry_some h1 hf
          have e := leaf_some g4
          cases e
          have hc := condS_ok hR g2 g1
          rw [← evE_get] at hc
          refine tc_cond w (by simp only [kind, condE]; exact congrArg (Prod.mk 4) hc) (fun hw => ?_) (fun hw => ?_)
          · subst hw; exact ih _ (.go u pos s K) x ρ M Es Bs Et hfn hR (g3.append g2) hK hX h2
          · subst hw; exact ih _ (.go v (pos + nl u) s K) x ρ M Es Bs Et hfn hR (g3.append g2) hK hX h2
        | loop y =>
          simp only at h
          split at h <;> try (exact h.elim)
          rename_i T hT
          cases hun : isUn T with
          | true =>
            simp only [hun, cond_true, if_true] at h
            exact tc_unroll (ih fs (.go y (pos + 1) s (.un y pos :: K)) x ρ M Es Bs Et hfn hR hf hK hX h)
          | false =>
          simp only [hun, cond_false, Bool.false_eq_true, if_false] at h
          split at h <;> try (exact h.elim)
          rename_i inst l hfit
          split at h <;> try (exact h.elim)
          rename_i hlp
          obtain ⟨hn, hv⟩ := vc_needL h
          have hcx := hX.self
          obtain ⟨hcv, ⟨xs, rfl⟩, hrg, hfs⟩ := fitsR_ok (n := x.n) (rd := x.rd) hcx.1 hcx.2 hR hf hfit hn
          have hR1 := upd_rok hR hf hrg
          have hag : Agree (idsF tps pos) ρ (ρ.upd (instK xs T.ids)) := ⟨fun i hi => upd_out (fun hm => hi (ids_idsF hT i hm)), rfl⟩
          have hmx := mix_self hag
          obtain ⟨hI, hbody⟩ := hv
          have hfsOf : fsOf tps pos = T.fs := by simp only [fsOf, hT]
          refine tc_cv hcv (tc_loopC (IofJ R tps Inv mu x.b x.rc pos ρ) (mu pos (ρ.upd (instK xs T.ids))) ⟨T, (ρ.upd (instK xs T.ids)).v, hT, ?_⟩ ?_)
          · rw [hmx, hfsOf]
            exact ⟨rgB_of hR1 _, fsN_ok hR hf hfs, hI, rfl, rfl, rfl, rfl, rfl⟩
          · rintro m E ds H nx ⟨T', w, hT', q1, q2, q3, q4, rfl, rfl, rfl, rfl⟩
            rw [hT] at hT'
            cases hT'
            have hv' := hbody w q1 q2 q3
            have hR' := mix_rok hR q1
            have hf' : Fcs (ρ.mix (idsF tps pos) w) (T.fs ++ keepF (idsF tps pos) fs) := by
              rw [hfsOf] at q2
              exact (allB_fcs q2).append (keepF_ok mix_agree hf)
            have := ih _ (.go y (pos + 1) (T.stR x.b x.rc) (.lp pos :: K)) x (ρ.mix (idsF tps pos) w) (setM M pos (mu pos (ρ.mix (idsF tps pos) w))) (fun i => cond (Nat.beq i pos) ρ (Es i)) Bs Et hfn hR' hf'
              ⟨by simp only [Nat.beq_refl, cond_true]; exact mix_agree, Ctx.mix hlp hK⟩ (CK.mix (K := K) hlp hX) hv'
            simp only [LOk, QK, Nat.beq_refl, cond_true, setM, q4] at this
            have hcg : QK P R tps Inv mu Q0 Bs Et (fun i => cond (Nat.beq i pos) ρ (Es i)) (fun i => cond (Nat.beq i pos) m (M i)) x K = QK P R tps Inv mu Q0 Bs Et Es M x K := by
              refine QK_congr (p := pos) (q := x.b + 1) (fun j hj => ?_) (fun _ _ => ⟨rfl, rfl⟩) hlp hX.lt
              have e : Nat.beq j pos = false := by cases hb : Nat.beq j pos with
                | false => rfl
                | true => have := Nat.eq_of_beq_eq_true hb; omega
              simp only [e, cond_false, and_self]
            rw [show setM M pos m = fun i => cond (Nat.beq i pos) m (M i) from rfl, hcg] at this
            exact this
        | region id ops d =>
          cases d with
          | true => exact h.elim
          | false => exact tc_reg0 [] rfl (ih fs (.ops ops ops.toList s K) x ρ M Es Bs Et hfn hR hf hK hX h)
        | rangeFunc fo ps assign body =>
          simp only at h
          split at h <;> try (exact h.elim)
          rename_i g first cap hrd hfo
          split at h <;> try (exact h.elim)
          rename_i o fn ho hfun
          split at h <;> try (exact h.elim)
          rename_i c2 hbd
          split at h <;> try (exact h.elim)
          rename_i hres
          split at h <;> try (exact h.elim)
          rename_i hb2
          split at h <;> try (exact h.elim)
          rename_i hfr
          split at h <;> try (exact h.elim)
          rename_i hmk
          split at h <;> try (exact h.elim)
          rename_i hlo
          have hb2 : x.b < s.next + 2 := by simpa using hb2
          have hL : CK tps ρ Bs Et x K := hX
          have hcl := hX.lt
          have hheap : hD ρ (itHeap s (itRec x s ps.toList assign body)) = (((hD ρ s.heap).lay s.next (.dfr true)).lay (s.next + 1) (.loop ⟨.ready, none, x.n, Tr.map (SV.den ρ) s.tmps, ps.toList, assign, body, s.next⟩)) := by
            unfold itHeap
            rw [← hD_lay, ← hD_lay]; rfl
          rw [hrd]
          refine tc_range2 (T1 := Tr.map (SV.den ρ) s.tmps) rfl (g := g) (first := SV.dens ρ first) (cap := SV.dens ρ cap)
            (R := fun _ H3 nx3 => ∃ L3, H3.get (s.next + 1) = some (.loop L3) ∧ L3.state ≠ .busy ∧ (match L3.pending with
              | none => QK P R tps Inv mu Q0 Bs Et Es M x K .normal (eD ρ s.tmps) (.mark s.next :: s.defers.map (SDef.den ρ)) (H3.put (s.next + 1) (.loop { L3 with state := .exhausted })) nx3
              | some c' => TC P (Bs x.b) x.n none c' (eD ρ s.tmps) (.mark s.next :: s.defers.map (SDef.den ρ)) (H3.put (s.next + 1) (.loop { L3 with state := .exhausted })) nx3 (QK P R tps Inv mu Q0 Bs Et Es M x K)))
            (by simp only [kind, rangeE]; rw [evS_den, hfo]; rfl) (call_same ?_) (fun v H3 nx3 h => h)
          change CallH P g (SV.dens ρ first ++ [.yield (s.next + 1)] ++ SV.dens ρ cap) (((hD ρ s.heap).lay s.next (.dfr true)).lay (s.next + 1) (.loop ⟨.ready, none, x.n, Tr.map (SV.den ρ) s.tmps, ps.toList, assign, body, s.next⟩)) (s.next + 2) _
          rw [← hheap]
          have hargs : SV.dens ρ first ++ [AV.yield (s.next + 1)] ++ SV.dens ρ cap = SV.dens ρ (first ++ [.yield (s.next + 1)] ++ cap) := by
            rw [dens_append, dens_append]; rfl
          rw [hargs]
          refine call_intro hp hfun hbd fun m0 W0 => ?_
          have hB : ∀ i, i < s.next + 2 → (fun i => cond (Nat.beq i (s.next + 2)) (⟨m0, hD ρ (itHeap s (itRec x s ps.toList assign body)), s.next + 2, W0⟩ : Ent) (Bs i)) i = Bs i ∧ (fun i => cond (Nat.beq i (s.next + 2)) ρ (Et i)) i = Et i := fun i hi => by
            have e : Nat.beq i (s.next + 2) = false := by cases hb : Nat.beq i (s.next + 2) with
              | false => rfl
              | true => have := Nat.eq_of_beq_eq_true hb; omega
            simp only [e, cond_false, and_self]
          have hcl2 := cxLt_mono (show x.b + 1 ≤ s.next + 2 by omega) hcl
          have := ih fs (.go c2 o ⟨ofArgsS (first ++ [SV.yield (s.next + 1)] ++ cap) 0 .nil, [], itHeap s (itRec x s ps.toList assign body), s.next + 2⟩ (.it x s.tmps (.mark s.next :: s.defers) (s.next + 1) o :: K))
            ⟨s.next + 2, max fn.ntmps (first ++ [SV.yield (s.next + 1)] ++ cap).length, none, some (s.next + 1, itRec x s ps.toList assign body)⟩ ρ M Es (fun i => cond (Nat.beq i (s.next + 2)) ⟨m0, hD ρ (itHeap s (itRec x s ps.toList assign body)), s.next + 2, W0⟩ (Bs i)) (fun i => cond (Nat.beq i (s.next + 2)) ρ (Et i)) hfn hR hf hK
            ⟨⟨by simp only [Nat.beq_refl, cond_true], fun k L e => by
                cases e
                refine ⟨⟨.ready, none, x.n, Tr.map (SV.den ρ) s.tmps, ps.toList, assign, body, s.next⟩, ?_, rfl, rfl⟩
                simp only [Nat.beq_refl, cond_true]
                rw [hheap]
                simp only [Hp.lay, Tr.get_set, if_true]⟩, hb2, hrd, hfr, hmk, by simp only [Nat.beq_refl, cond_true]; exact agree_refl, CK.congr hB hcl2 hL⟩ h
          simp only [LOk, Nat.beq_refl, cond_true] at this
          rw [argsE_dens, dens_length]
          refine tc_mono this ?_
          rintro e E2 ds2 H2 nx2 ⟨he, hds, L3, q1, q2, q3⟩
          simp only [Nat.beq_refl, cond_true] at q3
          have hcg := QK_congr (P := P) (R := R) (tps := tps) (Inv := Inv) (mu := mu) (Q0 := Q0) (Es := Es) (M := M) (p := o) (fun _ _ => ⟨rfl, rfl⟩) hB hlo hcl2
          have hBx := (hB x.b hb2).1
          rw [hcg] at q3
          simp only at hBx
          rw [hBx] at q3
          have hre : fn.results.toList = [] := by
            have := Array.isEmpty_iff.1 hres
            rw [this]
          rw [hre, hds]
          rcases he with rfl | rfl
          · exact qfun_end (v := .tuple []) rfl ⟨L3, q1, q2, q3⟩
          · exact qfun_ret (v := .tuple []) rfl ⟨L3, q1, q2, q3⟩
        | _ => exact h.elim
    | ops ops l s K =>
      have hK : Ctx tps ρ Es K := hK
      have hX : CK tps ρ Bs Et x K := hX
      simp only [LOk]
      simp only [exM] at h
      cases l with
      | nil =>
        have := ih fs (.nx .normal s K) x ρ M Es Bs Et hfn hR hf hK hX h
        exact to_end _ rfl rfl this
      | cons o rest =>
        simp only at h
        split at h
        · rename_i g args k hin
          split at h <;> try (exact h.elim)
          rename_i fn hfun
          split at h <;> try (exact h.elim)
          rename_i c2 hbd
          simp only [Bool.cond_eq_ite] at h
          split at h <;> try (exact h.elim)
          rename_i hb2
          split at h <;> try (exact h.elim)
          rename_i hdl
          split at h <;> try (exact h.elim)
          rename_i hfr
          split at h <;> try (exact h.elim)
          rename_i hmk
          split at h <;> try (exact h.elim)
          rename_i hlo
          have hb2 : x.b < s.next := by simpa using hb2
          have hcl := hX.lt
          have hview : hdV P x.n ops ⟨eD ρ s.tmps, hD ρ s.heap, s.next, o :: rest⟩ = some (.call g (SV.dens ρ args)) := by
            unfold inl at hin
            split at hin <;> try (cases hin; done)
            rename_i f0 as0 ts hg ho
            split at hin <;> try (cases hin; done)
            rename_i g' first cap vs h1 h2
            split at hin <;> cases hin
            simp only [hdV, Mid.l, Mid.E, hdl, cond_true, guardE, hg, ho, view, evS_den, h1, evLS_den, h2, Option.map_some, SV.den, dens_append]
          refine to_call0 1 (H0 := hD ρ s.heap) (nx0 := s.next) (g := g) (vs := SV.dens ρ args)
            (R := fun v H' nx' => TO P (Bs x.b) [] [] x.n x.rd ops rest ((eD ρ s.tmps).setO o.dst v) (s.defers.map (SDef.den ρ)) H' nx' (QK P R tps Inv mu Q0 Bs Et Es M x K .normal))
            (call_same ?_) (by exact Prod.ext hview rfl) (fun v H' nx' hv => hv)
          refine call_intro hp hfun hbd fun m0 W0 => ?_
          have hB : ∀ i, i < s.next → (fun i => cond (Nat.beq i s.next) (⟨m0, hD ρ s.heap, s.next, W0⟩ : Ent) (Bs i)) i = Bs i ∧ (fun i => cond (Nat.beq i s.next) ρ (Et i)) i = Et i := fun i hi => by
            have e : Nat.beq i s.next = false := by cases hb : Nat.beq i s.next with
              | false => rfl
              | true => have := Nat.eq_of_beq_eq_true hb; omega
            simp only [e, cond_false, and_self]
          have hcl2 := cxLt_mono (show x.b + 1 ≤ s.next by omega) hcl
          have := ih fs (.go c2 k ⟨ofArgsS args 0 .nil, [], s.heap, s.next⟩ (.cl x ops rest o.dst s.tmps s.defers fn.results.toList k :: K)) ⟨s.next, max fn.ntmps args.length, none, none⟩ ρ M Es
            (fun i => cond (Nat.beq i s.next) ⟨m0, hD ρ s.heap, s.next, W0⟩ (Bs i)) (fun i => cond (Nat.beq i s.next) ρ (Et i)) hfn hR hf hK
            ⟨⟨by simp only [Nat.beq_refl, cond_true], fun k L e => by cases e⟩, hb2, trivial, hfr, hmk, by simp only [Nat.beq_refl, cond_true]; exact agree_refl, CK.congr hB hcl2 hX⟩ h
          simp only [LOk, Nat.beq_refl, cond_true] at this
          rw [argsE_dens, dens_length]
          refine tc_mono this ?_
          rintro e E2 ds2 H2 nx2 ⟨he, H3, nx3, hlv, v, q1, q2⟩
          simp only [Nat.beq_refl, cond_true] at q2
          have hcg := QK_congr (P := P) (R := R) (tps := tps) (Inv := Inv) (mu := mu) (Q0 := Q0) (Es := Es) (M := M) (p := k) (fun _ _ => ⟨rfl, rfl⟩) hB hlo hcl2
          have hBx := (hB x.b hb2).1
          rw [hcg] at q2
          simp only at hBx
          rw [hBx] at q2
          rcases he with rfl | rfl
          · exact ⟨H3, nx3, hlv, v, q1, q2⟩
          · exact ⟨H3, nx3, hlv, v, q1, q2⟩
        · obtain ⟨⟨s', fs'⟩, h1, h2⟩ := vc_toL h
          have hop := op1S_ok (P := P) hR (runK_sim hR (hC ρ hfn hR) f) hf h1
          have := ih fs' (.ops ops rest s' K) x ρ M Es Bs Et hfn hR hop.2 hK hX h2
          exact to_op1r (s := sD ρ s) (s' := sD ρ s') (runK_ok hp f) hop.1 this
    | nx e s K =>
      simp only [LOk]
      cases K with
      | nil => simp only [exM] at h; exact hQ ρ e s fs hR hf h
      | cons fr K =>
        cases fr with
        | cl y ops rest dst T ds rs o =>
          obtain ⟨_, hyb, _, hfr, hmk, hag, hXy⟩ := hX
          have eT : eD (Et x.b) T = eD ρ T := by unfold eD; rw [trFree_den hag hfr]
          have eds : ds.map (SDef.den (Et x.b)) = ds.map (SDef.den ρ) := isMarks_den hmk
          have key : LT.vc R tps Inv mu Q ((leaveS noS fs s.defers s.heap s.next).toL fun z => (retry (fun fs => ressS P R z.1.1 s.tmps fs rs) (fun fs vs => .leaf (one1 vs, fs)) rtry z.2).toL fun r => match putS y.n dst r.1 T with
              | some T => exM P R Ks tps f r.2 y (.ops ops rest ⟨T, ds, z.1.1, z.1.2⟩ K)
              | none => .no) ρ M → (e = .normal ∨ e = .ret) → QK P R tps Inv mu Q0 Bs Et Es M x (.cl y ops rest dst T ds rs o :: K) e (eD ρ s.tmps) (s.defers.map (SDef.den ρ)) (hD ρ s.heap) s.next := by
            intro h he
            obtain ⟨z, h0, h⟩ := vc_toL h
            obtain ⟨m1, m2⟩ := leaveS_ok noS_sim hf h0
            obtain ⟨⟨v, fs1⟩, h1, h2⟩ := vc_toL h
            obtain ⟨fs2, l2, vs, q1, q2, q3, q4⟩ := retry_some h1 m2
            have e4 := leaf_some q4
            simp only [Prod.mk.injEq] at e4
            obtain ⟨rfl, rfl⟩ := e4
            have hr := ressA_ok (H := z.1.1) (T := s.tmps) hR q2 q1 q3
            simp only at h2
            split at h2 <;> try (exact h2.elim)
            rename_i T2 hput
            refine ⟨he, _, _, m1, _, by unfold eD; rw [ress_get]; exact hr, ?_⟩
            rw [eT, eds]
            have := ih _ (.ops ops rest ⟨T2, ds, z.1.1, z.1.2⟩ K) y ρ M Es Bs Et hfn hR (q3.append q2) hK hXy h2
            have hset : (eD ρ T).setO dst ((one1 vs).den ρ) = eD ρ T2 := by
              unfold putS at hput
              cases dst with
              | none => cases hput; rfl
              | some d =>
                simp only [Bool.cond_eq_ite] at hput
                split at hput <;> cases hput
                exact (eD_set _ _ _).symm
            rw [hset]
            exact this
          simp only [exM] at h
          cases e with
          | normal => exact key h (.inl rfl)
          | ret => exact key h (.inr rfl)
          | _ => exact h.elim
        | seq b2 pos =>
          simp only [exM] at h
          cases e with
          | normal => exact ih fs (.go b2 pos s K) x ρ M Es Bs Et hfn hR hf hK hX h
          | _ => exact ih fs (.nx _ s K) x ρ M Es Bs Et hfn hR hf hK hX h
        | blk id =>
          simp only [exM] at h
          cases e with
          | exit j =>
            simp only [QK, Qblk]
            cases hb2 : Nat.beq j id <;> simp only [hb2, cond_true, cond_false] at h ⊢
            · exact ih fs (.nx (.exit j) s K) x ρ M Es Bs Et hfn hR hf hK hX h
            · exact ih fs (.nx .normal s K) x ρ M Es Bs Et hfn hR hf hK hX h
          | _ => exact ih fs (.nx _ s K) x ρ M Es Bs Et hfn hR hf hK hX h
        | lp j =>
          simp only [exM] at h
          cases e with
          | normal =>
            simp only at h
            split at h <;> try (exact h.elim)
            rename_i T hT
            split at h <;> try (exact h.elim)
            rename_i inst l hfit
            obtain ⟨hn, hv⟩ := vc_needL h
            have hcx := CK.self (K := K) hX
            obtain ⟨hcv, ⟨xs, rfl⟩, hrg, hfs⟩ := fitsR_ok (n := x.n) (rd := x.rd) hcx.1 hcx.2 hR hf hfit hn
            have hR1 := upd_rok hR hf hrg
            have hag : Agree (idsF tps j) (Es j) (ρ.upd (instK xs T.ids)) := ⟨fun i hi => by rw [upd_out (fun hm => hi (ids_idsF hT i hm))]; exact hK.1.v i hi, hK.1.fn⟩
            have hmx := mix_self hag
            have hfsOf : fsOf tps j = T.fs := by simp only [fsOf, hT]
            obtain ⟨hI, hm⟩ := hv
            refine ⟨_, hm, _, _, _, _, hcv, T, (ρ.upd (instK xs T.ids)).v, hT, ?_⟩
            rw [hmx, hfsOf]
            exact ⟨rgB_of hR1 _, fsN_ok hR hf hfs, hI, rfl, rfl, rfl, rfl, rfl⟩
          | _ => exact ih fs (.nx _ s K) x ρ M Es Bs Et hfn hR hf hK.2 hX h
        | un a pos =>
          simp only [exM] at h
          cases e with
          | normal => exact ih fs (.go (.loop a) pos s K) x ρ M Es Bs Et hfn hR hf hK hX h
          | _ => exact ih fs (.nx _ s K) x ρ M Es Bs Et hfn hR hf hK hX h
        | it y T ds l o =>
          obtain ⟨_, hyb, hyrd, hfr, hmk, hag, hXy⟩ := hX
          have eT : eD (Et x.b) T = eD ρ T := by unfold eD; rw [trFree_den hag hfr]
          have eds : ds.map (SDef.den (Et x.b)) = ds.map (SDef.den ρ) := isMarks_den hmk
          have key : LT.vc R tps Inv mu Q (cond s.defers.isEmpty (match s.heap.get l with
              | some (.loop L) => match L.state with
                | .busy => .no
                | _ => match L.pending with
                  | none => exM P R Ks tps f fs y (.nx .normal ⟨T, ds, s.heap.put l (.loop { L with state := .exhausted }), s.next⟩ K)
                  | some c => cond (simple tps c) (exM P R Ks tps f fs y (.go c 0 ⟨T, ds, s.heap.put l (.loop { L with state := .exhausted }), s.next⟩ K)) .no
              | _ => .no) .no) ρ M → (e = .normal ∨ e = .ret) → QK P R tps Inv mu Q0 Bs Et Es M x (.it y T ds l o :: K) e (eD ρ s.tmps) (s.defers.map (SDef.den ρ)) (hD ρ s.heap) s.next := by
            intro h he
            cases hd : s.defers.isEmpty <;> rw [hd] at h <;> simp only [cond_true, cond_false] at h <;> try (exact h.elim)
            split at h <;> try (exact h.elim)
            rename_i L hg
            have hst : L.state ≠ .busy := by
              intro hb
              rw [hb] at h
              exact h
            have hds : s.defers.map (SDef.den ρ) = [] := by rw [List.isEmpty_iff.1 hd]; rfl
            refine ⟨he, hds, L.den ρ, by rw [hD_get, hg]; rfl, hst, ?_⟩
            have hput : (hD ρ s.heap).put l (.loop { L.den ρ with state := .exhausted }) = hD ρ (s.heap.put l (.loop { L with state := .exhausted })) := by rw [← hD_put]; rfl
            rw [hput, eT, eds]
            have hp2 : (L.den ρ).pending = L.pending := rfl
            have h2 : LT.vc R tps Inv mu Q (match L.pending with
                | none => exM P R Ks tps f fs y (.nx .normal ⟨T, ds, s.heap.put l (.loop { L with state := .exhausted }), s.next⟩ K)
                | some c => cond (simple tps c) (exM P R Ks tps f fs y (.go c 0 ⟨T, ds, s.heap.put l (.loop { L with state := .exhausted }), s.next⟩ K)) .no) ρ M := by
              revert h
              cases hs : L.state with
              | busy => exact absurd hs hst
              | ready => exact id
              | done => exact id
              | exhausted => exact id
            rw [hp2]
            clear h hput hp2
            generalize ({ L with state := .exhausted } : SLoop) = L' at h2 ⊢
            cases hpd : L.pending with
            | none =>
              rw [hpd] at h2
              exact ih fs (.nx .normal ⟨T, ds, s.heap.put l (.loop L'), s.next⟩ K) y ρ M Es Bs Et hfn hR hf hK hXy h2
            | some c =>
              rw [hpd] at h2
              simp only at h2 ⊢
              cases hsm : simple tps c <;> rw [hsm] at h2 <;> simp only [cond_true, cond_false] at h2 <;> try (exact h2.elim)
              have := ih fs (.go c 0 ⟨T, ds, s.heap.put l (.loop L'), s.next⟩ K) y ρ M Es Bs Et hfn hR hf hK hXy h2
              simp only [LOk, hyrd] at this
              exact this
          simp only [exM] at h
          cases e with
          | normal => exact key h (.inl rfl)
          | ret => exact key h (.inr rfl)
          | _ => exact h.elim
theorem exL_ok {C : Cts P} {fn0 : Nat → List Int → Int} {Inv : Nat → Val → Prop} {mu : Nat → Val → Nat} {Q0 : Qc} {Q : Val → (Ex × SSt) × List X → Prop} (hp : progOk P = true) (hC : ∀ ρ : Val, ρ.fn = fn0 → R.ok ρ → C.has ρ Ks) (hb : B.nx = b)
    (hQ : ∀ ρ e s fs, R.ok ρ → Fcs ρ fs → Q ρ ((e, s), fs) → Q0 e (eD ρ s.tmps) (s.defers.map (SDef.den ρ)) (hD ρ s.heap) s.next) (f : Nat) (fs : List X) (c : Code) (pos : Nat) (s : SSt) (ρ : Val) (M : Nat → Nat) (hfn : ρ.fn = fn0) (hR : R.ok ρ) (hf : Fcs ρ fs)
    (h : LT.vc R tps Inv mu Q (exL P R Ks tps b n rd f fs (.go c pos s [])) ρ M) : TC P B n rd c (eD ρ s.tmps) (s.defers.map (SDef.den ρ)) (hD ρ s.heap) s.next Q0 :=
  exM_ok hp hC hQ f fs (.go c pos s []) ⟨b, n, rd, none⟩ ρ M (fun _ => ρ) (fun _ => B) (fun _ => ρ) hfn hR hf trivial ⟨hb, fun k L e => by cases e⟩ h
end
end Sx
end Abs
end Go.Proofs.YtekmmeikkafpmaaGreat
