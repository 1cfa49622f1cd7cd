/- Forms of states, with unknowns of their own: which state is of a form. -/
import Derived.Test.YtiafbooogggdnaaS3
set_option linter.unusedSimpArgs false
set_option linter.unusedVariables false
namespace Go.Proofs.Ytiafbooogggdnaa
namespace Abs
namespace Sx
open Go.RowKit
def lkX : List (Nat × X) → Nat → Option X
  | [], _ => none
  | p :: l, i => cond (Nat.beq p.1 i) (some p.2) (lkX l i)
def X.isL : X → Bool
  | .nil => true
  | .cons _ _ => true
  | _ => false
def X.one (x : X) : X := cond x.isL (.lit 0) x
def mk1 (o : Bo) (a b : X) : X := cond (mk o a b).isL (.bin o a b) (mk o a b)
def Val.upd (ρ : Val) (l : List (Nat × X)) : Val := ⟨fun i => match lkX l i with
  | some x => x.one.den ρ
  | none => ρ.v i, ρ.fn⟩
def X.sub (l : List (Nat × X)) : X → X
  | .lit n => .lit n
  | .var i => match lkX l i with
    | some x => x.one
    | none => .var i
  | .bin o a b => mk1 o (X.sub l a) (X.sub l b)
  | .not a => .not (X.sub l a)
  | .ite c a b => .ite (X.sub l c) (X.sub l a) (X.sub l b)
  | .wrap k a => .wrap k (X.sub l a)
  | .app f a => .app f (X.sub l a)
  | .nil => .nil
  | .cons a b => .cons (X.sub l a) (X.sub l b)
def X.free (ids : List Nat) : X → Bool
  | .lit _ => true
  | .var i => !(ids.any (Nat.beq i))
  | .bin _ a b => cond (X.free ids a) (X.free ids b) false
  | .not a => X.free ids a
  | .ite c a b => cond (X.free ids c) (cond (X.free ids a) (X.free ids b) false) false
  | .wrap _ a => X.free ids a
  | .app _ a => X.free ids a
  | .nil => true
  | .cons a b => cond (X.free ids a) (X.free ids b) false
/-- The same but for some unknowns. -/
structure Agree (ids : List Nat) (ρ ρ' : Val) : Prop where
  v : ∀ i, i ∉ ids → ρ'.v i = ρ.v i
  fn : ρ'.fn = ρ.fn
section
variable {ρ ρ' : Val}
theorem X.sem_one {x : X} (h : x.isL = false) (ρ : Val) : x.sem ρ = [x.den ρ] := by cases x <;> first | rfl | cases h
theorem X.one_sem (x : X) (ρ : Val) : x.one.sem ρ = [x.one.den ρ] := by
  apply X.sem_one
  unfold X.one
  cases h : x.isL with
  | true => rfl
  | false => exact h
theorem mk1_sem (o : Bo) (a b : X) (ρ : Val) : (mk1 o a b).sem ρ = [o.ev (a.den ρ) (b.den ρ)] := by
  unfold mk1
  cases h : (mk o a b).isL with
  | true => rfl
  | false => rw [cond_false, X.sem_one h, mk_den]
theorem X.sem_sub (l : List (Nat × X)) (ρ : Val) : ∀ x : X, (x.sub l).sem ρ = x.sem (ρ.upd l) := by
  intro x
  induction x with
  | lit n => rfl
  | var i =>
    simp only [X.sub, X.sem, Val.upd]
    cases lkX l i with
    | none => rfl
    | some x => exact X.one_sem x ρ
  | bin o a b iha ihb => simp only [X.sub, mk1_sem, X.den, iha, ihb, X.sem]
  | not a ih => simp only [X.sub, X.sem, ih]
  | ite c a b ihc iha ihb => simp only [X.sub, X.sem, ihc, iha, ihb]
  | wrap k a ih => simp only [X.sub, X.sem, ih]
  | app f a ih => simp only [X.sub, X.sem, ih]; rfl
  | nil => rfl
  | cons a b iha ihb => simp only [X.sub, X.sem, iha, ihb]
theorem X.den_subst (l : List (Nat × X)) (ρ : Val) (x : X) : (x.sub l).den ρ = x.den (ρ.upd l) := by simp only [X.den, X.sem_sub]
theorem X.denB_subst (l : List (Nat × X)) (ρ : Val) (x : X) : (x.sub l).denB ρ = x.denB (ρ.upd l) := by simp only [X.denB, X.den_subst]
theorem X.sem_free {ids : List Nat} (h : Agree ids ρ ρ') : ∀ {x : X}, x.free ids = true → x.sem ρ' = x.sem ρ := by
  intro x
  induction x with
  | lit n => intro _; rfl
  | var i =>
    intro hx
    simp only [X.free, Bool.not_eq_true'] at hx
    have : i ∉ ids := fun hi => by
      rw [List.any_eq_false] at hx
      exact hx i hi (by simp)
    simp only [X.sem, h.v i this]
  | bin o a b iha ihb => intro hx; obtain ⟨h1, h2⟩ := cond_true_false hx; simp only [X.sem, iha h1, ihb h2]
  | not a ih => intro hx; simp only [X.sem, ih hx]
  | ite c a b ihc iha ihb =>
    intro hx
    obtain ⟨h1, h2⟩ := cond_true_false hx
    obtain ⟨h2, h3⟩ := cond_true_false h2
    simp only [X.sem, ihc h1, iha h2, ihb h3]
  | wrap k a ih => intro hx; simp only [X.sem, ih hx]
  | app f a ih => intro hx; simp only [X.sem, ih hx, h.fn]
  | nil => intro _; rfl
  | cons a b iha ihb => intro hx; obtain ⟨h1, h2⟩ := cond_true_false hx; simp only [X.sem, iha h1, ihb h2]
/-- What is known and says nothing of them. -/
def keepF (ids : List Nat) : List X → List X
  | [] => []
  | f :: fs => cond (f.free ids) (f :: keepF ids fs) (keepF ids fs)
theorem keepF_ok {ids : List Nat} (h : Agree ids ρ ρ') : ∀ {fs : List X}, Fcs ρ fs → Fcs ρ' (keepF ids fs)
  | [], _ => Fcs.nil
  | f :: fs, hf => by
    have ih := keepF_ok h (fs := fs) (fun x hx => hf x (List.mem_cons_of_mem _ hx))
    simp only [keepF]
    cases hb : f.free ids with
    | false => exact ih
    | true =>
      refine Fcs.append (a := [f]) (Fcs.one ?_) ih
      have := hf f List.mem_cons_self
      simp only [X.denB, X.den, X.sem_free h hb] at this ⊢
      exact this
end

/-! A value of a form. -/
/-- Old names to those of the form. -/
def nmO (b : Nat) (K : List (Nat × Nat × Nat)) (n n' : Nat) : Bool := cond (n.blt b) (Nat.beq n n') (match sg K n with
  | some (p, o) => cond (Nat.beq p n') (Nat.beq o 0) false
  | none => false)
section
variable (R : Rgs) (fs : List X) (b : Nat) (K : List (Nat × Nat × Nat)) (l : List (Nat × X))
def eqN (p a : X) : List X := nd R fs (.bin .eq (p.sub l) a)
mutual
def mtV : SV → SV → Option (List X)
  | .int k p, .int k' a => cond (ikBeq k k') (some (eqN R fs l p a)) none
  | .bool p, .bool a => some (nd R fs (mkEqB (p.sub l) a))
  | .nilp, .nilp => some []
  | .ptr n o, .ptr n' o' => cond (nmO b K n' n) (cond (Nat.beq o o') (some []) none) none
  | .eptr n i s c, .eptr n' i' s' c' => cond (nmO b K n' n) (cond (Nat.beq s s') (cond (Nat.beq c c') (some (eqN R fs l i i')) none) none) none
  | .nils, .nils => some []
  | .slice n oc eo len cap esz ex, .slice n' oc' eo' len' cap' esz' ex' => cond (nmO b K n' n) (cond (Nat.beq oc oc') (cond (Nat.beq esz esz') (cond (ex == ex')
      (some (eqN R fs l eo eo' ++ (eqN R fs l len len' ++ eqN R fs l cap cap'))) none) none) none) none
  | .nilm, .nilm => some []
  | .map r, .map r' => cond (nmO b K r' r) (some []) none
  | .fn f a c, .fn f' a' c' => cond (Nat.beq f f') (match mtVs a a', mtVs c c' with
    | some x, some y => some (x ++ y)
    | _, _ => none) none
  | .yield r, .yield r' => cond (nmO b K r' r) (some []) none
  | .nilf, .nilf => some []
  | .nili, .nili => some []
  | .agg a, .agg a' => mtVs a a'
  | .tuple a, .tuple a' => mtVs a a'
  | _, _ => none
def mtVs : List SV → List SV → Option (List X)
  | [], [] => some []
  | p :: ps, a :: ys => match mtV p a, mtVs ps ys with
    | some x, some y => some (x ++ y)
    | _, _ => none
  | _, _ => none
end
def cmBeq : List Cmp → List Cmp → Bool
  | [], [] => true
  | .int k f :: l, .int k' f' :: l' => cond (ikBeq k k') (cond (Nat.beq f f') (cmBeq l l') false) false
  | .bool f :: l, .bool f' :: l' => cond (Nat.beq f f') (cmBeq l l') false
  | _, _ => false
def eqL : X → X → Option (List X)
  | .nil, .nil => some []
  | .cons p q, .cons a c => match eqL q c with
    | some r => some (eqN R fs l p a ++ r)
    | none => none
  | _, _ => none
def mtEs : List (SV × SV × Nat) → List (SV × SV × Nat) → Option (List X)
  | [], [] => some []
  | p :: ps, a :: ys => cond (Nat.beq p.2.2 a.2.2) (match mtV R fs b K l p.1 a.1, mtV R fs b K l p.2.1 a.2.1, mtEs ps ys with
    | some x, some y, some z => some (x ++ (y ++ z))
    | _, _, _ => none) none
  | _, _ => none
def mtO : SO → SO → Option (List X)
  | .cells w p, .cells w' a => cond (w == w') (mtVs R fs b K l p a) none
  | .row w len q cm, .row w' len' q' cm' => cond (w == w') (cond (cmBeq cm cm') (match eqL R fs l q q' with
    | some r => some (eqN R fs l len len' ++ r)
    | none => none) none) none
  | .row w len q cm, .cells w' cs => cond (w == w') (cond (cm.length.beq 0) none (cond ((cs.length % cm.length).beq 0) (match eqCells R fs (elems (q.sub l) cm 0 (cs.length / cm.length)) cs with
    | some r => some (eqN R fs l len (.lit (cs.length / cm.length : Nat)) ++ r)
    | none => none) none)) none
  | .map es c, .map es' c' => cond (Nat.beq c c') (mtEs R fs b K l es es') none
  | .dfr x, .dfr y => cond (x == y) (some []) none
  | _, _ => none
def mtD : List SDef → List SDef → Option (List X)
  | [], [] => some []
  | .mark r :: ps, .mark r' :: ys => cond (nmO b K r' r) (mtD ps ys) none
  | _, _ => none
def mtT (T : SE) : List (Nat × SV) → Option (List X)
  | [] => some []
  | (s, p) :: L => match T.get s with
    | some a => match mtV R fs b K l p a, mtT T L with
      | some x, some y => some (x ++ y)
      | _, _ => none
    | none => none
/-- The objects, in the form's order: those of old names, each with its new one. -/
def mtH (t : Tr SO) : List (Nat × Nat) → List (Nat × SO) → Option (List X)
  | [], [] => some []
  | (old, new) :: L, obs => match t.get old with
    | none => mtH t L obs
    | some a => match obs with
      | (n, p) :: obs => cond (Nat.beq n new) (match mtO R fs b K l p a, mtH t L obs with
        | some x, some y => some (x ++ y)
        | _, _ => none) none
      | [] => none
  | _, _ => none
end
def tplT : List (Nat × SO) → Tr SO
  | [] => .nil
  | p :: l => (tplT l).set p.1 p.2
section
variable {R : Rgs} {fs : List X} {b : Nat} {K : List (Nat × Nat × Nat)} {l : List (Nat × X)} {ρ : Val}
theorem nmO_ok {n n' : Nat} (h : nmO b K n n' = true) : sgK b K n = some (n', 0) := by
  unfold nmO at h
  unfold sgK
  cases hb : n.blt b <;> rw [hb] at h <;> simp only [cond_true, cond_false] at h ⊢
  · split at h
    · rename_i p o hs
      obtain ⟨h1, h2⟩ := cond_true_false h
      rw [hs, Nat.eq_of_beq_eq_true h1, Nat.eq_of_beq_eq_true h2]
    · cases h
  · rw [Nat.eq_of_beq_eq_true h]
theorem eqN_ok (hR : R.ok ρ) (hf : Fcs ρ fs) {p a : X} (h : Fcs ρ (eqN R fs l p a)) : a.den ρ = p.den (ρ.upd l) := by
  have := nd_ok hR hf h
  rw [X.denB_eq, beq_iff_eq, X.den_subst] at this
  exact this.symm
mutual
theorem mtV_ok (hR : R.ok ρ) (hf : Fcs ρ fs) : ∀ (p a : SV) {n : List X}, mtV R fs b K l p a = some n → Fcs ρ n → ren (sgK b K) (a.den ρ) = some (p.den (ρ.upd l)) := by
  intro p a n h hn
  cases p <;> cases a <;> simp only [mtV] at h <;> try (cases h; done)
  case int.int k p k' a =>
    cases hk : ikBeq k k' <;> rw [hk] at h <;> cases h
    have := ikBeq_eq hk
    subst this
    simp only [SV.den, ren, eqN_ok hR hf hn]
  case bool.bool p a =>
    cases h
    have := nd_ok hR hf hn
    rw [mkEqB_den, beq_iff_eq, X.denB_subst] at this
    simp only [SV.den, ren, this]
  case nilp.nilp => rfl
  case ptr.ptr n o n' o' =>
    cases h1 : nmO b K n' n <;> rw [h1] at h <;> simp only [cond_true, cond_false] at h <;> try (cases h; done)
    cases h2 : Nat.beq o o' <;> rw [h2] at h <;> cases h
    simp only [SV.den, ren, nmO_ok h1, Nat.eq_of_beq_eq_true h2, Nat.zero_add]
  case eptr.eptr n i s c n' i' s' c' =>
    cases h1 : nmO b K n' n <;> rw [h1] at h <;> simp only [cond_true, cond_false] at h <;> try (cases h; done)
    cases h2 : Nat.beq s s' <;> rw [h2] at h <;> simp only [cond_true, cond_false] at h <;> try (cases h; done)
    cases h3 : Nat.beq c c' <;> rw [h3] at h <;> cases h
    simp only [SV.den, ren, nmO_ok h1, Nat.eq_of_beq_eq_true h2, Nat.eq_of_beq_eq_true h3, eqN_ok hR hf hn, Nat.zero_add]
  case nils.nils => rfl
  case slice.slice n oc eo len cap esz ex n' oc' eo' len' cap' esz' ex' =>
    cases h1 : nmO b K n' n <;> rw [h1] at h <;> simp only [cond_true, cond_false] at h <;> try (cases h; done)
    cases h2 : Nat.beq oc oc' <;> rw [h2] at h <;> simp only [cond_true, cond_false] at h <;> try (cases h; done)
    cases h3 : Nat.beq esz esz' <;> rw [h3] at h <;> simp only [cond_true, cond_false] at h <;> try (cases h; done)
    cases h4 : ex == ex' <;> rw [h4] at h <;> cases h
    obtain ⟨n1, n2⟩ := hn.split
    obtain ⟨n2, n3⟩ := n2.split
    simp only [SV.den, ren, nmO_ok h1, show Nat.beq 0 0 = true from rfl, Bool.true_or, cond_true, Nat.eq_of_beq_eq_true h2, Nat.eq_of_beq_eq_true h3, eq_of_beq h4, eqN_ok hR hf n1, eqN_ok hR hf n2, eqN_ok hR hf n3, Nat.zero_add]
  case nilm.nilm => rfl
  case map.map r r' =>
    cases h1 : nmO b K r' r <;> rw [h1] at h <;> cases h
    simp only [SV.den, ren, nmO_ok h1]
  case fn.fn f a c f' a' c' =>
    cases h1 : Nat.beq f f' <;> rw [h1] at h <;> simp only [cond_true, cond_false] at h <;> try (cases h; done)
    split at h <;> cases h
    rename_i x y h2 h3
    obtain ⟨n1, n2⟩ := hn.split
    simp only [SV.den, ren, mtVs_ok hR hf a a' h2 n1, mtVs_ok hR hf c c' h3 n2, Nat.eq_of_beq_eq_true h1]
  case yield.yield r r' =>
    cases h1 : nmO b K r' r <;> rw [h1] at h <;> cases h
    simp only [SV.den, ren, nmO_ok h1]
  case nilf.nilf => rfl
  case nili.nili => rfl
  case agg.agg a a' => simp only [SV.den, ren, mtVs_ok hR hf a a' h hn]
  case tuple.tuple a a' => simp only [SV.den, ren, mtVs_ok hR hf a a' h hn]
theorem mtVs_ok (hR : R.ok ρ) (hf : Fcs ρ fs) : ∀ (p a : List SV) {n : List X}, mtVs R fs b K l p a = some n → Fcs ρ n → renL (sgK b K) (SV.dens ρ a) = some (SV.dens (ρ.upd l) p) := by
  intro p a n h hn
  cases p with
  | nil => cases a with
    | nil => rfl
    | cons y ys => simp only [mtVs] at h; cases h
  | cons x ps => cases a with
    | nil => simp only [mtVs] at h; cases h
    | cons y ys =>
      simp only [mtVs] at h
      split at h <;> cases h
      rename_i h1 h2
      obtain ⟨n1, n2⟩ := hn.split
      simp only [SV.dens, renL, mtV_ok hR hf x y h1 n1, mtVs_ok hR hf ps ys h2 n2]
end
theorem cmBeq_eq : ∀ {a c : List Cmp}, cmBeq a c = true → a = c
  | [], [], _ => rfl
  | [], _ :: _, h => by cases h
  | .int k f :: l, [], h => by cases h
  | .bool f :: l, [], h => by cases h
  | .int k f :: l, .int k' f' :: l', h => by
    simp only [cmBeq] at h
    obtain ⟨h1, h2⟩ := cond_true_false h
    obtain ⟨h2, h3⟩ := cond_true_false h2
    rw [ikBeq_eq h1, Nat.eq_of_beq_eq_true h2, cmBeq_eq h3]
  | .bool f :: l, .bool f' :: l', h => by
    simp only [cmBeq] at h
    obtain ⟨h1, h2⟩ := cond_true_false h
    rw [Nat.eq_of_beq_eq_true h1, cmBeq_eq h2]
  | .int k f :: l, .bool f' :: l', h => by cases h
  | .bool f :: l, .int k f' :: l', h => by cases h
theorem eqL_ok (hR : R.ok ρ) (hf : Fcs ρ fs) : ∀ {p a : X} {n : List X}, eqL R fs l p a = some n → Fcs ρ n → a.sem ρ = p.sem (ρ.upd l) := by
  intro p
  induction p with
  | nil => intro a n h _; cases a <;> first | rfl | (simp only [eqL] at h; cases h)
  | cons p q ihp ihq =>
    intro a n h hn
    cases a <;> simp only [eqL] at h <;> try (cases h; done)
    split at h <;> cases h
    rename_i r hr
    obtain ⟨n1, n2⟩ := hn.split
    simp only [X.sem_cons, eqN_ok hR hf n1, ihq hr n2]
  | _ => intro a n h _; simp only [eqL] at h; cases h
theorem mtEs_ok (hR : R.ok ρ) (hf : Fcs ρ fs) : ∀ {p a : List (SV × SV × Nat)} {n : List X}, mtEs R fs b K l p a = some n → Fcs ρ n → renE (sgK b K) (a.map (enD ρ)) = some (p.map (enD (ρ.upd l)))
  | [], [], _, _, _ => rfl
  | [], _ :: _, _, h, _ => by simp only [mtEs] at h; cases h
  | _ :: _, [], _, h, _ => by simp only [mtEs] at h; cases h
  | p :: ps, a :: ys, n, h, hn => by
    simp only [mtEs] at h
    cases h1 : Nat.beq p.2.2 a.2.2 <;> rw [h1] at h <;> simp only [cond_true, cond_false] at h <;> try (cases h; done)
    split at h <;> cases h
    rename_i x y z h2 h3 h4
    obtain ⟨n1, n2⟩ := hn.split
    obtain ⟨n2, n3⟩ := n2.split
    simp only [List.map_cons, renE, enD, mtV_ok hR hf _ _ h2 n1, mtV_ok hR hf _ _ h3 n2]
    have := mtEs_ok hR hf h4 n3
    rw [show (enD ρ) = fun e => (e.1.den ρ, e.2.1.den ρ, e.2.2) from rfl] at this
    rw [show (ys.map (enD ρ)) = ys.map fun e => (e.1.den ρ, e.2.1.den ρ, e.2.2) from rfl, this]
    simp only [Nat.eq_of_beq_eq_true h1]
theorem rowD_plain {cm : List Cmp} {q : List Int} : ∀ (n i : Nat), (rowD ρ cm q i n).all plain = true
  | 0, _ => rfl
  | n + 1, i => by
    simp only [rowD, List.all_append, rowD_plain n (i + 1), Bool.and_true, List.all_map, List.all_eq_true]
    intro c _; cases c <;> rfl
theorem rowD_fn {cm : List Cmp} {q : List Int} {ρ ρ' : Val} (h : ρ'.fn = ρ.fn) : ∀ (n i : Nat), rowD ρ' cm q i n = rowD ρ cm q i n
  | 0, _ => rfl
  | n + 1, i => by
    simp only [rowD, rowD_fn h n (i + 1)]
    congr 1
    apply List.map_congr_left
    intro c _; cases c <;> simp only [Cmp.den, h]
theorem mtO_ok (hR : R.ok ρ) (hf : Fcs ρ fs) {p a : SO} {n : List X} (h : mtO R fs b K l p a = some n) (hn : Fcs ρ n) : renO (sgK b K) (a.den ρ) = some (p.den (ρ.upd l)) := by
  have hfn : (ρ.upd l).fn = ρ.fn := rfl
  cases p <;> cases a <;> simp only [mtO] at h <;> try (cases h; done)
  case cells.cells w p w' a =>
    cases h1 : w == w' <;> rw [h1] at h <;> simp only [cond_true, cond_false] at h <;> try (cases h; done)
    simp only [SO.den, renO, mtVs_ok hR hf _ _ h hn, eq_of_beq h1]
  case row.row w len q cm w' len' q' cm' =>
    cases h1 : w == w' <;> rw [h1] at h <;> simp only [cond_true, cond_false] at h <;> try (cases h; done)
    cases h2 : cmBeq cm cm' <;> rw [h2] at h <;> simp only [cond_true, cond_false] at h <;> try (cases h; done)
    split at h <;> cases h
    rename_i r hr
    obtain ⟨n1, n2⟩ := hn.split
    have h2 := cmBeq_eq h2
    subst h2
    simp only [SO.den, renO, renL_plain (rowD_plain _ _), eq_of_beq h1, eqN_ok hR hf n1, eqL_ok hR hf hr n2, rowD_fn hfn]
  case row.cells w len q cm w' cs =>
    cases h1 : w == w' <;> rw [h1] at h <;> simp only [cond_true, cond_false] at h <;> try (cases h; done)
    cases h2 : cm.length.beq 0 <;> rw [h2] at h <;> simp only [cond_true, cond_false] at h <;> try (cases h; done)
    cases h3 : (cs.length % cm.length).beq 0 <;> rw [h3] at h <;> simp only [cond_true, cond_false] at h <;> try (cases h; done)
    split at h <;> cases h
    rename_i r hr
    obtain ⟨n1, n2⟩ := hn.split
    have e1 := eqN_ok hR hf n1
    have e2 := eqCells_ok hR hf hr n2
    rw [elems_den, X.sem_sub] at e2
    simp only [X.den_lit] at e1
    have e3 : (len.den (ρ.upd l)).toNat = cs.length / cm.length := by rw [← e1]; exact Int.toNat_natCast _
    simp only [SO.den, renO, ← e2, renL_plain (rowD_plain _ _), eq_of_beq h1, e3, rowD_fn hfn]
  case map.map es c es' c' =>
    cases h1 : Nat.beq c c' <;> rw [h1] at h <;> simp only [cond_true, cond_false] at h <;> try (cases h; done)
    simp only [SO.den, renO, mtEs_ok hR hf h hn, Nat.eq_of_beq_eq_true h1]
  case dfr.dfr x y =>
    cases h1 : x == y <;> rw [h1] at h <;> cases h
    simp only [SO.den, renO, eq_of_beq h1]
theorem mtD_ok : ∀ {p a : List SDef} {n : List X}, mtD b K p a = some n → renD (sgK b K) (a.map (SDef.den ρ)) = some (p.map (SDef.den (ρ.upd l)))
  | [], [], _, _ => rfl
  | [], _ :: _, _, h => by simp only [mtD] at h; cases h
  | .mark r :: ps, [], _, h => by simp only [mtD] at h; cases h
  | .fn _ _ _ :: ps, [], _, h => by simp only [mtD] at h; cases h
  | .mark r :: ps, .mark r' :: ys, n, h => by
    simp only [mtD] at h
    cases h1 : nmO b K r' r <;> rw [h1] at h <;> simp only [cond_true, cond_false] at h <;> try (cases h; done)
    simp only [List.map_cons, SDef.den, renD, nmO_ok h1]
    rw [mtD_ok h]
  | .mark r :: ps, .fn _ _ _ :: ys, n, h => by simp only [mtD] at h; cases h
  | .fn _ _ _ :: ps, .mark r' :: ys, n, h => by simp only [mtD] at h; cases h
  | .fn _ _ _ :: ps, .fn _ _ _ :: ys, n, h => by simp only [mtD] at h; cases h
theorem mtT_ok (hR : R.ok ρ) (hf : Fcs ρ fs) {T : SE} : ∀ {L : List (Nat × SV)} {n : List X}, mtT R fs b K l T L = some n → Fcs ρ n → buildL (sgK b K) (eD ρ T) (L.map (·.1)) = some (L.map fun p => (p.1, p.2.den (ρ.upd l)))
  | [], _, _, _ => rfl
  | (s, p) :: L, n, h, hn => by
    simp only [mtT] at h
    split at h <;> try (cases h; done)
    rename_i a ha
    split at h <;> cases h
    rename_i x y h1 h2
    obtain ⟨n1, n2⟩ := hn.split
    have ih := mtT_ok hR hf h2 n2
    simp only [List.map_cons, buildL, eD_get, ha, Option.map_some, ih, mtV_ok hR hf p a h1 n1]
theorem mtH_ok (hR : R.ok ρ) (hf : Fcs ρ fs) {t : Tr SO} : ∀ {L : List (Nat × Nat)} {obs : List (Nat × SO)} {n : List X}, mtH R fs b K l t L obs = some n → Fcs ρ n → buildT (sgK b K) [] (Tr.map (SO.den ρ) t) L = some (Tr.map (SO.den (ρ.upd l)) (tplT obs))
  | [], [], _, _, _ => rfl
  | [], _ :: _, _, h, _ => by simp only [mtH] at h; cases h
  | (old, new) :: L, obs, n, h, hn => by
    have hg : (Tr.map (SO.den ρ) t).get old = (t.get old).map (SO.den ρ) := Tr.get_map _ _
    simp only [mtH] at h
    simp only [buildT, hg]
    cases ha : t.get old with
    | none => rw [ha] at h; exact mtH_ok hR hf h hn
    | some a =>
      rw [ha] at h
      simp only at h
      split at h <;> try (cases h; done)
      rename_i n0 p obs
      cases h1 : Nat.beq n0 new <;> rw [h1] at h <;> simp only [cond_true, cond_false] at h <;> try (cases h; done)
      split at h <;> cases h
      rename_i x y h2 h3
      obtain ⟨n1, n2⟩ := hn.split
      have h1 := Nat.eq_of_beq_eq_true h1
      subst h1
      simp only [Option.map_some, List.any_nil, cond_false, mtO_ok hR hf h2 n1, mtH_ok hR hf h3 n2, tplT, Tr.set_map]
end
end Sx
end Abs
end Go.Proofs.Ytiafbooogggdnaa

/- Code with loops, each with the form of the states at its head: what is to be shown. -/
namespace Go.Proofs.Ytiafbooogggdnaa
namespace Abs
namespace Sx
open Go.RowKit
/-- The form of the states at a loop's head: its unknowns, slots, objects, what holds. -/
structure Tpl where
  ids : List Nat
  sl : List (Nat × SV)
  ob : List (Nat × SO)
  ds : List SDef
  nx : Nat
  fs : List X
def trS : List (Nat × SV) → SE
  | [] => .nil
  | p :: l => (trS l).set p.1 p.2
def Tpl.st (T : Tpl) : SSt := ⟨trS T.sl, T.ds, ⟨tplT T.ob, [], 0⟩, T.nx⟩
inductive LT (α : Type) where
  | no
  | leaf (a : α)
  | ask (b : X) (t f : LT α)
  | need (l : List X) (t : LT α)
  | loop (j : Nat) (inst : List (Nat × X)) (t : LT α)
  | back (j : Nat) (inst : List (Nat × X))
def OT.toL {α β : Type} (t : OT α) (f : α → LT β) : LT β := match t with
  | .no => .no
  | .leaf a => f a
  | .ask b t u => .ask b (t.toL f) (u.toL f)
  | .need l t => .need l (t.toL f)
def LT.map {α β : Type} (f : α → β) : LT α → LT β
  | .no => .no
  | .leaf a => .leaf (f a)
  | .ask b t u => .ask b (t.map f) (u.map f)
  | .need l t => .need l (t.map f)
  | .loop j i t => .loop j i (t.map f)
  | .back j i => .back j i
def needL {α : Type} (l : List X) (t : LT α) : LT α := match l with
  | [] => t
  | l => .need l t
inductive Fr where
  | seq (b : Code) (pos : Nat)
  | blk (id : Nat)
  | lp (j : Nat)
  | un (a : Code) (pos : Nat)
inductive LTask where
  | go (c : Code) (pos : Nat) (s : SSt) (K : List Fr)
  | nx (e : Ex) (s : SSt) (K : List Fr)
/-- How many loops there are. -/
def nl : Code → Nat
  | .seq a b => nl a + nl b
  | .cond _ a b => nl a + nl b
  | .block _ c => nl c
  | .loop c => nl c + 1
  | .rangeFunc _ _ a b => nl a + nl b
  | .scope c => nl c
  | _ => 0
/-! Which names and which unknowns stand for what: found, and checked later. -/
mutual
def colV (ids : List Nat) : SV → SV → List (Nat × Nat) × List (Nat × X)
  | .int _ (.var i), .int _ x => ([], cond (ids.any (Nat.beq i)) [(i, x)] [])
  | .bool (.var i), .bool x => ([], cond (ids.any (Nat.beq i)) [(i, x)] [])
  | .ptr n _, .ptr n' _ => ([(n', n)], [])
  | .eptr n i _ _, .eptr n' i' _ _ => ([(n', n)], colX ids i i')
  | .slice n _ eo len cap _ _, .slice n' _ eo' len' cap' _ _ => ([(n', n)], colX ids eo eo' ++ (colX ids len len' ++ colX ids cap cap'))
  | .map r, .map r' => ([(r', r)], [])
  | .fn _ a c, .fn _ a' c' => ((colVs ids a a').1 ++ (colVs ids c c').1, (colVs ids a a').2 ++ (colVs ids c c').2)
  | .yield r, .yield r' => ([(r', r)], [])
  | .agg a, .agg a' => colVs ids a a'
  | .tuple a, .tuple a' => colVs ids a a'
  | _, _ => ([], [])
def colVs (ids : List Nat) : List SV → List SV → List (Nat × Nat) × List (Nat × X)
  | p :: ps, a :: l => ((colV ids p a).1 ++ (colVs ids ps l).1, (colV ids p a).2 ++ (colVs ids ps l).2)
  | _, _ => ([], [])
def colX (ids : List Nat) : X → X → List (Nat × X)
  | .var i, x => cond (ids.any (Nat.beq i)) [(i, x)] []
  | _, _ => []
end
def colO (ids : List Nat) : SO → SO → List (Nat × Nat) × List (Nat × X)
  | .cells _ p, .cells _ a => colVs ids p a
  | .row _ len _ cm, .row _ len' _ _ => ([], colX ids len len')
  | .row _ len _ cm, .cells _ cs => ([], colX ids len (.lit (cs.length / cm.length : Nat)))
  | .map es _, .map es' _ => colVs ids (es.map (·.2.1)) (es'.map (·.2.1))
  | _, _ => ([], [])
def colT (ids : List Nat) (T : SE) : List (Nat × SV) → List (Nat × Nat) × List (Nat × X)
  | [] => ([], [])
  | (s, p) :: l => match T.get s with
    | some a => ((colV ids p a).1 ++ (colT ids T l).1, (colV ids p a).2 ++ (colT ids T l).2)
    | none => colT ids T l
def obOf : List (Nat × SO) → Nat → Option SO
  | [], _ => none
  | (n, o) :: l, k => cond (Nat.beq n k) (some o) (obOf l k)
def hasP (l : List (Nat × Nat)) (p : Nat × Nat) : Bool := l.any fun q => Nat.beq q.1 p.1 && Nat.beq q.2 p.2
/-- All pairs of names that are reached. -/
def colH (ids : List Nat) (t : Tr SO) (ob : List (Nat × SO)) : Nat → List (Nat × Nat) → List (Nat × Nat) → List (Nat × X) → List (Nat × Nat) × List (Nat × X)
  | 0, _, done, xs => (done, xs)
  | _ + 1, [], done, xs => (done, xs)
  | f + 1, p :: todo, done, xs => cond (hasP done p) (colH ids t ob f todo done xs) (match t.get p.1, obOf ob p.2 with
    | some a, some o => colH ids t ob f ((colO ids o a).1 ++ todo) (p :: done) ((colO ids o a).2 ++ xs)
    | _, _ => colH ids t ob f todo (p :: done) xs)
/-- For each name of the form, in its order, the old one. -/
def pairsK (b : Nat) (done : List (Nat × Nat)) : List (Nat × SO) → List (Nat × Nat × Nat)
  | [] => []
  | (n, _) :: l => cond (n.blt b) (pairsK b done l) (match done.find? (fun p => Nat.beq p.2 n) with
    | some p => (p.1, n, 0) :: pairsK b done l
    | none => pairsK b done l)
def instK (xs : List (Nat × X)) : List Nat → List (Nat × X)
  | [] => []
  | i :: l => match lkX xs i with
    | some x => (i, x) :: instK xs l
    | none => instK xs l
def rgN (R : Rgs) (fs : List X) (inst : List (Nat × X)) : List X
  := match inst with
  | [] => []
  | p :: l => (match nthR R.vr p.1 with
    | some (a, b) => nd R fs (.bin .le (.lit a) p.2.one) ++ nd R fs (.bin .le p.2.one (.lit b))
    | none => []) ++ rgN R fs l
def fsN (R : Rgs) (fs : List X) (inst : List (Nat × X)) : List X → List X
  | [] => []
  | f :: l => nd R fs (f.sub inst) ++ fsN R fs inst l
section
variable (P : Program) (R : Rgs) (Ks : Ctrs) (tps : List Tpl) (b n : Nat) (rd : Option Nat)
/-- A state is of a form: the unknowns, what must hold. -/
def fits (fs : List X) (T : Tpl) (s : SSt) : Option (List (Nat × X) × List X) :=
  let c := colT T.ids s.tmps T.sl
  let d := colH T.ids s.heap.t T.ob 400 (c.1 ++ (upTo 0 b).map (fun i => (i, i))) [] c.2
  let K := pairsK b d.1 T.ob
  let inst := instK d.2 T.ids
  cond (Nat.beq inst.length T.ids.length && (kB b T.nx K && (Nat.ble b T.nx && (rdB b K rd && (Nat.beq s.heap.wr 0 && s.heap.bad.isEmpty)))))
    (match mtT R fs b K inst s.tmps T.sl, mtH R fs b K inst s.heap.t ((upTo 0 b).map (fun i => (i, i)) ++ K.map (fun x => (x.1, x.2.1))) T.ob, mtD b K T.ds s.defers with
      | some x, some y, some z => some (inst, x ++ (y ++ (z ++ (rgN R fs inst ++ fsN R fs inst T.fs))))
      | _, _, _ => none) none
def lpLt (j : Nat) : List Fr → Bool
  | [] => true
  | .lp i :: K => cond (i.blt j) (lpLt j K) false
  | _ :: K => lpLt j K
def idsF (j : Nat) : List Nat := (tps.drop j).flatMap Tpl.ids
/-- A loop that is run round by round. -/
def isUn (T : Tpl) : Bool := cond T.ids.isEmpty T.sl.isEmpty false
def exL : Nat → List X → LTask → LT ((Ex × SSt) × List X)
  | 0, _, _ => .no
  | f + 1, fs, .go c pos s K => cond (Nat.beq (nl c) 0)
      ((exS P R Ks f fs (.code n rd c s)).toL fun x => match x with
        | (.code e s, fs) => exL f fs (.nx e s K)
        | _ => .no)
      (match c with
        | .seq a b => exL f fs (.go a pos s (.seq b (pos + nl a) :: K))
        | .block id a => exL f fs (.go a pos s (.blk id :: K))
        | .cond x a b => (retry (condS R s.tmps x) (fun fs t => .leaf (t, fs)) rtry fs).toL fun y => exL f y.2 (.go (cond y.1 a b) (cond y.1 pos (pos + nl a)) s K)
        | .loop a => match tps[pos]? with
          | some T => cond (isUn T) (exL f fs (.go a (pos + 1) s (.un a pos :: K))) (match fits R b rd fs T s with
            | some (inst, l) => cond (lpLt pos K) (needL l (.loop pos inst (exL f (T.fs ++ keepF (idsF tps pos) fs) (.go a (pos + 1) T.st (.lp pos :: K))))) .no
            | none => .no)
          | none => .no
        | _ => .no)
  | f + 1, fs, .nx e s K => match K with
    | [] => .leaf ((e, s), fs)
    | .seq b pos :: K => match e with
      | .normal => exL f fs (.go b pos s K)
      | e => exL f fs (.nx e s K)
    | .blk id :: K => match e with
      | .exit j => cond (Nat.beq j id) (exL f fs (.nx .normal s K)) (exL f fs (.nx (.exit j) s K))
      | e => exL f fs (.nx e s K)
    | .lp j :: K => match e with
      | .normal => match tps[j]? with
        | some T => match fits R b rd fs T s with
          | some (inst, l) => needL l (.back j inst)
          | none => .no
        | none => .no
      | e => exL f fs (.nx e s K)
    | .un a pos :: K => match e with
      | .normal => exL f fs (.go (.loop a) pos s K)
      | e => exL f fs (.nx e s K)
/-- The unknowns of some, the others as they are. -/
def Val.mix (ids : List Nat) (ρ : Val) (w : Nat → Int) : Val := ⟨fun i => cond (ids.any (Nat.beq i)) (w i) (ρ.v i), ρ.fn⟩
def RgB (R : Rgs) (ρ : Val) : List Nat → Prop
  | [] => True
  | i :: l => inR (ρ.v i) (nthR R.vr i) ∧ RgB R ρ l
def setM (M : Nat → Nat) (j k : Nat) : Nat → Nat := fun i => cond (Nat.beq i j) k (M i)
def fsOf (j : Nat) : List X := match tps[j]? with
  | some T => T.fs
  | none => []
/-- What is to be shown: Inv, mu: what holds at a loop's head, a number that falls. -/
def LT.vc {α : Type} (Inv : Nat → Val → Prop) (mu : Nat → Val → Nat) (Q : Val → α → Prop) : LT α → Val → (Nat → Nat) → Prop
  | .no, _, _ => False
  | .leaf a, ρ, _ => Q ρ a
  | .ask b t f, ρ, M => (b.denB ρ = true → LT.vc Inv mu Q t ρ M) ∧ (b.denB ρ = false → LT.vc Inv mu Q f ρ M)
  | .need l t, ρ, M => AllB ρ l ∧ LT.vc Inv mu Q t ρ M
  | .loop j inst t, ρ, M => Inv j (ρ.upd inst) ∧ ∀ w : Nat → Int, RgB R (ρ.mix (idsF tps j) w) (idsF tps j) → AllB (ρ.mix (idsF tps j) w) (fsOf tps j) → Inv j (ρ.mix (idsF tps j) w) →
      LT.vc Inv mu Q t (ρ.mix (idsF tps j) w) (setM M j (mu j (ρ.mix (idsF tps j) w)))
  | .back j inst, ρ, M => Inv j (ρ.upd inst) ∧ mu j (ρ.upd inst) < M j
end
end Sx
end Abs
end Go.Proofs.Ytiafbooogggdnaa

/- Code with loops, each with the form of the states at its head: what is shown is enough. -/
namespace Go.Proofs.Ytiafbooogggdnaa
namespace Abs
namespace Sx
open Go.RowKit
section
variable {P : Program} {R : Rgs} {Ks : Ctrs} {tps : List Tpl} {B : Ent} {b n : Nat} {rd : Option Nat}
/-- A state is one of the other names, too. -/
def Cv (B : Ent) (n : Nat) (rd : Option Nat) (E : Env) (ds : List ADef) (H : Hp) (nx : Nat) (E2 : Env) (ds2 : List ADef) (H2 : Hp) (nx2 : Nat) : Prop :=
  ∀ F m W a T, T.get = E → Stt B n rd F T ds H nx m W a → ∃ T2 m2, T2.get = E2 ∧ Stt B n rd F T2 ds2 H2 nx2 m2 W a
theorem tc_cv {c : Code} {E E2 : Env} {ds ds2 : List ADef} {H H2 : Hp} {nx nx2 : Nat} {Q : Qc} (h : Cv B n rd E ds H nx E2 ds2 H2 nx2) (k : TC P B n rd c E2 ds2 H2 nx2 Q) : TC P B n rd c E ds H nx Q := by
  refine ⟨?_⟩
  intro hc T hT F m W a A
  obtain ⟨T2, m2, h1, h2⟩ := h F m W a T hT A
  exact k.run hc T2 h1 F m2 W a h2
def QloopC (B : Ent) (n : Nat) (rd : Option Nat) (I : Nat → Env → List ADef → Hp → Nat → Prop) (m : Nat) (Q : Qc) : Qc := fun e E ds H nx => match e with
  | .normal => ∃ m2, m2 < m ∧ ∃ E2 ds2 H2 nx2, Cv B n rd E ds H nx E2 ds2 H2 nx2 ∧ I m2 E2 ds2 H2 nx2
  | e => Q e E ds H nx
theorem tc_loopC {c : Code} {E : Env} {ds : List ADef} {H : Hp} {nx : Nat} {Q : Qc} (I : Nat → Env → List ADef → Hp → Nat → Prop) (m : Nat) (h0 : I m E ds H nx)
    (hs : ∀ m E ds H nx, I m E ds H nx → TC P B n rd c E ds H nx (QloopC B n rd I m Q)) : TC P B n rd (.loop c) E ds H nx Q := by
  refine ⟨?_⟩
  intro hc
  have hcx : codeOk c = true := by simpa only [codeOk] using hc
  induction m using Nat.strongRecOn generalizing E ds H nx with
  | _ m ih =>
    intro T hT F mm W a A
    refine wpC_loop (wpIn_mono (wpC_wpIn ((hs m E ds H nx h0).run hcx T hT F mm W a A)) ?_)
    rintro ex a' W' ⟨e, T', ds', H', nx', m', rfl, A', q⟩
    cases e with
    | normal =>
      obtain ⟨m2, hm, E2, ds2, H2, nx2, hcv, hI⟩ := q
      obtain ⟨T2, mm2, g1, g2⟩ := hcv F m' W' a' T' rfl A'
      exact ih m2 hm hI T2 g1 F mm2 W' a' g2
    | exit j => exact ⟨_, T', ds', H', nx', m', rfl, A', q⟩
    | goto t => exact ⟨_, T', ds', H', nx', m', rfl, A', q⟩
    | ret => exact ⟨_, T', ds', H', nx', m', rfl, A', q⟩
/-- A loop, one round of it and then the loop again. -/
def Qun (P : Program) (B : Ent) (n : Nat) (rd : Option Nat) (c : Code) (Q : Qc) : Qc := fun e E ds H nx => match e with
  | .normal => TC P B n rd (.loop c) E ds H nx Q
  | e => Q e E ds H nx
theorem tc_unroll {c : Code} {E : Env} {ds : List ADef} {H : Hp} {nx : Nat} {Q : Qc} (h : TC P B n rd c E ds H nx (Qun P B n rd c Q)) : TC P B n rd (.loop c) E ds H nx Q := by
  refine ⟨?_⟩
  intro hc
  have hcx : codeOk c = true := by simpa only [codeOk] using hc
  intro T hT F mm W a A
  refine wpC_loop (wpIn_mono (wpC_wpIn (h.run hcx T hT F mm W a A)) ?_)
  rintro ex a' W' ⟨e, T', ds', H', nx', m', rfl, A', q⟩
  cases e with
  | normal => exact q.run hc T' rfl F m' W' a' A'
  | exit j => exact ⟨_, T', ds', H', nx', m', rfl, A', q⟩
  | goto t => exact ⟨_, T', ds', H', nx', m', rfl, A', q⟩
  | ret => exact ⟨_, T', ds', H', nx', m', rfl, A', q⟩
theorem trS_map {ρ : Val} : ∀ L : List (Nat × SV), Tr.map (SV.den ρ) (trS L) = trOf (L.map fun p => (p.1, p.2.den ρ))
  | [] => rfl
  | p :: L => by simp only [trS, Tr.set_map, trS_map L, List.map_cons, trOf]
theorem fits_ok {ρ : Val} {fs : List X} {T : Tpl} {s : SSt} {inst : List (Nat × X)} {l : List X} (hb : B.nx = b) (hR : R.ok ρ) (hf : Fcs ρ fs) (h : fits R b rd fs T s = some (inst, l)) (hn : Fcs ρ l) :
    Cv B n rd (eD ρ s.tmps) (s.defers.map (SDef.den ρ)) (hD ρ s.heap) s.next (eD (ρ.upd inst) T.st.tmps) (T.st.defers.map (SDef.den (ρ.upd inst))) (hD (ρ.upd inst) T.st.heap) T.st.next ∧
      (∃ xs, inst = instK xs T.ids) ∧ Fcs ρ (rgN R fs inst) ∧ Fcs ρ (fsN R fs inst T.fs) := by
  unfold fits at h
  simp only at h
  generalize pairsK b (colH T.ids s.heap.t T.ob 400 ((colT T.ids s.tmps T.sl).1 ++ (upTo 0 b).map (fun i => (i, i))) [] (colT T.ids s.tmps T.sl).2).1 T.ob = K at h
  generalize (colH T.ids s.heap.t T.ob 400 ((colT T.ids s.tmps T.sl).1 ++ (upTo 0 b).map (fun i => (i, i))) [] (colT T.ids s.tmps T.sl).2).2 = xs at h
  rw [Bool.cond_eq_ite] at h
  split at h <;> try (cases h; done)
  rename_i hk
  simp only [Bool.and_eq_true, Nat.beq_eq, Nat.ble_eq] at hk
  obtain ⟨_, hk1, hk2, hk3, hk4, hk5⟩ := hk
  split at h <;> cases h
  rename_i x y z h1 h2 h3
  obtain ⟨n1, n2⟩ := hn.split
  obtain ⟨n2, n3⟩ := n2.split
  obtain ⟨n3, n4⟩ := n3.split
  obtain ⟨n4, n5⟩ := n4.split
  refine ⟨?_, ⟨xs, rfl⟩, n4, n5⟩
  intro F m W a T0 hT0 A
  have hH : hD ρ s.heap = ⟨Tr.map (SO.den ρ) s.heap.t, [], 0⟩ := by
    simp only [hD, hk4]
    congr 1
    exact List.isEmpty_iff.1 hk5
  rw [hH] at A
  subst hb
  have g1 := mtT_ok (b := B.nx) (K := K) hR hf h1 n1
  have g2 := mtH_ok (b := B.nx) (K := K) hR hf h2 n2
  have g3 := mtD_ok (ρ := ρ) (l := instK xs T.ids) h3
  obtain ⟨m2, A2⟩ := stt_shift (pl := []) (S := T.sl.map (·.1)) hk1 hk2 trivial hk3 (by rw [shiftS, hT0, g1, g3, g2]) A
  refine ⟨_, m2, ?_, A2⟩
  unfold eD
  rw [show T.st.tmps = trS T.sl from rfl, trS_map]
theorem AllB_of {ρ : Val} : ∀ {l : List X}, Fcs ρ l → AllB ρ l
  | [], _ => trivial
  | x :: l, h => ⟨h x List.mem_cons_self, AllB_of fun y hy => h y (List.mem_cons_of_mem _ hy)⟩
theorem lk_mem {l : List (Nat × X)} : ∀ {i : Nat} {x : X}, lkX l i = some x → (i, x) ∈ l := by
  induction l with
  | nil => intro i x h; cases h
  | cons p l ih =>
    intro i x h
    simp only [lkX, Bool.cond_eq_ite, Nat.beq_eq] at h
    split at h
    · rename_i e; cases h; subst e; exact List.mem_cons_self
    · exact List.mem_cons_of_mem _ (ih h)
theorem instK_mem {xs : List (Nat × X)} : ∀ {ids : List Nat} {i : Nat} {x : X}, (i, x) ∈ instK xs ids → i ∈ ids
  | [], i, x, h => by simp [instK] at h
  | k :: ids, i, x, h => by
    simp only [instK] at h
    split at h
    · rcases List.mem_cons.1 h with e | h
      · cases e; exact List.mem_cons_self
      · exact List.mem_cons_of_mem _ (instK_mem h)
    · exact List.mem_cons_of_mem _ (instK_mem h)
theorem upd_out {ρ : Val} {xs : List (Nat × X)} {ids : List Nat} {i : Nat} (h : i ∉ ids) : (ρ.upd (instK xs ids)).v i = ρ.v i := by
  simp only [Val.upd]
  cases hl : lkX (instK xs ids) i with
  | none => rfl
  | some x => exact absurd (instK_mem (lk_mem hl)) h
theorem mix_self {ρ0 ρ1 : Val} {ids : List Nat} (h : Agree ids ρ0 ρ1) : ρ0.mix ids ρ1.v = ρ1 := by
  have hv : (ρ0.mix ids ρ1.v).v = ρ1.v := by
    funext i
    simp only [Val.mix]
    cases hi : ids.any (Nat.beq i) with
    | true => rfl
    | false =>
      have : i ∉ ids := fun hm => by
        rw [List.any_eq_false] at hi
        exact hi i hm (by simp)
      exact (h.v i this).symm
  have hf : (ρ0.mix ids ρ1.v).fn = ρ1.fn := h.fn.symm
  cases ρ1
  cases hm : ρ0.mix ids _ with
  | mk v f => rw [hm] at hv hf; simp only at hv hf; rw [hv, hf]
theorem mix_agree {ρ : Val} {ids : List Nat} {w : Nat → Int} : Agree ids ρ (ρ.mix ids w) := by
  refine ⟨fun i hi => ?_, rfl⟩
  simp only [Val.mix]
  have : ids.any (Nat.beq i) = false := by
    rw [List.any_eq_false]
    intro x hx he
    have := Nat.eq_of_beq_eq_true he
    subst this
    exact hi hx
  rw [this]; rfl
theorem rgN_ok {ρ : Val} {fs : List X} (hR : R.ok ρ) (hf : Fcs ρ fs) : ∀ {inst : List (Nat × X)}, Fcs ρ (rgN R fs inst) → ∀ i x, (i, x) ∈ inst → inR (x.one.den ρ) (nthR R.vr i)
  | [], _, i, x, h => by cases h
  | p :: l, hn, i, x, h => by
    obtain ⟨n1, n2⟩ := hn.split
    rcases List.mem_cons.1 h with rfl | h
    · cases hr : nthR R.vr i with
      | none => trivial
      | some r =>
        obtain ⟨c, d⟩ := r
        simp only [hr] at n1
        obtain ⟨n1, n3⟩ := n1.split
        have := le_need hR hf n1
        have := le_need hR hf n3
        simp only [X.den_lit] at *
        exact ⟨by assumption, by assumption⟩
    · exact rgN_ok hR hf n2 i x h
theorem upd_rok {ρ : Val} {fs : List X} {xs : List (Nat × X)} {ids : List Nat} (hR : R.ok ρ) (hf : Fcs ρ fs) (hn : Fcs ρ (rgN R fs (instK xs ids))) : R.ok (ρ.upd (instK xs ids)) := by
  refine ⟨fun i => ?_, hR.f⟩
  simp only [Val.upd]
  cases hl : lkX (instK xs ids) i with
  | none => exact hR.v i
  | some x => exact rgN_ok hR hf hn i x (lk_mem hl)
theorem fsN_ok {ρ : Val} {fs : List X} {inst : List (Nat × X)} (hR : R.ok ρ) (hf : Fcs ρ fs) : ∀ {l : List X}, Fcs ρ (fsN R fs inst l) → AllB (ρ.upd inst) l
  | [], _ => trivial
  | x :: l, hn => by
    obtain ⟨n1, n2⟩ := hn.split
    have := nd_ok hR hf n1
    rw [X.denB_subst] at this
    exact ⟨this, fsN_ok hR hf n2⟩
theorem rgB_of {ρ : Val} (hR : R.ok ρ) : ∀ ids : List Nat, RgB R ρ ids
  | [] => trivial
  | i :: l => ⟨hR.v i, rgB_of hR l⟩
theorem rgB_mem {ρ : Val} : ∀ {ids : List Nat}, RgB R ρ ids → ∀ i ∈ ids, inR (ρ.v i) (nthR R.vr i)
  | _ :: l, h, i, hi => by
    rcases List.mem_cons.1 hi with rfl | hi
    · exact h.1
    · exact rgB_mem h.2 i hi
theorem mix_rok {ρ : Val} {ids : List Nat} {w : Nat → Int} (hR : R.ok ρ) (h : RgB R (ρ.mix ids w) ids) : R.ok (ρ.mix ids w) := by
  refine ⟨fun i => ?_, hR.f⟩
  by_cases hi : i ∈ ids
  · exact rgB_mem h i hi
  · rw [mix_agree.v i hi]; exact hR.v i
theorem idsF_sub {i j : Nat} (h : i ≤ j) : ∀ x ∈ idsF tps j, x ∈ idsF tps i := by
  intro x hx
  simp only [idsF, List.mem_flatMap] at hx ⊢
  obtain ⟨T, h1, h2⟩ := hx
  refine ⟨T, ?_, h2⟩
  have : tps.drop j = (tps.drop i).drop (j - i) := by rw [List.drop_drop]; congr 1; omega
  rw [this] at h1
  exact List.mem_of_mem_drop h1
theorem ids_idsF {j : Nat} {T : Tpl} (h : tps[j]? = some T) : ∀ x ∈ T.ids, x ∈ idsF tps j := by
  intro x hx
  simp only [idsF, List.mem_flatMap]
  refine ⟨T, ?_, hx⟩
  have : (tps.drop j)[0]? = some T := by rw [List.getElem?_drop]; exact h
  exact List.mem_of_getElem? this
variable (P R tps B n rd) (Inv : Nat → Val → Prop) (mu : Nat → Val → Nat) in
def IofJ (j : Nat) (ρ0 : Val) : Nat → Env → List ADef → Hp → Nat → Prop := fun m E ds H nx => ∃ T w, tps[j]? = some T ∧ RgB R (ρ0.mix (idsF tps j) w) (idsF tps j) ∧ AllB (ρ0.mix (idsF tps j) w) (fsOf tps j) ∧ Inv j (ρ0.mix (idsF tps j) w) ∧
  mu j (ρ0.mix (idsF tps j) w) = m ∧ E = eD (ρ0.mix (idsF tps j) w) T.st.tmps ∧ ds = T.st.defers.map (SDef.den (ρ0.mix (idsF tps j) w)) ∧ H = hD (ρ0.mix (idsF tps j) w) T.st.heap ∧ nx = T.st.next
variable (P R tps B n rd) (Inv : Nat → Val → Prop) (mu : Nat → Val → Nat) (Q0 : Qc) in
def QK (Es : Nat → Val) (M : Nat → Nat) : List Fr → Qc
  | [] => Q0
  | .seq b _ :: K => Qseq P B n rd b (QK Es M K)
  | .blk id :: K => Qblk id (QK Es M K)
  | .lp j :: K => QloopC B n rd (IofJ R tps Inv mu j (Es j)) (M j) (QK Es M K)
  | .un a _ :: K => Qun P B n rd a (QK Es M K)
theorem QK_congr {Inv : Nat → Val → Prop} {mu : Nat → Val → Nat} {Q0 : Qc} {Es Es' : Nat → Val} {M M' : Nat → Nat} {p : Nat} (h : ∀ j, j < p → Es' j = Es j ∧ M' j = M j) : ∀ {K : List Fr}, lpLt p K = true →
    QK P R tps B n rd Inv mu Q0 Es' M' K = QK P R tps B n rd Inv mu Q0 Es M K
  | [], _ => rfl
  | .seq b q :: K, hk => by simp only [QK, QK_congr h (K := K) hk]
  | .blk id :: K, hk => by simp only [QK, QK_congr h (K := K) hk]
  | .un a q :: K, hk => by simp only [QK, QK_congr h (K := K) hk]
  | .lp j :: K, hk => by
    simp only [lpLt] at hk
    obtain ⟨h1, h2⟩ := cond_true_false hk
    rw [Nat.blt_eq] at h1
    simp only [QK, QK_congr h (K := K) h2, h j h1]
def Ctx (tps : List Tpl) (ρ : Val) (Es : Nat → Val) : List Fr → Prop
  | [] => True
  | .lp j :: K => Agree (idsF tps j) (Es j) ρ ∧ Ctx tps ρ Es K
  | _ :: K => Ctx tps ρ Es K
theorem Ctx.mix {ρ : Val} {Es : Nat → Val} {p : Nat} {w : Nat → Int} : ∀ {K : List Fr}, lpLt p K = true → Ctx tps ρ Es K → Ctx tps (ρ.mix (idsF tps p) w) (fun i => cond (Nat.beq i p) ρ (Es i)) K
  | [], _, _ => trivial
  | .seq b q :: K, hk, h => Ctx.mix (K := K) hk h
  | .blk id :: K, hk, h => Ctx.mix (K := K) hk h
  | .un a q :: K, hk, h => Ctx.mix (K := K) hk h
  | .lp j :: K, hk, h => by
    simp only [lpLt] at hk
    obtain ⟨h1, h2⟩ := cond_true_false hk
    rw [Nat.blt_eq] at h1
    refine ⟨?_, Ctx.mix h2 h.2⟩
    have e : Nat.beq j p = false := by cases hb : Nat.beq j p with
      | false => rfl
      | true => have := Nat.eq_of_beq_eq_true hb; omega
    simp only [e, cond_false]
    refine ⟨fun i hi => ?_, h.1.fn⟩
    rw [mix_agree.v i (fun hm => hi (idsF_sub (by omega) i hm))]
    exact h.1.v i hi
section
variable {Inv : Nat → Val → Prop} {mu : Nat → Val → Nat} {α β : Type} {Q : Val → β → Prop}
theorem vc_toL {ρ : Val} {M : Nat → Nat} {f : α → LT β} : ∀ {t : OT α}, LT.vc R tps Inv mu Q (t.toL f) ρ M → ∃ a, OT.sem ρ t = some a ∧ LT.vc R tps Inv mu Q (f a) ρ M
  | .no, h => h.elim
  | .leaf a, h => ⟨a, rfl, h⟩
  | .ask b t u, h => by
    simp only [OT.sem]
    cases hb : b.denB ρ with
    | true => exact vc_toL (h.1 hb)
    | false => exact vc_toL (h.2 hb)
  | .need l t, h => by
    simp only [OT.sem, if_pos (allB_fcs h.1)]
    exact vc_toL h.2
theorem vc_needL {ρ : Val} {M : Nat → Nat} {l : List X} {t : LT β} (h : LT.vc R tps Inv mu Q (needL l t) ρ M) : Fcs ρ l ∧ LT.vc R tps Inv mu Q t ρ M := by
  unfold needL at h
  split at h
  · exact ⟨Fcs.nil, h⟩
  · exact ⟨allB_fcs h.1, h.2⟩
end
/-- What is shown of a task is what it says. -/
def LOk (P : Program) (R : Rgs) (tps : List Tpl) (B : Ent) (n : Nat) (rd : Option Nat) (Inv : Nat → Val → Prop) (mu : Nat → Val → Nat) (Q0 : Qc) (Es : Nat → Val) (M : Nat → Nat) (ρ : Val) : LTask → Prop
  | .go c _ s K => TC P B n rd c (eD ρ s.tmps) (s.defers.map (SDef.den ρ)) (hD ρ s.heap) s.next (QK P R tps B n rd Inv mu Q0 Es M K)
  | .nx e s K => QK P R tps B n rd Inv mu Q0 Es M K e (eD ρ s.tmps) (s.defers.map (SDef.den ρ)) (hD ρ s.heap) s.next
def LTask.K : LTask → List Fr
  | .go _ _ _ K => K
  | .nx _ _ K => K
set_option maxHeartbeats 1000000 in
theorem exL_ok {C : Cts P} {fn0 : Nat → List Int → Int} {Inv : Nat → Val → Prop} {mu : Nat → Val → Nat} {Q0 : Qc} {Q : Val → (Ex × SSt) × List X → Prop} (hp : progOk P = true) (hC : ∀ ρ : Val, ρ.fn = fn0 → R.ok ρ → C.has ρ Ks) (hb : B.nx = b)
    (hQ : ∀ ρ e s fs, R.ok ρ → Fcs ρ fs → Q ρ ((e, s), fs) → Q0 e (eD ρ s.tmps) (s.defers.map (SDef.den ρ)) (hD ρ s.heap) s.next) :
    ∀ (f : Nat) (fs : List X) (t : LTask) (ρ : Val) (M : Nat → Nat) (Es : Nat → Val), ρ.fn = fn0 → R.ok ρ → Fcs ρ fs → Ctx tps ρ Es t.K → LT.vc R tps Inv mu Q (exL P R Ks tps b n rd f fs t) ρ M → LOk P R tps B n rd Inv mu Q0 Es M ρ t := by
  intro f
  induction f with
  | zero => intro fs t ρ M Es _ _ _ _ h; simp only [exL] at h; exact h.elim
  | succ f ih =>
    intro fs t ρ M Es hfn hR hf hK h
    cases t with
    | go c pos s K =>
      simp only [LOk]
      simp only [exL, Bool.cond_eq_ite] at h
      split at h
      · obtain ⟨⟨r, fs1⟩, h1, h2⟩ := vc_toL h
        obtain ⟨g1, g2⟩ := (runK_sim hR (hC ρ hfn hR) f).ok _ _ _ _ hf h1
        have hok := runK_ok hp f _ _ g1
        cases r with
        | call v H nx => exact h2.elim
        | code e s' =>
          have := ih fs1 (.nx e s' K) ρ M Es hfn hR g2 hK h2
          exact tc_of_ok (s := sD ρ s) (s' := sD ρ s') hok this
      · cases c with
        | seq x y =>
          have := ih fs (.go x pos s (.seq y (pos + nl x) :: K)) ρ M Es hfn hR hf hK h
          exact tc_seq rfl this
        | block id x =>
          have := ih fs (.go x pos s (.blk id :: K)) ρ M Es hfn hR hf hK h
          exact tc_block rfl this
        | cond x u v =>
          obtain ⟨⟨w, fs1⟩, h1, h2⟩ := vc_toL h
          obtain ⟨fs2, l, w2, g1, g2, g3, g4⟩ := retry_some h1 hf
          have e := leaf_some g4
          cases e
          have hc := condS_ok hR g2 g1
          rw [← evE_get] at hc
          refine tc_cond w (by simp only [kind, condE]; exact congrArg (Prod.mk 4) hc) (fun hw => ?_) (fun hw => ?_)
          · subst hw; exact ih _ (.go u pos s K) ρ M Es hfn hR (g3.append g2) hK h2
          · subst hw; exact ih _ (.go v (pos + nl u) s K) ρ M Es hfn hR (g3.append g2) hK h2
        | loop x =>
          simp only at h
          split at h <;> try (exact h.elim)
          rename_i T hT
          cases hun : isUn T with
          | true =>
            simp only [hun, cond_true, if_true] at h
            exact tc_unroll (ih fs (.go x (pos + 1) s (.un x pos :: K)) ρ M Es hfn hR hf hK h)
          | false =>
          simp only [hun, cond_false, Bool.false_eq_true, if_false] at h
          split at h <;> try (exact h.elim)
          rename_i inst l hfit
          split at h <;> try (exact h.elim)
          rename_i hlp
          obtain ⟨hn, hv⟩ := vc_needL h
          obtain ⟨hcv, ⟨xs, rfl⟩, hrg, hfs⟩ := fits_ok (n := n) (rd := rd) hb hR hf hfit hn
          have hR1 := upd_rok hR hf hrg
          have hag : Agree (idsF tps pos) ρ (ρ.upd (instK xs T.ids)) := ⟨fun i hi => upd_out (fun hm => hi (ids_idsF hT i hm)), rfl⟩
          have hmx := mix_self hag
          obtain ⟨hI, hbody⟩ := hv
          have hfsOf : fsOf tps pos = T.fs := by simp only [fsOf, hT]
          refine tc_cv hcv (tc_loopC (IofJ R tps Inv mu pos ρ) (mu pos (ρ.upd (instK xs T.ids))) ⟨T, (ρ.upd (instK xs T.ids)).v, hT, ?_⟩ ?_)
          · rw [hmx, hfsOf]
            exact ⟨rgB_of hR1 _, fsN_ok hR hf hfs, hI, rfl, rfl, rfl, rfl, rfl⟩
          · rintro m E ds H nx ⟨T', w, hT', q1, q2, q3, q4, rfl, rfl, rfl, rfl⟩
            rw [hT] at hT'
            cases hT'
            have hv' := hbody w q1 q2 q3
            have hR' := mix_rok hR q1
            have hf' : Fcs (ρ.mix (idsF tps pos) w) (T.fs ++ keepF (idsF tps pos) fs) := by
              rw [hfsOf] at q2
              exact (allB_fcs q2).append (keepF_ok mix_agree hf)
            have := ih _ (.go x (pos + 1) T.st (.lp pos :: K)) (ρ.mix (idsF tps pos) w) (setM M pos (mu pos (ρ.mix (idsF tps pos) w))) (fun i => cond (Nat.beq i pos) ρ (Es i)) hfn hR' hf'
              ⟨by simp only [Nat.beq_refl, cond_true]; exact mix_agree, Ctx.mix hlp hK⟩ hv'
            simp only [LOk, QK, Nat.beq_refl, cond_true, setM, q4] at this
            have hcg : QK P R tps B n rd Inv mu Q0 (fun i => cond (Nat.beq i pos) ρ (Es i)) (fun i => cond (Nat.beq i pos) m (M i)) K = QK P R tps B n rd Inv mu Q0 Es M K := by
              refine QK_congr (p := pos) (fun j hj => ?_) hlp
              have e : Nat.beq j pos = false := by cases hb : Nat.beq j pos with
                | false => rfl
                | true => have := Nat.eq_of_beq_eq_true hb; omega
              simp only [e, cond_false, and_self]
            rw [show setM M pos m = fun i => cond (Nat.beq i pos) m (M i) from rfl, hcg] at this
            exact this
        | _ => exact h.elim
    | nx e s K =>
      simp only [LOk]
      cases K with
      | nil => simp only [exL] at h; exact hQ ρ e s fs hR hf h
      | cons fr K =>
        cases fr with
        | seq b2 pos =>
          simp only [exL] at h
          cases e with
          | normal => exact ih fs (.go b2 pos s K) ρ M Es hfn hR hf hK h
          | _ => exact ih fs (.nx _ s K) ρ M Es hfn hR hf hK h
        | blk id =>
          simp only [exL] at h
          cases e with
          | exit j =>
            simp only [QK, Qblk]
            cases hb2 : Nat.beq j id <;> simp only [hb2, cond_true, cond_false] at h ⊢
            · exact ih fs (.nx (.exit j) s K) ρ M Es hfn hR hf hK h
            · exact ih fs (.nx .normal s K) ρ M Es hfn hR hf hK h
          | _ => exact ih fs (.nx _ s K) ρ M Es hfn hR hf hK h
        | lp j =>
          simp only [exL] at h
          cases e with
          | normal =>
            simp only at h
            split at h <;> try (exact h.elim)
            rename_i T hT
            split at h <;> try (exact h.elim)
            rename_i inst l hfit
            obtain ⟨hn, hv⟩ := vc_needL h
            obtain ⟨hcv, ⟨xs, rfl⟩, hrg, hfs⟩ := fits_ok (n := n) (rd := rd) hb hR hf hfit hn
            have hR1 := upd_rok hR hf hrg
            have hag : Agree (idsF tps j) (Es j) (ρ.upd (instK xs T.ids)) := ⟨fun i hi => by rw [upd_out (fun hm => hi (ids_idsF hT i hm))]; exact hK.1.v i hi, hK.1.fn⟩
            have hmx := mix_self hag
            have hfsOf : fsOf tps j = T.fs := by simp only [fsOf, hT]
            obtain ⟨hI, hm⟩ := hv
            refine ⟨_, hm, _, _, _, _, hcv, T, (ρ.upd (instK xs T.ids)).v, hT, ?_⟩
            rw [hmx, hfsOf]
            exact ⟨rgB_of hR1 _, fsN_ok hR hf hfs, hI, rfl, rfl, rfl, rfl, rfl⟩
          | _ => exact ih fs (.nx _ s K) ρ M Es hfn hR hf hK.2 h
        | un a pos =>
          simp only [exL] at h
          cases e with
          | normal => exact ih fs (.go (.loop a) pos s K) ρ M Es hfn hR hf hK h
          | _ => exact ih fs (.nx _ s K) ρ M Es hfn hR hf hK h
end
end Sx
end Abs
end Go.Proofs.Ytiafbooogggdnaa
