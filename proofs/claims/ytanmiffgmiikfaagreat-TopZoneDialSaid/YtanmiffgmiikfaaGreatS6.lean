/- Promises of functions that lay new objects: names given anew behind a call. -/
import Derived.Test.YtanmiffgmiikfaaGreatS5
set_option linter.unusedSimpArgs false
set_option linter.unusedVariables false
namespace Go.Proofs.YtanmiffgmiikfaaGreat
namespace Abs
open Go.RowKit
def layA : Hp → Nat → List AObj → Hp
  | H, _, [] => H
  | H, nx, o :: l => layA (H.lay nx o) (nx + 1) l
def renOs (σ : Sg) : List AObj → Option (List AObj)
  | [] => some []
  | o :: l => match renO σ o, renOs σ l with
    | some o', some l' => some (o' :: l')
    | _, _ => none
section
variable {P : Program}
end
section
variable {P : Program}
end
end Abs
end Go.Proofs.YtanmiffgmiikfaaGreat

namespace Go.Proofs.YtanmiffgmiikfaaGreat
namespace Abs
namespace Sx
open Go.RowKit
def SO.ins (xs : List X) (ns : List Nat) : SO → SO
  | .cells w cs => .cells w (SV.inss xs ns cs)
  | .row w len a cm => .row w (len.ins xs) (a.ins xs) cm
  | o => o
def SO.okN (k : Nat) : SO → Bool
  | .cells _ cs => SV.okNs k cs
  | .row _ _ _ _ => true
  | _ => false
def SO.okNs (k : Nat) : List SO → Bool
  | [] => true
  | o :: l => cond (SO.okN k o) (SO.okNs k l) false
def SO.inss (xs : List X) (ns : List Nat) : List SO → List SO
  | [] => []
  | o :: l => SO.ins xs ns o :: SO.inss xs ns l
def SO.dens (ρ : Val) : List SO → List AObj
  | [] => []
  | o :: l => o.den ρ :: SO.dens ρ l
def layS : SH → Nat → List SO → SH
  | H, _, [] => H
  | H, nx, o :: l => layS (H.lay nx o) (nx + 1) l
def insN (R : Rgs) (xs : List X) (ns : List Nat) (H : SH) (nx : Nat) : List X → OT (SV × List SO) → OT (SRes × List X)
  | _, .no => .no
  | fs, .leaf (v, os) => cond (v.okN (ns.length + os.length)) (cond (SO.okNs (ns.length + os.length) os)
      (.leaf (.call (v.ins xs (ns ++ upTo nx os.length)) (layS H nx (SO.inss xs (ns ++ upTo nx os.length) os)) (nx + os.length), fs)) .no) .no
  | fs, .ask b t f => match X.dec R fs (b.ins xs) with
    | some true => insN R xs ns H nx fs t
    | some false => insN R xs ns H nx fs f
    | none => .ask (b.ins xs) (insN R xs ns H nx (X.nrm (b.ins xs) true ++ fs) t) (insN R xs ns H nx (X.nrm (b.ins xs) false ++ fs) f)
  | fs, .need l t => needT (ndA R fs xs l) (insN R xs ns H nx (ndA R fs xs l ++ fs) t)
structure PrN where
  g : FuncId
  sh : List Sh
  pre : List X
  out : List Bool → OT (SV × List SO)
def Pr.toN (p : Pr) : PrN := ⟨p.g, p.sh, p.pre, fun es => (p.out es).map fun v => (v, [])⟩
def PrN.run (R : Rgs) (p : PrN) (fs : List X) (args : List SV) (H : SH) (nx : Nat) : OT (SRes × List X) := match flSs R fs H p.sh args with
  | some (xs, ns, es) => needT (ndA R fs xs p.pre) (insN R xs ns H nx (ndA R fs xs p.pre ++ fs) (p.out es))
  | none => .no
def findN : List PrN → FuncId → Option PrN
  | [], _ => none
  | p :: l, g => cond (Nat.beq p.g g) (some p) (findN l g)
def selN (R : Rgs) (fs : List X) (H : SH) (args : List SV) (g : FuncId) : List PrN → Option PrN
  | [] => none
  | p :: l => cond (Nat.beq p.g g) (match flSs R fs H p.sh args with
    | some _ => some p
    | none => match selN R fs H args g l with
      | some q => cond (apart p.sh q.sh) (some q) none
      | none => none) (selN R fs H args g l)
def ksN (R : Rgs) (l : List PrN) : Ctrs := fun g => match findN l g with
  | some _ => some (fun fs args H nx => match selN R fs H args g l with
    | some p => p.run R fs args H nx
    | none => .no)
  | none => none
def PrN.SE (fn : Nat → List Int → Int) (p : PrN) (es : List Bool) (a : List AV) (H : Hp) (nx : Nat) (r : Res) : Prop := ∃ xs ns w os v os', FlRs (valX fn []) H p.sh a xs ns es ∧ AllB (valX fn xs) p.pre ∧ OT.sem (valX fn xs) (p.out es) = some (w, os) ∧
  w.okN (ns.length + os.length) = true ∧ SO.okNs (ns.length + os.length) os = true ∧ ren (sg (LL (ns ++ upTo nx os.length))) (w.den (valX fn xs)) = some v ∧ renOs (sg (LL (ns ++ upTo nx os.length))) (SO.dens (valX fn xs) os) = some os' ∧ r = .call v (layA H nx os') (nx + os.length)
def PrN.S (fn : Nat → List Int → Int) (p : PrN) (a : List AV) (H : Hp) (nx : Nat) (r : Res) : Prop := ∃ es, p.SE fn es a H nx r
def PrN.OkE (P : Program) (fn : Nat → List Int → Int) (p : PrN) (es : List Bool) : Prop := ∀ a H nx r, p.SE fn es a H nx r → TaskOk P (.call p.g a H nx) r
def PrN.Ok (P : Program) (fn : Nat → List Int → Int) (p : PrN) : Prop := ∀ a H nx r, p.S fn a H nx r → TaskOk P (.call p.g a H nx) r
def PrNsOk (P : Program) (fn : Nat → List Int → Int) : List PrN → Prop
  | [] => True
  | p :: l => p.Ok P fn ∧ PrNsOk P fn l
section
variable {P : Program} {ρ : Val} {R : Rgs} {fs : List X} {fn : Nat → List Int → Int}
theorem SO.ins_ren (xs : List X) (ns : List Nat) (o : SO) (h : o.okN ns.length = true) : renO (sg (LL ns)) (o.den (valX ρ.fn (denX ρ xs))) = some ((o.ins xs ns).den ρ) := by
  cases o <;> simp only [SO.okN] at h <;> try (cases h; done)
  case cells w cs => simp only [SO.den, SO.ins, renO, SV.inss_ren xs ns cs h]
  case row w len a cm =>
    simp only [SO.den, SO.ins, renO, renL_plain (rowD_plain _ _), ins_den, ins_sem]
    rw [rowD_fn (ρ := ρ) (ρ' := valX ρ.fn (denX ρ xs)) rfl]
theorem SO.inss_ren (xs : List X) (ns : List Nat) : ∀ (l : List SO), SO.okNs ns.length l = true → renOs (sg (LL ns)) (SO.dens (valX ρ.fn (denX ρ xs)) l) = some (SO.dens ρ (SO.inss xs ns l))
  | [], _ => rfl
  | o :: l, h => by
    simp only [SO.okNs] at h
    obtain ⟨h1, h2⟩ := cond_true_false h
    simp only [SO.inss, SO.dens, renOs, SO.ins_ren xs ns o h1, SO.inss_ren xs ns l h2]
theorem layS_den : ∀ {l : List SO} {H : SH} {nx : Nat}, layA (hD ρ H) nx (SO.dens ρ l) = hD ρ (layS H nx l)
  | [], _, _ => rfl
  | o :: l, H, nx => by
    simp only [SO.dens, layA, layS, hD_lay]
    exact layS_den
theorem upTo_length : ∀ (a n : Nat), (upTo a n).length = n
  | _, 0 => rfl
  | a, n + 1 => by simp only [upTo, List.length_cons, upTo_length]
theorem insN_ok (hR : R.ok ρ) {xs : List X} {ns : List Nat} {H : SH} {nx : Nat} : ∀ {t : OT (SV × List SO)} {fs : List X} {x : SRes × List X}, Fcs ρ fs → OT.sem ρ (insN R xs ns H nx fs t) = some x →
    ∃ w os v os', OT.sem (valX ρ.fn (denX ρ xs)) t = some (w, os) ∧ w.okN (ns.length + os.length) = true ∧ SO.okNs (ns.length + os.length) os = true ∧ ren (sg (LL (ns ++ upTo nx os.length))) (w.den (valX ρ.fn (denX ρ xs))) = some v ∧
      renOs (sg (LL (ns ++ upTo nx os.length))) (SO.dens (valX ρ.fn (denX ρ xs)) os) = some os' ∧ rD ρ x.1 = .call v (layA (hD ρ H) nx os') (nx + os.length) ∧ Fcs ρ x.2
  | .no, _, _, _, h => by cases h
  | .leaf (v, os), fs, x, hf, h => by
    simp only [insN] at h
    cases hb : v.okN (ns.length + os.length) <;> rw [hb] at h <;> simp only [cond_true, cond_false] at h
    · cases h
    cases hc : SO.okNs (ns.length + os.length) os <;> rw [hc] at h <;> simp only [cond_true, cond_false] at h
    · cases h
    have := leaf_some h
    subst this
    have hl : (ns ++ upTo nx os.length).length = ns.length + os.length := by rw [List.length_append, upTo_length]
    have h1 := SV.ins_ren (ρ := ρ) xs _ v (by rw [hl]; exact hb)
    have h2 := SO.inss_ren (ρ := ρ) xs (ns ++ upTo nx os.length) os (by rw [hl]; exact hc)
    refine ⟨v, os, _, _, rfl, hb, hc, h1, h2, ?_, hf⟩
    simp only [rD, layS_den]
  | .ask b t f, fs, x, hf, h => by
    simp only [insN] at h
    simp only [OT.sem, ← ins_denB]
    split at h
    · rename_i e; rw [X.dec_ok hR hf _ e]; exact insN_ok hR hf h
    · rename_i e; rw [X.dec_ok hR hf _ e]; exact insN_ok hR hf h
    · simp only [OT.sem] at h
      cases hb : (b.ins xs).denB ρ with
      | true => rw [hb] at h; exact insN_ok hR (.append (X.nrm_ok _ hb) hf) h
      | false => rw [hb] at h; exact insN_ok hR (.append (X.nrm_ok _ hb) hf) h
  | .need l t, fs, x, hf, h => by
    simp only [insN] at h
    obtain ⟨h1, h2⟩ := needT_some h
    obtain ⟨w, os, v, os', g1, g2⟩ := insN_ok hR (h1.append hf) h2
    refine ⟨w, os, v, os', ?_, g2⟩
    simp only [OT.sem, if_pos (allB_fcs (ndA_ok hR hf h1)), g1]
theorem PrN.S_uniq {p : PrN} {a : List AV} {H : Hp} {nx : Nat} {r r' : Res} (h : p.S fn a H nx r) (k : p.S fn a H nx r') : r = r' := by
  obtain ⟨es, xs, ns, w, os, v, os1, h1, h2, h3, _, h4, h5, h6, rfl⟩ := h
  obtain ⟨ds, ys, ms, w', os', v', os1', k1, k2, k3, _, k4, k5, k6, rfl⟩ := k
  obtain ⟨rfl, rfl, rfl⟩ := FlRs_uniq h1 k1
  rw [h3] at k3
  cases k3
  rw [h5] at k5
  cases k5
  rw [h6] at k6
  cases k6
  rfl
def SelNQ (g : FuncId) : List PrN → PrN → Prop
  | [], _ => False
  | p :: l, q => (p.g = g ∧ q = p) ∨ ((p.g = g → apart p.sh q.sh = true) ∧ SelNQ g l q)
theorem selNQ_ok : ∀ {l : List PrN} {g : FuncId} {q : PrN}, PrNsOk P fn l → SelNQ g l q → q.g = g ∧ q.Ok P fn
  | [], _, _, _, h => h.elim
  | p :: l, g, q, hl, h => by
    rcases h with ⟨h1, rfl⟩ | ⟨_, h⟩
    · exact ⟨h1, hl.1⟩
    · exact selNQ_ok hl.2 h
theorem selNQ_uniq {a : List AV} {H : Hp} {nx : Nat} {v w : Res} : ∀ {l : List PrN} {g : FuncId} {q r : PrN}, SelNQ g l q → SelNQ g l r → q.S fn a H nx v → r.S fn a H nx w → v = w
  | [], _, _, _, h, _, _, _ => h.elim
  | p :: l, g, q, r, h, k, hs, ks => by
    have no : ∀ {p q : PrN} {v w : Res}, apart p.sh q.sh = true → p.S fn a H nx v → q.S fn a H nx w → False := fun h hs ks => by
      obtain ⟨_, _, _, _, _, _, _, h1, _⟩ := hs
      obtain ⟨_, _, _, _, _, _, _, k1, _⟩ := ks
      exact apart_not h h1 k1
    rcases h with ⟨h1, rfl⟩ | ⟨h1, h⟩ <;> rcases k with ⟨k1, rfl⟩ | ⟨k1, k⟩
    · exact PrN.S_uniq hs ks
    · exact (no (k1 h1) hs ks).elim
    · exact (no (h1 k1) ks hs).elim
    · exact selNQ_uniq h k hs ks
theorem selN_sel {R : Rgs} {fs : List X} {H : SH} {args : List SV} {g : FuncId} : ∀ {l : List PrN} {q : PrN}, selN R fs H args g l = some q → SelNQ g l q
  | [], _, h => by cases h
  | p :: l, q, h => by
    simp only [selN] at h
    cases hb : Nat.beq p.g g <;> rw [hb] at h
    · rw [cond_false] at h
      exact .inr ⟨fun e => (by rw [e, Nat.beq_refl] at hb; cases hb), selN_sel h⟩
    · rw [cond_true] at h
      have hg := Nat.eq_of_beq_eq_true hb
      split at h
      · cases h; exact .inl ⟨hg, rfl⟩
      · split at h <;> try (cases h; done)
        rename_i r hr
        cases ha : apart p.sh r.sh <;> rw [ha] at h <;> cases h
        exact .inr ⟨fun _ => ha, selN_sel hr⟩
def ctsN (l : List PrN) (hl : PrNsOk P fn l) : Cts P where
  C g a H nx r := ∃ p, SelNQ g l p ∧ p.S fn a H nx r
  uniq g a H nx r r' h k := by
    obtain ⟨p, h1, h2⟩ := h
    obtain ⟨q, k1, k2⟩ := k
    exact selNQ_uniq h1 k1 h2 k2
  ok g a H nx r h := by
    obtain ⟨p, h1, h2⟩ := h
    obtain ⟨e, hok⟩ := selNQ_ok hl h1
    have := hok a H nx r h2
    rw [e] at this
    exact this
theorem ctsN_has (l : List PrN) (hl : PrNsOk P fn l) (hfn : ρ.fn = fn) (hR : R.ok ρ) : (ctsN l hl).has ρ (ksN R l) := by
  refine ⟨fun g k fs args H nx r fs' hk hf h => ?_⟩
  unfold ksN at hk
  split at hk <;> cases hk
  dsimp only at h
  split at h
  case h_2 => cases h
  rename_i p hp
  unfold PrN.run at h
  split at h <;> try (cases h; done)
  rename_i xs ns es hfl
  obtain ⟨h1, h2⟩ := needT_some h
  obtain ⟨w, os, v, os', g1, g0, g2, g3, g4, g5, g6⟩ := insN_ok hR (h1.append hf) h2
  have e1 := flSs_ok (ρ := ρ) hR hf hfl
  have e2 := ndA_ok hR hf h1
  rw [hfn] at e1 e2 g1 g3 g4
  exact ⟨⟨p, selN_sel hp, es, denX ρ xs, ns, w, os, v, os', e1, e2, g1, g0, g2, g3, g4, g5⟩, g6⟩
theorem toN_sem {t : OT SV} : ∀ {w : SV} {os : List SO}, OT.sem ρ (t.map fun v => (v, ([] : List SO))) = some (w, os) → OT.sem ρ t = some w ∧ os = [] := by
  intro w os h
  rw [OT.sem_map] at h
  cases hs : OT.sem ρ t with
  | none => rw [hs] at h; cases h
  | some w' => rw [hs] at h; cases h; exact ⟨rfl, rfl⟩
theorem Pr.Ok.toN {p : Pr} (h : p.Ok P fn) : p.toN.Ok P fn := by
  rintro a H nx r ⟨es, xs, ns, w, os, v, os', h1, h2, h3, h0, h4, h5, h6, rfl⟩
  obtain ⟨h7, rfl⟩ := toN_sem h3
  cases h6
  simp only [List.length_nil, upTo, List.append_nil] at h5
  exact h a H nx v ⟨xs, ns, es, w, h1, h2, h7, h0, h5⟩
end
end Sx
end Abs
end Go.Proofs.YtanmiffgmiikfaaGreat
