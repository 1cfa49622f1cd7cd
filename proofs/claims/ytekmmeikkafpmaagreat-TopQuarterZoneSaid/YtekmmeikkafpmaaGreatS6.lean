/- Promises of functions that lay new objects: names given anew behind a call. -/
import Derived.Test.YtekmmeikkafpmaaGreatS5
set_option linter.unusedSimpArgs false
set_option linter.unusedVariables false
namespace Go.Proofs.YtekmmeikkafpmaaGreat
namespace Abs
open Go.RowKit
def layA : Hp → Nat → List AObj → Hp
  | H, _, [] => H
  | H, nx, o :: l => layA (H.lay nx o) (nx + 1) l
def renOs (σ : Sg) : List AObj → Option (List AObj)
  | [] => some []
  | o :: l => match renO σ o, renOs σ l with
    | some o', some l' => some (o' :: l')
    | _, _ => none
section
variable {P : Program}
end
section
variable {P : Program}
end
end Abs
end Go.Proofs.YtekmmeikkafpmaaGreat

namespace Go.Proofs.YtekmmeikkafpmaaGreat
namespace Abs
namespace Sx
open Go.RowKit
def SO.ins (xs : List X) (ns : List Nat) : SO → SO
  | .cells w cs => .cells w (SV.inss xs ns cs)
  | .row w len a cm => .row w (len.ins xs) (a.ins xs) cm
  | o => o
def SO.okN (k : Nat) : SO → Bool
  | .cells _ cs => SV.okNs k cs
  | .row _ _ _ _ => true
  | _ => false
def SO.okNs (k : Nat) : List SO → Bool
  | [] => true
  | o :: l => cond (SO.okN k o) (SO.okNs k l) false
def SO.inss (xs : List X) (ns : List Nat) : List SO → List SO
  | [] => []
  | o :: l => SO.ins xs ns o :: SO.inss xs ns l
def SO.dens (ρ : Val) : List SO → List AObj
  | [] => []
  | o :: l => o.den ρ :: SO.dens ρ l
def layS : SH → Nat → List SO → SH
  | H, _, [] => H
  | H, nx, o :: l => layS (H.lay nx o) (nx + 1) l
def insN (R : Rgs) (xs : List X) (ns : List Nat) (H : SH) (nx : Nat) : List X → OT (SV × List SO) → OT (SRes × List X)
  | _, .no => .no
  | fs, .leaf (v, os) => cond (v.okN (ns.length + os.length)) (cond (SO.okNs (ns.length + os.length) os)
      (.leaf (.call (v.ins xs (ns ++ upTo nx os.length)) (layS H nx (SO.inss xs (ns ++ upTo nx os.length) os)) (nx + os.length), fs)) .no) .no
  | fs, .ask b t f => match X.dec R fs (b.ins xs) with
    | some true => insN R xs ns H nx fs t
    | some false => insN R xs ns H nx fs f
    | none => .ask (b.ins xs) (insN R xs ns H nx (X.nrm (b.ins xs) true ++ fs) t) (insN R xs ns H nx (X.nrm (b.ins xs) false ++ fs) f)
  | fs, .need l t => needT (ndA R fs xs l) (insN R xs ns H nx (ndA R fs xs l ++ fs) t)
structure PrN where
  g : FuncId
  sh : List Sh
  pre : List X
  out : List Bool → OT (SV × List SO)
def PrN.run (R : Rgs) (p : PrN) (fs : List X) (args : List SV) (H : SH) (nx : Nat) : OT (SRes × List X) := match flSs R fs H p.sh args with
  | some (xs, ns, es) => needT (ndA R fs xs p.pre) (insN R xs ns H nx (ndA R fs xs p.pre ++ fs) (p.out es))
  | none => .no
def PrN.SE (fn : Nat → List Int → Int) (p : PrN) (es : List Bool) (a : List AV) (H : Hp) (nx : Nat) (r : Res) : Prop := ∃ xs ns w os v os', FlRs (valX fn []) H p.sh a xs ns es ∧ AllB (valX fn xs) p.pre ∧ OT.sem (valX fn xs) (p.out es) = some (w, os) ∧
  w.okN (ns.length + os.length) = true ∧ SO.okNs (ns.length + os.length) os = true ∧ ren (sg (LL (ns ++ upTo nx os.length))) (w.den (valX fn xs)) = some v ∧ renOs (sg (LL (ns ++ upTo nx os.length))) (SO.dens (valX fn xs) os) = some os' ∧ r = .call v (layA H nx os') (nx + os.length)
def PrN.S (fn : Nat → List Int → Int) (p : PrN) (a : List AV) (H : Hp) (nx : Nat) (r : Res) : Prop := ∃ es, p.SE fn es a H nx r
def PrN.OkE (P : Program) (fn : Nat → List Int → Int) (p : PrN) (es : List Bool) : Prop := ∀ a H nx r, p.SE fn es a H nx r → TaskOk P (.call p.g a H nx) r
def PrN.Ok (P : Program) (fn : Nat → List Int → Int) (p : PrN) : Prop := ∀ a H nx r, p.S fn a H nx r → TaskOk P (.call p.g a H nx) r
section
variable {P : Program} {ρ : Val} {R : Rgs} {fs : List X} {fn : Nat → List Int → Int}
theorem SO.ins_ren (xs : List X) (ns : List Nat) (o : SO) (h : o.okN ns.length = true) : renO (sg (LL ns)) (o.den (valX ρ.fn (denX ρ xs))) = some ((o.ins xs ns).den ρ) := by
  cases o <;> simp only [SO.okN] at h <;> try (cases h; done)
  case cells w cs => simp only [SO.den, SO.ins, renO, SV.inss_ren xs ns cs h]
  case row w len a cm =>
    simp only [SO.den, SO.ins, renO, renL_plain (rowD_plain _ _), ins_den, ins_sem]
    rw [rowD_fn (ρ := ρ) (ρ' := valX ρ.fn (denX ρ xs)) rfl]
theorem SO.inss_ren (xs : List X) (ns : List Nat) : ∀ (l : List SO), SO.okNs ns.length l = true → renOs (sg (LL ns)) (SO.dens (valX ρ.fn (denX ρ xs)) l) = some (SO.dens ρ (SO.inss xs ns l))
  | [], _ => rfl
  | o :: l, h => by
    simp only [SO.okNs] at h
    obtain ⟨h1, h2⟩ := cond_true_false h
    simp only [SO.inss, SO.dens, renOs, SO.ins_ren xs ns o h1, SO.inss_ren xs ns l h2]
theorem PrN.S_uniq {p : PrN} {a : List AV} {H : Hp} {nx : Nat} {r r' : Res} (h : p.S fn a H nx r) (k : p.S fn a H nx r') : r = r' := by
  obtain ⟨es, xs, ns, w, os, v, os1, h1, h2, h3, _, h4, h5, h6, rfl⟩ := h
  obtain ⟨ds, ys, ms, w', os', v', os1', k1, k2, k3, _, k4, k5, k6, rfl⟩ := k
  obtain ⟨rfl, rfl, rfl⟩ := FlRs_uniq h1 k1
  rw [h3] at k3
  cases k3
  rw [h5] at k5
  cases k5
  rw [h6] at k6
  cases k6
  rfl
end
end Sx
end Abs
end Go.Proofs.YtekmmeikkafpmaaGreat
