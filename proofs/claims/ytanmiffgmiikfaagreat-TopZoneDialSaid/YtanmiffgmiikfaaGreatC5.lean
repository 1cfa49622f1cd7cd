/- Ranges over functions, and calls of yield, as goals. -/
import Derived.Test.YtanmiffgmiikfaaGreatC4
set_option linter.unusedSimpArgs false
set_option linter.unusedVariables false
namespace Go.Proofs.YtanmiffgmiikfaaGreat
namespace Abs
open Go.RowKit
section
variable {P : Program} {B : Ent} {man : List Nat} {n : Nat} {rd : Option Nat} {ops : Array Oper} {ds : List ADef} {Q : Qo} {c : Code} {E : Env} {H : Hp} {nx : Nat}
variable {S : Ms}
end
end Abs
end Go.Proofs.YtanmiffgmiikfaaGreat

namespace Go.Proofs.YtanmiffgmiikfaaGreat
namespace Abs
open Go.RowKit
section
variable {P : Program}
theorem rel_frame {m : NM} {H : Hp} {W W' : World} (h : Rel m H W) (hf : ∀ b, b < W.heap.size → W'.heap[b]? = W.heap[b]?) : Rel m H W' := by
  refine ⟨fun n ob hn => ?_, h.inj⟩
  obtain ⟨k, o, h1, h2, h3⟩ := h.obj n ob hn
  exact ⟨k, o, h1, (hf k.b (h.lt hn h1)).trans h2, h3⟩
def upS (nx : Nat) : Sg := fun n => cond (n.blt nx) (some (n, 0)) none
theorem call_forget {f : FuncId} {args : List AV} {t : Tr AObj} {nx : Nat} {V : AV → Prop} (hc : CallH P f args ⟨t, [], 0⟩ nx (fun v _ _ => V v)) (hro : (t.allB fun o => !o.writable) = true)
    (hn : ∀ v, V v → ren (upS nx) v = some v) : CallH P f args ⟨t, [], 0⟩ nx (fun v H' nx' => V v ∧ H' = ⟨t, [], 0⟩ ∧ nx' = nx) := by
  intro hW
  obtain ⟨hb, h⟩ := hc hW
  refine ⟨hb, fun m W xs hxs hR ht => (h m W xs hxs hR ht).mono ?_⟩
  rintro e W' ⟨v, v', H', nx', m', rfl, J, hv', hV⟩
  have hfr : ∀ b, b < W.heap.size → W'.heap[b]? = W.heap[b]? := fun b hb => J.frame b hb (by
    rintro ⟨i, oi, ki, _, hg, hw, _⟩
    rw [hget] at hg
    have := Tr.allB_get hro hg
    simp only [Bool.not_eq_true'] at this
    rw [hw] at this; cases this)
  refine ⟨v, v', _, nx, m, rfl, ?_, (ren_iff (σ := upS nx) (fun n p o h => by
    simp only [upS, Bool.cond_eq_ite, Nat.blt_eq] at h
    split at h <;> cases h
    rename_i hlt
    rw [J.eq n hlt]
    show m n = (m n).map (shiftB 0)
    cases h : m n with
    | none => rfl
    | some k => rfl) _ _ (hn v hV) _).1 hv', hV, rfl, rfl⟩
  exact ⟨hR, fun _ _ => rfl, fun n k h1 h2 => by (rw [ht n h1] at h2; cases h2), ht, rel_frame hR hfr, fun b hb _ => hfr b hb, J.os, J.tape, J.output, J.size, .refl hW⟩
end
end Abs
end Go.Proofs.YtanmiffgmiikfaaGreat

namespace Go.Proofs.YtanmiffgmiikfaaGreat
namespace Abs
open Go.RowKit
section
variable {P : Program}


end
section
variable {P : Program} {B : Ent} {rec : Task → Option Res} {man set : List Nat} {n : Nat} {rd : Option Nat} {ops : Array Oper} {l : List Oper} {E : Env} {ds : List ADef} {H : Hp} {nx : Nat} {c : Code}
def GO0 (P : Program) (rec : Task → Option Res) (man set : List Nat) (n : Nat) (ops : Array Oper) (l : List Oper) (E : Env) (ds : List ADef) (H : Hp) (nx : Nat) (Q : Qo) : Prop :=
  ∀ T, T.get = E → ∃ T' H' nx', ops1 P rec n none ops l ⟨T, ds, H, nx⟩ = some ⟨T', ds, H', nx'⟩ ∧ Q T'.get ds H' nx'
structure GO (P : Program) (rec : Task → Option Res) (man set : List Nat) (n : Nat) (ops : Array Oper) (l : List Oper) (E : Env) (ds : List ADef) (H : Hp) (nx : Nat) (Q : Qo) : Prop where
  run : GO0 P rec man set n ops l E ds H nx Q
variable {Q : Qo}


structure PureRec (rec : Task → Option Res) (tt : Tr AObj) : Prop where
  code : ∀ n r c s, rec (.code n r c s) = none
  pure : ∀ g args w nx v H' nx', rec (.call g args ⟨tt, [], w⟩ nx) = some (.call v H' nx') → H' = ⟨tt, [], w⟩ ∧ nx' = nx ∧ ∀ w', rec (.call g args ⟨tt, [], w'⟩ nx) = some (.call v ⟨tt, [], w'⟩ nx)
structure Fct where
  g : FuncId
  args : List AV
  v : AV
variable {S : Ms}
end
end Abs
end Go.Proofs.YtanmiffgmiikfaaGreat
