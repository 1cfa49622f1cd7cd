/- Ranges over functions, and calls of yield, as goals. -/
import Derived.Test.YtekmmeikkafpmaaGreatC4
set_option linter.unusedSimpArgs false
set_option linter.unusedVariables false
namespace Go.Proofs.YtekmmeikkafpmaaGreat
namespace Abs
open Go.RowKit
section
variable {P : Program} {B : Ent} {man : List Nat} {n : Nat} {rd : Option Nat} {ops : Array Oper} {ds : List ADef} {Q : Qo} {c : Code} {E : Env} {H : Hp} {nx : Nat}
variable {S : Ms}
theorem tc_range2 {Q : Qc} {T1 : Tr AV} (hT1 : T1.get = E) {g : FuncId} {first cap : List AV} {R : AV → Hp → Nat → Prop} (h : (kind c, rangeE E c) = (7, some (.fn g first cap)))
    (hc : CallIn P B g (first ++ [.yield (nx + 1)] ++ cap) ((H.lay nx (.dfr true)).lay (nx + 1) (.loop ⟨.ready, none, n, T1, rangePs c, cB c, cA c, nx⟩)) (nx + 2) R)
    (k : ∀ v H3 nx3, R v H3 nx3 → ∃ L3, H3.get (nx + 1) = some (.loop L3) ∧ L3.state ≠ .busy ∧ (match L3.pending with
      | none => Q .normal (E) (.mark nx :: ds) (H3.put (nx + 1) (.loop { L3 with state := .exhausted })) nx3
      | some c' => TC P B n none c' (E) (.mark nx :: ds) (H3.put (nx + 1) (.loop { L3 with state := .exhausted })) nx3 Q)) : TC P B n none c E ds H nx Q := by
  refine ⟨?_⟩
  intro hc0 T hT F m W a A
  have hTr : TR m n T1 a.tmps := ⟨A.tmps.1, fun t => by rw [hT1, ← hT]; exact A.tmps.2 t⟩
  cases c <;> simp only [kind, rangeE, Prod.mk.injEq] at h <;> try (exact absurd h.1 (by decide))
  · rename_i ops d; cases d <;> simp [kind] at h
  rename_i fo ps assign body
  simp only [codeOk, Bool.and_eq_true] at hc0
  simp only [rangePs, cA, cB] at hc
  have hv := h.2
  rw [← hT1, evE_get] at hv
  obtain ⟨xs, ys, he, hxs, hys⟩ : ∃ xs ys : Array Value, a.eval fo = .func (.func g) xs ys ∧ VRs m first xs.toList ∧ VRs m cap ys.toList := by
    have := ev_of hTr #[fo] fo (by simp) _ hv
    simpa only [VR] using this
  have hfr : F = Fence.wide := A.fr
  subst hfr
  refine wpC_imp (Q' := Rx B n none Fence.wide Q) ?_ (by simp)
  refine wpIn_rangeFunc fun fn _ => ?_
  have hm : m nx = none := A.inn.top nx (Nat.le_refl _)
  have hle := le_upd (k := ⟨W.heap.size, 0, 0⟩) hm
  obtain ⟨ap0, p0⟩ := lay_ok (W' := W.alloc (.deferred (some []))) (C := 0) (ob := .dfr true) (o := .deferred (some [])) A.inn.rel A.inn.ap.wf hm rfl rfl rfl rfl rfl
  have I0 := A.inn.step ap0 p0
  have hm1 := I0.top _ (Nat.le_refl (nx + 1))
  have hle1 := le_upd (k := ⟨(W.alloc (.deferred (some []))).heap.size, 0, 0⟩) hm1
  have hob : ObOk (.loop ⟨.ready, none, n, T1, ps.toList, assign, body, nx⟩) := ⟨hc0.1, hc0.2, fun c h => by cases h⟩
  obtain ⟨ap1, p1⟩ := lay_ok (W' := (W.alloc (.deferred (some []))).alloc (.loop { state := .ready, pending := none, fn, tmps := a.tmps, params := ps, assign, body, defers := W.heap.size })) (C := 0) I0.rel I0.ap.wf hm1 rfl rfl rfl rfl
    (ob := .loop ⟨.ready, none, n, T1, ps.toList, assign, body, nx⟩) ⟨_, rfl, rfl, rfl, rfl, rfl, rfl, (hTr.mono hle).mono hle1, ⟨_, hle1 _ _ upd_same, rfl⟩⟩ hob
  have I1 := I0.step ap1 p1
  obtain ⟨hbody, hcall⟩ := hc I1.ap.wf
  have hsz : (W.alloc (.deferred (some []))).heap.size = W.heap.size + 1 := World.size_alloc _ _
  rw [hsz] at hle1 p1 I1
  have hcalls := hcall _ _ (xs ++ #[.func (.yield (W.heap.size + 1)) #[] #[]] ++ ys) I1 (by
    simp only [Array.toList_append]
    exact (((hxs.mono hle).mono hle1).append (.cons (by simp only [VR]; exact ⟨_, upd_same, rfl⟩) .nil)).append ((hys.mono hle).mono hle1))
  have henter := run_enterLoop_outer (P := P) (w := W) fn a.tmps ps assign body
  generalize hX : ((W.alloc (.deferred (some []))).alloc (.loop { state := .ready, pending := none, fn, tmps := a.tmps, params := ps, assign, body, defers := W.heap.size })) = X at henter hcalls
  refine ⟨W.heap.size + 1, [{ target := .collected W.heap.size, args := #[] }], X, { target := .fn (.func g) ys, args := xs ++ #[.func (.yield (W.heap.size + 1)) #[] #[]] }, X, g, xs ++ #[.func (.yield (W.heap.size + 1)) #[] #[]] ++ ys, X, henter, ?_, fun _ _ => trivial, ?_, (fun h => by cases h), callsIn_wide.2 ?_⟩
  · simp only [resolve, he]; simp [Deferred.ofValue, Act.eval]
  · simp only [invoke]; exact hbody.call _ _
  · refine hcalls.mono ?_
    rintro en W3 ⟨v, v', H3, nx3, m3, rfl, hle3, I3, _, hR3⟩
    obtain ⟨L3, hg3, hb3, hk3⟩ := k v H3 nx3 hR3
    have hkl : m3 (nx + 1) = some ⟨W.heap.size + 1, 0, 0⟩ := hle3 _ _ upd_same
    have hkd : m3 nx = some ⟨W.heap.size, 0, 0⟩ := hle3 _ _ (hle1 _ _ upd_same)
    obtain ⟨r, hb, r0, hr0, e1, e2, e3, e4, e5, e6, e7⟩ := loop_at I3.rel hg3 hkl
    cases hr0
    have hok := I3.ap.wf.ok _ _ (Hp.get_some.1 hg3).2
    obtain ⟨ap4, p4⟩ := loop_put (L' := { L3 with state := .exhausted }) (r' := { r with state := .exhausted }) I3.rel I3.ap.wf hg3 hkl hb ⟨_, rfl, rfl, e2, e3, e4, e5, e6, e7⟩ hok
    have hall : Le m m3 := hle.trans (hle1.trans hle3)
    refine ⟨r.pending, _, run_endLoop hb (by rw [e1]; exact hb3), ?_⟩
    have S4 : Stt B n none Fence.wide (T1) (.mark nx :: ds) (H3.put (nx + 1) (.loop { L3 with state := .exhausted })) nx3 m3 (W3.putObj (W.heap.size + 1) (.loop { r with state := .exhausted })) ⟨a.tmps, [{ target := .collected W.heap.size, args := #[] }] ++ a.defers⟩ :=
      ⟨I3.step ap4 p4, hTr.mono hall, ⟨_, _, hkd, rfl, A.defers.mono hall⟩, rfl⟩
    have key : ∀ W4 a4, (match L3.pending with | none => Rx B n none Fence.wide Q .normal a4 W4 | some c => c.wpIn Fence.wide 0 P (Rx B n none Fence.wide Q) a4 W4) → (match r.pending with | none => Rx B n none Fence.wide Q .normal a4 W4 | some c => c.wpIn Fence.wide 0 P (Rx B n none Fence.wide Q) a4 W4) := fun W4 a4 h => by
      have e : r.pending = L3.pending := by first | exact e2 | exact e2.symm
      rw [e]; exact h
    refine key _ _ ?_
    generalize (W3.putObj (W.heap.size + 1) (.loop { r with state := .exhausted })) = W4 at S4 ⊢
    generalize (H3.put (nx + 1) (.loop { L3 with state := .exhausted })) = H4 at S4 hk3
    cases hp : L3.pending with
    | none =>
      rw [hp] at hk3
      exact ⟨.normal, T1, _, _, nx3, m3, rfl, S4, by rw [hT1]; exact hk3⟩
    | some c' =>
      rw [hp] at hk3
      exact wpC_wpIn (hk3.run (hok.2.2 c' hp) T1 hT1 Fence.wide m3 _ _ S4)
end
end Abs
end Go.Proofs.YtekmmeikkafpmaaGreat

namespace Go.Proofs.YtekmmeikkafpmaaGreat
namespace Abs
open Go.RowKit
section
variable {P : Program}
theorem rel_frame {m : NM} {H : Hp} {W W' : World} (h : Rel m H W) (hf : ∀ b, b < W.heap.size → W'.heap[b]? = W.heap[b]?) : Rel m H W' := by
  refine ⟨fun n ob hn => ?_, h.inj⟩
  obtain ⟨k, o, h1, h2, h3⟩ := h.obj n ob hn
  exact ⟨k, o, h1, (hf k.b (h.lt hn h1)).trans h2, h3⟩
def upS (nx : Nat) : Sg := fun n => cond (n.blt nx) (some (n, 0)) none
theorem call_forget {f : FuncId} {args : List AV} {t : Tr AObj} {nx : Nat} {V : AV → Prop} (hc : CallH P f args ⟨t, [], 0⟩ nx (fun v _ _ => V v)) (hro : (t.allB fun o => !o.writable) = true)
    (hn : ∀ v, V v → ren (upS nx) v = some v) : CallH P f args ⟨t, [], 0⟩ nx (fun v H' nx' => V v ∧ H' = ⟨t, [], 0⟩ ∧ nx' = nx) := by
  intro hW
  obtain ⟨hb, h⟩ := hc hW
  refine ⟨hb, fun m W xs hxs hR ht => (h m W xs hxs hR ht).mono ?_⟩
  rintro e W' ⟨v, v', H', nx', m', rfl, J, hv', hV⟩
  have hfr : ∀ b, b < W.heap.size → W'.heap[b]? = W.heap[b]? := fun b hb => J.frame b hb (by
    rintro ⟨i, oi, ki, _, hg, hw, _⟩
    rw [hget] at hg
    have := Tr.allB_get hro hg
    simp only [Bool.not_eq_true'] at this
    rw [hw] at this; cases this)
  refine ⟨v, v', _, nx, m, rfl, ?_, (ren_iff (σ := upS nx) (fun n p o h => by
    simp only [upS, Bool.cond_eq_ite, Nat.blt_eq] at h
    split at h <;> cases h
    rename_i hlt
    rw [J.eq n hlt]
    show m n = (m n).map (shiftB 0)
    cases h : m n with
    | none => rfl
    | some k => rfl) _ _ (hn v hV) _).1 hv', hV, rfl, rfl⟩
  exact ⟨hR, fun _ _ => rfl, fun n k h1 h2 => by (rw [ht n h1] at h2; cases h2), ht, rel_frame hR hfr, fun b hb _ => hfr b hb, J.os, J.tape, J.output, J.size, .refl hW⟩
end
end Abs
end Go.Proofs.YtekmmeikkafpmaaGreat

namespace Go.Proofs.YtekmmeikkafpmaaGreat
namespace Abs
open Go.RowKit
section
variable {P : Program}


end
section
variable {P : Program} {B : Ent} {rec : Task → Option Res} {man set : List Nat} {n : Nat} {rd : Option Nat} {ops : Array Oper} {l : List Oper} {E : Env} {ds : List ADef} {H : Hp} {nx : Nat} {c : Code}
def GO0 (P : Program) (rec : Task → Option Res) (man set : List Nat) (n : Nat) (ops : Array Oper) (l : List Oper) (E : Env) (ds : List ADef) (H : Hp) (nx : Nat) (Q : Qo) : Prop :=
  ∀ T, T.get = E → ∃ T' H' nx', ops1 P rec n none ops l ⟨T, ds, H, nx⟩ = some ⟨T', ds, H', nx'⟩ ∧ Q T'.get ds H' nx'
structure GO (P : Program) (rec : Task → Option Res) (man set : List Nat) (n : Nat) (ops : Array Oper) (l : List Oper) (E : Env) (ds : List ADef) (H : Hp) (nx : Nat) (Q : Qo) : Prop where
  run : GO0 P rec man set n ops l E ds H nx Q
variable {Q : Qo}


def isCallV : Op → Bool
  | .call { callee := .value _, .. } => true
  | _ => false
structure PureRec (rec : Task → Option Res) (tt : Tr AObj) : Prop where
  code : ∀ n r c s, rec (.code n r c s) = none
  pure : ∀ g args w nx v H' nx', rec (.call g args ⟨tt, [], w⟩ nx) = some (.call v H' nx') → H' = ⟨tt, [], w⟩ ∧ nx' = nx ∧ ∀ w', rec (.call g args ⟨tt, [], w'⟩ nx) = some (.call v ⟨tt, [], w'⟩ nx)
structure Fct where
  g : FuncId
  args : List AV
  v : AV
variable {S : Ms}
end
end Abs
end Go.Proofs.YtekmmeikkafpmaaGreat
