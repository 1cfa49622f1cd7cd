/- The evaluator: an operation; operations in their order. -/
import Derived.Test.YthiifonejoejpaaAb11
import Derived.OrdersIn
namespace Go.Proofs.Ythiifonejoejpaa
namespace Abs
open Go.RowKit
variable {P : Program} {m : NM}

theorem callV_inv {rec : Task → Option Res} {f : AV} {vs : List AV} {H H' : Hp} {nx nx' : Nat} {v : AV} (h : callV rec f vs H nx = some (v, H', nx')) :
    (∃ g first cap, f = .fn g first cap ∧ rec (.call g (first ++ vs ++ cap) H nx) = some (.call v H' nx')) ∨ (∃ l, f = .yield l ∧ yieldA rec l vs H nx = some (v, H', nx')) := by
  unfold callV at h
  cases f <;> simp only at h <;> try (cases h; done)
  · rename_i g first cap
    left
    refine ⟨g, first, cap, rfl, ?_⟩
    split at h
    · rename_i e; simp only [Option.some.injEq, Prod.mk.injEq] at h; obtain ⟨rfl, rfl, rfl⟩ := h; exact e
    · cases h
  · exact .inr ⟨_, rfl, h⟩

theorem heapop_ok {rec : Task → Option Res} (hrec : RecOk P rec) {T : Tr AV} {o : Oper} {v : AV} {H H' : Hp} {nx nx' : Nat} (hW : Wf H nx) (h : heapA P rec T H nx o.op = some (v, H', nx')) (hnd : ∀ c, o.op ≠ .defer c) :
    AP H nx H' nx' ∧ ∀ m W (a : Act) (F : Fence) (r : Option Nat), Ev m T a.eval o.op.operands → Rel m H W → Fresh m nx nx' → FR m r F → OpWp P m H nx W F o a v H' nx' := by
  by_cases hc : ∃ f args ts, o.op = .call { callee := .value f, args := args, argTypes := ts }
  · obtain ⟨f, args, ts, ho⟩ := hc
    rw [ho] at h
    simp only [heapA] at h
    cases hf : evalO T f with
    | none => simp [hf] at h
    | some fv =>
      cases hvs : evalL T args.toList with
      | none => simp [hf, hvs] at h
      | some vs =>
        simp only [hf, hvs] at h
        have hargs : ∀ (m : NM) (a : Act), Ev m T a.eval o.op.operands → VR m fv (a.eval f) ∧ VRs m vs (args.map a.eval).toList := fun m a hev => by
          rw [ho] at hev
          exact ⟨hev f (by simp [Op.operands, Call.operands]) _ hf, by
            rw [Array.toList_map]; exact evalL_ok (fun y hy v hv => hev y (by simp [Op.operands, Call.operands]; right; simpa using hy) v hv) hvs⟩
        rcases callV_inv h with ⟨g, first, cap, rfl, hcall⟩ | ⟨l, rfl, hy⟩
        · obtain ⟨hb, ap, hwp⟩ := hrec _ _ hcall hW
          refine ⟨ap, fun m W a F r hev hR hF hfr next Q hn => ?_⟩
          obtain ⟨h1, h2⟩ := hargs m a hev
          simp only [VR] at h1
          obtain ⟨xs, ys, e1, e2, e3⟩ := h1
          have hx : (execOp a.eval o).run P W = .ok (.enter g (xs ++ args.map a.eval ++ ys)) W := by
            simp only [execOp, ho, resolve, e1, Deferred.ofValue, Sem.run_bind, Sem.run_pure, Result.andThen_ok, invoke]
            exact hb.call _ _
          refine wp_call hfr hnd hx (hwp m W _ ?_ hR hF) ?_
          · simp only [Array.toList_append]; exact (e2.append h2).append e3
          · rintro e W' ⟨v', m', rfl, p, hv⟩
            exact ⟨v', rfl, hn v' m' W' p hv⟩
        · obtain ⟨ap, hwp⟩ := yield_ok hrec hW hy
          refine ⟨ap, fun m W a F r hev hR hF hfr next Q hn => ?_⟩
          obtain ⟨h1, h2⟩ := hargs m a hev
          simp only [VR] at h1
          obtain ⟨k, hk, e1⟩ := h1
          refine hwp m W (args.map a.eval) k F r o a h2 hk hR hF hfr hnd (fun w => ?_) next Q hn
          simp [execOp, ho, resolve, e1, Deferred.ofValue, invoke]
  · have hnc : ∀ f args ts, o.op ≠ .call { callee := .value f, args := args, argTypes := ts } := fun f args ts e => hc ⟨f, args, ts, e⟩
    refine ⟨heap_ap hW h hnc, fun m W a F r hev hR hF hfr next Q hn => ?_⟩
    obtain ⟨x, v', m', W', h1, h2, h3, h4, h5⟩ := heap_ok hev hR hW hF h hnc
    exact wp_ends hfr hnd h1 h2 (hn v' m' W' h4 h5)
theorem pureop_ok {T : Tr AV} {o : Oper} {v : AV} (h : pureA P T o.op = some v) (m : NM) (W : World) (a : Act) (F : Fence) (r : Option Nat) (hev : Ev m T a.eval o.op.operands) (hfr : FR m r F) {next : Act → World → Prop} {Q : Exit → Act → World → Prop}
    (hn : ∀ v', VR m v v' → next (a.put o.dst v') W) : o.wpIn F 0 P a W next Q := by
  obtain ⟨v', h1, h2⟩ := pure_ok hev h
  have hnd : ∀ c, o.op ≠ .defer c := fun c e => by rw [e] at h; simp [pureA] at h
  exact wp_ends hfr hnd (h2 W) (.inl rfl) (hn v' h1)

theorem put_tr {n : Nat} {dst : Option Tmp} {v : AV} {v' : Value} {T T' : Tr AV} {a : Act} (h : putA n dst v T = some T') (hT : TR m n T a.tmps) (hv : VR m v v') : TR m n T' (a.put dst v').tmps := by
  unfold putA at h
  cases dst with
  | none => cases h; exact hT
  | some d =>
    simp only [Bool.cond_eq_ite, Nat.blt_eq] at h
    split at h
    · rename_i hlt
      cases h
      have hs := hT.1
      refine ⟨by simp [Act.put, hs], fun i => ?_⟩
      have hi := hT.2 i
      rw [Tr.get_set]
      by_cases e : i = d
      · subst e; simp [Act.put, hs, hlt]; exact hv
      · rw [if_neg e]
        simpa [Act.put, Array.getD_eq_getD_getElem?, Array.getElem?_setIfInBounds_ne (Ne.symm e)] using hi
    · cases h
theorem wanted_ok {ops : Array Oper} {o : Oper} {T : Tr AV} {tmps : Array Value} (h : ∀ g w t, o.guard = some (g, w) → (ops[g]?).bind (·.dst) = some t → VR m ((T.get t).getD .undef) (tmps.getD t undef)) :
    wantedA ops T o = Region.wanted o (yielded ops tmps) := by
  unfold wantedA Region.wanted
  cases hg : o.guard with
  | none => rfl
  | some p =>
    obtain ⟨g, w⟩ := p
    have : yieldedA ops T g = yielded ops tmps g := by
      unfold yieldedA yielded
      cases hd : (ops[g]?).bind (·.dst) with
      | none => rfl
      | some t =>
        have hv := h g w t hg hd
        simp only [Option.bind_some]
        cases hT : T.get t with
        | none =>
          rw [hT] at hv
          have := VR.undef_iff.1 hv
          cases hx : tmps[t]? with
          | none => rfl
          | some x =>
            rw [Array.getD_eq_getD_getElem?, hx] at this
            simp at this; subst this; rfl
        | some av =>
          rw [hT] at hv
          simp only [Option.getD_some] at hv
          cases hx : tmps[t]? with
          | none =>
            rw [Array.getD_eq_getD_getElem?, hx] at hv
            simp only [Option.getD_none] at hv
            cases av <;> simp only [VR] at hv <;> first | rfl | (simp [undef] at hv)
          | some x =>
            rw [Array.getD_eq_getD_getElem?, hx] at hv
            simp only [Option.getD_some] at hv
            cases av <;> simp only [VR] at hv
            all_goals first
              | (subst hv; rfl)
              | (obtain ⟨k, hk, rfl⟩ := hv; rfl)
              | (obtain ⟨k, o, c, hk, rfl, _⟩ := hv; rfl)
              | (obtain ⟨k, o, rfl, _⟩ := hv; rfl)
              | (obtain ⟨k, rfl, _⟩ := hv; rfl)
    simp only [this]
    cases yielded ops tmps g with
    | none => rfl
    | some b => cases b <;> cases w <;> rfl
theorem ev_of {n : Nat} {T : Tr AV} {a : Act} (h : TR m n T a.tmps) (xs : Array Operand) : Ev m T a.eval xs := fun x _ v hv => evalO_ok (fun t e => h.2 t) hv

theorem op1_ok {rec : Task → Option Res} (hrec : RecOk P rec) {n : Nat} {round : Option Nat} {ops : Array Oper} {o : Oper} {s s' : St} (hW : Wf s.heap s.next) (h : op1 P rec n round ops o s = some s') :
    AP s.heap s.next s'.heap s'.next ∧ ∀ m W a F, SR m n s a → Rel m s.heap W → Fresh m s.next s'.next → FR m round F → ∀ (next : Act → World → Prop) (Q : Exit → Act → World → Prop),
      (∀ a' m' W', Post m s.heap s.next W m' s'.heap s'.next W' → SR m' n s' a' → next a' W') →
      (if Region.wanted o (yielded ops a.tmps) then o.wpIn F 0 P a W next Q else (∀ f, o.about P W a.eval = some f → F.fn f) ∧ next (a.put o.dst undef) W) := by
  have hdf : ∀ (a : Act) (v : Value), (a.put o.dst v).defers = a.defers := fun a v => by cases h : o.dst <;> simp [Act.put, h]
  have hwant : ∀ (m : NM) (a : Act), SR m n s a → wantedA ops s.tmps o = Region.wanted o (yielded ops a.tmps) := fun m a sr => wanted_ok (fun g w t _ _ => sr.tmps.2 t)
  unfold op1 at h
  rw [Bool.cond_eq_ite] at h
  split at h
  · rename_i hw
    rw [Bool.cond_eq_ite] at h
    split at h
    · rw [Bool.cond_eq_ite] at h
      split at h
      · -- defer
        rename_i hdef
        cases hr : round with
        | some l => simp [hr] at h
        | none =>
          cases hd : deferA s.tmps o.op with
          | none => simp [hr, hd] at h
          | some d =>
            cases hp : putA n o.dst .undef s.tmps with
            | none => simp [hr, hd, hp] at h
            | some T =>
              simp [hr, hd, hp] at h
              subst h
              refine ⟨.refl hW, fun m W a F sr hR hF hfr next Q hn => ?_⟩
              rw [if_pos ((hwant m a sr).symm.trans hw)]
              cases hfr
              refine ⟨fun _ _ => trivial, ?_⟩
              unfold deferA at hd
              split at hd
              · rename_i f args ts ho
                cases hf : evalO s.tmps f with
                | none => simp [hf] at hd
                | some fv =>
                  cases hvs : evalL s.tmps args.toList with
                  | none => cases fv <;> simp [hf, hvs] at hd
                  | some vs =>
                    cases fv <;> simp [hf, hvs] at hd
                    subst hd
                    rename_i g first cap
                    have hev := ev_of sr.tmps o.op.operands
                    rw [ho] at hev
                    have h1 := hev f (by simp [Op.operands, Call.operands]) _ hf
                    have h2 := evalL_ok (fun y hy v hv => hev y (by simp [Op.operands, Call.operands]; right; simpa using hy) v hv) hvs
                    simp only [VR] at h1
                    obtain ⟨xs, ys, e1, e2, e3⟩ := h1
                    have hrun : (o.semAt Fence.wide.round a.eval).run P W = .ok (.defer { target := .fn (.func g) ys, args := xs ++ args.map a.eval }) W := by
                      show (Oper.semAt none a.eval o).run P W = _
                      rw [Oper.semAt_none]
                      simp [execOp, ho, resolve, e1, Deferred.ofValue]
                    rw [hrun]
                    refine hn _ m W (.refl hR) ⟨put_tr (a := { a with defers := _ :: a.defers }) hp sr.tmps (VR.undef_iff.2 rfl), ?_⟩
                    rw [hdf]
                    exact ⟨_, _, _, rfl, e3, by simp only [Array.toList_append, Array.toList_map]; exact e2.append h2, sr.defers⟩
              · cases hd
      · rename_i hnd
        have hnd' : ∀ c, o.op ≠ .defer c := fun c e => hnd (by rw [e]; rfl)
        cases hh : heapA P rec s.tmps s.heap s.next o.op with
        | none => simp [hh, stepSt] at h
        | some p =>
          obtain ⟨v, H', nx'⟩ := p
          simp only [hh, stepSt] at h
          cases hp : putA n o.dst v s.tmps with
          | none => simp [hp] at h
          | some T =>
            simp [hp] at h; subst h
            obtain ⟨ap, hwp⟩ := heapop_ok hrec hW hh hnd'
            refine ⟨ap, fun m W a F sr hR hF hfr next Q hn => ?_⟩
            rw [if_pos ((hwant m a sr).symm.trans hw)]
            refine hwp m W a F round (ev_of sr.tmps _) hR hF hfr next Q (fun v' m' W' p hv => hn _ m' W' p ⟨put_tr hp (sr.tmps.mono p.le) hv, ?_⟩)
            rw [hdf]; exact sr.defers.mono p.le
    · cases hh : pureA P s.tmps o.op with
      | none => simp [hh, stepSt] at h
      | some v =>
        simp only [hh, stepSt, Option.map_some] at h
        cases hp : putA n o.dst v s.tmps with
        | none => simp [hp] at h
        | some T =>
          simp [hp] at h; subst h
          refine ⟨.refl hW, fun m W a F sr hR hF hfr next Q hn => ?_⟩
          rw [if_pos ((hwant m a sr).symm.trans hw)]
          refine pureop_ok hh m W a F round (ev_of sr.tmps _) hfr (fun v' hv => hn _ m W (.refl hR) ⟨put_tr hp sr.tmps hv, ?_⟩)
          rw [hdf]; exact sr.defers
  · rename_i hw
    simp only [stepSt] at h
    cases hp : putA n o.dst .undef s.tmps with
    | none => simp [hp] at h
    | some T =>
      simp [hp] at h; subst h
      refine ⟨.refl hW, fun m W a F sr hR hF hfr next Q hn => ?_⟩
      rw [if_neg (by rw [← hwant m a sr]; exact hw)]
      refine ⟨fun f _ => hfr.fn f, hn _ m W (.refl hR) ⟨put_tr hp sr.tmps (VR.undef_iff.2 rfl), ?_⟩⟩
      rw [hdf]; exact sr.defers

theorem ops1_ok {rec : Task → Option Res} (hrec : RecOk P rec) {n : Nat} {round : Option Nat} {ops : Array Oper} : ∀ (os : List Oper) (j : Nat) (s s' : St), ops.toList.drop j = os → Wf s.heap s.next → ops1 P rec n round ops os s = some s' →
    AP s.heap s.next s'.heap s'.next ∧ ∀ m W a F, SR m n s a → Rel m s.heap W → Fresh m s.next s'.next → FR m round F → ∀ (Q : Exit → Act → World → Prop),
      (∀ a' m' W', Post m s.heap s.next W m' s'.heap s'.next W' → SR m' n s' a' → Q .normal a' W') → wpOpsIn F 0 P ops Q (List.range' j os.length) a W := by
  intro os
  induction os with
  | nil =>
    intro j s s' _ hW h
    simp [ops1] at h; subst h
    exact ⟨.refl hW, fun m W a F sr hR _ _ Q hn => by simpa [wpOpsIn] using hn a m W (.refl hR) sr⟩
  | cons o os ih =>
    intro j s s' hd hW h
    simp only [ops1] at h
    cases h1 : op1 P rec n round ops o s with
    | none => simp [h1] at h
    | some s1 =>
      simp only [h1] at h
      obtain ⟨ap1, w1⟩ := op1_ok hrec hW h1
      have hoj : ops[j]? = some o := by
        have : (ops.toList.drop j)[0]? = some o := by rw [hd]; rfl
        rw [List.getElem?_drop] at this
        simpa using this
      have hd' : ops.toList.drop (j + 1) = os := by
        have : (ops.toList.drop j).drop 1 = os := by rw [hd]; rfl
        rw [List.drop_drop] at this
        exact this
      obtain ⟨ap2, w2⟩ := ih (j + 1) s1 s' hd' ap1.wf h
      refine ⟨ap1.trans ap2, fun m W a F sr hR hF hfr Q hn => ?_⟩
      rw [List.length_cons, List.range'_succ, wpOpsIn_cons]
      unfold wpOpIn
      simp only [hoj]
      refine w1 m W a F sr hR (hF.left ap2.le) hfr _ Q (fun a' m' W' p sr' => ?_)
      exact w2 m' W' a' F sr' p.rel (p.fresh hF ap1.le) (hfr.mono p.le) Q (fun a2 m2 W2 p2 sr2 => hn a2 m2 W2 (p.trans ap1 ap2 (hF.left ap2.le) p2) sr2)
end Abs
end Go.Proofs.Ythiifonejoejpaa
