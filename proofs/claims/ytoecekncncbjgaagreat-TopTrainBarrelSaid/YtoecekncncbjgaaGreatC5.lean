/- Ranges over functions, and calls of yield, as goals. -/
import Derived.Test.YtoecekncncbjgaaGreatC4
set_option linter.unusedSimpArgs false
set_option linter.unusedVariables false
namespace Go.Proofs.YtoecekncncbjgaaGreat
namespace Abs
open Go.RowKit
section
variable {P : Program} {B : Ent} {man : List Nat} {n : Nat} {rd : Option Nat} {ops : Array Oper} {ds : List ADef} {Q : Qo} {c : Code} {E : Env} {H : Hp} {nx : Nat}
/-- What holds since a call began that began in the midst of another one. -/
theorem inn_trans {m m' : NM} {H' : Hp} {nx' : Nat} {W W' : World} (I : Inn B m H nx W) (J : Inn ⟨m, H, nx, W⟩ m' H' nx' W') : Le m m' ∧ Inn B m' H' nx' W' := by
  have hle : Le m m' := by
    intro k b hk
    have : k < nx := by
      rcases Nat.lt_or_ge k nx with h | h
      · exact h
      · rw [I.top k h] at hk; cases hk
    exact J.le k b this hk
  refine ⟨hle, I.step J.ap ⟨hle, fun k b hk => ?_, J.rel, J.frame, J.os, J.tape, J.output, J.size⟩⟩
  rcases Nat.lt_or_ge k nx with h | h
  · left
    rw [← hk]; exact (J.eq k h).symm
  · right
    refine ⟨h, ?_, J.new k b h hk⟩
    rcases Nat.lt_or_ge k nx' with h' | h'
    · exact h'
    · rw [J.top k h'] at hk; cases hk
/-- What a round leaves behind: the loop's record, and what yield returns. -/
def endL (L : ALoop) : Ex → ALoop
  | .normal => { L with state := .ready, pending := none }
  | .ret => { L with state := .done, pending := some .ret }
  | .exit i => { L with state := .done, pending := some (.exit i) }
  | .goto t => { L with state := .done, pending := some (.goto t) }
def endB : Ex → Bool
  | .normal => true
  | _ => false
/-- Behind a round. -/
def Qround (l : Nat) (K : AV → Hp → Nat → Prop) : Qc := fun e _ ds H nx => ds = [] ∧ ∃ L, H.get l = some (.loop L) ∧ K (.bool (endB e)) (H.put l (.loop (endL L e))) nx
/-- Behind a round's assignments. -/
def Qassign (P : Program) (B : Ent) (l : Nat) (L0 : ALoop) (K : AV → Hp → Nat → Prop) : Qc := fun e E ds H nx => match e with
  | .normal => ∃ L, H.get l = some (.loop L) ∧ L.state = .ready ∧ TC P B L0.n (some l) L0.body E ds (H.put l (.loop { L with state := .busy })) nx (Qround l K)
  | _ => False
/-- A call of yield: a round, and what it leaves. -/
theorem yield_run {l : Nat} {vs : List AV} {L : ALoop} {T T0 : Tr AV} {m : NM} {W : World} {a : Act} {F : Fence} {o : Oper} {xs : Array Value} {kb : Blk} {K : AV → Hp → Nat → Prop} (A : Stt B n rd F T ds H nx m W a)
    (hgl : H.get l = some (.loop L)) (hbd : bindA L.n L.params vs L.tmps = some T0)
    (k : TC P ⟨m, H, nx, W⟩ L.n (some l) L.assign T0.get [] H nx (Qassign P ⟨m, H, nx, W⟩ l L K))
    (hnd : ∀ c, o.op ≠ .defer c) (hxs : VRs m vs xs.toList) (hk : m l = some kb) (hrun : ∀ w, (execOp a.eval o).run P w = (Instr.yield kb.b xs).run P w) {next : Act → World → Prop} {QQ : Exit → Act → World → Prop}
    (hn : ∀ v v' m' H' nx' W', Le m m' → Inn B m' H' nx' W' → VR m' v v' → K v H' nx' → next (a.put o.dst v') W') : o.wpIn F 0 P a W next QQ := by
  have hok := A.inn.ap.wf.ok l _ (Hp.get_some.1 hgl).2
  obtain ⟨ok1, ok2, _⟩ := hok
  have hlt : l < nx := A.inn.ap.wf.lt hgl
  have hR := A.inn.rel
  obtain ⟨rr, hb, r0, hr0, e1, e2, e3, e4, e5, e6, e7⟩ := loop_at hR hgl hk
  cases hr0
  obtain ⟨hpl, hTR⟩ := bind_ok (xs := xs.toList) hbd e6 hxs
  rw [Array.length_toList] at hpl
  have hsz : xs.size = rr.params.size := by rw [← hpl, ← e3, Array.length_toList]
  have hy := run_yield (P := P) (args := xs) hb hsz
  have hfold : ((rr.params.zip xs).foldl (fun tmps (t, a) => tmps.setIfInBounds t a) rr.tmps) = ((L.params.zip xs.toList).foldl (fun t p => t.setIfInBounds p.1 p.2) rr.tmps) := by
    rw [← Array.foldl_toList, Array.toList_zip, e3]
  refine ⟨fun f _ => A.fr.fn f, ?_⟩
  rw [Oper.semAt_eq _ _ _ hnd, hrun W, hy, hfold, e4, e5]
  refine ⟨(fun e => by rw [A.fr.depth] at e; cases e), roundIn_of_wpIn (A.fr.fn _) ?_⟩
  rw [A.fr.inRound]
  have I0 := Inn.start hR A.inn.ap.wf A.inn.top
  have hw1 := k.run ok1 T0 rfl (Fence.wide.inRound kb.b) m W ⟨(L.params.zip xs.toList).foldl (fun t p => t.setIfInBounds p.1 p.2) rr.tmps, []⟩ ⟨I0, hTR, rfl, ⟨kb, hk, rfl⟩⟩
  refine wpIn_mono (wpC_wpIn hw1) ?_
  rintro ex a1 W1 ⟨e, T1, ds1, H1, nx1, m1, rfl, A1, q⟩
  cases e <;> simp only [Qassign] at q
  obtain ⟨L1, hg1, hst1, k2⟩ := q
  have hk1 : m1 l = some kb := (A1.inn.eq l hlt).trans hk
  obtain ⟨r1, hb1, or1⟩ := loop_at A1.inn.rel hg1 hk1
  obtain ⟨q1, hq1, f1, f2, f3, f4, f5, f6, f7⟩ := or1
  cases hq1
  have hok1 := A1.inn.ap.wf.ok l _ (Hp.get_some.1 hg1).2
  obtain ⟨apb, pb⟩ := loop_put (L' := { L1 with state := .busy }) (r' := { r1 with state := .busy }) A1.inn.rel A1.inn.ap.wf hg1 hk1 hb1 ⟨_, rfl, rfl, f2, f3, f4, f5, f6, f7⟩ hok1
  refine ⟨_, run_beginRound hb1 (f1.trans hst1), ?_⟩
  have hw2 := k2.run ok2 T1 rfl (Fence.wide.inRound kb.b) m1 _ a1 ⟨A1.inn.step apb pb, A1.tmps, A1.defers, ⟨kb, hk1, rfl⟩⟩
  refine wpIn_mono (wpC_wpIn hw2) ?_
  rintro ex a2 W2 ⟨e, T2, ds2, H2, nx2, m2, rfl, A2, hds, L2, hg2, q⟩
  have hk2 : m2 l = some kb := (A2.inn.eq l hlt).trans hk
  obtain ⟨r2, hb2, q2, hq2, g1, g2, g3, g4, g5, g6, g7⟩ := loop_at A2.inn.rel hg2 hk2
  cases hq2
  have hok2 := A2.inn.ap.wf.ok l _ (Hp.get_some.1 hg2).2
  have hok3 : ObOk (.loop (endL L2 e)) := by
    obtain ⟨g1, g2, g3⟩ := hok2
    cases e <;> exact ⟨g1, g2, fun c hc => by cases hc <;> rfl⟩
  have fin : ∀ (c : Option Code) (st : LoopState), (endL L2 e).state = st → (endL L2 e).pending = c → OR m2 kb (.loop (endL L2 e)) (.loop { r2 with state := st, pending := c }) → ∀ w, (Instr.endRound kb.b c).run P W2 = .ok (.bool (endB e)) w → w = W2.putObj kb.b (.loop { r2 with state := st, pending := c }) → next (a.put o.dst (.bool (endB e))) w := by
    rintro c st h1 h2 hO w hw rfl
    obtain ⟨ap3, p3⟩ := loop_put (L' := endL L2 e) (r' := { r2 with state := st, pending := c }) A2.inn.rel A2.inn.ap.wf hg2 hk2 hb2 hO hok3 (by cases e <;> exact ⟨rfl, rfl⟩)
    obtain ⟨hle, I4⟩ := inn_trans A.inn (A2.inn.step ap3 p3)
    exact hn _ _ _ _ _ _ hle I4 (by simp only [VR]) q
  cases e with
  | normal => exact ⟨_, _, run_endRound none hb2, fin none .ready rfl rfl ⟨_, rfl, rfl, rfl, g3, g4, g5, g6, g7⟩ _ (run_endRound none hb2) rfl⟩
  | ret => exact ⟨_, _, run_endRound (some .ret) hb2, fin (some .ret) .done rfl rfl ⟨_, rfl, rfl, rfl, g3, g4, g5, g6, g7⟩ _ (run_endRound (some .ret) hb2) rfl⟩
  | exit i => exact ⟨_, _, run_endRound (some (.exit i)) hb2, fin (some (.exit i)) .done rfl rfl ⟨_, rfl, rfl, rfl, g3, g4, g5, g6, g7⟩ _ (run_endRound (some (.exit i)) hb2) rfl⟩
  | goto t => exact ⟨_, _, run_endRound (some (.goto t)) hb2, fin (some (.goto t)) .done rfl rfl ⟨_, rfl, rfl, rfl, g3, g4, g5, g6, g7⟩ _ (run_endRound (some (.goto t)) hb2) rfl⟩
theorem to_yield0 (x : Nat) {set : List Nat} {l0 : List Oper} {l : Nat} {vs : List AV} {L : ALoop} {T0 : Tr AV} {H0 : Hp} {nx0 : Nat} (hv : (hdV P n ops (adv P x man n ops set l0 E H nx), (adv P x man n ops set l0 E H nx).H, (adv P x man n ops set l0 E H nx).nx) = (some (.yield l vs), H0, nx0))
    (hgl : H0.get l = some (.loop L)) (hbd : bindA L.n L.params vs L.tmps = some T0)
    (k : ∀ m W, TC P ⟨m, H0, nx0, W⟩ L.n (some l) L.assign T0.get [] H0 nx0 (Qassign P ⟨m, H0, nx0, W⟩ l L (fun v H' nx' => TO P B man set n rd ops (adv P x man n ops set l0 E H nx).rest ((adv P x man n ops set l0 E H nx).after v) ds H' nx' Q))) :
    TO P B man set n rd ops l0 E ds H nx Q := by
  refine to_adv x ?_
  generalize adv P x man n ops set l0 E H nx = M at hv k
  obtain ⟨E1, H1, nx1, l1⟩ := M
  simp only [Prod.mk.injEq, hdV, Mid.E, Mid.H, Mid.nx, Mid.l] at hv
  simp only [Mid.E, Mid.H, Mid.nx, Mid.l]
  obtain ⟨hv, rfl, rfl⟩ := hv
  cases l1 with
  | nil => simp at hv
  | cons o l1 =>
    simp only at hv
    simp only [Mid.rest, Mid.after, Mid.l, Mid.E, List.tail_cons] at k
    cases hl : dstLt n o <;> simp only [hl, cond_true, cond_false] at hv <;> try (cases hv; done)
    split at hv <;> try (cases hv; done)
    rename_i hg
    refine to_cons (fun E2 ds2 H2 nx2 => ∃ v, E2 = E1.setO o.dst v ∧ ds2 = ds ∧ TO P B man set n rd ops l1 (E1.setO o.dst v) ds H2 nx2 Q) ?_ (fun E2 ds2 H2 nx2 ⟨v, e1, e2, r⟩ => by subst e1 e2; exact r)
    intro T hT F m W a A next QQ hn
    subst hT
    obtain ⟨hk, hw⟩ := guardE_ok hg
    have hwant : Region.wanted o (yielded ops a.tmps) = true := by rw [← wanted_ok hk (fun g w t _ _ => A.tmps.2 t)]; exact hw
    rw [if_pos hwant]
    have hev := ev_of A.tmps o.op.operands
    obtain ⟨dst, op, ty, pos, aft, gd⟩ := o
    simp only at hv hev hl ⊢
    cases op <;> simp only [view, evE_get, evLE_get, evPE_get] at hv
    case call c =>
      obtain ⟨callee, args, ats⟩ := c
      cases callee with
      | value f =>
        simp only [view, evE_get, evLE_get] at hv
        split at hv <;> cases hv
        have h1 := ‹evalO T f = some (AV.yield _)›
        have h2 := ‹evalL T args.toList = some _›
        have r1 := hev f (by simp [Op.operands, Call.operands]) _ h1
        have r2 := evalL_ok (m := m) (ρ := a.eval) (fun y hy v hv => hev y (by simp [Op.operands, Call.operands]; right; simpa using hy) v hv) h2
        rw [← Array.toList_map] at r2
        simp only [VR] at r1
        obtain ⟨kb, hkb, e1⟩ := r1
        refine yield_run A hgl hbd (k m W) (by simp) r2 hkb (fun w => ?_) ?_
        · simp [execOp, resolve, e1, Deferred.ofValue, invoke]
        · intro v v' m' H' nx' W' hle I' hv' hK
          obtain ⟨T', h3, h4⟩ := putA_ok hl v T
          exact hn T' ds H' nx' m' W' _ (Stt.put ⟨I', A.tmps.mono hle, A.defers.mono hle, A.fr.mono hle⟩ h3 hv') ⟨v, h4, rfl, hK⟩
      | builtin b => cases b <;> simp only [view] at hv <;> first | (cases hv; done) | (split at hv <;> cases hv)
      | invoke _ _ => simp only [view] at hv; cases hv
    case defer c =>
      obtain ⟨callee, args, ats⟩ := c
      cases callee with
      | value f => simp only [view] at hv; split at hv <;> cases hv
      | _ => simp only [view] at hv; cases hv
    case makeMap t r => cases r <;> simp only [view] at hv <;> cases hv
    all_goals (repeat' first | (cases hv; done) | split at hv)
    all_goals simp only [Bool.cond_eq_ite] at hv
    all_goals (repeat' first | (cases hv; done) | split at hv)
variable {S : Ms}
theorem to_yield (x : Nat) {l : Nat} {vs : List AV} {L : ALoop} {T0 : Tr AV} {H0 : Hp} {nx0 : Nat} (hv : (hdV P n ops (go P x man n ops S).mid, (go P x man n ops S).H, (go P x man n ops S).nx) = (some (.yield l vs), H0, nx0))
    (hgl : H0.get l = some (.loop L)) (hbd : bindA L.n L.params vs L.tmps = some T0)
    (k : ∀ m W, TC P ⟨m, H0, nx0, W⟩ L.n (some l) L.assign T0.get [] H0 nx0 (Qassign P ⟨m, H0, nx0, W⟩ l L (fun v H' nx' => TOm P B man n rd ops ((go P x man n ops S).stepH v H' nx') ds Q))) : TOm P B man n rd ops S ds Q := by
  cases S with
  | mk E H nx l set =>
    obtain ⟨E', H1, nx1, l', e1, e2⟩ := go_eq (P := P) (man := man) (n := n) (ops := ops) x E H nx l set
    rw [e2] at hv k
    change TO P B man set n rd ops l E ds H nx Q
    exact to_yield0 x (by rw [e1]; exact hv) hgl hbd (by rw [e1]; exact k)
/-- A range over a function, outside of rounds. -/
theorem tc_range {Q : Qc} (L : List (Nat × AV)) (hF : Facts E L) {g : FuncId} {first cap : List AV} {R : AV → Hp → Nat → Prop} (h : (kind c, rangeE (lk L noE) c) = (7, some (.fn g first cap)))
    (hc : CallIn P B g (first ++ [.yield (nx + 1)] ++ cap) ((H.lay nx (.dfr true)).lay (nx + 1) (.loop ⟨.ready, none, n, trOf L, rangePs c, cB c, cA c, nx⟩)) (nx + 2) R)
    (k : ∀ v H3 nx3, R v H3 nx3 → ∃ L3, H3.get (nx + 1) = some (.loop L3) ∧ L3.state ≠ .busy ∧ (match L3.pending with
      | none => Q .normal (lk L noE) (.mark nx :: ds) (H3.put (nx + 1) (.loop { L3 with state := .exhausted })) nx3
      | some c' => TC P B n none c' (lk L noE) (.mark nx :: ds) (H3.put (nx + 1) (.loop { L3 with state := .exhausted })) nx3 Q)) : TC P B n none c E ds H nx Q := by
  refine ⟨?_⟩
  intro hc0 T hT F m W a A
  subst hT
  have hTr : TR m n (trOf L) a.tmps := tr_keep A.tmps hF
  cases c <;> simp only [kind, rangeE, Prod.mk.injEq] at h <;> try (exact absurd h.1 (by decide))
  · rename_i ops d; cases d <;> simp [kind] at h
  rename_i fo ps assign body
  simp only [codeOk, Bool.and_eq_true] at hc0
  simp only [rangePs, cA, cB] at hc
  have hv := h.2
  rw [← trOf_get L, evE_get] at hv
  obtain ⟨xs, ys, he, hxs, hys⟩ : ∃ xs ys : Array Value, a.eval fo = .func (.func g) xs ys ∧ VRs m first xs.toList ∧ VRs m cap ys.toList := by
    have := ev_of hTr #[fo] fo (by simp) _ hv
    simpa only [VR] using this
  have hfr : F = Fence.wide := A.fr
  subst hfr
  refine wpC_imp (Q' := Rx B n none Fence.wide Q) ?_ (by simp)
  refine wpIn_rangeFunc fun fn _ => ?_
  have hm : m nx = none := A.inn.top nx (Nat.le_refl _)
  have hle := le_upd (k := ⟨W.heap.size, 0, 0⟩) hm
  obtain ⟨ap0, p0⟩ := lay_ok (W' := W.alloc (.deferred (some []))) (C := 0) (ob := .dfr true) (o := .deferred (some [])) A.inn.rel A.inn.ap.wf hm rfl rfl rfl rfl rfl
  have I0 := A.inn.step ap0 p0
  have hm1 := I0.top _ (Nat.le_refl (nx + 1))
  have hle1 := le_upd (k := ⟨(W.alloc (.deferred (some []))).heap.size, 0, 0⟩) hm1
  have hob : ObOk (.loop ⟨.ready, none, n, trOf L, ps.toList, assign, body, nx⟩) := ⟨hc0.1, hc0.2, fun c h => by cases h⟩
  obtain ⟨ap1, p1⟩ := lay_ok (W' := (W.alloc (.deferred (some []))).alloc (.loop { state := .ready, pending := none, fn, tmps := a.tmps, params := ps, assign, body, defers := W.heap.size })) (C := 0) I0.rel I0.ap.wf hm1 rfl rfl rfl rfl
    (ob := .loop ⟨.ready, none, n, trOf L, ps.toList, assign, body, nx⟩) ⟨_, rfl, rfl, rfl, rfl, rfl, rfl, (hTr.mono hle).mono hle1, ⟨_, hle1 _ _ upd_same, rfl⟩⟩ hob
  have I1 := I0.step ap1 p1
  obtain ⟨hbody, hcall⟩ := hc I1.ap.wf
  have hsz : (W.alloc (.deferred (some []))).heap.size = W.heap.size + 1 := World.size_alloc _ _
  rw [hsz] at hle1 p1 I1
  have hcalls := hcall _ _ (xs ++ #[.func (.yield (W.heap.size + 1)) #[] #[]] ++ ys) I1 (by
    simp only [Array.toList_append]
    exact (((hxs.mono hle).mono hle1).append (.cons (by simp only [VR]; exact ⟨_, upd_same, rfl⟩) .nil)).append ((hys.mono hle).mono hle1))
  have henter := run_enterLoop_outer (P := P) (w := W) fn a.tmps ps assign body
  generalize hX : ((W.alloc (.deferred (some []))).alloc (.loop { state := .ready, pending := none, fn, tmps := a.tmps, params := ps, assign, body, defers := W.heap.size })) = X at henter hcalls
  refine ⟨W.heap.size + 1, [{ target := .collected W.heap.size, args := #[] }], X, { target := .fn (.func g) ys, args := xs ++ #[.func (.yield (W.heap.size + 1)) #[] #[]] }, X, g, xs ++ #[.func (.yield (W.heap.size + 1)) #[] #[]] ++ ys, X, henter, ?_, fun _ _ => trivial, ?_, (fun h => by cases h), callsIn_wide.2 ?_⟩
  · simp only [resolve, he]; simp [Deferred.ofValue, Act.eval]
  · simp only [invoke]; exact hbody.call _ _
  · refine hcalls.mono ?_
    rintro en W3 ⟨v, v', H3, nx3, m3, rfl, hle3, I3, _, hR3⟩
    obtain ⟨L3, hg3, hb3, hk3⟩ := k v H3 nx3 hR3
    have hkl : m3 (nx + 1) = some ⟨W.heap.size + 1, 0, 0⟩ := hle3 _ _ upd_same
    have hkd : m3 nx = some ⟨W.heap.size, 0, 0⟩ := hle3 _ _ (hle1 _ _ upd_same)
    obtain ⟨r, hb, r0, hr0, e1, e2, e3, e4, e5, e6, e7⟩ := loop_at I3.rel hg3 hkl
    cases hr0
    have hok := I3.ap.wf.ok _ _ (Hp.get_some.1 hg3).2
    obtain ⟨ap4, p4⟩ := loop_put (L' := { L3 with state := .exhausted }) (r' := { r with state := .exhausted }) I3.rel I3.ap.wf hg3 hkl hb ⟨_, rfl, rfl, e2, e3, e4, e5, e6, e7⟩ hok
    have hall : Le m m3 := hle.trans (hle1.trans hle3)
    refine ⟨r.pending, _, run_endLoop hb (by rw [e1]; exact hb3), ?_⟩
    have S4 : Stt B n none Fence.wide (trOf L) (.mark nx :: ds) (H3.put (nx + 1) (.loop { L3 with state := .exhausted })) nx3 m3 (W3.putObj (W.heap.size + 1) (.loop { r with state := .exhausted })) ⟨a.tmps, [{ target := .collected W.heap.size, args := #[] }] ++ a.defers⟩ :=
      ⟨I3.step ap4 p4, hTr.mono hall, ⟨_, _, hkd, rfl, A.defers.mono hall⟩, rfl⟩
    have key : ∀ W4 a4, (match L3.pending with | none => Rx B n none Fence.wide Q .normal a4 W4 | some c => c.wpIn Fence.wide 0 P (Rx B n none Fence.wide Q) a4 W4) → (match r.pending with | none => Rx B n none Fence.wide Q .normal a4 W4 | some c => c.wpIn Fence.wide 0 P (Rx B n none Fence.wide Q) a4 W4) := fun W4 a4 h => by
      have e : r.pending = L3.pending := by first | exact e2 | exact e2.symm
      rw [e]; exact h
    refine key _ _ ?_
    generalize (W3.putObj (W.heap.size + 1) (.loop { r with state := .exhausted })) = W4 at S4 ⊢
    generalize (H3.put (nx + 1) (.loop { L3 with state := .exhausted })) = H4 at S4 hk3
    cases hp : L3.pending with
    | none =>
      rw [hp] at hk3
      exact ⟨.normal, trOf L, _, _, nx3, m3, rfl, S4, by rw [trOf_get]; exact hk3⟩
    | some c' =>
      rw [hp] at hk3
      exact wpC_wpIn (hk3.run (hok.2.2 c' hp) (trOf L) (trOf_get L) Fence.wide m3 _ _ S4)
/-- The same, with all slots. -/
theorem tc_range2 {Q : Qc} {T1 : Tr AV} (hT1 : T1.get = E) {g : FuncId} {first cap : List AV} {R : AV → Hp → Nat → Prop} (h : (kind c, rangeE E c) = (7, some (.fn g first cap)))
    (hc : CallIn P B g (first ++ [.yield (nx + 1)] ++ cap) ((H.lay nx (.dfr true)).lay (nx + 1) (.loop ⟨.ready, none, n, T1, rangePs c, cB c, cA c, nx⟩)) (nx + 2) R)
    (k : ∀ v H3 nx3, R v H3 nx3 → ∃ L3, H3.get (nx + 1) = some (.loop L3) ∧ L3.state ≠ .busy ∧ (match L3.pending with
      | none => Q .normal (E) (.mark nx :: ds) (H3.put (nx + 1) (.loop { L3 with state := .exhausted })) nx3
      | some c' => TC P B n none c' (E) (.mark nx :: ds) (H3.put (nx + 1) (.loop { L3 with state := .exhausted })) nx3 Q)) : TC P B n none c E ds H nx Q := by
  refine ⟨?_⟩
  intro hc0 T hT F m W a A
  have hTr : TR m n T1 a.tmps := ⟨A.tmps.1, fun t => by rw [hT1, ← hT]; exact A.tmps.2 t⟩
  cases c <;> simp only [kind, rangeE, Prod.mk.injEq] at h <;> try (exact absurd h.1 (by decide))
  · rename_i ops d; cases d <;> simp [kind] at h
  rename_i fo ps assign body
  simp only [codeOk, Bool.and_eq_true] at hc0
  simp only [rangePs, cA, cB] at hc
  have hv := h.2
  rw [← hT1, evE_get] at hv
  obtain ⟨xs, ys, he, hxs, hys⟩ : ∃ xs ys : Array Value, a.eval fo = .func (.func g) xs ys ∧ VRs m first xs.toList ∧ VRs m cap ys.toList := by
    have := ev_of hTr #[fo] fo (by simp) _ hv
    simpa only [VR] using this
  have hfr : F = Fence.wide := A.fr
  subst hfr
  refine wpC_imp (Q' := Rx B n none Fence.wide Q) ?_ (by simp)
  refine wpIn_rangeFunc fun fn _ => ?_
  have hm : m nx = none := A.inn.top nx (Nat.le_refl _)
  have hle := le_upd (k := ⟨W.heap.size, 0, 0⟩) hm
  obtain ⟨ap0, p0⟩ := lay_ok (W' := W.alloc (.deferred (some []))) (C := 0) (ob := .dfr true) (o := .deferred (some [])) A.inn.rel A.inn.ap.wf hm rfl rfl rfl rfl rfl
  have I0 := A.inn.step ap0 p0
  have hm1 := I0.top _ (Nat.le_refl (nx + 1))
  have hle1 := le_upd (k := ⟨(W.alloc (.deferred (some []))).heap.size, 0, 0⟩) hm1
  have hob : ObOk (.loop ⟨.ready, none, n, T1, ps.toList, assign, body, nx⟩) := ⟨hc0.1, hc0.2, fun c h => by cases h⟩
  obtain ⟨ap1, p1⟩ := lay_ok (W' := (W.alloc (.deferred (some []))).alloc (.loop { state := .ready, pending := none, fn, tmps := a.tmps, params := ps, assign, body, defers := W.heap.size })) (C := 0) I0.rel I0.ap.wf hm1 rfl rfl rfl rfl
    (ob := .loop ⟨.ready, none, n, T1, ps.toList, assign, body, nx⟩) ⟨_, rfl, rfl, rfl, rfl, rfl, rfl, (hTr.mono hle).mono hle1, ⟨_, hle1 _ _ upd_same, rfl⟩⟩ hob
  have I1 := I0.step ap1 p1
  obtain ⟨hbody, hcall⟩ := hc I1.ap.wf
  have hsz : (W.alloc (.deferred (some []))).heap.size = W.heap.size + 1 := World.size_alloc _ _
  rw [hsz] at hle1 p1 I1
  have hcalls := hcall _ _ (xs ++ #[.func (.yield (W.heap.size + 1)) #[] #[]] ++ ys) I1 (by
    simp only [Array.toList_append]
    exact (((hxs.mono hle).mono hle1).append (.cons (by simp only [VR]; exact ⟨_, upd_same, rfl⟩) .nil)).append ((hys.mono hle).mono hle1))
  have henter := run_enterLoop_outer (P := P) (w := W) fn a.tmps ps assign body
  generalize hX : ((W.alloc (.deferred (some []))).alloc (.loop { state := .ready, pending := none, fn, tmps := a.tmps, params := ps, assign, body, defers := W.heap.size })) = X at henter hcalls
  refine ⟨W.heap.size + 1, [{ target := .collected W.heap.size, args := #[] }], X, { target := .fn (.func g) ys, args := xs ++ #[.func (.yield (W.heap.size + 1)) #[] #[]] }, X, g, xs ++ #[.func (.yield (W.heap.size + 1)) #[] #[]] ++ ys, X, henter, ?_, fun _ _ => trivial, ?_, (fun h => by cases h), callsIn_wide.2 ?_⟩
  · simp only [resolve, he]; simp [Deferred.ofValue, Act.eval]
  · simp only [invoke]; exact hbody.call _ _
  · refine hcalls.mono ?_
    rintro en W3 ⟨v, v', H3, nx3, m3, rfl, hle3, I3, _, hR3⟩
    obtain ⟨L3, hg3, hb3, hk3⟩ := k v H3 nx3 hR3
    have hkl : m3 (nx + 1) = some ⟨W.heap.size + 1, 0, 0⟩ := hle3 _ _ upd_same
    have hkd : m3 nx = some ⟨W.heap.size, 0, 0⟩ := hle3 _ _ (hle1 _ _ upd_same)
    obtain ⟨r, hb, r0, hr0, e1, e2, e3, e4, e5, e6, e7⟩ := loop_at I3.rel hg3 hkl
    cases hr0
    have hok := I3.ap.wf.ok _ _ (Hp.get_some.1 hg3).2
    obtain ⟨ap4, p4⟩ := loop_put (L' := { L3 with state := .exhausted }) (r' := { r with state := .exhausted }) I3.rel I3.ap.wf hg3 hkl hb ⟨_, rfl, rfl, e2, e3, e4, e5, e6, e7⟩ hok
    have hall : Le m m3 := hle.trans (hle1.trans hle3)
    refine ⟨r.pending, _, run_endLoop hb (by rw [e1]; exact hb3), ?_⟩
    have S4 : Stt B n none Fence.wide (T1) (.mark nx :: ds) (H3.put (nx + 1) (.loop { L3 with state := .exhausted })) nx3 m3 (W3.putObj (W.heap.size + 1) (.loop { r with state := .exhausted })) ⟨a.tmps, [{ target := .collected W.heap.size, args := #[] }] ++ a.defers⟩ :=
      ⟨I3.step ap4 p4, hTr.mono hall, ⟨_, _, hkd, rfl, A.defers.mono hall⟩, rfl⟩
    have key : ∀ W4 a4, (match L3.pending with | none => Rx B n none Fence.wide Q .normal a4 W4 | some c => c.wpIn Fence.wide 0 P (Rx B n none Fence.wide Q) a4 W4) → (match r.pending with | none => Rx B n none Fence.wide Q .normal a4 W4 | some c => c.wpIn Fence.wide 0 P (Rx B n none Fence.wide Q) a4 W4) := fun W4 a4 h => by
      have e : r.pending = L3.pending := by first | exact e2 | exact e2.symm
      rw [e]; exact h
    refine key _ _ ?_
    generalize (W3.putObj (W.heap.size + 1) (.loop { r with state := .exhausted })) = W4 at S4 ⊢
    generalize (H3.put (nx + 1) (.loop { L3 with state := .exhausted })) = H4 at S4 hk3
    cases hp : L3.pending with
    | none =>
      rw [hp] at hk3
      exact ⟨.normal, T1, _, _, nx3, m3, rfl, S4, by rw [hT1]; exact hk3⟩
    | some c' =>
      rw [hp] at hk3
      exact wpC_wpIn (hk3.run (hok.2.2 c' hp) T1 hT1 Fence.wide m3 _ _ S4)
end
end Abs
end Go.Proofs.YtoecekncncbjgaaGreat

/- Calls that only look, in regions that draw their order. -/
namespace Go.Proofs.YtoecekncncbjgaaGreat
namespace Abs
open Go.RowKit
section
variable {P : Program}
/-- Where no old block has turned, what there is is what there was. -/
theorem rel_frame {m : NM} {H : Hp} {W W' : World} (h : Rel m H W) (hf : ∀ b, b < W.heap.size → W'.heap[b]? = W.heap[b]?) : Rel m H W' := by
  refine ⟨fun n ob hn => ?_, h.inj⟩
  obtain ⟨k, o, h1, h2, h3⟩ := h.obj n ob hn
  exact ⟨k, o, h1, (hf k.b (h.lt hn h1)).trans h2, h3⟩
/-- A call that only looks, whatever may be written. -/
theorem callOk_pure (L : List (Nat × Nat × Nat)) {g : FuncId} {argsc args : List AV} {tc t : Tr AObj} {nxc nx w : Nat} {v0 v : AV}
    (hc : CallH P g argsc ⟨tc, [], 0⟩ nxc (fun v H' nx' => v = v0 ∧ H' = ⟨tc, [], 0⟩ ∧ nx' = nxc))
    (hWc : Wf ⟨tc, [], 0⟩ nxc) (hk : L.map (·.1) = upTo 0 nxc) (ha : renL (sg L) argsc = some args) (hE : EmbL (sg L) ⟨tc, [], 0⟩ ⟨t, [], w⟩ L) (hD : disB ⟨tc, [], 0⟩ L = true)
    (hro : (tc.allB fun o => !o.writable) = true) (hv : ren (sg L) v0 = some v) : CallOk P g args ⟨t, [], w⟩ nx v ⟨t, [], w⟩ nx := by
  intro hW
  obtain ⟨hb, h⟩ := hc hWc
  refine ⟨hb, .refl hW, fun m W xs hxs hR hF => ?_⟩
  have hRc := rel_emb hWc hk hE hD hR
  have htop : ∀ n, nxc ≤ n → mOf L m n = none := by
    intro n hn
    cases h : mOf L m n with
    | none => rfl
    | some k =>
      obtain ⟨p, o, k0, hs, _⟩ := mOf_some h
      have : n ∈ L.map (·.1) := List.mem_map.2 ⟨_, sg_mem hs, rfl⟩
      rw [hk, mem_upTo] at this; omega
  refine (h (mOf L m) W xs ((renL_iff mOf_lk argsc args ha _).2 hxs) hRc htop).mono ?_
  rintro e W' ⟨vc, v', Hc', nxc', mc', rfl, J, hv', rfl, rfl, e3⟩
  replace e3 := e3.symm
  subst e3
  have hfr : ∀ b, b < W.heap.size → W'.heap[b]? = W.heap[b]? := fun b hb => J.frame b hb (by
    rintro ⟨i, oi, ki, _, hg, hw, _⟩
    rw [hget] at hg
    have := Tr.allB_get hro hg
    simp only [Bool.not_eq_true'] at this
    rw [hw] at this; cases this)
  have hlk : Lk (sg L) mc' m := by
    intro n p o hs
    have hn : n < nxc := by
      have : n ∈ L.map (·.1) := List.mem_map.2 ⟨_, sg_mem hs, rfl⟩
      rw [hk, mem_upTo] at this; omega
    rw [J.eq n hn]
    simp only [mOf, hs]
  exact ⟨v', m, rfl, ⟨Le.refl m, fun n k h => .inl h, rel_frame hR hfr, fun b hb _ => hfr b hb, J.os, J.tape, J.output, J.size⟩, (ren_iff hlk _ _ hv _).1 hv'⟩
/-- The names below one stay as they are; there are no others. -/
def upS (nx : Nat) : Sg := fun n => cond (n.blt nx) (some (n, 0)) none
/-- What a call laid and no one reaches is forgotten. -/
theorem call_forget {f : FuncId} {args : List AV} {t : Tr AObj} {nx : Nat} {V : AV → Prop} (hc : CallH P f args ⟨t, [], 0⟩ nx (fun v _ _ => V v)) (hro : (t.allB fun o => !o.writable) = true)
    (hn : ∀ v, V v → ren (upS nx) v = some v) : CallH P f args ⟨t, [], 0⟩ nx (fun v H' nx' => V v ∧ H' = ⟨t, [], 0⟩ ∧ nx' = nx) := by
  intro hW
  obtain ⟨hb, h⟩ := hc hW
  refine ⟨hb, fun m W xs hxs hR ht => (h m W xs hxs hR ht).mono ?_⟩
  rintro e W' ⟨v, v', H', nx', m', rfl, J, hv', hV⟩
  have hfr : ∀ b, b < W.heap.size → W'.heap[b]? = W.heap[b]? := fun b hb => J.frame b hb (by
    rintro ⟨i, oi, ki, _, hg, hw, _⟩
    rw [hget] at hg
    have := Tr.allB_get hro hg
    simp only [Bool.not_eq_true'] at this
    rw [hw] at this; cases this)
  refine ⟨v, v', _, nx, m, rfl, ?_, (ren_iff (σ := upS nx) (fun n p o h => by
    simp only [upS, Bool.cond_eq_ite, Nat.blt_eq] at h
    split at h <;> cases h
    rename_i hlt
    rw [J.eq n hlt]
    show m n = (m n).map (shiftB 0)
    cases h : m n with
    | none => rfl
    | some k => rfl) _ _ (hn v hV) _).1 hv', hV, rfl, rfl⟩
  exact ⟨hR, fun _ _ => rfl, fun n k h1 h2 => by (rw [ht n h1] at h2; cases h2), ht, rel_frame hR hfr, fun b hb _ => hfr b hb, J.os, J.tape, J.output, J.size, .refl hW⟩
/-- A call that the evaluator ends by itself. -/
def endV : Option Res → Option AV
  | some (.call v _ _) => some v
  | _ => none
theorem call_run (hp : progOk P = true) (fuel : Nat) {f : FuncId} {args : List AV} {H : Hp} {nx : Nat} {v : AV} (h : endV (run P fuel (.call f args H nx)) = some v) : CallH P f args H nx (fun w _ _ => w = v) := by
  cases hr : run P fuel (.call f args H nx) with
  | none => rw [hr] at h; cases h
  | some r =>
    rw [hr] at h
    cases r with
    | code e s => cases h
    | call w H' nx' =>
      cases h
      intro hW
      obtain ⟨hb, ha, hc⟩ := sound hp fuel _ _ hr hW
      refine ⟨hb, fun m W xs hxs hR ht => (hc m W xs hxs hR (fun n hn _ => ht n hn)).mono ?_⟩
      rintro e W' ⟨v', m', rfl, hP, hv⟩
      exact ⟨_, v', H', nx', m', rfl, (Inn.start hR hW ht).step ha hP, hv, rfl⟩
end
end Abs
end Go.Proofs.YtoecekncncbjgaaGreat

/- Regions that draw their order and only look and call what only looks. -/
namespace Go.Proofs.YtoecekncncbjgaaGreat
namespace Abs
open Go.RowKit
section
variable {P : Program}
theorem stepE_okr {rec : Task → Option Res} {man : List Nat} {n : Nat} {rd : Option Nat} {ops : Array Oper} {T : Tr AV} {o : Oper} {E' : Env} {ds : List ADef} {H H' : Hp} {nx nx' : Nat} (h : stepE P man n ops T.get H nx o = some (E', H', nx')) :
    ∃ T', op1 P rec n rd ops o ⟨T, ds, H, nx⟩ = some ⟨T', ds, H', nx'⟩ ∧ T'.get = E' := by
  unfold stepE at h
  cases hd : dstLt n o with
  | false => rw [hd] at h; cases h
  | true =>
    rw [hd] at h
    simp only [cond_true] at h
    cases hg : guardE ops T.get o with
    | none => rw [hg] at h; cases h
    | some b =>
      obtain ⟨hk, hw⟩ := guardE_ok hg
      rw [hg] at h
      cases b with
      | false =>
        obtain ⟨T', h1, h2⟩ := putA_ok hd .undef T
        cases h
        exact ⟨T', by simp only [op1, hk, hw, cond_true, cond_false, stepSt, h1], h2⟩
      | true =>
        cases ht : touch o.op with
        | true =>
          simp only [ht, cond_true] at h
          cases hp : lenE P T.get o.op with
          | some v =>
            simp only [hp] at h
            obtain ⟨T', h1, h2⟩ := putA_ok hd v T
            cases h
            obtain ⟨h3, h4, _⟩ := lenE_ok (rec := rec) hp H nx
            exact ⟨T', by simp only [op1, hk, hw, ht, h3, h4, cond_true, cond_false, stepSt, h1], h2⟩
          | none =>
            simp only [hp] at h
            cases hv : view P T.get o.op with
            | none => simp [hv] at h
            | some w =>
              simp only [hv] at h
              cases he : exec P man H nx w with
              | none => simp [he] at h
              | some r =>
                obtain ⟨v, H1, nx1⟩ := r
                simp only [he] at h
                obtain ⟨T', h1, h2⟩ := putA_ok hd v T
                cases h
                have hdo := exec_does he
                obtain ⟨h3, _⟩ := does_ok (rec := rec) hv hdo
                have h4 : isDefer o.op = false := by rw [view_defer hv]; cases w <;> first | rfl | exact hdo.elim
                exact ⟨T', by simp only [op1, hk, hw, ht, h3, h4, cond_true, cond_false, stepSt, h1], h2⟩
        | false =>
          simp only [ht, cond_false] at h
          cases hp : pureE P T.get o.op with
          | none => simp [hp] at h
          | some v =>
            simp only [hp] at h
            obtain ⟨T', h1, h2⟩ := putA_ok hd v T
            cases h
            rw [pureE_get] at hp
            exact ⟨T', by simp only [op1, hk, hw, ht, cond_true, cond_false, hp, Option.map_some, stepSt, h1], h2⟩


end
section
variable {P : Program} {B : Ent} {rec : Task → Option Res} {man set : List Nat} {n : Nat} {rd : Option Nat} {ops : Array Oper} {l : List Oper} {E : Env} {ds : List ADef} {H : Hp} {nx : Nat} {c : Code}
/-- A goal: what the operations that are left come to, in the order of the text. -/
def GO0 (P : Program) (rec : Task → Option Res) (man set : List Nat) (n : Nat) (ops : Array Oper) (l : List Oper) (E : Env) (ds : List ADef) (H : Hp) (nx : Nat) (Q : Qo) : Prop :=
  ∀ T, T.get = E → ∃ T' H' nx', ops1 P rec n none ops l ⟨T, ds, H, nx⟩ = some ⟨T', ds, H', nx'⟩ ∧ Q T'.get ds H' nx'
structure GO (P : Program) (rec : Task → Option Res) (man set : List Nat) (n : Nat) (ops : Array Oper) (l : List Oper) (E : Env) (ds : List ADef) (H : Hp) (nx : Nat) (Q : Qo) : Prop where
  run : GO0 P rec man set n ops l E ds H nx Q
variable {Q : Qo}
theorem gq_op1 {o : Oper} {E' : Env} {H' : Hp} {nx' : Nat} (h : ∀ T, T.get = E → ∃ T', op1 P rec n none ops o ⟨T, ds, H, nx⟩ = some ⟨T', ds, H', nx'⟩ ∧ T'.get = E')
    (k : GO P rec man set n ops l E' ds H' nx' Q) : GO P rec man set n ops (o :: l) E ds H nx Q := by
  refine ⟨?_⟩
  intro T hT
  obtain ⟨T', h1, h2⟩ := h T hT
  obtain ⟨T2, H2, nx2, h3, h4⟩ := k.run T' h2
  exact ⟨T2, H2, nx2, by simp only [ops1, h1]; exact h3, h4⟩
theorem gq_auto : ∀ {l : List Oper} {E : Env} {H : Hp} {nx : Nat}, GO P rec man set n ops (auto P man n ops set l E H nx).l (auto P man n ops set l E H nx).E ds (auto P man n ops set l E H nx).H (auto P man n ops set l E H nx).nx Q → GO P rec man set n ops l E ds H nx Q
  | [], E, H, nx, h => h
  | o :: l, E, H, nx, h => by
    unfold auto at h
    cases hs : guardSet set o with
    | false => rw [hs] at h; exact h
    | true =>
      rw [hs] at h
      simp only [cond_true] at h
      cases hp : stepE P man n ops E H nx o with
      | none => rw [hp] at h; exact h
      | some r =>
        obtain ⟨E', H', nx'⟩ := r
        rw [hp] at h
        exact gq_op1 (fun T hT => by subst hT; exact stepE_okr hp) (gq_auto h)
theorem gq_run : ∀ (k : Nat) {l : List Oper} {E : Env} {H : Hp} {nx : Nat}, GO P rec man set n ops (runK P man n ops k l E H nx).l (runK P man n ops k l E H nx).E ds (runK P man n ops k l E H nx).H (runK P man n ops k l E H nx).nx Q → GO P rec man set n ops l E ds H nx Q
  | 0, _, _, _, _, h => h
  | _ + 1, [], _, _, _, h => h
  | k + 1, o :: l, E, H, nx, h => by
    unfold runK at h
    cases hp : stepE P man n ops E H nx o with
    | none => rw [hp] at h; exact h
    | some r =>
      obtain ⟨E', H', nx'⟩ := r
      rw [hp] at h
      exact gq_op1 (fun T hT => by subst hT; exact stepE_okr hp) (gq_run k h)
theorem gq_adv (k : Nat) {l : List Oper} {E : Env} {H : Hp} {nx : Nat} (h : GO P rec man set n ops (adv P k man n ops set l E H nx).l (adv P k man n ops set l E H nx).E ds (adv P k man n ops set l E H nx).H (adv P k man n ops set l E H nx).nx Q) : GO P rec man set n ops l E ds H nx Q := by
  cases k with
  | zero => exact gq_auto h
  | succ k => exact gq_run k h
theorem gq_done0 (x : Nat) (h : (adv P x man n ops set l E H nx).l = []) (k : Q (adv P x man n ops set l E H nx).E ds (adv P x man n ops set l E H nx).H (adv P x man n ops set l E H nx).nx) : GO P rec man set n ops l E ds H nx Q := by
  refine gq_adv x ?_
  rw [h]
  refine ⟨?_⟩
  intro T hT
  exact ⟨T, _, _, rfl, by rw [hT]; exact k⟩
theorem gq_pure0 (x : Nat) {v : AV} (r : Option AV) (hr : r = some v) (h : hdP P n ops (adv P x man n ops set l E H nx) = r)
    (k : GO P rec man set n ops (adv P x man n ops set l E H nx).rest ((adv P x man n ops set l E H nx).after v) ds (adv P x man n ops set l E H nx).H (adv P x man n ops set l E H nx).nx Q) : GO P rec man set n ops l E ds H nx Q := by
  refine gq_adv x ?_
  subst hr
  generalize adv P x man n ops set l E H nx = M at h k
  obtain ⟨E1, H1, nx1, l1⟩ := M
  simp only [hdP, Mid.E, Mid.l] at h
  simp only [Mid.E, Mid.H, Mid.nx, Mid.l]
  cases l1 with
  | nil => simp at h
  | cons o l1 =>
    simp only at h
    simp only [Mid.rest, Mid.after, Mid.l, Mid.E, Mid.H, Mid.nx, List.tail_cons] at k
    cases hl : dstLt n o <;> simp only [hl, cond_true, cond_false] at h <;> try (cases h; done)
    split at h <;> try (cases h; done)
    rename_i hg
    cases ht : touch o.op <;> simp only [ht, cond_true, cond_false] at h <;> try (cases h; done)
    refine gq_op1 (fun T hT => ?_) k
    subst hT
    obtain ⟨hk, hw⟩ := guardE_ok hg
    rw [pureE_get] at h
    obtain ⟨T', h1, h2⟩ := putA_ok hl v T
    exact ⟨T', by simp only [op1, hk, hw, ht, cond_true, cond_false, h, Option.map_some, stepSt, h1], h2⟩
theorem gq_load0 (x : Nat) {t : TypeId} {m off : Nat} {v : AV} {H0 : Hp} (hd : loadT P H0 t m off = some v) (hv : (hdV P n ops (adv P x man n ops set l E H nx), (adv P x man n ops set l E H nx).H) = (some (.load t m off), H0))
    (k : GO P rec man set n ops (adv P x man n ops set l E H nx).rest ((adv P x man n ops set l E H nx).after v) ds H0 (adv P x man n ops set l E H nx).nx Q) : GO P rec man set n ops l E ds H nx Q := by
  refine gq_adv x ?_
  generalize adv P x man n ops set l E H nx = M at hv k
  obtain ⟨E1, H1, nx1, l1⟩ := M
  simp only [Prod.mk.injEq, hdV, Mid.E, Mid.H, Mid.l] at hv
  simp only [Mid.E, Mid.H, Mid.nx, Mid.l]
  obtain ⟨hv, rfl⟩ := hv
  cases l1 with
  | nil => simp at hv
  | cons o l1 =>
    simp only at hv
    simp only [Mid.rest, Mid.after, Mid.l, Mid.E, Mid.nx, List.tail_cons] at k
    cases hl : dstLt n o <;> simp only [hl, cond_true, cond_false] at hv <;> try (cases hv; done)
    split at hv <;> try (cases hv; done)
    rename_i hg
    refine gq_op1 (fun T hT => ?_) k
    subst hT
    obtain ⟨hk, hw⟩ := guardE_ok hg
    have ht := view_touch hv
    have hdf' : isDefer o.op = false := view_defer hv
    obtain ⟨T', h1, h2⟩ := putA_ok hl v T
    exact ⟨T', by simp only [op1, hk, hw, ht, hdf', cond_true, cond_false, (does_ok (rec := rec) hv (v := v) (H' := H1) (nx' := nx1) ⟨hd, rfl, rfl⟩).1, stepSt, h1], h2⟩


/-- What a call comes to. -/
def callR : Option Res → Option (AV × Hp × Nat)
  | some (.call v H nx) => some (v, H, nx)
  | _ => none
theorem view_call {T : Tr AV} {op : Op} {g : FuncId} {vs : List AV} (h : view P T.get op = some (.call g vs)) (rec : Task → Option Res) (H : Hp) (nx : Nat) : heapA P rec T H nx op = callR (rec (.call g vs H nx)) := by
  cases op <;> simp only [view, evE_get, evLE_get, evPE_get] at h
  case call c =>
    obtain ⟨callee, args, ats⟩ := c
    cases callee with
    | value f =>
      simp only [view, evE_get, evLE_get] at h
      split at h <;> cases h
      have h1 := ‹evalO T f = some (AV.fn _ _ _)›
      have h2 := ‹evalL T args.toList = some _›
      simp only [heapA, h1, h2, callV]
      cases rec _ with
      | none => rfl
      | some r => cases r <;> rfl
    | builtin b => cases b <;> simp only [view] at h <;> first | (cases h; done) | (split at h <;> cases h)
    | invoke _ _ => simp only [view] at h; cases h
  case defer c =>
    obtain ⟨callee, args, ats⟩ := c
    cases callee with
    | value f => simp only [view] at h; split at h <;> cases h
    | _ => simp only [view] at h; cases h
  case makeMap t r => cases r <;> simp only [view] at h <;> cases h
  all_goals (repeat' first | (cases h; done) | split at h)
  all_goals simp only [Bool.cond_eq_ite] at h
  all_goals (repeat' first | (cases h; done) | split at h)
theorem gq_call0 (x : Nat) {g : FuncId} {vs : List AV} {v : AV} {H0 : Hp} {nx0 : Nat} (hr : rec (.call g vs H0 nx0) = some (.call v H0 nx0)) (hv : (hdV P n ops (adv P x man n ops set l E H nx), (adv P x man n ops set l E H nx).H, (adv P x man n ops set l E H nx).nx) = (some (.call g vs), H0, nx0))
    (k : GO P rec man set n ops (adv P x man n ops set l E H nx).rest ((adv P x man n ops set l E H nx).after v) ds H0 nx0 Q) : GO P rec man set n ops l E ds H nx Q := by
  refine gq_adv x ?_
  generalize adv P x man n ops set l E H nx = M at hv k
  obtain ⟨E1, H1, nx1, l1⟩ := M
  simp only [Prod.mk.injEq, hdV, Mid.E, Mid.H, Mid.nx, Mid.l] at hv
  simp only [Mid.E, Mid.H, Mid.nx, Mid.l]
  obtain ⟨hv, rfl, rfl⟩ := hv
  cases l1 with
  | nil => simp at hv
  | cons o l1 =>
    simp only at hv
    simp only [Mid.rest, Mid.after, Mid.l, Mid.E, Mid.nx, List.tail_cons] at k
    cases hl : dstLt n o <;> simp only [hl, cond_true, cond_false] at hv <;> try (cases hv; done)
    split at hv <;> try (cases hv; done)
    rename_i hg
    refine gq_op1 (fun T hT => ?_) k
    subst hT
    obtain ⟨hk, hw⟩ := guardE_ok hg
    have ht := view_touch hv
    have hdf' : isDefer o.op = false := view_defer hv
    obtain ⟨T', h1, h2⟩ := putA_ok hl v T
    exact ⟨T', by simp only [op1, hk, hw, ht, hdf', cond_true, cond_false, view_call hv rec H1 nx1, hr, callR, stepSt, h1], h2⟩
/-- Operations that look, and calls. -/
def isCallV : Op → Bool
  | .call { callee := .value _, .. } => true
  | _ => false
def looksC (o : Oper) : Bool := !(touch o.op) || (isLoad o.op || isCallV o.op)
/-- What is known of some calls that only look, whatever may be written. -/
structure PureRec (rec : Task → Option Res) (tt : Tr AObj) : Prop where
  code : ∀ n r c s, rec (.code n r c s) = none
  pure : ∀ g args w nx v H' nx', rec (.call g args ⟨tt, [], w⟩ nx) = some (.call v H' nx') → H' = ⟨tt, [], w⟩ ∧ nx' = nx ∧ ∀ w', rec (.call g args ⟨tt, [], w'⟩ nx) = some (.call v ⟨tt, [], w'⟩ nx)
theorem loadA_wr2 {T : Tr AV} {t : TypeId} {x : Operand} {tt : Tr AObj} {b : List (Nat × Nat)} {w w' nx : Nat} {v : AV} {H' : Hp} {nx' : Nat} (h : heapA P rec T ⟨tt, b, w⟩ nx (.load t x) = some (v, H', nx')) :
    H' = ⟨tt, b, w⟩ ∧ nx' = nx ∧ heapA P rec T ⟨tt, b, w'⟩ nx (.load t x) = some (v, ⟨tt, b, w'⟩, nx) := by
  have e : ∀ H, heapA P rec T H nx (.load t x) = heapA P norec T H nx (.load t x) := fun H => by simp only [heapA]
  rw [e] at h
  obtain ⟨h1, h2, h3⟩ := loadA_wr (w' := w') h
  exact ⟨h1, h2, by rw [e]; exact h3⟩
theorem callA_wr {T : Tr AV} {tt : Tr AObj} (hpc : PureRec rec tt) {f : Operand} {args : Array Operand} {ats : Array TypeId} {w w' nx : Nat} {v : AV} {H' : Hp} {nx' : Nat} (h : heapA P rec T ⟨tt, [], w⟩ nx (.call { callee := .value f, args := args, argTypes := ats }) = some (v, H', nx')) :
    H' = ⟨tt, [], w⟩ ∧ nx' = nx ∧ heapA P rec T ⟨tt, [], w'⟩ nx (.call { callee := .value f, args := args, argTypes := ats }) = some (v, ⟨tt, [], w'⟩, nx) := by
  simp only [heapA] at h ⊢
  cases hf : evalO T f with
  | none => simp [hf] at h
  | some fv =>
    cases hv : evalL T args.toList with
    | none => simp [hf, hv] at h
    | some vs =>
      simp only [hf, hv] at h ⊢
      cases fv <;> simp only [callV] at h <;> try (cases h; done)
      · rename_i g first cap
        cases hr : rec (.call g (first ++ vs ++ cap) ⟨tt, [], w⟩ nx) with
        | none => rw [hr] at h; cases h
        | some r =>
          cases r <;> simp only [hr, Option.some.injEq, Prod.mk.injEq] at h <;> try (cases h; done)
          obtain ⟨rfl, rfl, rfl⟩ := h
          obtain ⟨e1, e2, e3⟩ := hpc.pure _ _ _ _ _ _ _ hr
          refine ⟨e1, e2, ?_⟩
          simp only [callV, e3 w']
      · rename_i l
        exfalso
        unfold yieldA at h
        split at h <;> try (cases h; done)
        split at h <;> try (cases h; done)
        simp only [hpc.code] at h
        cases h
theorem opsD_calls {tt : Tr AObj} (hpc : PureRec rec tt) {pre : Array Nat} : ∀ {l : List Oper} {j : Nat} {T T' : Tr AV} {H' : Hp} {nx nx' : Nat} {rs : List (Nat × Nat)}, l.all looksC = true →
    ops1 P rec n none ops l ⟨T, ds, ⟨tt, [], 0⟩, nx⟩ = some ⟨T', ds, H', nx'⟩ → opsD P rec n ops pre l j ⟨T, ds, ⟨tt, [], 0⟩, nx⟩ ⟨[], rs, []⟩ = some ⟨T', ds, H', nx'⟩
  | [], j, T, T', H', nx, nx', rs, _, h => by simpa only [ops1, opsD] using h
  | o :: l, j, T, T', H', nx, nx', rs, hl, h => by
    simp only [List.all_cons, Bool.and_eq_true] at hl
    simp only [ops1] at h
    cases h1 : op1 P rec n none ops o ⟨T, ds, ⟨tt, [], 0⟩, nx⟩ with
    | none => simp [h1] at h
    | some s1 =>
      simp only [h1] at h
      unfold op1 at h1
      cases ha : askedA ops T o with
      | false => rw [ha] at h1; cases h1
      | true =>
        rw [ha, cond_true] at h1
        cases hw : wantedA ops T o with
        | false =>
          rw [hw, cond_false] at h1
          simp only [stepSt] at h1
          cases hp : putA n o.dst .undef T with
          | none => simp [hp] at h1
          | some T1 =>
            simp only [hp, Option.some.injEq] at h1
            subst h1
            have ih := opsD_calls hpc (pre := pre) (j := j + 1) (rs := rs) hl.2 h
            simp only [opsD, opD, ha, hw, cond_true, cond_false, stepSt, hp]; exact ih
        | true =>
          rw [hw, cond_true] at h1
          cases ht : touch o.op with
          | false =>
            rw [ht, cond_false] at h1
            cases hx : pureA P T o.op with
            | none => simp [hx, stepSt] at h1
            | some v =>
              simp only [hx, Option.map_some, stepSt] at h1
              cases hp : putA n o.dst v T with
              | none => simp [hp] at h1
              | some T1 =>
                simp only [hp, Option.some.injEq] at h1
                subst h1
                have ih := opsD_calls hpc (pre := pre) (j := j + 1) (rs := rs) hl.2 h
                simp only [opsD, opD, ha, hw, ht, cond_true, cond_false, stepSt, hx, Option.map_some, hp]; exact ih
          | true =>
            have hld : isLoad o.op = true ∨ isCallV o.op = true := by
              have := hl.1
              simp only [looksC, ht, Bool.not_true, Bool.false_or, Bool.or_eq_true] at this; exact this
            obtain ⟨dst, op, ty, pos, aft, gd⟩ := o
            rcases hld with hld | hld
            · cases op <;> simp only [isLoad] at hld <;> try (cases hld; done)
              rename_i t x
              rw [ht, cond_true] at h1
              simp only [isDefer, cond_false] at h1
              cases hx : heapA P rec T ⟨tt, [], 0⟩ nx (.load t x) with
              | none => simp [hx, stepSt] at h1
              | some r =>
                obtain ⟨v, H1, nx1⟩ := r
                obtain ⟨e1, e2, e3⟩ := loadA_wr2 (w' := nx) hx
                subst e1 e2
                simp only [hx, stepSt] at h1
                cases hp : putA n dst v T with
                | none => simp [hp] at h1
                | some T1 =>
                  simp only [hp, Option.some.injEq] at h1
                  subst h1
                  have ih := opsD_calls hpc (pre := pre) (j := j + 1) (rs := (j, nameO T x) :: rs) hl.2 h
                  simp only [opsD, opD, ha, hw, ht, cond_true, unseen, e3, hp, clear]; exact ih
            · cases op <;> simp only [isCallV] at hld <;> try (cases hld; done)
              rename_i cl
              obtain ⟨callee, args, ats⟩ := cl
              cases callee <;> simp only at hld <;> try (cases hld; done)
              rename_i f
              rw [ht, cond_true] at h1
              simp only [isDefer, cond_false] at h1
              cases hx : heapA P rec T ⟨tt, [], 0⟩ nx (.call { callee := .value f, args := args, argTypes := ats }) with
              | none => simp [hx, stepSt] at h1
              | some r =>
                obtain ⟨v, H1, nx1⟩ := r
                obtain ⟨e1, e2, e3⟩ := callA_wr hpc (w' := nx) hx
                subst e1 e2
                simp only [hx, stepSt] at h1
                cases hp : putA n dst v T with
                | none => simp [hp] at h1
                | some T1 =>
                  simp only [hp, Option.some.injEq] at h1
                  subst h1
                  have ih := opsD_calls hpc (pre := pre) (j := j + 1) (rs := rs) hl.2 h
                  have hl0 : lower nx1 0 = 0 := by rw [lower_eq]; omega
                  have hbl : Nat.ble nx1 nx1 = true := by simp
                  simp only [opsD, opD, ha, hw, ht, cond_true, unseen, e3, hp, hbl, hl0]; exact ih
/-- Some calls, over one heap. -/
structure Fct where
  g : FuncId
  args : List AV
  v : AV
open Classical in
noncomputable def fnd (g : FuncId) (args : List AV) : List Fct → Option AV
  | [] => none
  | f :: fs => if f.g = g ∧ f.args = args then some f.v else fnd g args fs
open Classical in
noncomputable def orc (t : Tr AObj) (nx : Nat) (fs : List Fct) : Task → Option Res
  | .call g args H nx' => if H.t = t ∧ H.bad = [] ∧ nx' = nx then (fnd g args fs).map fun v => .call v H nx else none
  | _ => none
theorem fnd_mem {g : FuncId} {args : List AV} {v : AV} : ∀ {fs : List Fct}, fnd g args fs = some v → ∃ f ∈ fs, f.g = g ∧ f.args = args ∧ f.v = v
  | [], h => by simp [fnd] at h
  | f :: fs, h => by
    simp only [fnd] at h
    split at h
    · rename_i e; cases h; exact ⟨f, by simp, e.1, e.2, rfl⟩
    · obtain ⟨f', h1, h2⟩ := fnd_mem h; exact ⟨f', by simp [h1], h2⟩
/-- What holds of the calls of a list. -/
def Fcts (P : Program) (t : Tr AObj) (nx : Nat) : List Fct → Prop
  | [] => True
  | f :: fs => (∀ w, CallOk P f.g f.args ⟨t, [], w⟩ nx f.v ⟨t, [], w⟩ nx) ∧ Fcts P t nx fs
theorem fcts_mem {t : Tr AObj} {nx : Nat} : ∀ {fs : List Fct} {f : Fct}, Fcts P t nx fs → f ∈ fs → ∀ w, CallOk P f.g f.args ⟨t, [], w⟩ nx f.v ⟨t, [], w⟩ nx
  | _ :: _, f, ⟨h1, h2⟩, hf => by
    rcases List.mem_cons.1 hf with rfl | hf
    · exact h1
    · exact fcts_mem h2 hf
theorem orc_ok {t : Tr AObj} {nx : Nat} {fs : List Fct} (h : Fcts P t nx fs) : RecOk P (orc t nx fs) := by
  intro task r hr
  cases task with
  | call g args H nx' =>
    simp only [orc] at hr
    split at hr <;> try (cases hr; done)
    rename_i e
    obtain ⟨t', bad, w⟩ := H
    obtain ⟨rfl, rfl, rfl⟩ := e
    cases hf : fnd g args fs with
    | none => simp [hf] at hr
    | some v =>
      simp only [hf, Option.map_some, Option.some.injEq] at hr
      subst hr
      obtain ⟨f, h1, rfl, rfl, rfl⟩ := fnd_mem hf
      exact fcts_mem h h1 w
  | code n r c s => simp [orc] at hr
  | dcall g args H nx' => simp [orc] at hr
theorem orc_pure {t : Tr AObj} {nx : Nat} {fs : List Fct} : PureRec (orc t nx fs) t := by
  refine ⟨fun _ _ _ _ => rfl, fun g args w nx0 v H' nx' h => ?_⟩
  simp only [orc] at h ⊢
  split at h <;> try (cases h; done)
  rename_i e
  obtain ⟨_, _, rfl⟩ := e
  cases hf : fnd g args fs with
  | none => simp [hf] at h
  | some v0 =>
    simp only [hf, Option.map_some, Option.some.injEq, Res.call.injEq] at h
    obtain ⟨rfl, rfl, rfl⟩ := h
    exact ⟨rfl, rfl, fun w' => by simp⟩
/-- A region that draws its order, looks, and calls what only looks. -/
theorem tc_regc {Q : Qc} (hp : progOk P = true) (man : List Nat) (L : List (Nat × AV)) (hF : Facts E L) {t : Tr AObj} {nx0 : Nat} (fs : List Fct) (hf : Fcts P t nx0 fs) (h : (kind c, (cOps c).toList.all looksC, H, nx) = (2, true, (⟨t, [], 0⟩ : Hp), nx0))
    (k : GO P (orc t nx0 fs) man [] n (cOps c) (cOps c).toList (lk L noE) ds H nx (Q .normal)) : TC P B n rd c E ds H nx Q := by
  simp only [Prod.mk.injEq] at h
  obtain ⟨h1, h2, rfl, rfl⟩ := h
  obtain ⟨T', H', nx', g1, g2⟩ := k.run (trOf L) (trOf_get L)
  exact tc_regK hp (orc_ok hf) L hF h1 (opsD_calls orc_pure h2 g1) g2
theorem fnd_hd {g : FuncId} {args : List AV} {v : AV} {fs : List Fct} : fnd g args (⟨g, args, v⟩ :: fs) = some v := by simp [fnd]
theorem fnd_tl {g : FuncId} {args : List AV} {f : Fct} {fs : List Fct} {v : AV} (hg : Nat.beq f.g g = false) (h : fnd g args fs = some v) : fnd g args (f :: fs) = some v := by
  have : f.g ≠ g := fun e => by rw [e] at hg; simp at hg
  simp [fnd, this, h]
theorem orc_at {g : FuncId} {args : List AV} {v : AV} {t : Tr AObj} {nx w : Nat} {fs : List Fct} (h : fnd g args fs = some v) : orc t nx fs (.call g args ⟨t, [], w⟩ nx) = some (.call v ⟨t, [], w⟩ nx) := by simp [orc, h]
abbrev GOm (P : Program) (rec : Task → Option Res) (man : List Nat) (n : Nat) (ops : Array Oper) (S : Ms) (ds : List ADef) (Q : Qo) : Prop := GO P rec man S.set n ops S.l S.E ds S.H S.nx Q
variable {S : Ms}
theorem gq_load (x : Nat) {t : TypeId} {m off : Nat} {v : AV} {H0 : Hp} (hl : loadT P H0 t m off = some v) (hv : (hdV P n ops (go P x man n ops S).mid, (go P x man n ops S).H) = (some (.load t m off), H0))
    (k : GOm P rec man n ops ((go P x man n ops S).step v) ds Q) : GOm P rec man n ops S ds Q := by
  cases S with
  | mk E H nx l set =>
    obtain ⟨E', H1, nx1, l', e1, e2⟩ := go_eq (P := P) (man := man) (n := n) (ops := ops) x E H nx l set
    rw [e2] at hv k
    change GO P rec man set n ops l E ds H nx Q
    have hH : H1 = H0 := congrArg Prod.snd hv
    subst hH
    exact gq_load0 x hl (by rw [e1]; exact hv) (by rw [e1]; exact k)
theorem gq_pure (x : Nat) {v : AV} (r : Option AV) (hr : r = some v) (h : hdP P n ops (go P x man n ops S).mid = r) (k : GOm P rec man n ops ((go P x man n ops S).step v) ds Q) : GOm P rec man n ops S ds Q := by
  cases S with
  | mk E H nx l set =>
    obtain ⟨E', H1, nx1, l', e1, e2⟩ := go_eq (P := P) (man := man) (n := n) (ops := ops) x E H nx l set
    rw [e2] at h k
    change GO P rec man set n ops l E ds H nx Q
    exact gq_pure0 x r hr (by rw [e1]; exact h) (by rw [e1]; exact k)
theorem gq_call (x : Nat) {g : FuncId} {vs : List AV} {v : AV} {t : Tr AObj} {nx0 : Nat} {fs : List Fct} (hv : (hdV P n ops (go P x man n ops S).mid, (go P x man n ops S).H, (go P x man n ops S).nx) = (some (.call g vs), (⟨t, [], 0⟩ : Hp), nx0)) (hr : fnd g vs fs = some v)
    (k : GOm P (orc t nx0 fs) man n ops ((go P x man n ops S).step v) ds Q) : GOm P (orc t nx0 fs) man n ops S ds Q := by
  cases S with
  | mk E H nx l set =>
    obtain ⟨E', H1, nx1, l', e1, e2⟩ := go_eq (P := P) (man := man) (n := n) (ops := ops) x E H nx l set
    rw [e2] at hv k
    change GO P (orc t nx0 fs) man set n ops l E ds H nx Q
    have hH : H1 = (⟨t, [], 0⟩ : Hp) := congrArg (fun p => p.2.1) hv
    have hN : nx1 = nx0 := congrArg (fun p => p.2.2) hv
    subst hH hN
    exact gq_call0 x (orc_at hr) (by rw [e1]; exact hv) (by rw [e1]; exact k)
theorem gq_done (x : Nat) (h : (go P x man n ops S).l = []) (k : Q (go P x man n ops S).E ds (go P x man n ops S).H (go P x man n ops S).nx) : GOm P rec man n ops S ds Q := by
  cases S with
  | mk E H nx l set =>
    obtain ⟨E', H1, nx1, l', e1, e2⟩ := go_eq (P := P) (man := man) (n := n) (ops := ops) x E H nx l set
    rw [e2] at h k
    change GO P rec man set n ops l E ds H nx Q
    exact gq_done0 x (by rw [e1]; exact h) (by rw [e1]; exact k)
theorem tc_seqc {Q : Qc} (hp : progOk P = true) (man : List Nat) (L : List (Nat × AV)) (hF : Facts E L) {t : Tr AObj} {nx0 : Nat} (fs : List Fct) (hf : Fcts P t nx0 fs) (h : (kind c, kind (cA c), (cOps (cA c)).toList.all looksC, H, nx) = (3, 2, true, (⟨t, [], 0⟩ : Hp), nx0))
    (k : GOm P (orc t nx0 fs) man n (cOps (cA c)) (.mk (lk L noE) H nx (cOps (cA c)).toList []) ds (fun E ds H nx => TC P B n rd (cB c) E ds H nx Q)) : TC P B n rd c E ds H nx Q := by
  simp only [Prod.mk.injEq] at h
  exact tc_seq h.1 (tc_regc hp man L hF fs hf (by simp only [Prod.mk.injEq]; exact h.2) k)
end
end Abs
end Go.Proofs.YtoecekncncbjgaaGreat
