/- The evaluator: calls, calls of yield; an operation. -/
import Derived.Test.YthiifonejoejpaaAb10
import Derived.RangeFuncNested
import Derived.RangeFuncCalls
namespace Go.Proofs.Ythiifonejoejpaa
namespace Abs
open Go.RowKit
variable {P : Program} {m : NM}

theorem FR.fn {r : Option Nat} {F : Fence} (h : FR m r F) (f : FuncId) : F.fn f := by
  cases r with
  | none => cases h; trivial
  | some l => obtain ⟨k, _, rfl⟩ := h; trivial
theorem FR.depth {r : Option Nat} {F : Fence} (h : FR m r F) : F.depth = none := by
  cases r with
  | none => cases h; rfl
  | some l => obtain ⟨k, _, rfl⟩ := h; rfl
theorem FR.callsIn {r : Option Nat} {F : Fence} (h : FR m r F) {n : Nat} {f : FuncId} {xs : Array Value} {W : World} {R : Ending → World → Prop} (hc : Calls P f xs W R) : CallsIn F n P f xs W R := by
  cases r with
  | none => cases h; exact callsIn_wide.2 hc
  | some l => obtain ⟨k, _, rfl⟩ := h; exact CallsIn.inRound _ (callsIn_wide.2 hc)
theorem FR.inRound {r : Option Nat} {F : Fence} (h : FR m r F) (b : Nat) : F.inRound b = Fence.wide.inRound b := by
  cases r with
  | none => cases h; rfl
  | some l => obtain ⟨k, _, rfl⟩ := h; rfl

section ops
variable {F : Fence} {r : Option Nat} {o : Oper} {a : Act} {W : World} {next : Act → World → Prop} {Q : Exit → Act → World → Prop}
theorem wp_ends (hF : FR m r F) (hnd : ∀ c, o.op ≠ .defer c) {x : Next} {v : Value} {W' : World} (h : (execOp a.eval o).run P W = .ok x W') (he : Ends x v) (hn : next (a.put o.dst v) W') : o.wpIn F 0 P a W next Q := by
  refine ⟨fun f _ => hF.fn f, ?_⟩
  rw [Oper.semAt_eq _ _ _ hnd, h]
  rcases he with rfl | ⟨rfl, rfl⟩
  · exact hn
  · exact hn
theorem wp_call (hF : FR m r F) (hnd : ∀ c, o.op ≠ .defer c) {f : FuncId} {xs : Array Value} {R : Ending → World → Prop} (h : (execOp a.eval o).run P W = .ok (.enter f xs) W) (hc : Calls P f xs W R)
    (hR : ∀ e W', R e W' → ∃ v, e = .returned v ∧ next (a.put o.dst v) W') : o.wpIn F 0 P a W next Q := by
  refine ⟨fun f _ => hF.fn f, ?_⟩
  rw [Oper.semAt_eq _ _ _ hnd, h]
  refine ⟨(fun e => by rw [hF.depth] at e; cases e), hF.callsIn (hc.mono fun e W' he => ?_)⟩
  obtain ⟨v, rfl, h2⟩ := hR e W' he
  exact h2
end ops

/-- The temporaries of a round. -/
theorem bind_ok {n : Nat} : ∀ {ps : List Tmp} {vs : List AV} {T T' : Tr AV} {xs : List Value} {a : Array Value}, bindA n ps vs T = some T' → TR m n T a → VRs m vs xs →
    ps.length = xs.length ∧ TR m n T' ((ps.zip xs).foldl (fun t p => t.setIfInBounds p.1 p.2) a) := by
  intro ps
  induction ps with
  | nil =>
    intro vs T T' xs a h hT hv
    cases vs with
    | nil => simp [bindA] at h; subst h; rw [hv.nil_inv]; exact ⟨rfl, hT⟩
    | cons v vs => simp [bindA] at h
  | cons p ps ih =>
    intro vs T T' xs a h hT hv
    cases vs with
    | nil => simp [bindA] at h
    | cons v vs =>
      obtain ⟨x, t, rfl, h1, h2⟩ := hv.cons_inv
      simp only [bindA] at h
      have hT' : TR m n (cond (p.blt n) (T.set p v) T) (a.setIfInBounds p x) := by
        refine ⟨by simp [hT.1], fun i => ?_⟩
        have hs := hT.1
        have hi := hT.2 i
        rw [Bool.cond_eq_ite]
        split
        · rename_i hlt
          rw [Nat.blt_eq] at hlt
          rw [Tr.get_set]
          by_cases e : i = p
          · subst e; simp [hs, hlt]; exact h1
          · rw [if_neg e]
            simpa [Array.getD_eq_getD_getElem?, Array.getElem?_setIfInBounds_ne (Ne.symm e)] using hi
        · rename_i hlt
          rw [Nat.blt_eq] at hlt
          have hna : ¬ p < a.size := by rw [hs]; exact hlt
          have : a.setIfInBounds p x = a := by
            apply Array.ext_getElem?
            intro j
            by_cases e : p = j
            · subst e; simp [hna]
            · rw [Array.getElem?_setIfInBounds_ne e]
          rw [this]; exact hi
      obtain ⟨g1, g2⟩ := ih h hT' h2
      exact ⟨by simp [g1], by simpa using g2⟩

theorem loop_at {H : Hp} {W : World} {l : Nat} {L : ALoop} {k : Blk} (hR : Rel m H W) (h : H.get l = some (.loop L)) (hk : m l = some k) : ∃ r : Loop, W.heap[k.b]? = some (.loop r) ∧ OR m k (.loop L) (.loop r) := by
  obtain ⟨k', o, h1, h2, h3⟩ := hR.obj l _ h
  rw [hk] at h1; cases h1
  obtain ⟨r, rfl, h4⟩ := h3
  exact ⟨r, h2, r, rfl, h4⟩
/-- A loop's record is turned. -/
theorem loop_put {H : Hp} {nx : Nat} {W : World} {l : Nat} {L L' : ALoop} {k : Blk} {r r' : Loop} (hR : Rel m H W) (hW : Wf H nx) (hg : H.get l = some (.loop L)) (hk : m l = some k) (hb : W.heap[k.b]? = some (.loop r))
    (hO : OR m k (.loop L') (.loop r')) (hok : ObOk (.loop L')) : AP H nx (H.put l (.loop L')) nx ∧ Post m H nx W m (H.put l (.loop L')) nx (W.putObj k.b (.loop r')) := by
  have hlt := (Array.getElem?_eq_some_iff.1 hb).1
  exact put_ok hR hW hg rfl rfl hk (World.putObj_heap_same hlt) (fun b hb' => World.putObj_heap_other hb') World.putObj_size rfl rfl rfl hO hok

/-- What an operation comes to, whatever follows it. -/
def OpWp (P : Program) (m : NM) (H : Hp) (nx : Nat) (W : World) (F : Fence) (o : Oper) (a : Act) (v : AV) (H' : Hp) (nx' : Nat) : Prop :=
  ∀ (next : Act → World → Prop) (Q : Exit → Act → World → Prop), (∀ v' m' W', Post m H nx W m' H' nx' W' → VR m' v v' → next (a.put o.dst v') W') → o.wpIn F 0 P a W next Q

theorem yield_ap {rec : Task → Option Res} (hrec : RecOk P rec) {l : Nat} {vs : List AV} {H H' : Hp} {nx nx' : Nat} {v : AV} (hW : Wf H nx) (h : yieldA rec l vs H nx = some (v, H', nx')) :
    ∃ L T s1 L1 e s2 L2 L3 b, H.get l = some (.loop L) ∧ L.state = .ready ∧ bindA L.n L.params vs L.tmps = some T ∧ CodeOk P L.n (some l) L.assign ⟨T, [], H, nx⟩ .normal s1 ∧
      s1.heap.get l = some (.loop L1) ∧ L1.state = .ready ∧ CodeOk P L.n (some l) L.body ⟨s1.tmps, s1.defers, s1.heap.put l (.loop { L1 with state := .busy }), s1.next⟩ e s2 ∧
      s2.heap.get l = some (.loop L2) ∧ s2.defers = [] ∧ v = .bool b ∧ H' = s2.heap.put l (.loop L3) ∧ nx' = s2.next ∧
      (e = .normal ∧ b = true ∧ L3 = { L2 with state := .ready, pending := none } ∨ ∃ c, (e = .ret ∧ c = .ret ∨ (∃ i, e = .exit i ∧ c = .exit i) ∨ ∃ t, e = .goto t ∧ c = .goto t) ∧ b = false ∧ L3 = { L2 with state := .done, pending := some c }) := by
  unfold yieldA at h
  cases hg : H.get l with
  | none => simp [hg] at h
  | some ob =>
    cases ob <;> simp only [hg] at h <;> try (cases h; done)
    rename_i L
    cases hst : L.state <;> simp only [hst] at h <;> try (cases h; done)
    cases hbd : bindA L.n L.params vs L.tmps with
    | none => simp [hbd] at h
    | some T =>
      simp only [hbd] at h
      cases h1 : rec (.code L.n (some l) L.assign ⟨T, [], H, nx⟩) with
      | none => simp [h1] at h
      | some r1 =>
        cases r1 <;> simp only [h1] at h <;> try (cases h; done)
        rename_i e1 s1
        cases e1 <;> simp only at h <;> try (cases h; done)
        cases hg1 : s1.heap.get l with
        | none => simp [hg1] at h
        | some ob1 =>
          cases ob1 <;> simp only [hg1] at h <;> try (cases h; done)
          rename_i L1
          cases hst1 : L1.state <;> simp only [hst1] at h <;> try (cases h; done)
          cases h2 : rec (.code L.n (some l) L.body ⟨s1.tmps, s1.defers, s1.heap.put l (.loop { L1 with state := .busy }), s1.next⟩) with
          | none => simp [h2] at h
          | some r2 =>
            cases r2 <;> simp only [h2] at h <;> try (cases h; done)
            rename_i e s2
            cases hg2 : s2.heap.get l with
            | none => simp [hg2] at h
            | some ob2 =>
              cases ob2 <;> simp only [hg2] at h <;> try (cases h; done)
              rename_i L2
              cases hd : s2.defers with
              | cons d ds => simp [hd] at h
              | nil =>
                simp only [hd] at h
                cases e <;> simp only [Option.some.injEq, Prod.mk.injEq] at h <;> obtain ⟨rfl, rfl, rfl⟩ := h
                · exact ⟨L, T, s1, L1, .normal, s2, L2, _, true, rfl, hst, hbd, hrec _ _ h1, hg1, hst1, hrec _ _ h2, hg2, hd, rfl, rfl, rfl, .inl ⟨rfl, rfl, rfl⟩⟩
                · exact ⟨L, T, s1, L1, _, s2, L2, _, false, rfl, hst, hbd, hrec _ _ h1, hg1, hst1, hrec _ _ h2, hg2, hd, rfl, rfl, rfl, .inr ⟨_, .inr (.inl ⟨_, rfl, rfl⟩), rfl, rfl⟩⟩
                · exact ⟨L, T, s1, L1, _, s2, L2, _, false, rfl, hst, hbd, hrec _ _ h1, hg1, hst1, hrec _ _ h2, hg2, hd, rfl, rfl, rfl, .inr ⟨_, .inr (.inr ⟨_, rfl, rfl⟩), rfl, rfl⟩⟩
                · exact ⟨L, T, s1, L1, _, s2, L2, _, false, rfl, hst, hbd, hrec _ _ h1, hg1, hst1, hrec _ _ h2, hg2, hd, rfl, rfl, rfl, .inr ⟨_, .inl ⟨rfl, rfl⟩, rfl, rfl⟩⟩

theorem yield_ok {rec : Task → Option Res} (hrec : RecOk P rec) {l : Nat} {vs : List AV} {H H' : Hp} {nx nx' : Nat} {v : AV} (hW : Wf H nx) (h : yieldA rec l vs H nx = some (v, H', nx')) :
    AP H nx H' nx' ∧ ∀ m W (xs : Array Value) k (F : Fence) (r : Option Nat) (o : Oper) (a : Act), VRs m vs xs.toList → m l = some k → Rel m H W → Fresh m nx nx' → FR m r F → (∀ c, o.op ≠ .defer c) →
      (∀ w, (execOp a.eval o).run P w = (Instr.yield k.b xs).run P w) → OpWp P m H nx W F o a v H' nx' := by
  obtain ⟨L, T, s1, L1, e, s2, L2, L3, b, hg, hst, hbd, hc1, hg1, hst1, hc2, hg2, hd2, rfl, rfl, rfl, hend⟩ := yield_ap hrec hW h
  have hok := hW.ok l _ (Hp.get_some.1 hg).2
  obtain ⟨ok1, ok2, _⟩ := hok
  obtain ⟨ap1, wp1⟩ := hc1 ok1 hW
  have hok1 := ap1.wf.ok l _ (Hp.get_some.1 hg1).2
  have apb : AP s1.heap s1.next (s1.heap.put l (.loop { L1 with state := .busy })) s1.next := put_ap ap1.wf hg1 rfl hok1
  obtain ⟨ap2, wp2⟩ := hc2 ok2 apb.wf
  have hok2 := ap2.wf.ok l _ (Hp.get_some.1 hg2).2
  have hok3 : ObOk (.loop L3) := by
    obtain ⟨g1, g2, g3⟩ := hok2
    rcases hend with ⟨_, _, rfl⟩ | ⟨c, hc, _, rfl⟩
    · exact ⟨g1, g2, fun c hc => by cases hc⟩
    · refine ⟨g1, g2, fun c' hc' => ?_⟩
      cases hc'
      rcases hc with ⟨_, rfl⟩ | ⟨i, _, rfl⟩ | ⟨t, _, rfl⟩ <;> rfl
  have ap3 : AP s2.heap s2.next (s2.heap.put l (.loop L3)) s2.next := put_ap ap2.wf hg2 rfl hok3
  refine ⟨ap1.trans (apb.trans (ap2.trans ap3)), ?_⟩
  intro m W xs k F r o a hvs hk hR hF hfr hnd hrun next Q hnext
  obtain ⟨rr, hb, r0, hr0, e1, e2, e3, e4, e5, e6, e7⟩ := loop_at hR hg hk
  cases hr0
  obtain ⟨hpl, hTR⟩ := bind_ok (xs := xs.toList) hbd e6 hvs
  rw [Array.length_toList] at hpl
  have hsz : xs.size = rr.params.size := by rw [← hpl, ← e3, Array.length_toList]
  have hy := run_yield (P := P) (args := xs) hb hsz
  have hfold : ((rr.params.zip xs).foldl (fun tmps (t, a) => tmps.setIfInBounds t a) rr.tmps) = ((L.params.zip xs.toList).foldl (fun t p => t.setIfInBounds p.1 p.2) rr.tmps) := by
    rw [← Array.foldl_toList, Array.toList_zip, e3]
  refine ⟨fun f _ => hfr.fn f, ?_⟩
  rw [Oper.semAt_eq _ _ _ hnd, hrun W, hy, hfold, e4, e5]
  refine ⟨(fun e => by rw [hfr.depth] at e; cases e), roundIn_of_wpIn (hfr.fn _) ?_⟩
  rw [hfr.inRound]
  have hF1 : Fresh m nx s1.next := hF.left (Nat.le_trans apb.le (Nat.le_trans ap2.le ap3.le))
  have hw1 := wp1 m W ⟨(L.params.zip xs.toList).foldl (fun t p => t.setIfInBounds p.1 p.2) rr.tmps, []⟩ (Fence.wide.inRound k.b) ⟨hTR, rfl⟩ hR hF1 ⟨k, hk, rfl⟩
  refine wpIn_mono (wpC_wpIn hw1) ?_
  rintro ex a1 W1 ⟨rfl, m1, p1, sr1⟩
  have hk1 := p1.le _ _ hk
  obtain ⟨r1, hb1, or1⟩ := loop_at p1.rel hg1 hk1
  have or1' := or1
  obtain ⟨q1, hq1, f1, f2, f3, f4, f5, f6, f7⟩ := or1
  cases hq1
  obtain ⟨_, pb⟩ := loop_put (L' := { L1 with state := .busy }) (r' := { r1 with state := .busy }) p1.rel ap1.wf hg1 hk1 hb1 ⟨_, rfl, rfl, f2, f3, f4, f5, f6, f7⟩ hok1
  refine ⟨_, run_beginRound hb1 (f1.trans hst1), ?_⟩
  have hF2 : Fresh m1 s1.next s2.next := p1.fresh (hF.left ap3.le) ap1.le
  have hw2 := wp2 m1 _ a1 (Fence.wide.inRound k.b) ⟨sr1.tmps, sr1.defers⟩ pb.rel hF2 ⟨k, hk1, rfl⟩
  refine wpIn_mono (wpC_wpIn hw2) ?_
  rintro ex a2 W2 ⟨rfl, m2, p2, sr2⟩
  have hk2 := p2.le _ _ hk1
  obtain ⟨r2, hb2, q2, hq2, g1, g2, g3, g4, g5, g6, g7⟩ := loop_at p2.rel hg2 hk2
  cases hq2
  have pall : ∀ W3, Post m2 s2.heap s2.next W2 m2 (s2.heap.put l (.loop L3)) s2.next W3 → Post m H nx W m2 (s2.heap.put l (.loop L3)) s2.next W3 := fun W3 p3 =>
    p1.trans ap1 (apb.trans (ap2.trans ap3)) hF1 (pb.trans apb (ap2.trans ap3) (fun i a b => by omega) (p2.trans ap2 ap3 hF2 p3))
  rcases hend with ⟨rfl, rfl, rfl⟩ | ⟨c, hc, rfl, rfl⟩
  · obtain ⟨_, p3⟩ := loop_put (L' := { L2 with state := .ready, pending := none }) (r' := { r2 with state := .ready, pending := none }) p2.rel ap2.wf hg2 hk2 hb2 ⟨_, rfl, rfl, rfl, g3, g4, g5, g6, g7⟩ hok3
    exact ⟨_, _, run_endRound none hb2, hnext _ _ _ (pall _ p3) (by simp only [VR]; rfl)⟩
  · obtain ⟨_, p3⟩ := loop_put (L' := { L2 with state := .done, pending := some c }) (r' := { r2 with state := .done, pending := some c }) p2.rel ap2.wf hg2 hk2 hb2 ⟨_, rfl, rfl, rfl, g3, g4, g5, g6, g7⟩ hok3
    have fin : ∀ c', c = c' → ∃ v w', (Instr.endRound k.b (some c')).run P W2 = .ok v w' ∧ next (a.put o.dst v) w' := by
      rintro _ rfl
      exact ⟨_, _, run_endRound (some c) hb2, hnext _ _ _ (pall _ p3) (by simp only [VR]; rfl)⟩
    rcases hc with ⟨rfl, rfl⟩ | ⟨i, rfl, rfl⟩ | ⟨t, rfl, rfl⟩
    · exact fin _ rfl
    · exact fin _ rfl
    · exact fin _ rfl
end Abs
end Go.Proofs.Ythiifonejoejpaa
