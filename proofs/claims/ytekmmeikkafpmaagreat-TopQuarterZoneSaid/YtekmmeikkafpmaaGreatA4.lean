/- The evaluator: what is to be shown of a run; names behind an operation. -/
import Derived.Test.YtekmmeikkafpmaaGreatA3
import Derived.RangeFuncNested
import Derived.RangeFuncCalls
import Derived.OrdersIn
set_option linter.unusedSimpArgs false
set_option linter.unusedVariables false
namespace Go.Proofs.YtekmmeikkafpmaaGreat
namespace Abs
open Go.RowKit
variable {P : Program} {m : NM}

def FR (m : NM) : Option Nat → Fence → Prop
  | none, F => F = Fence.wide
  | some l, F => ∃ k, m l = some k ∧ F = Fence.wide.inRound k.b
theorem FR.mono {m m' : NM} (h : Le m m') {r : Option Nat} {F : Fence} (k : FR m r F) : FR m' r F := by
  cases r with
  | none => exact k
  | some l => obtain ⟨b, h1, h2⟩ := k; exact ⟨b, h _ _ h1, h2⟩
def DR (m : NM) : List ADef → List Deferred → Prop
  | [], ds => ds = []
  | .mark r :: l, ds => ∃ k t, m r = some k ∧ ds = { target := .collected k.b, args := #[] } :: t ∧ DR m l t
  | .fn f cap args :: l, ds => ∃ xs ys t, ds = { target := .fn (.func f) ys, args := xs } :: t ∧ VRs m cap ys.toList ∧ VRs m args xs.toList ∧ DR m l t
theorem DR.mono {m m' : NM} (h : Le m m') : ∀ {l : List ADef} {ds : List Deferred}, DR m l ds → DR m' l ds := by
  intro l
  induction l with
  | nil => intro ds k; exact k
  | cons d l ih =>
    intro ds k
    cases d with
    | mark r => obtain ⟨b, t, h1, rfl, h2⟩ := k; exact ⟨b, t, h _ _ h1, rfl, ih h2⟩
    | fn f cap args => obtain ⟨xs, ys, t, rfl, h1, h2, h3⟩ := k; exact ⟨xs, ys, t, rfl, h1.mono h, h2.mono h, ih h3⟩
structure SR (m : NM) (n : Nat) (s : St) (a : Act) : Prop where
  tmps : TR m n s.tmps a.tmps
  defers : DR m s.defers a.defers
theorem SR.mono {m m' : NM} (h : Le m m') {n : Nat} {s : St} {a : Act} (k : SR m n s a) : SR m' n s a := ⟨k.tmps.mono h, k.defers.mono h⟩
def Ex.toExit : Ex → Exit
  | .normal => .normal
  | .exit id => .exit id
  | .goto l => .goto l
  | .ret => .ret

def wpC (F : Fence) (P : Program) (Q : Exit → Act → World → Prop) (a : Act) (w : World) : Code → Prop
  | .loop c => ∀ (b : Frame) (k : List Item) (cs : List Frame), b.roundOf = F.round → F.fn b.fn → F.room (cs.length + 1 + 0) →
      ∃ e a' w', Q e a' w' ∧ ArrivesIn (Machine.fenced P F) P (lone (b.atR a (.code c :: .inLoop c :: k)) cs w) b k cs e a' w'
  | c => c.wpIn F 0 P Q a w
theorem wpC_wpIn {F : Fence} {Q : Exit → Act → World → Prop} {a : Act} {w : World} {c : Code} (h : wpC F P Q a w c) : c.wpIn F 0 P Q a w := by
  cases c with
  | loop c =>
    intro b k cs hro hb hr
    obtain ⟨e, a', w', hq, harr⟩ := h b k cs hro hb hr
    exact ⟨e, a', w', hq, .of_steps (.one (fenced_calm hb hr rfl) stepR_loop) harr⟩
  | _ => exact h
theorem wpC_loop {F : Fence} {Q : Exit → Act → World → Prop} {a : Act} {w : World} {c : Code} (h : c.wpIn F 0 P (Exit.then (fun a' w' => wpC F P Q a' w' (.loop c)) Q) a w) : wpC F P Q a w (.loop c) := by
  intro b k cs hro hb hr
  obtain ⟨e, a₁, w₁, hq, harr⟩ := h b (.inLoop c :: k) cs hro hb hr
  cases e with
  | normal =>
    obtain ⟨e₂, a₂, w₂, hq₂, harr₂⟩ := hq b k cs hro hb hr
    exact ⟨e₂, a₂, w₂, hq₂, .of_steps (StepsIn.trans harr (.one (fenced_calm hb hr rfl) stepR_inLoop)) harr₂⟩
  | exit id => exact ⟨_, a₁, w₁, hq, .pass (x := .inLoop c) rfl (fun _ _ => .inl (by simp)) harr⟩
  | goto l => exact ⟨_, a₁, w₁, hq, .pass (x := .inLoop c) rfl (fun _ _ => .inl (by simp)) harr⟩
  | ret => exact ⟨_, a₁, w₁, hq, .pass (x := .inLoop c) rfl (fun _ _ => .inl (by simp)) harr⟩
  | panic ch => exact ⟨_, a₁, w₁, hq, .pass (x := .inLoop c) rfl (fun _ _ => .inl (by simp)) harr⟩
  | outgrown => exact ⟨_, a₁, w₁, hq, .pass (x := .inLoop c) rfl (fun _ _ => .inl (by simp)) harr⟩
theorem wpC_mono {F : Fence} {Q Q' : Exit → Act → World → Prop} {a : Act} {w : World} {c : Code} (h : wpC F P Q a w c) (hq : ∀ e a w, Q e a w → Q' e a w) : wpC F P Q' a w c := by
  cases c with
  | loop c => exact fun b k cs h1 h2 h3 => let ⟨e, a', w', q, r⟩ := h b k cs h1 h2 h3; ⟨e, a', w', hq _ _ _ q, r⟩
  | _ => exact wpIn_mono h hq

def CPost (m : NM) (n : Nat) (s : St) (W : World) (e : Ex) (s' : St) (ex : Exit) (a' : Act) (W' : World) : Prop := ex = e.toExit ∧ ∃ m', Post m s.heap s.next W m' s'.heap s'.next W' ∧ SR m' n s' a'
def VPost (m : NM) (H : Hp) (nx : Nat) (W : World) (v : AV) (H' : Hp) (nx' : Nat) (e : Ending) (W' : World) : Prop := ∃ v' m', e = .returned v' ∧ Post m H nx W m' H' nx' W' ∧ VR m' v v'
def CodeOk (P : Program) (n : Nat) (round : Option Nat) (c : Code) (s : St) (e : Ex) (s' : St) : Prop := codeOk c = true → Wf s.heap s.next → AP s.heap s.next s'.heap s'.next ∧
  ∀ m W a F, SR m n s a → Rel m s.heap W → Fresh m s.next s'.next → FR m round F → wpC F P (CPost m n s W e s') a W c
def HasBody (P : Program) (f : FuncId) : Prop := ∃ fn c, P.funcs[f]? = some fn ∧ fn.body = some c ∧ (fn.name == "runtime.NumGoroutine") = false
theorem HasBody.call {f : FuncId} (h : HasBody P f) (args : Array Value) (w : World) : (callFunc f args).run P w = .ok (.enter f args) w := by
  obtain ⟨fn, c, h1, h2, h3⟩ := h
  simp only [callFunc, Sem.run_bind, run_program, Result.andThen_ok, h1]
  rw [Sem.run_ite, if_neg (by simp [h3]), Sem.run_ite, if_neg (by simp [h2])]
  rfl
def CallOk (P : Program) (f : FuncId) (args : List AV) (H : Hp) (nx : Nat) (v : AV) (H' : Hp) (nx' : Nat) : Prop := Wf H nx → HasBody P f ∧ AP H nx H' nx' ∧
  ∀ m W (xs : Array Value), VRs m args xs.toList → Rel m H W → Fresh m nx nx' → Calls P f xs W (VPost m H nx W v H' nx')
def DCallOk (P : Program) (f : FuncId) (args : List AV) (H : Hp) (nx : Nat) (v : AV) (H' : Hp) (nx' : Nat) : Prop := Wf H nx → HasBody P f ∧ AP H nx H' nx' ∧
  ∀ m W (xs : Array Value) (u : FrameMode), VRs m args xs.toList → Rel m H W → Fresh m nx nx' → CallsDIn Fence.wide 0 P f xs u W (fun e u' W' => u' = u ∧ VPost m H nx W v H' nx' e W')
def TaskOk (P : Program) : Task → Res → Prop
  | .code n round c s, .code e s' => CodeOk P n round c s e s'
  | .call f args H nx, .call v H' nx' => CallOk P f args H nx v H' nx'
  | .dcall f args H nx, .call v H' nx' => DCallOk P f args H nx v H' nx'
  | _, _ => True
def RecOk (P : Program) (rec : Task → Option Res) : Prop := ∀ t r, rec t = some r → TaskOk P t r

section ap
variable {H H' : Hp} {nx nx' : Nat} {T : Tr AV}
theorem cellsW_ap {n : Nat} {cs cs' : List AV} (hW : Wf H nx) (h : cellsW H n = some cs) : AP H nx (H.put n (.cells true cs')) nx := put_ap hW (cellsW_inv h) rfl
theorem mapAt_inv {r : Nat} {p : List (AV × AV × Nat) × Nat} (h : mapAt H r = some p) : H.get r = some (.map p.1 p.2) := by
  unfold mapAt at h
  split at h
  · rename_i e; cases h; exact e
  · cases h
theorem lend_ap {n r : Nat} {cs new : List AV} (hW : Wf H nx) (hla : lentAt H n = some (r, cs)) : AP H nx (((dropL r (nx - (n + 1)) (n + 1) H).put n (.lent r cs)).lay nx (.lent r (cs ++ new))) (nx + 1) := by
  obtain ⟨ob, hn, hob⟩ : ∃ ob, H.get n = some ob ∧ (ob = .cells true cs ∨ ob = .lent r cs) := by
    rcases lentAt_inv hla with ⟨a, b⟩ | a
    · exact ⟨_, a, .inl rfl⟩
    · exact ⟨_, a, .inr rfl⟩
  have dA := dropL_ap r (nx - (n + 1)) (n + 1) H hW
  have dn : (dropL r (nx - (n + 1)) (n + 1) H).get n = some ob := by rw [dropL_low r n _ _ _ (by omega)]; exact hn
  have pA : AP (dropL r (nx - (n + 1)) (n + 1) H) nx ((dropL r (nx - (n + 1)) (n + 1) H).put n (.lent r cs)) nx :=
    put_ap dA.wf dn (by rcases hob with rfl | rfl <;> rfl) trivial (fun L0 e => by rcases hob with rfl | rfl <;> cases e)
  exact (dA.trans pA).trans (lay_ap pA.wf _)
theorem grow_ap {i0 : TypeInfo} {k : Nat} {new : List AV} {s v : AV} (hW : Wf H nx) (h : growA i0 H nx k new s = some (v, H', nx')) : AP H nx H' nx' := by
  unfold growA at h
  simp only [Bool.cond_eq_ite] at h
  (repeat' split at h) <;> first
    | (cases h; done)
    | (simp only [Option.some.injEq, Prod.mk.injEq] at h; obtain ⟨_, rfl, rfl⟩ := h; first
        | exact .refl hW
        | exact lay_ap hW _
        | exact cellsW_ap hW (by assumption)
        | exact (del_ap hW).trans (lay_ap (del_ap hW).wf _)
        | exact lend_ap hW (by assumption))
theorem append_ap {t xt : TypeId} {s x v : AV} (hW : Wf H nx) (h : appendA P t xt s x H nx = some (v, H', nx')) : AP H nx H' nx' := by
  unfold appendA at h
  simp only [Bool.cond_eq_ite] at h
  (repeat' split at h) <;> first
    | (cases h; done)
    | exact grow_ap hW h
    | (simp only [Option.some.injEq, Prod.mk.injEq] at h; obtain ⟨_, rfl, rfl⟩ := h; exact .refl hW)
theorem copy_ap {t : TypeId} {s x v : AV} (hW : Wf H nx) (h : copyA P t s x H = some (v, H')) : AP H nx H' nx := by
  unfold copyA at h
  simp only [Bool.cond_eq_ite] at h
  (repeat' split at h) <;> first
    | (cases h; done)
    | (simp only [Option.some.injEq, Prod.mk.injEq] at h; obtain ⟨_, rfl⟩ := h; first
        | exact .refl hW
        | exact cellsW_ap hW (by assumption))
theorem clear_ap {t : TypeId} {x : AV} (hW : Wf H nx) (h : clearA P t x H = some H') : AP H nx H' nx := by
  unfold clearA at h
  simp only [Bool.cond_eq_ite] at h
  (repeat' split at h) <;> first
    | (cases h; done)
    | (simp only [Option.some.injEq] at h; subst h; first
        | exact .refl hW
        | exact cellsW_ap hW (by assumption))
theorem heap_ap {rec : Task → Option Res} {o : Op} {v : AV} (hW : Wf H nx) (h : heapA P rec T H nx o = some (v, H', nx'))
    (hnc : ∀ f args ts, o ≠ .call { callee := .value f, args := args, argTypes := ts }) : AP H nx H' nx' := by
  unfold heapA at h
  simp only [Bool.cond_eq_ite] at h
  (repeat' split at h) <;> first
    | (cases h; done)
    | (exact absurd rfl (hnc _ _ _))
    | exact append_ap hW h
    | (simp only [Option.some.injEq, Prod.mk.injEq] at h; obtain ⟨_, rfl, rfl⟩ := h; first
        | exact .refl hW
        | exact lay_ap hW _
        | exact cellsW_ap hW (by assumption)
        | exact copy_ap hW (by assumption)
        | exact clear_ap hW (by assumption)
        | (rename_i hg _ _ _ _ _ _ _ _; exact put_ap hW hg rfl)
        | (rename_i hg _ _ _ _ _ _ _ ; exact put_ap hW hg rfl)
        | (rename_i hg _ _ _ _ _ _  ; exact put_ap hW hg rfl)
        | exact put_ap hW (mapAt_inv (by assumption)) rfl)
end ap
end Abs
end Go.Proofs.YtekmmeikkafpmaaGreat

namespace Go.Proofs.YtekmmeikkafpmaaGreat
namespace Abs
open Go.RowKit
variable {P : Program} {m : NM}

theorem FR.fn {r : Option Nat} {F : Fence} (h : FR m r F) (f : FuncId) : F.fn f := by
  cases r with
  | none => cases h; trivial
  | some l => obtain ⟨k, _, rfl⟩ := h; trivial
theorem FR.depth {r : Option Nat} {F : Fence} (h : FR m r F) : F.depth = none := by
  cases r with
  | none => cases h; rfl
  | some l => obtain ⟨k, _, rfl⟩ := h; rfl
theorem FR.callsIn {r : Option Nat} {F : Fence} (h : FR m r F) {n : Nat} {f : FuncId} {xs : Array Value} {W : World} {R : Ending → World → Prop} (hc : Calls P f xs W R) : CallsIn F n P f xs W R := by
  cases r with
  | none => cases h; exact callsIn_wide.2 hc
  | some l => obtain ⟨k, _, rfl⟩ := h; exact CallsIn.inRound _ (callsIn_wide.2 hc)
theorem FR.inRound {r : Option Nat} {F : Fence} (h : FR m r F) (b : Nat) : F.inRound b = Fence.wide.inRound b := by
  cases r with
  | none => cases h; rfl
  | some l => obtain ⟨k, _, rfl⟩ := h; rfl

section ops
variable {F : Fence} {r : Option Nat} {o : Oper} {a : Act} {W : World} {next : Act → World → Prop} {Q : Exit → Act → World → Prop}
theorem wp_ends (hF : FR m r F) (hnd : ∀ c, o.op ≠ .defer c) {x : Next} {v : Value} {W' : World} (h : (execOp a.eval o).run P W = .ok x W') (he : Ends x v) (hn : next (a.put o.dst v) W') : o.wpIn F 0 P a W next Q := by
  refine ⟨fun f _ => hF.fn f, ?_⟩
  rw [Oper.semAt_eq _ _ _ hnd, h]
  rcases he with rfl | ⟨rfl, rfl⟩
  · exact hn
  · exact hn
theorem wp_call (hF : FR m r F) (hnd : ∀ c, o.op ≠ .defer c) {f : FuncId} {xs : Array Value} {R : Ending → World → Prop} (h : (execOp a.eval o).run P W = .ok (.enter f xs) W) (hc : Calls P f xs W R)
    (hR : ∀ e W', R e W' → ∃ v, e = .returned v ∧ next (a.put o.dst v) W') : o.wpIn F 0 P a W next Q := by
  refine ⟨fun f _ => hF.fn f, ?_⟩
  rw [Oper.semAt_eq _ _ _ hnd, h]
  refine ⟨(fun e => by rw [hF.depth] at e; cases e), hF.callsIn (hc.mono fun e W' he => ?_)⟩
  obtain ⟨v, rfl, h2⟩ := hR e W' he
  exact h2
end ops

theorem bind_ok {n : Nat} : ∀ {ps : List Tmp} {vs : List AV} {T T' : Tr AV} {xs : List Value} {a : Array Value}, bindA n ps vs T = some T' → TR m n T a → VRs m vs xs →
    ps.length = xs.length ∧ TR m n T' ((ps.zip xs).foldl (fun t p => t.setIfInBounds p.1 p.2) a) := by
  intro ps
  induction ps with
  | nil =>
    intro vs T T' xs a h hT hv
    cases vs with
    | nil => simp [bindA] at h; subst h; rw [hv.nil_inv]; exact ⟨rfl, hT⟩
    | cons v vs => simp [bindA] at h
  | cons p ps ih =>
    intro vs T T' xs a h hT hv
    cases vs with
    | nil => simp [bindA] at h
    | cons v vs =>
      obtain ⟨x, t, rfl, h1, h2⟩ := hv.cons_inv
      simp only [bindA] at h
      have hT' : TR m n (cond (p.blt n) (T.set p v) T) (a.setIfInBounds p x) := by
        refine ⟨by simp [hT.1], fun i => ?_⟩
        have hs := hT.1
        have hi := hT.2 i
        rw [Bool.cond_eq_ite]
        split
        · rename_i hlt
          rw [Nat.blt_eq] at hlt
          rw [Tr.get_set]
          by_cases e : i = p
          · subst e; simp [hs, hlt]; exact h1
          · rw [if_neg e]
            simpa [Array.getD_eq_getD_getElem?, Array.getElem?_setIfInBounds_ne (Ne.symm e)] using hi
        · rename_i hlt
          rw [Nat.blt_eq] at hlt
          have hna : ¬ p < a.size := by rw [hs]; exact hlt
          have : a.setIfInBounds p x = a := by
            apply Array.ext_getElem?
            intro j
            by_cases e : p = j
            · subst e; simp [hna]
            · rw [Array.getElem?_setIfInBounds_ne e]
          rw [this]; exact hi
      obtain ⟨g1, g2⟩ := ih h hT' h2
      exact ⟨by simp [g1], by simpa using g2⟩

theorem loop_at {H : Hp} {W : World} {l : Nat} {L : ALoop} {k : Blk} (hR : Rel m H W) (h : H.get l = some (.loop L)) (hk : m l = some k) : ∃ r : Loop, W.heap[k.b]? = some (.loop r) ∧ OR m k (.loop L) (.loop r) := by
  obtain ⟨k', o, h1, h2, h3⟩ := hR.obj l _ h
  rw [hk] at h1; cases h1
  obtain ⟨r, rfl, h4⟩ := h3
  exact ⟨r, h2, r, rfl, h4⟩
theorem loop_put {H : Hp} {nx : Nat} {W : World} {l : Nat} {L L' : ALoop} {k : Blk} {r r' : Loop} (hR : Rel m H W) (hW : Wf H nx) (hg : H.get l = some (.loop L)) (hk : m l = some k) (hb : W.heap[k.b]? = some (.loop r))
    (hO : OR m k (.loop L') (.loop r')) (hok : ObOk (.loop L')) (hcode : L'.assign = L.assign ∧ L'.body = L.body := by exact ⟨rfl, rfl⟩) : AP H nx (H.put l (.loop L')) nx ∧ Post m H nx W m (H.put l (.loop L')) nx (W.putObj k.b (.loop r')) := by
  have hlt := (Array.getElem?_eq_some_iff.1 hb).1
  exact put_ok hR hW hg rfl rfl hk (World.putObj_heap_same hlt) (fun b hb' => World.putObj_heap_other hb') World.putObj_size rfl rfl rfl hO hok rfl (fun L0 e => by cases e; exact ⟨L', rfl, hcode⟩)

def OpWp (P : Program) (m : NM) (H : Hp) (nx : Nat) (W : World) (F : Fence) (o : Oper) (a : Act) (v : AV) (H' : Hp) (nx' : Nat) : Prop :=
  ∀ (next : Act → World → Prop) (Q : Exit → Act → World → Prop), (∀ v' m' W', Post m H nx W m' H' nx' W' → VR m' v v' → next (a.put o.dst v') W') → o.wpIn F 0 P a W next Q

theorem yield_ap {rec : Task → Option Res} (hrec : RecOk P rec) {l : Nat} {vs : List AV} {H H' : Hp} {nx nx' : Nat} {v : AV} (hW : Wf H nx) (h : yieldA rec l vs H nx = some (v, H', nx')) :
    ∃ L T s1 L1 e s2 L2 L3 b, H.get l = some (.loop L) ∧ L.state = .ready ∧ bindA L.n L.params vs L.tmps = some T ∧ CodeOk P L.n (some l) L.assign ⟨T, [], H, nx⟩ .normal s1 ∧
      s1.heap.get l = some (.loop L1) ∧ L1.state = .ready ∧ CodeOk P L.n (some l) L.body ⟨s1.tmps, s1.defers, s1.heap.put l (.loop { L1 with state := .busy }), s1.next⟩ e s2 ∧
      s2.heap.get l = some (.loop L2) ∧ s2.defers = [] ∧ v = .bool b ∧ H' = s2.heap.put l (.loop L3) ∧ nx' = s2.next ∧
      (e = .normal ∧ b = true ∧ L3 = { L2 with state := .ready, pending := none } ∨ ∃ c, (e = .ret ∧ c = .ret ∨ (∃ i, e = .exit i ∧ c = .exit i) ∨ ∃ t, e = .goto t ∧ c = .goto t) ∧ b = false ∧ L3 = { L2 with state := .done, pending := some c }) := by
  unfold yieldA at h
  cases hg : H.get l with
  | none => simp [hg] at h
  | some ob =>
    cases ob <;> simp only [hg] at h <;> try (cases h; done)
    rename_i L
    cases hst : L.state <;> simp only [hst] at h <;> try (cases h; done)
    cases hbd : bindA L.n L.params vs L.tmps with
    | none => simp [hbd] at h
    | some T =>
      simp only [hbd] at h
      cases h1 : rec (.code L.n (some l) L.assign ⟨T, [], H, nx⟩) with
      | none => simp [h1] at h
      | some r1 =>
        cases r1 <;> simp only [h1] at h <;> try (cases h; done)
        rename_i e1 s1
        cases e1 <;> simp only at h <;> try (cases h; done)
        cases hg1 : s1.heap.get l with
        | none => simp [hg1] at h
        | some ob1 =>
          cases ob1 <;> simp only [hg1] at h <;> try (cases h; done)
          rename_i L1
          cases hst1 : L1.state <;> simp only [hst1] at h <;> try (cases h; done)
          cases h2 : rec (.code L.n (some l) L.body ⟨s1.tmps, s1.defers, s1.heap.put l (.loop { L1 with state := .busy }), s1.next⟩) with
          | none => simp [h2] at h
          | some r2 =>
            cases r2 <;> simp only [h2] at h <;> try (cases h; done)
            rename_i e s2
            cases hg2 : s2.heap.get l with
            | none => simp [hg2] at h
            | some ob2 =>
              cases ob2 <;> simp only [hg2] at h <;> try (cases h; done)
              rename_i L2
              cases hd : s2.defers with
              | cons d ds => simp [hd] at h
              | nil =>
                simp only [hd] at h
                cases e <;> simp only [Option.some.injEq, Prod.mk.injEq] at h <;> obtain ⟨rfl, rfl, rfl⟩ := h
                · exact ⟨L, T, s1, L1, .normal, s2, L2, _, true, rfl, hst, hbd, hrec _ _ h1, hg1, hst1, hrec _ _ h2, hg2, hd, rfl, rfl, rfl, .inl ⟨rfl, rfl, rfl⟩⟩
                · exact ⟨L, T, s1, L1, _, s2, L2, _, false, rfl, hst, hbd, hrec _ _ h1, hg1, hst1, hrec _ _ h2, hg2, hd, rfl, rfl, rfl, .inr ⟨_, .inr (.inl ⟨_, rfl, rfl⟩), rfl, rfl⟩⟩
                · exact ⟨L, T, s1, L1, _, s2, L2, _, false, rfl, hst, hbd, hrec _ _ h1, hg1, hst1, hrec _ _ h2, hg2, hd, rfl, rfl, rfl, .inr ⟨_, .inr (.inr ⟨_, rfl, rfl⟩), rfl, rfl⟩⟩
                · exact ⟨L, T, s1, L1, _, s2, L2, _, false, rfl, hst, hbd, hrec _ _ h1, hg1, hst1, hrec _ _ h2, hg2, hd, rfl, rfl, rfl, .inr ⟨_, .inl ⟨rfl, rfl⟩, rfl, rfl⟩⟩

theorem yield_ok {rec : Task → Option Res} (hrec : RecOk P rec) {l : Nat} {vs : List AV} {H H' : Hp} {nx nx' : Nat} {v : AV} (hW : Wf H nx) (h : yieldA rec l vs H nx = some (v, H', nx')) :
    AP H nx H' nx' ∧ ∀ m W (xs : Array Value) k (F : Fence) (r : Option Nat) (o : Oper) (a : Act), VRs m vs xs.toList → m l = some k → Rel m H W → Fresh m nx nx' → FR m r F → (∀ c, o.op ≠ .defer c) →
      (∀ w, (execOp a.eval o).run P w = (Instr.yield k.b xs).run P w) → OpWp P m H nx W F o a v H' nx' := by
  obtain ⟨L, T, s1, L1, e, s2, L2, L3, b, hg, hst, hbd, hc1, hg1, hst1, hc2, hg2, hd2, rfl, rfl, rfl, hend⟩ := yield_ap hrec hW h
  have hok := hW.ok l _ (Hp.get_some.1 hg).2
  obtain ⟨ok1, ok2, _⟩ := hok
  obtain ⟨ap1, wp1⟩ := hc1 ok1 hW
  have hok1 := ap1.wf.ok l _ (Hp.get_some.1 hg1).2
  have apb : AP s1.heap s1.next (s1.heap.put l (.loop { L1 with state := .busy })) s1.next := put_ap ap1.wf hg1 rfl hok1
  obtain ⟨ap2, wp2⟩ := hc2 ok2 apb.wf
  have hok2 := ap2.wf.ok l _ (Hp.get_some.1 hg2).2
  have hok3 : ObOk (.loop L3) := by
    obtain ⟨g1, g2, g3⟩ := hok2
    rcases hend with ⟨_, _, rfl⟩ | ⟨c, hc, _, rfl⟩
    · exact ⟨g1, g2, fun c hc => by cases hc⟩
    · refine ⟨g1, g2, fun c' hc' => ?_⟩
      cases hc'
      rcases hc with ⟨_, rfl⟩ | ⟨i, _, rfl⟩ | ⟨t, _, rfl⟩ <;> rfl
  have hcd : L3.assign = L2.assign ∧ L3.body = L2.body := by
    rcases hend with ⟨_, _, rfl⟩ | ⟨c, hc, _, rfl⟩ <;> exact ⟨rfl, rfl⟩
  have ap3 : AP s2.heap s2.next (s2.heap.put l (.loop L3)) s2.next := put_ap ap2.wf hg2 rfl hok3 (fun L0 e => by cases e; exact ⟨L3, rfl, hcd⟩)
  refine ⟨ap1.trans (apb.trans (ap2.trans ap3)), ?_⟩
  intro m W xs k F r o a hvs hk hR hF hfr hnd hrun next Q hnext
  obtain ⟨rr, hb, r0, hr0, e1, e2, e3, e4, e5, e6, e7⟩ := loop_at hR hg hk
  cases hr0
  obtain ⟨hpl, hTR⟩ := bind_ok (xs := xs.toList) hbd e6 hvs
  rw [Array.length_toList] at hpl
  have hsz : xs.size = rr.params.size := by rw [← hpl, ← e3, Array.length_toList]
  have hy := run_yield (P := P) (args := xs) hb hsz
  have hfold : ((rr.params.zip xs).foldl (fun tmps (t, a) => tmps.setIfInBounds t a) rr.tmps) = ((L.params.zip xs.toList).foldl (fun t p => t.setIfInBounds p.1 p.2) rr.tmps) := by
    rw [← Array.foldl_toList, Array.toList_zip, e3]
  refine ⟨fun f _ => hfr.fn f, ?_⟩
  rw [Oper.semAt_eq _ _ _ hnd, hrun W, hy, hfold, e4, e5]
  refine ⟨(fun e => by rw [hfr.depth] at e; cases e), roundIn_of_wpIn (hfr.fn _) ?_⟩
  rw [hfr.inRound]
  have hF1 : Fresh m nx s1.next := hF.left (Nat.le_trans apb.le (Nat.le_trans ap2.le ap3.le))
  have hw1 := wp1 m W ⟨(L.params.zip xs.toList).foldl (fun t p => t.setIfInBounds p.1 p.2) rr.tmps, []⟩ (Fence.wide.inRound k.b) ⟨hTR, rfl⟩ hR hF1 ⟨k, hk, rfl⟩
  refine wpIn_mono (wpC_wpIn hw1) ?_
  rintro ex a1 W1 ⟨rfl, m1, p1, sr1⟩
  have hk1 := p1.le _ _ hk
  obtain ⟨r1, hb1, or1⟩ := loop_at p1.rel hg1 hk1
  have or1' := or1
  obtain ⟨q1, hq1, f1, f2, f3, f4, f5, f6, f7⟩ := or1
  cases hq1
  obtain ⟨_, pb⟩ := loop_put (L' := { L1 with state := .busy }) (r' := { r1 with state := .busy }) p1.rel ap1.wf hg1 hk1 hb1 ⟨_, rfl, rfl, f2, f3, f4, f5, f6, f7⟩ hok1
  refine ⟨_, run_beginRound hb1 (f1.trans hst1), ?_⟩
  have hF2 : Fresh m1 s1.next s2.next := p1.fresh (hF.left ap3.le) ap1.le
  have hw2 := wp2 m1 _ a1 (Fence.wide.inRound k.b) ⟨sr1.tmps, sr1.defers⟩ pb.rel hF2 ⟨k, hk1, rfl⟩
  refine wpIn_mono (wpC_wpIn hw2) ?_
  rintro ex a2 W2 ⟨rfl, m2, p2, sr2⟩
  have hk2 := p2.le _ _ hk1
  obtain ⟨r2, hb2, q2, hq2, g1, g2, g3, g4, g5, g6, g7⟩ := loop_at p2.rel hg2 hk2
  cases hq2
  have pall : ∀ W3, Post m2 s2.heap s2.next W2 m2 (s2.heap.put l (.loop L3)) s2.next W3 → Post m H nx W m2 (s2.heap.put l (.loop L3)) s2.next W3 := fun W3 p3 =>
    p1.trans ap1 (apb.trans (ap2.trans ap3)) hF1 (pb.trans apb (ap2.trans ap3) (fun i a b => by omega) (p2.trans ap2 ap3 hF2 p3))
  rcases hend with ⟨rfl, rfl, rfl⟩ | ⟨c, hc, rfl, rfl⟩
  · obtain ⟨_, p3⟩ := loop_put (L' := { L2 with state := .ready, pending := none }) (r' := { r2 with state := .ready, pending := none }) p2.rel ap2.wf hg2 hk2 hb2 ⟨_, rfl, rfl, rfl, g3, g4, g5, g6, g7⟩ hok3
    exact ⟨_, _, run_endRound none hb2, hnext _ _ _ (pall _ p3) (by simp only [VR]; rfl)⟩
  · obtain ⟨_, p3⟩ := loop_put (L' := { L2 with state := .done, pending := some c }) (r' := { r2 with state := .done, pending := some c }) p2.rel ap2.wf hg2 hk2 hb2 ⟨_, rfl, rfl, rfl, g3, g4, g5, g6, g7⟩ hok3
    have fin : ∀ c', c = c' → ∃ v w', (Instr.endRound k.b (some c')).run P W2 = .ok v w' ∧ next (a.put o.dst v) w' := by
      rintro _ rfl
      exact ⟨_, _, run_endRound (some c) hb2, hnext _ _ _ (pall _ p3) (by simp only [VR]; rfl)⟩
    rcases hc with ⟨rfl, rfl⟩ | ⟨i, rfl, rfl⟩ | ⟨t, rfl, rfl⟩
    · exact fin _ rfl
    · exact fin _ rfl
    · exact fin _ rfl
end Abs
end Go.Proofs.YtekmmeikkafpmaaGreat

namespace Go.Proofs.YtekmmeikkafpmaaGreat
namespace Abs
open Go.RowKit
variable {P : Program} {m : NM}

theorem callV_inv {rec : Task → Option Res} {f : AV} {vs : List AV} {H H' : Hp} {nx nx' : Nat} {v : AV} (h : callV rec f vs H nx = some (v, H', nx')) :
    (∃ g first cap, f = .fn g first cap ∧ rec (.call g (first ++ vs ++ cap) H nx) = some (.call v H' nx')) ∨ (∃ l, f = .yield l ∧ yieldA rec l vs H nx = some (v, H', nx')) := by
  unfold callV at h
  cases f <;> simp only at h <;> try (cases h; done)
  · rename_i g first cap
    left
    refine ⟨g, first, cap, rfl, ?_⟩
    split at h
    · rename_i e; simp only [Option.some.injEq, Prod.mk.injEq] at h; obtain ⟨rfl, rfl, rfl⟩ := h; exact e
    · cases h
  · exact .inr ⟨_, rfl, h⟩

theorem heapop_ok {rec : Task → Option Res} (hrec : RecOk P rec) {T : Tr AV} {o : Oper} {v : AV} {H H' : Hp} {nx nx' : Nat} (hW : Wf H nx) (h : heapA P rec T H nx o.op = some (v, H', nx')) (hnd : ∀ c, o.op ≠ .defer c) :
    AP H nx H' nx' ∧ ∀ m W (a : Act) (F : Fence) (r : Option Nat), Ev m T a.eval o.op.operands → Rel m H W → Fresh m nx nx' → FR m r F → OpWp P m H nx W F o a v H' nx' := by
  by_cases hc : ∃ f args ts, o.op = .call { callee := .value f, args := args, argTypes := ts }
  · obtain ⟨f, args, ts, ho⟩ := hc
    rw [ho] at h
    simp only [heapA] at h
    cases hf : evalO T f with
    | none => simp [hf] at h
    | some fv =>
      cases hvs : evalL T args.toList with
      | none => simp [hf, hvs] at h
      | some vs =>
        simp only [hf, hvs] at h
        have hargs : ∀ (m : NM) (a : Act), Ev m T a.eval o.op.operands → VR m fv (a.eval f) ∧ VRs m vs (args.map a.eval).toList := fun m a hev => by
          rw [ho] at hev
          exact ⟨hev f (by simp [Op.operands, Call.operands]) _ hf, by
            rw [Array.toList_map]; exact evalL_ok (fun y hy v hv => hev y (by simp [Op.operands, Call.operands]; right; simpa using hy) v hv) hvs⟩
        rcases callV_inv h with ⟨g, first, cap, rfl, hcall⟩ | ⟨l, rfl, hy⟩
        · obtain ⟨hb, ap, hwp⟩ := hrec _ _ hcall hW
          refine ⟨ap, fun m W a F r hev hR hF hfr next Q hn => ?_⟩
          obtain ⟨h1, h2⟩ := hargs m a hev
          simp only [VR] at h1
          obtain ⟨xs, ys, e1, e2, e3⟩ := h1
          have hx : (execOp a.eval o).run P W = .ok (.enter g (xs ++ args.map a.eval ++ ys)) W := by
            simp only [execOp, ho, resolve, e1, Deferred.ofValue, Sem.run_bind, Sem.run_pure, Result.andThen_ok, invoke]
            exact hb.call _ _
          refine wp_call hfr hnd hx (hwp m W _ ?_ hR hF) ?_
          · simp only [Array.toList_append]; exact (e2.append h2).append e3
          · rintro e W' ⟨v', m', rfl, p, hv⟩
            exact ⟨v', rfl, hn v' m' W' p hv⟩
        · obtain ⟨ap, hwp⟩ := yield_ok hrec hW hy
          refine ⟨ap, fun m W a F r hev hR hF hfr next Q hn => ?_⟩
          obtain ⟨h1, h2⟩ := hargs m a hev
          simp only [VR] at h1
          obtain ⟨k, hk, e1⟩ := h1
          refine hwp m W (args.map a.eval) k F r o a h2 hk hR hF hfr hnd (fun w => ?_) next Q hn
          simp [execOp, ho, resolve, e1, Deferred.ofValue, invoke]
  · have hnc : ∀ f args ts, o.op ≠ .call { callee := .value f, args := args, argTypes := ts } := fun f args ts e => hc ⟨f, args, ts, e⟩
    refine ⟨heap_ap hW h hnc, fun m W a F r hev hR hF hfr next Q hn => ?_⟩
    obtain ⟨x, v', m', W', h1, h2, h3, h4, h5⟩ := heap_ok hev hR hW hF h hnc
    exact wp_ends hfr hnd h1 h2 (hn v' m' W' h4 h5)
theorem pureop_ok {T : Tr AV} {o : Oper} {v : AV} (h : pureA P T o.op = some v) (m : NM) (W : World) (a : Act) (F : Fence) (r : Option Nat) (hev : Ev m T a.eval o.op.operands) (hfr : FR m r F) {next : Act → World → Prop} {Q : Exit → Act → World → Prop}
    (hn : ∀ v', VR m v v' → next (a.put o.dst v') W) : o.wpIn F 0 P a W next Q := by
  obtain ⟨v', h1, h2⟩ := pure_ok hev h
  have hnd : ∀ c, o.op ≠ .defer c := fun c e => by rw [e] at h; simp [pureA] at h
  exact wp_ends hfr hnd (h2 W) (.inl rfl) (hn v' h1)

theorem put_tr {n : Nat} {dst : Option Tmp} {v : AV} {v' : Value} {T T' : Tr AV} {a : Act} (h : putA n dst v T = some T') (hT : TR m n T a.tmps) (hv : VR m v v') : TR m n T' (a.put dst v').tmps := by
  unfold putA at h
  cases dst with
  | none => cases h; exact hT
  | some d =>
    simp only [Bool.cond_eq_ite, Nat.blt_eq] at h
    split at h
    · rename_i hlt
      cases h
      have hs := hT.1
      refine ⟨by simp [Act.put, hs], fun i => ?_⟩
      have hi := hT.2 i
      rw [Tr.get_set]
      by_cases e : i = d
      · subst e; simp [Act.put, hs, hlt]; exact hv
      · rw [if_neg e]
        simpa [Act.put, Array.getD_eq_getD_getElem?, Array.getElem?_setIfInBounds_ne (Ne.symm e)] using hi
    · cases h
theorem wanted_ok {ops : Array Oper} {o : Oper} {T : Tr AV} {tmps : Array Value} (hask : askedA ops T o = true) (h : ∀ g w t, o.guard = some (g, w) → (ops[g]?).bind (·.dst) = some t → VU m (T.get t) (tmps.getD t undef)) :
    wantedA ops T o = Region.wanted o (yielded ops tmps) := by
  unfold wantedA Region.wanted
  cases hg : o.guard with
  | none => rfl
  | some p =>
    obtain ⟨g, w⟩ := p
    have : yieldedA ops T g = yielded ops tmps g := by
      unfold yieldedA yielded
      cases hd : (ops[g]?).bind (·.dst) with
      | none => rfl
      | some t =>
        have hv := h g w t hg hd
        simp only [Option.bind_some]
        cases hT : T.get t with
        | none => simp [askedA, hg, hd, hT] at hask
        | some av =>
          rw [hT] at hv
          simp only [VU] at hv
          cases hx : tmps[t]? with
          | none =>
            rw [Array.getD_eq_getD_getElem?, hx] at hv
            simp only [Option.getD_none] at hv
            cases av <;> simp only [VR] at hv <;> first | rfl | (simp [undef] at hv)
          | some x =>
            rw [Array.getD_eq_getD_getElem?, hx] at hv
            simp only [Option.getD_some] at hv
            cases av <;> simp only [VR] at hv
            all_goals first
              | (subst hv; rfl)
              | (obtain ⟨k, hk, rfl⟩ := hv; rfl)
              | (obtain ⟨_, _, _, A, rfl⟩ | ⟨k, o, c, sp, hk, rfl, _⟩ := hv <;> rfl)
              | (obtain ⟨k, o, rfl, _⟩ := hv; rfl)
              | (obtain ⟨k, rfl, _⟩ := hv; rfl)
    simp only [this]
    cases yielded ops tmps g with
    | none => rfl
    | some b => cases b <;> cases w <;> rfl
theorem ev_of {n : Nat} {T : Tr AV} {a : Act} (h : TR m n T a.tmps) (xs : Array Operand) : Ev m T a.eval xs := fun x _ v hv => evalO_ok (fun t e => h.2 t) hv

theorem op1_ok {rec : Task → Option Res} (hrec : RecOk P rec) {n : Nat} {round : Option Nat} {ops : Array Oper} {o : Oper} {s s' : St} (hW : Wf s.heap s.next) (h0 : op1 P rec n round ops o s = some s') :
    AP s.heap s.next s'.heap s'.next ∧ ∀ m W a F, SR m n s a → Rel m s.heap W → Fresh m s.next s'.next → FR m round F → ∀ (next : Act → World → Prop) (Q : Exit → Act → World → Prop),
      (∀ a' m' W', Post m s.heap s.next W m' s'.heap s'.next W' → SR m' n s' a' → next a' W') →
      (if Region.wanted o (yielded ops a.tmps) then o.wpIn F 0 P a W next Q else (∀ f, o.about P W a.eval = some f → F.fn f) ∧ next (a.put o.dst undef) W) := by
  have hdf : ∀ (a : Act) (v : Value), (a.put o.dst v).defers = a.defers := fun a v => by cases h : o.dst <;> simp [Act.put, h]
  obtain ⟨hask, h⟩ : askedA ops s.tmps o = true ∧ _ := by
    unfold op1 at h0
    cases ha : askedA ops s.tmps o with
    | false => rw [ha] at h0; cases h0
    | true => rw [ha, cond_true] at h0; exact ⟨rfl, h0⟩
  have hwant : ∀ (m : NM) (a : Act), SR m n s a → wantedA ops s.tmps o = Region.wanted o (yielded ops a.tmps) := fun m a sr => wanted_ok hask (fun g w t _ _ => sr.tmps.2 t)
  rw [Bool.cond_eq_ite] at h
  split at h
  · rename_i hw
    rw [Bool.cond_eq_ite] at h
    split at h
    · rw [Bool.cond_eq_ite] at h
      split at h
      · -- defer
        rename_i hdef
        cases hr : round with
        | some l => simp [hr] at h
        | none =>
          cases hd : deferA s.tmps o.op with
          | none => simp [hr, hd] at h
          | some d =>
            cases hp : putA n o.dst .undef s.tmps with
            | none => simp [hr, hd, hp] at h
            | some T =>
              simp [hr, hd, hp] at h
              subst h
              refine ⟨.refl hW, fun m W a F sr hR hF hfr next Q hn => ?_⟩
              rw [if_pos ((hwant m a sr).symm.trans hw)]
              cases hfr
              refine ⟨fun _ _ => trivial, ?_⟩
              unfold deferA at hd
              split at hd
              · rename_i f args ts ho
                cases hf : evalO s.tmps f with
                | none => simp [hf] at hd
                | some fv =>
                  cases hvs : evalL s.tmps args.toList with
                  | none => cases fv <;> simp [hf, hvs] at hd
                  | some vs =>
                    cases fv <;> simp [hf, hvs] at hd
                    subst hd
                    rename_i g first cap
                    have hev := ev_of sr.tmps o.op.operands
                    rw [ho] at hev
                    have h1 := hev f (by simp [Op.operands, Call.operands]) _ hf
                    have h2 := evalL_ok (fun y hy v hv => hev y (by simp [Op.operands, Call.operands]; right; simpa using hy) v hv) hvs
                    simp only [VR] at h1
                    obtain ⟨xs, ys, e1, e2, e3⟩ := h1
                    have hrun : (o.semAt Fence.wide.round a.eval).run P W = .ok (.defer { target := .fn (.func g) ys, args := xs ++ args.map a.eval }) W := by
                      show (Oper.semAt none a.eval o).run P W = _
                      rw [Oper.semAt_none]
                      simp [execOp, ho, resolve, e1, Deferred.ofValue]
                    rw [hrun]
                    refine hn _ m W (.refl hR) ⟨put_tr (a := { a with defers := _ :: a.defers }) hp sr.tmps (VR.undef_iff.2 rfl), ?_⟩
                    rw [hdf]
                    exact ⟨_, _, _, rfl, e3, by simp only [Array.toList_append, Array.toList_map]; exact e2.append h2, sr.defers⟩
              · cases hd
      · rename_i hnd
        have hnd' : ∀ c, o.op ≠ .defer c := fun c e => hnd (by rw [e]; rfl)
        cases hh : heapA P rec s.tmps s.heap s.next o.op with
        | none => simp [hh, stepSt] at h
        | some p =>
          obtain ⟨v, H', nx'⟩ := p
          simp only [hh, stepSt] at h
          cases hp : putA n o.dst v s.tmps with
          | none => simp [hp] at h
          | some T =>
            simp [hp] at h; subst h
            obtain ⟨ap, hwp⟩ := heapop_ok hrec hW hh hnd'
            refine ⟨ap, fun m W a F sr hR hF hfr next Q hn => ?_⟩
            rw [if_pos ((hwant m a sr).symm.trans hw)]
            refine hwp m W a F round (ev_of sr.tmps _) hR hF hfr next Q (fun v' m' W' p hv => hn _ m' W' p ⟨put_tr hp (sr.tmps.mono p.le) hv, ?_⟩)
            rw [hdf]; exact sr.defers.mono p.le
    · cases hh : pureA P s.tmps o.op with
      | none => simp [hh, stepSt] at h
      | some v =>
        simp only [hh, stepSt, Option.map_some] at h
        cases hp : putA n o.dst v s.tmps with
        | none => simp [hp] at h
        | some T =>
          simp [hp] at h; subst h
          refine ⟨.refl hW, fun m W a F sr hR hF hfr next Q hn => ?_⟩
          rw [if_pos ((hwant m a sr).symm.trans hw)]
          refine pureop_ok hh m W a F round (ev_of sr.tmps _) hfr (fun v' hv => hn _ m W (.refl hR) ⟨put_tr hp sr.tmps hv, ?_⟩)
          rw [hdf]; exact sr.defers
  · rename_i hw
    simp only [stepSt] at h
    cases hp : putA n o.dst .undef s.tmps with
    | none => simp [hp] at h
    | some T =>
      simp [hp] at h; subst h
      refine ⟨.refl hW, fun m W a F sr hR hF hfr next Q hn => ?_⟩
      rw [if_neg (by rw [← hwant m a sr]; exact hw)]
      refine ⟨fun f _ => hfr.fn f, hn _ m W (.refl hR) ⟨put_tr hp sr.tmps (VR.undef_iff.2 rfl), ?_⟩⟩
      rw [hdf]; exact sr.defers

theorem ops1_ok {rec : Task → Option Res} (hrec : RecOk P rec) {n : Nat} {round : Option Nat} {ops : Array Oper} : ∀ (os : List Oper) (j : Nat) (s s' : St), ops.toList.drop j = os → Wf s.heap s.next → ops1 P rec n round ops os s = some s' →
    AP s.heap s.next s'.heap s'.next ∧ ∀ m W a F, SR m n s a → Rel m s.heap W → Fresh m s.next s'.next → FR m round F → ∀ (Q : Exit → Act → World → Prop),
      (∀ a' m' W', Post m s.heap s.next W m' s'.heap s'.next W' → SR m' n s' a' → Q .normal a' W') → wpOpsIn F 0 P ops Q (List.range' j os.length) a W := by
  intro os
  induction os with
  | nil =>
    intro j s s' _ hW h
    simp [ops1] at h; subst h
    exact ⟨.refl hW, fun m W a F sr hR _ _ Q hn => by simpa [wpOpsIn] using hn a m W (.refl hR) sr⟩
  | cons o os ih =>
    intro j s s' hd hW h
    simp only [ops1] at h
    cases h1 : op1 P rec n round ops o s with
    | none => simp [h1] at h
    | some s1 =>
      simp only [h1] at h
      obtain ⟨ap1, w1⟩ := op1_ok hrec hW h1
      have hoj : ops[j]? = some o := by
        have : (ops.toList.drop j)[0]? = some o := by rw [hd]; rfl
        rw [List.getElem?_drop] at this
        simpa using this
      have hd' : ops.toList.drop (j + 1) = os := by
        have : (ops.toList.drop j).drop 1 = os := by rw [hd]; rfl
        rw [List.drop_drop] at this
        exact this
      obtain ⟨ap2, w2⟩ := ih (j + 1) s1 s' hd' ap1.wf h
      refine ⟨ap1.trans ap2, fun m W a F sr hR hF hfr Q hn => ?_⟩
      rw [List.length_cons, List.range'_succ, wpOpsIn_cons]
      unfold wpOpIn
      simp only [hoj]
      refine w1 m W a F sr hR (hF.left ap2.le) hfr _ Q (fun a' m' W' p sr' => ?_)
      exact w2 m' W' a' F sr' p.rel (p.fresh hF ap1.le) (hfr.mono p.le) Q (fun a2 m2 W2 p2 sr2 => hn a2 m2 W2 (p.trans ap1 ap2 (hF.left ap2.le) p2) sr2)
end Abs
end Go.Proofs.YtekmmeikkafpmaaGreat

namespace Go.Proofs.YtekmmeikkafpmaaGreat
namespace Abs
open Go.RowKit
variable {P : Program}

section before
variable {ops : Array Oper}
def Bf (ops : Array Oper) (i j : Nat) : Prop := ((Region.before ops).getD j 0).testBit i = true
theorem fold_bits (acc : Array Nat) (i : Nat) : ∀ (es : List Edge) (z : Nat), (es.foldl (fun s e => if Region.binds .any e then s ||| 2 ^ e.on ||| acc.getD e.on 0 else s) z).testBit i = true ↔
    z.testBit i = true ∨ ∃ e ∈ es, Region.binds .any e = true ∧ (i = e.on ∨ (acc.getD e.on 0).testBit i = true) := by
  intro es
  induction es with
  | nil => intro z; simp
  | cons e es ih =>
    intro z
    rw [List.foldl_cons, ih]
    by_cases hb : Region.binds .any e = true
    · simp only [hb, if_true, Nat.testBit_or, Bool.or_eq_true, List.mem_cons, exists_eq_or_imp, true_and]
      have : (2 ^ e.on).testBit i = true ↔ i = e.on := by
        rw [Nat.testBit_two_pow]; simp; exact ⟨Eq.symm, Eq.symm⟩
      rw [this]
      constructor
      · rintro (((h | h) | h) | h)
        · exact .inl h
        · exact .inr (.inl (.inl h))
        · exact .inr (.inl (.inr h))
        · exact .inr (.inr h)
      · rintro (h | (h | h) | h)
        · exact .inl (.inl (.inl h))
        · exact .inl (.inl (.inr h))
        · exact .inl (.inr h)
        · exact .inr h
    · simp only [hb, if_false, List.mem_cons, exists_eq_or_imp]
      constructor
      · rintro (h | h)
        · exact .inl h
        · exact .inr (.inr h)
      · rintro (h | ⟨h, _⟩ | h)
        · exact .inl h
        · simp at h
        · exact .inr h
def befL (os : List Oper) : Array Nat := os.foldl (fun acc o => acc.push (o.after.foldl (fun s e => if Region.binds .any e then s ||| 2 ^ e.on ||| acc.getD e.on 0 else s) 0)) #[]
theorem befL_snoc (os : List Oper) (o : Oper) : befL (os ++ [o]) = (befL os).push (o.after.toList.foldl (fun s e => if Region.binds .any e then s ||| 2 ^ e.on ||| (befL os).getD e.on 0 else s) 0) := by
  simp [befL, List.foldl_append]
theorem snocInd {α : Type} {p : List α → Prop} (h0 : p []) (h1 : ∀ l a, p l → p (l ++ [a])) (l : List α) : p l := by
  rw [← List.reverse_reverse l]
  induction l.reverse with
  | nil => exact h0
  | cons a t ih => rw [List.reverse_cons]; exact h1 _ _ ih
theorem befL_size : ∀ os : List Oper, (befL os).size = os.length := by
  refine snocInd rfl fun os o ih => ?_
  rw [befL_snoc]; simp [ih]
theorem befL_take (os os' : List Oper) (j : Nat) (h : j < os.length) : (befL (os ++ os')).getD j 0 = (befL os).getD j 0 := by
  refine snocInd (p := fun os' => (befL (os ++ os')).getD j 0 = (befL os).getD j 0) (by simp) (fun os' o ih => ?_) os'
  · rw [← List.append_assoc, befL_snoc, Array.getD_eq_getD_getElem?, Array.getElem?_push, if_neg (by rw [befL_size]; simp; omega), ← Array.getD_eq_getD_getElem?, ih]
theorem before_eq (ops : Array Oper) : Region.before ops = befL ops.toList := by
  unfold Region.before befL
  rw [← Array.foldl_toList]
theorem bf_iff (hup : ∀ (j : Nat) (o : Oper), ops[j]? = some o → ∀ e ∈ o.after, Region.binds .any e = true → e.on < j) {i j : Nat} {o : Oper} (ho : ops[j]? = some o) :
    Bf ops i j ↔ ∃ e ∈ o.after, Region.binds .any e = true ∧ (i = e.on ∨ Bf ops i e.on) := by
  have hj : j < ops.toList.length := by rw [Array.length_toList]; exact (Array.getElem?_eq_some_iff.1 ho).1
  obtain ⟨A, B, hsp, hlen⟩ : ∃ A B, ops.toList = A ++ ([o] ++ B) ∧ A.length = j := by
    have h2 : ops.toList[j]? = some o := by rw [Array.getElem?_toList]; exact ho
    have : ops.toList.drop j = o :: ops.toList.drop (j + 1) := by
      rw [List.drop_eq_getElem_cons hj]
      rw [List.getElem?_eq_getElem hj] at h2; cases h2; rfl
    refine ⟨ops.toList.take j, ops.toList.drop (j + 1), ?_, by rw [List.length_take]; omega⟩
    conv => lhs; rw [← List.take_append_drop j ops.toList, this]
    simp
  have key : (Region.before ops).getD j 0 = o.after.toList.foldl (fun s e => if Region.binds .any e then s ||| 2 ^ e.on ||| (befL A).getD e.on 0 else s) 0 := by
    rw [before_eq, hsp, ← List.append_assoc, befL_take _ _ _ (by simp [hlen]), befL_snoc, Array.getD_eq_getD_getElem?, Array.getElem?_push, if_pos (by rw [befL_size, hlen])]
    rfl
  unfold Bf
  rw [key, fold_bits]
  simp only [Nat.zero_testBit, Bool.false_eq_true, false_or, Array.mem_toList_iff]
  constructor
  · rintro ⟨e, he, hb, h⟩
    refine ⟨e, he, hb, h.imp id fun h => ?_⟩
    rw [before_eq, hsp, befL_take _ _ _ (by rw [hlen]; exact hup j o ho e he hb)]; exact h
  · rintro ⟨e, he, hb, h⟩
    refine ⟨e, he, hb, h.imp id fun h => ?_⟩
    rw [before_eq, hsp, befL_take _ _ _ (by rw [hlen]; exact hup j o ho e he hb)] at h; exact h
theorem bf_lt (hup : ∀ (j : Nat) (o : Oper), ops[j]? = some o → ∀ e ∈ o.after, Region.binds .any e = true → e.on < j) : ∀ {j i : Nat}, j < ops.size → Bf ops i j → i < j := by
  intro j
  induction j using Nat.strongRecOn with
  | _ j ih =>
    intro i hj h
    have ho := Array.getElem?_eq_getElem hj
    obtain ⟨e, he, hb, h⟩ := (bf_iff hup ho).1 h
    have := hup j _ ho e he hb
    rcases h with h | h
    · omega
    · have := ih e.on this (by omega) h; omega
theorem bf_closed (hup : ∀ (j : Nat) (o : Oper), ops[j]? = some o → ∀ e ∈ o.after, Region.binds .any e = true → e.on < j) {D : Nat → Prop} (hD : ∀ (j : Nat) (o : Oper), ops[j]? = some o → D j → ∀ e ∈ o.after, Region.binds .any e = true → D e.on) : ∀ {j i : Nat}, j < ops.size → D j → Bf ops i j → D i := by
  intro j
  induction j using Nat.strongRecOn with
  | _ j ih =>
    intro i hj hd h
    have ho := Array.getElem?_eq_getElem hj
    obtain ⟨e, he, hb, h⟩ := (bf_iff hup ho).1 h
    have := hup j _ ho e he hb
    have hde := hD j _ ho hd e he hb
    rcases h with rfl | h
    · exact hde
    · exact ih e.on this (by omega) hde h
end before

structure Tidy (ops : Array Oper) : Prop where
  up : ∀ (j : Nat) (o : Oper), ops[j]? = some o → ∀ e ∈ o.after, Region.binds .any e = true → e.on < j
  plain : ∀ (j : Nat) (o : Oper), ops[j]? = some o → (∀ c, o.op ≠ .defer c)
  look : ∀ (j : Nat) (o : Oper), ops[j]? = some o → ∀ t ∈ o.looksAt ops, ∀ i, dstOf ops i = some t → Bf ops i j ∨ Bf ops j i
  dst : ∀ i j t, dstOf ops i = some t → dstOf ops j = some t → i = j
theorem tidy_of {ops : Array Oper} (h : tidyR ops = true) : Tidy ops := by
  have key : ∀ j o, ops[j]? = some o → tidyOp ops (Region.before ops) j o = true := fun j o ho => by
    have hj := (Array.getElem?_eq_some_iff.1 ho).1
    unfold tidyR at h
    rw [List.all_eq_true] at h
    have := h j (List.mem_range.2 hj)
    simpa [ho] using this
  have lt_of : ∀ i t, dstOf ops i = some t → i < ops.size := fun i t hi => by
    unfold dstOf at hi
    rcases Nat.lt_or_ge i ops.size with h1 | h1
    · exact h1
    · rw [Array.getElem?_eq_none h1] at hi; simp at hi
  refine ⟨fun j o ho e he hb => ?_, fun j o ho c hc => ?_, fun j o ho t ht i hi => ?_, fun i j t hi hj => ?_⟩
  · have := key j o ho
    simp only [tidyOp, Bool.and_eq_true, Array.all_eq_true_iff_forall_mem, Nat.blt_eq] at this
    simpa [hb] using this.1.1.2 e he
  · have := key j o ho
    simp [tidyOp, hc] at this
  · have := key j o ho
    simp only [tidyOp, Bool.and_eq_true, List.all_eq_true] at this
    have := this.1.2 t ht i (List.mem_range.2 (lt_of i t hi))
    unfold Bf
    simpa [hi] using this
  · have hio : ∃ o, ops[i]? = some o ∧ o.dst = some t := by
      unfold dstOf at hi
      cases e : ops[i]? with
      | none => simp [e] at hi
      | some o => exact ⟨o, rfl, by simpa [e] using hi⟩
    obtain ⟨o, ho, hd⟩ := hio
    have := key i o ho
    simp only [tidyOp, Bool.and_eq_true, List.all_eq_true] at this
    have := this.2 j (List.mem_range.2 (lt_of j t hj))
    simp [hd, hj] at this
    exact this.symm

inductive K where
  | skip
  | pure
  | load (nm : Nat)
  | store (nm : Nat)
  | fresh
  | wrt
def K.writes : K → Bool
  | .store _ | .wrt => true
  | _ => false
def hpAt (ops : Array Oper) (j : Nat) (s : St) (d : Dr) : Hp := ⟨s.heap.t, unseen ((Region.before ops).getD j 0) d.ss s.heap.bad, s.next⟩
def StepOk (P : Program) (rec : Task → Option Res) (n : Nat) (ops : Array Oper) (j : Nat) (o : Oper) (s : St) (d : Dr) (s1 : St) (d1 : Dr) : K → Prop
  | .skip => wantedA ops s.tmps o = false ∧ ∃ T, putA n o.dst .undef s.tmps = some T ∧ s1 = ⟨T, s.defers, s.heap, s.next⟩ ∧ d1 = d
  | .pure => wantedA ops s.tmps o = true ∧ touch o.op = false ∧ ∃ v T, pureA P s.tmps o.op = some v ∧ putA n o.dst v s.tmps = some T ∧ s1 = ⟨T, s.defers, s.heap, s.next⟩ ∧ d1 = d
  | .load nm => wantedA ops s.tmps o = true ∧ touch o.op = true ∧ ∃ t x v T, o.op = .load t x ∧ heapA P rec s.tmps (hpAt ops j s d) s.next o.op = some (v, hpAt ops j s d, s.next) ∧ putA n o.dst v s.tmps = some T ∧ s1 = ⟨T, s.defers, s.heap, s.next⟩ ∧
      nm = nameO s.tmps x ∧ clear ((Region.before ops).getD j 0) nm d.ws = true ∧ d1 = ⟨d.ss, (j, nm) :: d.rs, d.ws⟩
  | .store nm => wantedA ops s.tmps o = true ∧ touch o.op = true ∧ isLoad o.op = false ∧ ∃ v T H nx, heapA P rec s.tmps (hpAt ops j s d) s.next o.op = some (v, H, nx) ∧ putA n o.dst v s.tmps = some T ∧
      s1 = ⟨T, s.defers, ⟨H.t, s.heap.bad, lower H.wr s.heap.wr⟩, nx⟩ ∧ ((∀ i, i < s.next → i ≠ nm → H.t.get i = s.heap.t.get i ∨ H.t.get i = none) ∧ (∀ x ∈ d.rs, x.2 < s.next → ((Region.before ops).getD j 0).testBit x.1 = true ∨ H.t.get x.2 = s.heap.t.get x.2)) ∧ clear ((Region.before ops).getD j 0) nm d.rs = true ∧ barAt ops (Region.before ops) false j ops.size = true ∧
      d1 = ⟨cond (nx.ble s.next) d.ss ((j, s.next, nx) :: d.ss), d.rs, (j, nm) :: d.ws⟩
  | .fresh => wantedA ops s.tmps o = true ∧ touch o.op = true ∧ isLoad o.op = false ∧ ∃ v T H nx, heapA P rec s.tmps (hpAt ops j s d) s.next o.op = some (v, H, nx) ∧ putA n o.dst v s.tmps = some T ∧ s.next ≤ H.wr ∧
      s1 = ⟨T, s.defers, ⟨H.t, s.heap.bad, lower H.wr s.heap.wr⟩, nx⟩ ∧ d1 = cond (nx.ble s.next) d ⟨(j, s.next, nx) :: d.ss, d.rs, d.ws⟩
  | .wrt => wantedA ops s.tmps o = true ∧ touch o.op = true ∧ isLoad o.op = false ∧ ∃ v T H nx, heapA P rec s.tmps (hpAt ops j s d) s.next o.op = some (v, H, nx) ∧ putA n o.dst v s.tmps = some T ∧ barAt ops (Region.before ops) true j ops.size = true ∧
      s1 = ⟨T, s.defers, ⟨H.t, s.heap.bad, lower H.wr s.heap.wr⟩, nx⟩ ∧ d1 = cond (nx.ble s.next) d ⟨(j, s.next, nx) :: d.ss, d.rs, d.ws⟩
theorem load_inv {rec : Task → Option Res} {T : Tr AV} {H H' : Hp} {nx nx' : Nat} {t : TypeId} {x : Operand} {v : AV} (h : heapA P rec T H nx (.load t x) = some (v, H', nx')) : H' = H ∧ nx' = nx ∧ ∃ n off, evalO T x = some (.ptr n off) ∧ loadT P H t n off = some v := by
  simp only [heapA] at h
  split at h
  · rename_i n off hx
    cases hl : loadT P H t n off with
    | none => simp [hl] at h
    | some a => simp [hl] at h; obtain ⟨rfl, rfl, rfl⟩ := h; exact ⟨rfl, rfl, n, off, hx, hl⟩
  · cases h
theorem store_inv {rec : Task → Option Res} {T : Tr AV} {H H' : Hp} {nx nx' : Nat} {t : TypeId} {x y : Operand} {v : AV} (h : heapA P rec T H nx (.store t x y) = some (v, H', nx')) : nx' = nx ∧ ∃ n off cs, evalO T x = some (.ptr n off) ∧ H' = H.put n (.cells true cs) := by
  simp only [heapA] at h
  split at h
  · rename_i n off a size hx hy hs
    simp only [Bool.cond_eq_ite] at h
    (repeat' split at h) <;> first
      | (cases h; done)
      | (simp only [Option.some.injEq, Prod.mk.injEq] at h; obtain ⟨_, rfl, rfl⟩ := h; exact ⟨rfl, n, off, _, hx, rfl⟩)
  · cases h
theorem grow_turns {i0 : TypeInfo} {H H' : Hp} {nx nx' k nm off len cap esz : Nat} {ex : Bool} {new : List AV} {v : AV} (hl : lends H.bad = false) (h : growA i0 H nx k new (.slice nm off len cap esz ex) = some (v, H', nx')) {i : Nat} (hi : i < nx) (hne : i ≠ nm) : H'.t.get i = H.t.get i := by
  have hx : i ≠ nx := by omega
  unfold growA at h
  rw [hl] at h
  simp only [cond_false] at h
  simp only [Bool.cond_eq_ite] at h
  (repeat' split at h) <;> first
    | (cases h; done)
    | (simp only [Option.some.injEq, Prod.mk.injEq] at h; obtain ⟨_, rfl, rfl⟩ := h
       simp only [Hp.put, Hp.lay, Hp.del, Tr.get_set, Tr.get_del, if_neg hne, if_neg hx])
theorem app_turns {rec : Task → Option Res} {T : Tr AV} {H H' : Hp} {nx nx' nm : Nat} {o : Op} {v : AV} (hl : lends H.bad = false) (hn : appN T o = some nm) (h : heapA P rec T H nx o = some (v, H', nx')) {i : Nat} (hi : i < nx) (hne : i ≠ nm) : H'.t.get i = H.t.get i := by
  unfold appN at hn
  split at hn <;> try (cases hn; done)
  rename_i args ts
  split at hn <;> cases hn
  rename_i off len cap esz ex x hx
  simp only [heapA, hx] at h
  split at h <;> try (cases h; done)
  rename_i s' x' t xt hs _ _
  cases hs
  unfold appendA at h
  split at h <;> try (cases h; done)
  split at h <;> try (cases h; done)
  simp only [Bool.cond_eq_ite] at h
  (repeat' split at h) <;> first
    | (cases h; done)
    | exact grow_turns hl h hi hne
    | (simp only [Option.some.injEq, Prod.mk.injEq] at h; obtain ⟨_, rfl, rfl⟩ := h; rfl)
theorem grow_drops {i0 : TypeInfo} {H H' : Hp} {nx nx' k nm off len cap esz : Nat} {ex : Bool} {new : List AV} {v : AV} (h : growA i0 H nx k new (.slice nm off len cap esz ex) = some (v, H', nx')) {i : Nat} (hi : i < nx) (hne : i ≠ nm) : H'.t.get i = H.t.get i ∨ H'.t.get i = none := by
  have hx : i ≠ nx := by omega
  cases hl : lends H.bad with
  | false => exact .inl (grow_turns hl h hi hne)
  | true =>
    unfold growA at h
    rw [hl] at h
    simp only [cond_true] at h
    simp only [Bool.cond_eq_ite] at h
    (repeat' split at h) <;> first
      | (cases h; done)
      | (simp only [Option.some.injEq, Prod.mk.injEq] at h; obtain ⟨_, rfl, rfl⟩ := h
         refine .inl ?_
         simp only [Hp.put, Hp.lay, Hp.del, Tr.get_set, Tr.get_del, if_neg hne, if_neg hx]; done)
      | (simp only [Option.some.injEq, Prod.mk.injEq] at h; obtain ⟨_, rfl, rfl⟩ := h
         simp only [Hp.put, Hp.lay, Tr.get_set, if_neg hne, if_neg hx]
         exact dropL_t _ _ _ _ _)
theorem app_drops {rec : Task → Option Res} {T : Tr AV} {H H' : Hp} {nx nx' nm : Nat} {o : Op} {v : AV} (hn : appN T o = some nm) (h : heapA P rec T H nx o = some (v, H', nx')) {i : Nat} (hi : i < nx) (hne : i ≠ nm) : H'.t.get i = H.t.get i ∨ H'.t.get i = none := by
  unfold appN at hn
  split at hn <;> try (cases hn; done)
  rename_i args ts
  split at hn <;> cases hn
  rename_i off len cap esz ex x hx
  simp only [heapA, hx] at h
  split at h <;> try (cases h; done)
  rename_i s' x' t xt hs _ _
  cases hs
  unfold appendA at h
  split at h <;> try (cases h; done)
  split at h <;> try (cases h; done)
  simp only [Bool.cond_eq_ite] at h
  (repeat' split at h) <;> first
    | (cases h; done)
    | exact grow_drops h hi hne
    | (simp only [Option.some.injEq, Prod.mk.injEq] at h; obtain ⟨_, rfl, rfl⟩ := h; exact .inl rfl)
theorem stay_spec {pre nx : Nat} {t : Tr AObj} : ∀ {rs : List (Nat × Nat)}, stay pre nx t rs = true → ∀ x ∈ rs, pre.testBit x.1 = true ∨ t.get x.2 ≠ none := by
  intro rs
  induction rs with
  | nil => intro _ x hx; cases hx
  | cons y l ih =>
    obtain ⟨i, k⟩ := y
    intro h x hx
    unfold stay at h
    cases hb : pre.testBit i with
    | true =>
      rw [hb, cond_true] at h
      rcases List.mem_cons.1 hx with rfl | hx
      · exact .inl hb
      · exact ih h x hx
    | false =>
      rw [hb, cond_false] at h
      cases hk : k.blt nx <;> rw [hk] at h
      · cases h
      · rw [cond_true] at h
        cases hg : t.get k with
        | none => rw [hg] at h; cases h
        | some ob =>
          rw [hg] at h
          rcases List.mem_cons.1 hx with rfl | hx
          · exact .inr (by rw [hg]; simp)
          · exact ih h x hx
theorem clear_spec {pre n : Nat} : ∀ {l : List (Nat × Nat)}, clear pre n l = true → ∀ x ∈ l, pre.testBit x.1 = true ∨ x.2 ≠ n := by
  intro l
  induction l with
  | nil => intro _ x hx; simp at hx
  | cons y l ih =>
    obtain ⟨i, k⟩ := y
    intro h x hx
    simp only [clear, Bool.cond_eq_ite, Nat.beq_eq] at h
    split at h
    · rename_i ht
      rcases List.mem_cons.1 hx with rfl | hx
      · exact .inl ht
      · exact ih h x hx
    · split at h
      · cases h
      · rename_i hne
        rcases List.mem_cons.1 hx with rfl | hx
        · exact .inr hne
        · exact ih h x hx
theorem opD_inv {rec : Task → Option Res} {n : Nat} {ops : Array Oper} {j : Nat} {o : Oper} {s s1 : St} {d d1 : Dr} (h : opD P rec n ops (Region.before ops) j o s d = some (s1, d1)) : ∃ kd, StepOk P rec n ops j o s d s1 d1 kd := by
  unfold opD at h
  have hask : askedA ops s.tmps o = true := by
    cases ha : askedA ops s.tmps o with
    | false => rw [ha] at h; cases h
    | true => rfl
  rw [hask, cond_true] at h
  rw [Bool.cond_eq_ite] at h
  split at h
  · rename_i hw
    rw [Bool.cond_eq_ite] at h
    split at h
    · rename_i ht
      cases hh : heapA P rec s.tmps ⟨s.heap.t, unseen ((Region.before ops).getD j 0) d.ss s.heap.bad, s.next⟩ s.next o.op with
      | none => rw [hh] at h; cases h
      | some p =>
        obtain ⟨v, H, nx⟩ := p
        simp only [hh] at h
        cases hp : putA n o.dst v s.tmps with
        | none => rw [hp] at h; cases h
        | some T =>
          simp only [hp] at h
          split at h
          · rename_i t x ho
            rw [Bool.cond_eq_ite] at h
            split at h
            · rename_i hc
              simp only [Option.some.injEq, Prod.mk.injEq] at h
              obtain ⟨rfl, rfl⟩ := h
              have hh' := hh
              rw [ho] at hh'
              obtain ⟨rfl, rfl, _⟩ := load_inv hh'
              exact ⟨.load (nameO s.tmps x), hw, ht, t, x, v, T, ho, hh, hp, rfl, rfl, hc, rfl⟩
            · cases h
          · rename_i t x y ho
            simp only [Bool.cond_eq_ite] at h
            split at h
            · rename_i hc
              split at h
              · rename_i hb
                simp only [Option.some.injEq, Prod.mk.injEq] at h
                obtain ⟨rfl, rfl⟩ := h
                have hh' := hh
                rw [ho] at hh'
                obtain ⟨rfl, nn, off, cs, hx, rfl⟩ := store_inv hh'
                refine ⟨.store (nameO s.tmps x), hw, ht, (by rw [ho]; rfl), v, T, _, _, hh, hp, rfl, ?_, hc, hb, by rw [(show s.next.ble s.next = true from Nat.ble_eq ▸ Nat.le_refl _)]; rfl⟩
                have hnn : nameO s.tmps x = nn := by simp [nameO, hx]
                have key : ∀ i, i ≠ nameO s.tmps x → (Hp.put ⟨s.heap.t, unseen ((Region.before ops).getD j 0) d.ss s.heap.bad, s.next⟩ nn (.cells true cs)).t.get i = s.heap.t.get i := by
                  intro i hi
                  rw [hnn] at hi
                  simp [Hp.put, Tr.get_set, hi]
                refine ⟨fun i _ hi => .inl (key i hi), fun x hx _ => ?_⟩
                rcases clear_spec hc x hx with h2 | h2
                · exact .inl h2
                · exact .inr (key _ h2)
              · cases h
            · cases h
          · rename_i hnl hns
            have hil : isLoad o.op = false := by
              cases ho : o.op <;> first | rfl | exact absurd ho (hnl _ _)
            simp only [Bool.cond_eq_ite, Nat.ble_eq] at h
            split at h
            · rename_i hle
              simp only [Option.some.injEq, Prod.mk.injEq] at h
              obtain ⟨rfl, rfl⟩ := h
              exact ⟨.fresh, hw, ht, hil, v, T, H, nx, hh, hp, hle, rfl, by simp [Bool.cond_eq_ite]⟩
            · split at h
              · rename_i hb
                simp only [Option.some.injEq, Prod.mk.injEq] at h
                obtain ⟨rfl, rfl⟩ := h
                exact ⟨.wrt, hw, ht, hil, v, T, H, nx, hh, hp, hb, rfl, by simp [Bool.cond_eq_ite]⟩
              · split at h <;> try (cases h; done)
                rename_i nm hnm
                split at h <;> try (cases h; done)
                rename_i hL
                split at h <;> try (cases h; done)
                rename_i hc
                split at h <;> try (cases h; done)
                rename_i hb
                simp only [Option.some.injEq, Prod.mk.injEq] at h
                obtain ⟨rfl, rfl⟩ := h
                refine ⟨.store nm, hw, ht, hil, v, T, H, nx, hh, hp, rfl, ⟨fun i hi hne => app_drops hnm hh hi hne, fun x hx hlt => ?_⟩, hc, hb, by simp [Bool.cond_eq_ite]⟩
                rcases clear_spec hc x hx with h2 | h2
                · exact .inl h2
                rcases app_drops hnm hh hlt h2 with h3 | h3
                · exact .inr h3
                · cases hl : lends (unseen ((Region.before ops).getD j 0) d.ss s.heap.bad) with
                  | false => exact .inr (app_turns (H := ⟨s.heap.t, unseen ((Region.before ops).getD j 0) d.ss s.heap.bad, s.next⟩) hl hnm hh hlt h2)
                  | true =>
                    rw [hl] at hL
                    rcases stay_spec (show stay _ _ _ _ = true from hL) x hx with h4 | h4
                    · exact .inl h4
                    · exact absurd h3 h4
    · rename_i ht
      cases hh : pureA P s.tmps o.op with
      | none => simp [hh, stepSt] at h
      | some v =>
        simp only [hh, stepSt, Option.map_some] at h
        cases hp : putA n o.dst v s.tmps with
        | none => simp [hp] at h
        | some T =>
          simp [hp] at h
          obtain ⟨rfl, rfl⟩ := h
          exact ⟨.pure, hw, by simpa using ht, v, T, hh, hp, rfl, rfl⟩
  · rename_i hw
    simp only [stepSt] at h
    cases hp : putA n o.dst .undef s.tmps with
    | none => simp [hp] at h
    | some T =>
      simp [hp] at h
      obtain ⟨rfl, rfl⟩ := h
      exact ⟨.skip, by simpa using hw, T, hp, rfl, rfl⟩
theorem opD_ask {rec : Task → Option Res} {n : Nat} {ops : Array Oper} {pre : Array Nat} {j : Nat} {o : Oper} {s : St} {d : Dr} {x : St × Dr} (h : opD P rec n ops pre j o s d = some x) : askedA ops s.tmps o = true := by
  unfold opD at h
  cases ha : askedA ops s.tmps o with
  | false => rw [ha] at h; cases h
  | true => rfl
theorem opsD_trace {rec : Task → Option Res} {n : Nat} {ops : Array Oper} : ∀ (os : List Oper) (j : Nat) (s s' : St) (d : Dr), opsD P rec n ops (Region.before ops) os j s d = some s' →
    ∃ (st : Nat → St) (dr : Nat → Dr) (kd : Nat → K), st j = s ∧ dr j = d ∧ st (j + os.length) = s' ∧ ∀ i o, os[i]? = some o → StepOk P rec n ops (j + i) o (st (j + i)) (dr (j + i)) (st (j + i + 1)) (dr (j + i + 1)) (kd (j + i)) ∧ askedA ops (st (j + i)).tmps o = true := by
  intro os
  induction os with
  | nil => intro j s s' d h; simp [opsD] at h; subst h; exact ⟨fun _ => s, fun _ => d, fun _ => .skip, rfl, rfl, rfl, fun i o h => by simp at h⟩
  | cons o os ih =>
    intro j s s' d h
    simp only [opsD] at h
    cases h1 : opD P rec n ops (Region.before ops) j o s d with
    | none => simp [h1] at h
    | some p =>
      obtain ⟨s1, d1⟩ := p
      simp only [h1] at h
      obtain ⟨k0, hk0⟩ := opD_inv h1
      have ha0 := opD_ask h1
      obtain ⟨st, dr, kd, e1, e2, e3, e4⟩ := ih (j + 1) s1 s' d1 h
      refine ⟨fun i => if i = j then s else st i, fun i => if i = j then d else dr i, fun i => if i = j then k0 else kd i, by simp, by simp, ?_, ?_⟩
      · have : j + (o :: os).length ≠ j := by simp
        simp only [if_neg this]
        rw [← e3]; congr 1; simp; omega
      · intro i o' hi
        cases i with
        | zero =>
          simp at hi; subst hi
          simp only [Nat.add_zero, if_true]
          rw [if_neg (by omega), if_neg (by omega), e1, e2]; exact ⟨hk0, ha0⟩
        | succ i =>
          simp at hi
          have := e4 i o' hi
          have q1 : j + (i + 1) ≠ j := by omega
          have q2 : j + (i + 1) + 1 ≠ j := by omega
          simp only [if_neg q1, if_neg q2]
          rw [show j + (i + 1) = j + 1 + i by omega]; exact this
end Abs
end Go.Proofs.YtekmmeikkafpmaaGreat

namespace Go.Proofs.YtekmmeikkafpmaaGreat
namespace Abs
open Go.RowKit
variable {P : Program}

theorem unseen_mem {pre : Nat} {p : Nat × Nat} : ∀ {ss : List (Nat × Nat × Nat)} {l : List (Nat × Nat)}, p ∈ unseen pre ss l ↔ p ∈ l ∨ ∃ x ∈ ss, pre.testBit x.1 = false ∧ p = x.2 := by
  intro ss
  induction ss with
  | nil => intro l; simp [unseen]
  | cons x ss ih =>
    obtain ⟨i, a, b⟩ := x
    intro l
    simp only [unseen, Bool.cond_eq_ite]
    split
    · rename_i h; rw [ih]; simp [h]
    · rename_i h
      rw [List.mem_cons, ih]
      simp only [List.mem_cons, exists_eq_or_imp]
      have h' : pre.testBit i = false := by simpa using h
      constructor
      · rintro (rfl | h1 | h1)
        · exact .inr (.inl ⟨h', rfl⟩)
        · exact .inl h1
        · exact .inr (.inr h1)
      · rintro (h1 | ⟨_, rfl⟩ | h1)
        · exact .inr (.inl h1)
        · exact .inl rfl
        · exact .inr (.inr h1)
theorem cond_and {a b : Bool} (h : cond a b false = true) : a = true ∧ b = true := by cases a <;> cases b <;> simp at h ⊢
theorem barAt_spec {ops : Array Oper} {pre : Array Nat} {loads : Bool} {j : Nat} : ∀ {N : Nat}, barAt ops pre loads j N = true → ∀ i o, i < N → ops[i]? = some o → touch o.op = true → (isLoad o.op = true → loads = true) →
    (i < j → (pre.getD j 0).testBit i = true) ∧ (j < i → (pre.getD i 0).testBit j = true) := by
  intro N
  induction N with
  | zero => intro _ i o h; omega
  | succ N ih =>
    intro h i o hi ho ht hl
    rw [barAt] at h
    obtain ⟨hx, h⟩ := cond_and h
    rcases Nat.lt_succ_iff_lt_or_eq.1 hi with h1 | h1
    · exact ih h i o h1 ho ht hl
    · subst h1
      simp only [ho, ht, cond_true] at hx
      have hy : (cond (i.blt j) ((pre.getD j 0).testBit i) (cond (i.beq j) true ((pre.getD i 0).testBit j))) = true := by
        cases hil : isLoad o.op with
        | false => simpa only [hil, cond_false] using hx
        | true => simpa only [hil, hl hil, cond_true] using hx
      simp only [Bool.cond_eq_ite, Nat.blt_eq, Nat.beq_eq] at hy
      constructor
      · intro hlt; rw [if_pos hlt] at hy; exact hy
      · intro hlt; rw [if_neg (by omega), if_neg (by omega)] at hy; exact hy

structure Trace (P : Program) (rec : Task → Option Res) (n : Nat) (ops : Array Oper) (st : Nat → St) (dr : Nat → Dr) (kd : Nat → K) : Prop where
  sound : RecOk P rec
  tidy : Tidy ops
  step : ∀ j o, ops[j]? = some o → StepOk P rec n ops j o (st j) (dr j) (st (j + 1)) (dr (j + 1)) (kd j)
  asked : ∀ {j : Nat} {o : Oper}, ops[j]? = some o → askedA ops (st j).tmps o = true
  dr0 : dr 0 = ⟨[], [], []⟩
  wf0 : Wf (st 0).heap (st 0).next
section trace
variable {rec : Task → Option Res} {n : Nat} {ops : Array Oper} {st : Nat → St} {dr : Nat → Dr} {kd : Nat → K}
structure At (ops : Array Oper) (st : Nat → St) (dr : Nat → Dr) (kd : Nat → K) (j : Nat) : Prop where
  defers : (st j).defers = (st 0).defers
  bad : (st j).heap.bad = (st 0).heap.bad
  wf : Wf (st j).heap (st j).next
  ss : ∀ x ∈ (dr j).ss, x.1 < j ∧ x.2 = ((st x.1).next, (st (x.1 + 1)).next) ∧ x.2.2 ≤ (st j).next
  all : ∀ i, i < j → (st i).next < (st (i + 1)).next → (i, (st i).next, (st (i + 1)).next) ∈ (dr j).ss
  rs : ∀ x, x ∈ (dr j).rs ↔ x.1 < j ∧ kd x.1 = .load x.2
  ws : ∀ x, x ∈ (dr j).ws ↔ x.1 < j ∧ kd x.1 = .store x.2
theorem At.hp {j : Nat} (h : At ops st dr kd j) : Wf (hpAt ops j (st j) (dr j)) (st j).next := by
  refine ⟨h.wf.none, fun p hp => ?_, h.wf.ok⟩
  rcases unseen_mem.1 hp with h1 | ⟨x, hx, _, rfl⟩
  · exact h.wf.bad p h1
  · exact (h.ss x hx).2.2
theorem touch_ap {j : Nat} {H : Hp} {nx : Nat} {s : St} {d : Dr} (hW : Wf s.heap s.next) (h : AP (hpAt ops j s d) s.next H nx) : AP s.heap s.next ⟨H.t, s.heap.bad, lower H.wr s.heap.wr⟩ nx where
  le := h.le
  bad := rfl
  wr := lower_le_right _ _
  same := fun i h1 h2 => h.same i h1 (Nat.lt_of_lt_of_le h2 (lower_le_left _ _))
  old := h.old
  wf := ⟨h.wf.none, fun p hp => Nat.le_trans (hW.bad p hp) h.le, h.wf.ok⟩
theorem Trace.nd (h : Trace P rec n ops st dr kd) {j : Nat} {o : Oper} (ho : ops[j]? = some o) : ∀ c, o.op ≠ .defer c := h.tidy.plain j o ho
theorem Trace.next (h : Trace P rec n ops st dr kd) {j : Nat} {o : Oper} (ho : ops[j]? = some o) (ha : At ops st dr kd j) : AP (st j).heap (st j).next (st (j + 1)).heap (st (j + 1)).next ∧ At ops st dr kd (j + 1) := by
  have hs := h.step j o ho
  have hnd := h.nd ho
  cases hk : kd j with
  | skip =>
    rw [hk] at hs
    obtain ⟨_, T, _, e, ed⟩ := hs
    have e1 : (st (j + 1)).heap = (st j).heap := by rw [e]
    have e2 : (st (j + 1)).next = (st j).next := by rw [e]
    have e3 : (st (j + 1)).defers = (st j).defers := by rw [e]
    rw [e1, e2]
    refine ⟨.refl ha.wf, ⟨e3.trans ha.defers, by rw [e1]; exact ha.bad, by rw [e1, e2]; exact ha.wf, ?_, ?_, ?_, ?_⟩⟩
    · intro x hx; rw [ed] at hx; obtain ⟨a, b, c⟩ := ha.ss x hx; exact ⟨by omega, b, by rw [e2]; exact c⟩
    · intro i hi hl
      rw [ed]
      rcases Nat.lt_succ_iff_lt_or_eq.1 hi with h1 | h1
      · exact ha.all i h1 hl
      · subst h1; omega
    · intro x; rw [ed, ha.rs]
      constructor
      · rintro ⟨a, b⟩; exact ⟨by omega, b⟩
      · rintro ⟨a, b⟩
        rcases Nat.lt_succ_iff_lt_or_eq.1 a with h1 | h1
        · exact ⟨h1, b⟩
        · rw [h1, hk] at b; cases b
    · intro x; rw [ed, ha.ws]
      constructor
      · rintro ⟨a, b⟩; exact ⟨by omega, b⟩
      · rintro ⟨a, b⟩
        rcases Nat.lt_succ_iff_lt_or_eq.1 a with h1 | h1
        · exact ⟨h1, b⟩
        · rw [h1, hk] at b; cases b
  | pure =>
    rw [hk] at hs
    obtain ⟨_, _, v, T, _, _, e, ed⟩ := hs
    have e1 : (st (j + 1)).heap = (st j).heap := by rw [e]
    have e2 : (st (j + 1)).next = (st j).next := by rw [e]
    have e3 : (st (j + 1)).defers = (st j).defers := by rw [e]
    rw [e1, e2]
    refine ⟨.refl ha.wf, ⟨e3.trans ha.defers, by rw [e1]; exact ha.bad, by rw [e1, e2]; exact ha.wf, ?_, ?_, ?_, ?_⟩⟩
    · intro x hx; rw [ed] at hx; obtain ⟨a, b, c⟩ := ha.ss x hx; exact ⟨by omega, b, by rw [e2]; exact c⟩
    · intro i hi hl
      rw [ed]
      rcases Nat.lt_succ_iff_lt_or_eq.1 hi with h1 | h1
      · exact ha.all i h1 hl
      · subst h1; omega
    · intro x; rw [ed, ha.rs]
      constructor
      · rintro ⟨a, b⟩; exact ⟨by omega, b⟩
      · rintro ⟨a, b⟩
        rcases Nat.lt_succ_iff_lt_or_eq.1 a with h1 | h1
        · exact ⟨h1, b⟩
        · rw [h1, hk] at b; cases b
    · intro x; rw [ed, ha.ws]
      constructor
      · rintro ⟨a, b⟩; exact ⟨by omega, b⟩
      · rintro ⟨a, b⟩
        rcases Nat.lt_succ_iff_lt_or_eq.1 a with h1 | h1
        · exact ⟨h1, b⟩
        · rw [h1, hk] at b; cases b
  | load nm =>
    rw [hk] at hs
    obtain ⟨_, _, t, x, v, T, _, _, _, e, _, _, ed⟩ := hs
    have e1 : (st (j + 1)).heap = (st j).heap := by rw [e]
    have e2 : (st (j + 1)).next = (st j).next := by rw [e]
    have e3 : (st (j + 1)).defers = (st j).defers := by rw [e]
    rw [e1, e2]
    refine ⟨.refl ha.wf, ⟨e3.trans ha.defers, by rw [e1]; exact ha.bad, by rw [e1, e2]; exact ha.wf, ?_, ?_, ?_, ?_⟩⟩
    · intro x hx; rw [ed] at hx; obtain ⟨a, b, c⟩ := ha.ss x hx; exact ⟨by omega, b, by rw [e2]; exact c⟩
    · intro i hi hl
      rw [ed]
      rcases Nat.lt_succ_iff_lt_or_eq.1 hi with h1 | h1
      · exact ha.all i h1 hl
      · subst h1; omega
    · intro x; rw [ed]
      simp only [List.mem_cons, ha.rs]
      constructor
      · rintro (rfl | ⟨a, b⟩)
        · exact ⟨by omega, hk⟩
        · exact ⟨by omega, b⟩
      · rintro ⟨a, b⟩
        rcases Nat.lt_succ_iff_lt_or_eq.1 a with h1 | h1
        · exact .inr ⟨h1, b⟩
        · rw [h1, hk] at b; cases b; left; rw [← h1]
    · intro x; rw [ed, ha.ws]
      constructor
      · rintro ⟨a, b⟩; exact ⟨by omega, b⟩
      · rintro ⟨a, b⟩
        rcases Nat.lt_succ_iff_lt_or_eq.1 a with h1 | h1
        · exact ⟨h1, b⟩
        · rw [h1, hk] at b; cases b
  | store nm =>
    rw [hk] at hs
    obtain ⟨_, _, _, v, T, H, nx, hh, _, e, _, _, _, ed⟩ := hs
    have ap := touch_ap ha.wf (heapop_ok h.sound ha.hp hh hnd).1
    have e1 : (st (j + 1)).heap = ⟨H.t, (st j).heap.bad, lower H.wr (st j).heap.wr⟩ := by rw [e]
    have e2 : (st (j + 1)).next = nx := by rw [e]
    have e3 : (st (j + 1)).defers = (st j).defers := by rw [e]
    rw [e1, e2]
    refine ⟨ap, ⟨e3.trans ha.defers, by rw [e1]; exact ha.bad, by rw [e1, e2]; exact ap.wf, ?_, ?_, ?_, ?_⟩⟩
    · intro x hx
      have old : x ∈ (dr j).ss → x.1 < j + 1 ∧ x.2 = ((st x.1).next, (st (x.1 + 1)).next) ∧ x.2.2 ≤ (st (j + 1)).next := fun hx => by
        obtain ⟨a, b, c⟩ := ha.ss x hx; exact ⟨by omega, b, by rw [e2]; have := ap.le; omega⟩
      rw [ed, Bool.cond_eq_ite] at hx
      simp only at hx
      split at hx
      · exact old hx
      · rcases List.mem_cons.1 hx with rfl | hx
        · exact ⟨by simp, by simp [e2], by simp [e2]⟩
        · exact old hx
    · intro i hi hl
      rw [ed, Bool.cond_eq_ite]
      simp only
      rcases Nat.lt_succ_iff_lt_or_eq.1 hi with q | q
      · have := ha.all i q hl
        split
        · exact this
        · exact List.mem_cons_of_mem _ this
      · subst q
        rw [e2] at hl
        rw [if_neg (by rw [Nat.ble_eq]; omega), e2]
        exact List.mem_cons_self
    · intro x; rw [ed, ha.rs]
      constructor
      · rintro ⟨a, b⟩; exact ⟨by omega, b⟩
      · rintro ⟨a, b⟩
        rcases Nat.lt_succ_iff_lt_or_eq.1 a with h1 | h1
        · exact ⟨h1, b⟩
        · rw [h1, hk] at b; cases b
    · intro x; rw [ed]
      simp only [List.mem_cons, ha.ws]
      constructor
      · rintro (rfl | ⟨a, b⟩)
        · exact ⟨by omega, hk⟩
        · exact ⟨by omega, b⟩
      · rintro ⟨a, b⟩
        rcases Nat.lt_succ_iff_lt_or_eq.1 a with h1 | h1
        · exact .inr ⟨h1, b⟩
        · rw [h1, hk] at b; cases b; left; rw [← h1]
  | fresh =>
    rw [hk] at hs
    obtain ⟨_, _, _, v, T, H, nx, hh, _, _, e, ed⟩ := hs
    exact laid ha hk (by simp) (by simp) (heapop_ok h.sound ha.hp hh hnd).1 e ed
  | wrt =>
    rw [hk] at hs
    obtain ⟨_, _, _, v, T, H, nx, hh, _, _, e, ed⟩ := hs
    exact laid ha hk (by simp) (by simp) (heapop_ok h.sound ha.hp hh hnd).1 e ed
  where
  laid {j : Nat} {T : Tr AV} {H : Hp} {nx : Nat} {c : K} (ha : At ops st dr kd j) (hk : kd j = c) (h1 : ∀ nm, c ≠ .load nm) (h2 : ∀ nm, c ≠ .store nm) (hap : AP (hpAt ops j (st j) (dr j)) (st j).next H nx)
      (e : st (j + 1) = ⟨T, (st j).defers, ⟨H.t, (st j).heap.bad, lower H.wr (st j).heap.wr⟩, nx⟩) (ed : dr (j + 1) = cond (nx.ble (st j).next) (dr j) ⟨(j, (st j).next, nx) :: (dr j).ss, (dr j).rs, (dr j).ws⟩) :
      AP (st j).heap (st j).next (st (j + 1)).heap (st (j + 1)).next ∧ At ops st dr kd (j + 1) := by
    have ap := touch_ap ha.wf hap
    have e1 : (st (j + 1)).heap = ⟨H.t, (st j).heap.bad, lower H.wr (st j).heap.wr⟩ := by rw [e]
    have e2 : (st (j + 1)).next = nx := by rw [e]
    have e3 : (st (j + 1)).defers = (st j).defers := by rw [e]
    have hrs : (dr (j + 1)).rs = (dr j).rs := by rw [ed, Bool.cond_eq_ite]; split <;> rfl
    have hws : (dr (j + 1)).ws = (dr j).ws := by rw [ed, Bool.cond_eq_ite]; split <;> rfl
    rw [e1, e2]
    refine ⟨ap, ⟨e3.trans ha.defers, by rw [e1]; exact ha.bad, by rw [e1, e2]; exact ap.wf, ?_, ?_, ?_, ?_⟩⟩
    · intro x hx
      have old : x ∈ (dr j).ss → x.1 < j + 1 ∧ x.2 = ((st x.1).next, (st (x.1 + 1)).next) ∧ x.2.2 ≤ (st (j + 1)).next := fun hx => by
        obtain ⟨a, b, c⟩ := ha.ss x hx; exact ⟨by omega, b, by rw [e2]; have := ap.le; omega⟩
      rw [ed, Bool.cond_eq_ite] at hx
      split at hx
      · exact old hx
      · rcases List.mem_cons.1 hx with rfl | hx
        · exact ⟨by simp, by simp [e2], by simp [e2]⟩
        · exact old hx
    · intro i hi hl
      rw [ed, Bool.cond_eq_ite]
      rcases Nat.lt_succ_iff_lt_or_eq.1 hi with q | q
      · have := ha.all i q hl
        split
        · exact this
        · exact List.mem_cons_of_mem _ this
      · subst q
        rw [e2] at hl
        rw [if_neg (by rw [Nat.ble_eq]; omega), e2]
        exact List.mem_cons_self
    · intro x; rw [hrs, ha.rs]
      constructor
      · rintro ⟨a, b⟩; exact ⟨by omega, b⟩
      · rintro ⟨a, b⟩
        rcases Nat.lt_succ_iff_lt_or_eq.1 a with q | q
        · exact ⟨q, b⟩
        · rw [q, hk] at b; exact absurd b (h1 _)
    · intro x; rw [hws, ha.ws]
      constructor
      · rintro ⟨a, b⟩; exact ⟨by omega, b⟩
      · rintro ⟨a, b⟩
        rcases Nat.lt_succ_iff_lt_or_eq.1 a with q | q
        · exact ⟨q, b⟩
        · rw [q, hk] at b; exact absurd b (h2 _)
theorem Trace.at (h : Trace P rec n ops st dr kd) : ∀ j, j ≤ ops.size → At ops st dr kd j := by
  intro j
  induction j with
  | zero =>
    intro _
    refine ⟨rfl, rfl, h.wf0, ?_, ?_, ?_, ?_⟩ <;> simp [h.dr0]
  | succ j ih =>
    intro hj
    exact (h.next (Array.getElem?_eq_getElem (show j < ops.size by omega)) (ih (by omega))).2
theorem Trace.ap (h : Trace P rec n ops st dr kd) {j : Nat} (hj : j < ops.size) : AP (st j).heap (st j).next (st (j + 1)).heap (st (j + 1)).next :=
  (h.next (Array.getElem?_eq_getElem hj) (h.at j (by omega))).1
theorem Trace.aps (h : Trace P rec n ops st dr kd) {i : Nat} : ∀ {j : Nat}, i ≤ j → j ≤ ops.size → AP (st i).heap (st i).next (st j).heap (st j).next := by
  intro j hij
  induction j with
  | zero => intro hj; obtain rfl : i = 0 := by omega
            exact .refl (h.at 0 hj).wf
  | succ j ih =>
    intro hj
    by_cases e : i = j + 1
    · subst e; exact .refl (h.at _ hj).wf
    · exact (ih (by omega) (by omega)).trans (h.ap (by omega))
theorem Trace.mono (h : Trace P rec n ops st dr kd) {i j : Nat} (hij : i ≤ j) (hj : j ≤ ops.size) : (st i).next ≤ (st j).next := (h.aps hij hj).le
theorem Trace.still (h : Trace P rec n ops st dr kd) {j x : Nat} (hj : j < ops.size) (hk : (kd j).writes = false ∨ (st (j + 1)).heap.t.get x = (st j).heap.t.get x) (hx : x < (st j).next) : (st (j + 1)).heap.t.get x = (st j).heap.t.get x := by
  have ho := Array.getElem?_eq_getElem hj
  have hs := h.step j _ ho
  rcases hk with hk | hk
  case inr => exact hk
  cases hkd : kd j with
  | skip => rw [hkd] at hs; obtain ⟨_, T, _, e, _⟩ := hs; rw [e]
  | pure => rw [hkd] at hs; obtain ⟨_, _, v, T, _, _, e, _⟩ := hs; rw [e]
  | load nm => rw [hkd] at hs; obtain ⟨_, _, t, y, v, T, _, _, _, e, _⟩ := hs; rw [e]
  | store nm => rw [hkd] at hk; cases hk
  | fresh =>
    rw [hkd] at hs
    obtain ⟨_, _, _, v, T, H, nx, hh, _, hle, e, _⟩ := hs
    have ap := (heapop_ok h.sound (h.at j (by omega)).hp hh (h.nd ho)).1
    rw [e]
    exact ap.same x hx (by omega)
  | wrt => rw [hkd] at hk; cases hk
theorem Trace.stillN (h : Trace P rec n ops st dr kd) {j x nm : Nat} (hj : j < ops.size) (hk : kd j = .store nm) (hne : x ≠ nm) (hx : x < (st j).next) : (st (j + 1)).heap.t.get x = (st j).heap.t.get x ∨ (st (j + 1)).heap.t.get x = none := by
  have hs := h.step j _ (Array.getElem?_eq_getElem hj)
  rw [hk] at hs
  obtain ⟨_, _, _, v, T, H, nx, _, _, e, hi, _⟩ := hs
  rw [e]; exact hi.1 x hx hne
theorem Trace.loadStay (h : Trace P rec n ops st dr kd) {j i a b : Nat} (hj : j < ops.size) (hij : i < j) (hw : kd j = .store a) (hl : kd i = .load b) (hb : ¬ Bf ops i j) (hx : b < (st j).next) : (st (j + 1)).heap.t.get b = (st j).heap.t.get b := by
  have hs := h.step j _ (Array.getElem?_eq_getElem hj)
  rw [hw] at hs
  obtain ⟨_, _, _, v, T, H, nx, _, _, e, hi, _⟩ := hs
  rcases hi.2 (i, b) (((h.at j (by omega)).rs (i, b)).2 ⟨hij, hl⟩) hx with h2 | h2
  · exact absurd h2 hb
  · rw [e]; exact h2
theorem Trace.stillsB (h : Trace P rec n ops st dr kd) {i x : Nat} (hx : x < (st i).next) : ∀ {j : Nat}, i ≤ j → j ≤ ops.size → (∀ l, i ≤ l → l < j → (kd l).writes = false ∨ ∃ nm, kd l = .store nm ∧ x ≠ nm) → (st j).heap.t.get x ≠ none → (st j).heap.t.get x = (st i).heap.t.get x := by
  intro j hij
  induction j with
  | zero => intro _ _ _; obtain rfl : i = 0 := by omega
            rfl
  | succ j ih =>
    intro hj hk hs
    by_cases e : i = j + 1
    · subst e; rfl
    · have hlt := Nat.lt_of_lt_of_le hx (h.mono (show i ≤ j by omega) (by omega))
      have hq : (st (j + 1)).heap.t.get x = (st j).heap.t.get x := by
        rcases hk j (by omega) (by omega) with h1 | ⟨nm, h1, h2⟩
        · exact h.still (by omega) (.inl h1) hlt
        · rcases h.stillN (by omega) h1 h2 hlt with h3 | h3
          · exact h3
          · exact absurd h3 hs
      rw [hq] at hs ⊢
      exact ih (by omega) (by omega) (fun l a b => hk l a (by omega)) hs
theorem Trace.stills (h : Trace P rec n ops st dr kd) {i x : Nat} (hx : x < (st i).next) : ∀ {j : Nat}, i ≤ j → j ≤ ops.size → (∀ l, i ≤ l → l < j → (kd l).writes = false ∨ (st (l + 1)).heap.t.get x = (st l).heap.t.get x) → (st j).heap.t.get x = (st i).heap.t.get x := by
  intro j hij
  induction j with
  | zero => intro _ _; obtain rfl : i = 0 := by omega
            rfl
  | succ j ih =>
    intro hj hk
    by_cases e : i = j + 1
    · subst e; rfl
    · rw [h.still (by omega) (hk j (by omega) (by omega)) (Nat.lt_of_lt_of_le hx (h.mono (by omega) (by omega)))]
      exact ih (by omega) (by omega) (fun l a b => hk l a (by omega))
theorem Trace.who (h : Trace P rec n ops st dr kd) {i x : Nat} (hx : (st i).next ≤ x) : ∀ {j : Nat}, i ≤ j → j ≤ ops.size → x < (st j).next → ∃ l, i ≤ l ∧ l < j ∧ (st l).next ≤ x ∧ x < (st (l + 1)).next := by
  intro j hij
  induction j with
  | zero => intro _ h2; obtain rfl : i = 0 := by omega
            omega
  | succ j ih =>
    intro hj h2
    by_cases e : i = j + 1
    · subst e; omega
    · rcases Nat.lt_or_ge x (st j).next with h3 | h3
      · obtain ⟨l, a, b, c⟩ := ih (by omega) (by omega) h3
        exact ⟨l, a, by omega, c⟩
      · exact ⟨j, by omega, by omega, h3, h2⟩
theorem Trace.layer (h : Trace P rec n ops st dr kd) {j : Nat} {o : Oper} (ho : ops[j]? = some o) (hl : (st j).next < (st (j + 1)).next) : touch o.op = true ∧ isLoad o.op = false := by
  have hs := h.step j _ ho
  cases hkd : kd j with
  | skip => rw [hkd] at hs; obtain ⟨_, T, _, e, _⟩ := hs; rw [e] at hl; simp at hl
  | pure => rw [hkd] at hs; obtain ⟨_, _, v, T, _, _, e, _⟩ := hs; rw [e] at hl; simp at hl
  | load nm => rw [hkd] at hs; obtain ⟨_, _, t, y, v, T, _, _, _, e, _⟩ := hs; rw [e] at hl; simp at hl
  | store nm => rw [hkd] at hs; exact ⟨hs.2.1, hs.2.2.1⟩
  | fresh => rw [hkd] at hs; exact ⟨hs.2.1, hs.2.2.1⟩
  | wrt => rw [hkd] at hs; exact ⟨hs.2.1, hs.2.2.1⟩
theorem Trace.bar (h : Trace P rec n ops st dr kd) {j i : Nat} {o : Oper} (hj : j < ops.size) (hw : (kd j).writes = true) (ho : ops[i]? = some o) (ht : touch o.op = true) (hl : isLoad o.op = false ∨ kd j = .wrt) (hne : i ≠ j) :
    (i < j ∧ Bf ops i j) ∨ (j < i ∧ Bf ops j i) := by
  have hs := h.step j _ (Array.getElem?_eq_getElem hj)
  have hi := (Array.getElem?_eq_some_iff.1 ho).1
  have fin : (i < j → ((Region.before ops).getD j 0).testBit i = true) ∧ (j < i → ((Region.before ops).getD i 0).testBit j = true) → (i < j ∧ Bf ops i j) ∨ (j < i ∧ Bf ops j i) := fun hb => by
    rcases Nat.lt_or_ge i j with h1 | h1
    · exact .inl ⟨h1, hb.1 h1⟩
    · exact .inr ⟨by omega, hb.2 (by omega)⟩
  cases hkd : kd j with
  | store nm =>
    rw [hkd] at hs
    obtain ⟨_, _, _, v, T, H, nx, _, _, e, _, _, hb, _⟩ := hs
    exact fin (barAt_spec hb i o hi ho ht (fun hx => by
      rcases hl with hl | hl
      · rw [hl] at hx; cases hx
      · rw [hkd] at hl; cases hl))
  | wrt =>
    rw [hkd] at hs
    obtain ⟨_, _, _, v, T, H, nx, _, _, hb, _⟩ := hs
    exact fin (barAt_spec hb i o hi ho ht (fun _ => rfl))
  | _ => rw [hkd] at hw; cases hw
theorem Trace.loadBar (h : Trace P rec n ops st dr kd) {j i a b : Nat} (hj : j < ops.size) (hi : i < ops.size) (hw : kd j = .store a) (hl : kd i = .load b) : Bf ops i j ∨ Bf ops j i ∨ a ≠ b := by
  have hne : i ≠ j := fun e => by rw [e, hw] at hl; cases hl
  rcases Nat.lt_or_ge i j with h1 | h1
  · have hs := h.step j _ (Array.getElem?_eq_getElem hj)
    rw [hw] at hs
    obtain ⟨_, _, _, v, T, H, nx, _, _, e, _, hc, _⟩ := hs
    rcases clear_spec hc (i, b) (((h.at j (by omega)).rs (i, b)).2 ⟨h1, hl⟩) with h2 | h2
    · exact .inl h2
    · exact .inr (.inr (Ne.symm h2))
  · have hs := h.step i _ (Array.getElem?_eq_getElem hi)
    rw [hl] at hs
    obtain ⟨_, _, t, y, v, T, _, _, _, e, _, hc, _⟩ := hs
    rcases clear_spec hc (j, a) (((h.at i (by omega)).ws (j, a)).2 ⟨by omega, hw⟩) with h2 | h2
    · exact .inr (.inl h2)
    · exact .inr (.inr h2)
theorem putA_get {n : Nat} {dst : Option Tmp} {v : AV} {T T' : Tr AV} (h : putA n dst v T = some T') (t : Tmp) : (dst ≠ some t → T'.get t = T.get t) ∧ (dst = some t → T'.get t = some v) := by
  unfold putA at h
  cases dst with
  | none => cases h; exact ⟨fun _ => rfl, fun e => by cases e⟩
  | some d =>
    simp only [Bool.cond_eq_ite] at h
    split at h
    · cases h
      rw [Tr.get_set]
      constructor
      · intro hne; rw [if_neg (fun e => hne (by rw [e]))]
      · intro e; cases e; rw [if_pos rfl]
    · cases h
theorem Trace.put (h : Trace P rec n ops st dr kd) {j : Nat} {o : Oper} (ho : ops[j]? = some o) : ∃ v, putA n o.dst v (st j).tmps = some (st (j + 1)).tmps := by
  have hs := h.step j _ ho
  cases hkd : kd j with
  | skip => rw [hkd] at hs; obtain ⟨_, T, hp, e, _⟩ := hs; exact ⟨_, by rw [e]; exact hp⟩
  | pure => rw [hkd] at hs; obtain ⟨_, _, v, T, _, hp, e, _⟩ := hs; exact ⟨_, by rw [e]; exact hp⟩
  | load nm => rw [hkd] at hs; obtain ⟨_, _, t, y, v, T, _, _, hp, e, _⟩ := hs; exact ⟨_, by rw [e]; exact hp⟩
  | store nm => rw [hkd] at hs; obtain ⟨_, _, _, v, T, H, nx, _, hp, e, _⟩ := hs; exact ⟨_, by rw [e]; exact hp⟩
  | fresh => rw [hkd] at hs; obtain ⟨_, _, _, v, T, H, nx, hh, hp, hle, e, _⟩ := hs; exact ⟨_, by rw [e]; exact hp⟩
  | wrt => rw [hkd] at hs; obtain ⟨_, _, _, v, T, H, nx, hh, hp, hle, e, _⟩ := hs; exact ⟨_, by rw [e]; exact hp⟩
theorem Trace.tmp (h : Trace P rec n ops st dr kd) {i t : Nat} : ∀ {j : Nat}, i ≤ j → j ≤ ops.size → (∀ l, i ≤ l → l < j → dstOf ops l ≠ some t) → (st j).tmps.get t = (st i).tmps.get t := by
  intro j hij
  induction j with
  | zero => intro _ _; obtain rfl : i = 0 := by omega
            rfl
  | succ j ih =>
    intro hj hk
    by_cases e : i = j + 1
    · subst e; rfl
    · obtain ⟨v, hp⟩ := h.put (Array.getElem?_eq_getElem (show j < ops.size by omega))
      rw [(putA_get hp t).1 (fun hd => hk j (by omega) (by omega) (by simp [dstOf, Array.getElem?_eq_getElem (show j < ops.size by omega), hd]))]
      exact ih (by omega) (by omega) (fun l a b => hk l a (by omega))
end trace
end Abs
end Go.Proofs.YtekmmeikkafpmaaGreat
