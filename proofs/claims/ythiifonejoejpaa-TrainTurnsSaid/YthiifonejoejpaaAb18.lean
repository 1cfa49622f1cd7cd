/- The evaluator: what it says is so. -/
import Derived.Test.YthiifonejoejpaaAb17
namespace Go.Proofs.Ythiifonejoejpaa
namespace Abs
open Go.RowKit
variable {P : Program} {m : NM}

/-- What is asked of a program. -/
def progOk (P : Program) : Bool := P.follows .mixedOrders && P.funcs.all fun fn => match fn.body with
  | some c => codeOk c && !(fn.name == "runtime.NumGoroutine")
  | none => true
theorem progOk_fn (h : progOk P = true) {f : FuncId} {fn : Func} {c : Code} (hf : P.funcs[f]? = some fn) (hb : fn.body = some c) : codeOk c = true ∧ HasBody P f := by
  simp only [progOk, Bool.and_eq_true, Array.all_eq_true_iff_forall_mem] at h
  have := h.2 fn (Array.mem_of_getElem? hf)
  simp only [hb, Bool.and_eq_true, Bool.not_eq_true'] at this
  exact ⟨this.1, fn, c, hf, hb, this.2⟩

/-! Results, arguments, deferred calls. -/
def resultS (tmps : Array Value) : ResultVar → Sem Value
  | .tmp t => pure (tmps.getD t undef)
  | .cell a t => do loadVar t (← asAddr (tmps.getD a undef))
theorem result_ok {H : Hp} {W : World} {n : Nat} {T : Tr AV} {tmps : Array Value} (hR : Rel m H W) (hT : TR m n T tmps) {r : ResultVar} {a : AV} (h : resultA P H T r = some a) : ∃ v, VR m a v ∧ (resultS tmps r).run P W = .ok v W := by
  unfold resultA at h
  cases r with
  | tmp t => simp at h; subst h; exact ⟨_, hT.2 t, rfl⟩
  | cell x t =>
    simp only at h
    cases hx : (T.get x).getD .undef <;> simp only [hx] at h <;> try (cases h; done)
    rename_i nn off
    have hv := hT.2 x
    rw [hx] at hv
    simp only [VR] at hv
    obtain ⟨k, hk, hv⟩ := hv
    obtain ⟨v, h1, h2⟩ := loadT_ok hR h hk
    exact ⟨v, h1, by simp [resultS, hv, asAddr, h2]⟩
theorem resultsL_ok {H : Hp} {W : World} {n : Nat} {T : Tr AV} {tmps : Array Value} (hR : Rel m H W) (hT : TR m n T tmps) : ∀ {rs : List ResultVar} {l : List AV}, resultsL P H T rs = some l → ∃ vs, VRs m l vs ∧ (rs.mapM (resultS tmps)).run P W = .ok vs W := by
  intro rs
  induction rs with
  | nil => intro l h; simp [resultsL] at h; subst h; exact ⟨[], .nil, by simp⟩
  | cons r rs ih =>
    intro l h
    unfold resultsL at h
    cases h1 : resultA P H T r with
    | none => simp [h1] at h
    | some a => cases h2 : resultsL P H T rs with
      | none => simp [h1, h2] at h
      | some l' =>
        simp [h1, h2] at h; subst h
        obtain ⟨v, g1, g2⟩ := result_ok hR hT h1
        obtain ⟨vs, g3, g4⟩ := ih h2
        exact ⟨v :: vs, .cons g1 g3, by simp [List.mapM_cons, g2, g4]⟩
theorem results_ok {H : Hp} {W : World} {n : Nat} {T : Tr AV} {tmps : Array Value} {fn : Func} {a : AV} (hR : Rel m H W) (hT : TR m n T tmps) (h : resultsA P H T fn.results.toList = some a) : ∃ v, VR m a v ∧ (results fn tmps).run P W = .ok v W := by
  unfold resultsA at h
  cases hl : resultsL P H T fn.results.toList with
  | none => simp [hl] at h
  | some l =>
    obtain ⟨vs, g1, g2⟩ := resultsL_ok hR hT hl
    have key : (results fn tmps).run P W = .ok (if h : vs.toArray.size = 1 then vs.toArray[0] else .tuple vs.toArray) W := by
      have he : results fn tmps = (do let vs ← fn.results.mapM (resultS tmps); pure (if h : vs.size = 1 then vs[0] else .tuple vs)) := by
        unfold results
        congr 1
      rw [he, Array.mapM_eq_mapM_toList]
      simp [g2]
    rw [key]
    simp only [hl] at h
    split at h
    · rename_i v e
      cases e; cases h
      obtain ⟨v', t, rfl, h1, h2⟩ := g1.cons_inv
      rw [h2.nil_inv]
      exact ⟨v', h1, rfl⟩
    · rename_i l' hne e
      cases e; cases h
      refine ⟨.tuple vs.toArray, by simp only [VR]; exact ⟨_, rfl, by simpa using g1⟩, ?_⟩
      have : ¬ vs.toArray.size = 1 := by
        intro h1
        simp at h1
        rw [g1.length] at h1
        obtain ⟨x, rfl⟩ := List.length_eq_one_iff.1 h1
        exact hne x rfl
      rw [dif_neg this]
    · rename_i e; cases e
theorem ofArgs_get : ∀ (l : List AV) (i : Nat) (T : Tr AV) (t : Nat), (ofArgs l i T).get t = if i ≤ t ∧ t < i + l.length then l[t - i]? else T.get t := by
  intro l
  induction l with
  | nil => intro i T t; simp [ofArgs]; omega
  | cons v l ih =>
    intro i T t
    simp only [ofArgs, ih, Tr.get_set, List.length_cons]
    by_cases h1 : i + 1 ≤ t ∧ t < i + 1 + l.length
    · rw [if_pos h1, if_pos (by omega), show t - i = (t - (i + 1)) + 1 by omega]; simp
    · rw [if_neg h1]
      by_cases h2 : t = i
      · subst h2; rw [if_pos rfl, if_pos (by omega)]; simp
      · rw [if_neg h2, if_neg (by omega)]
theorem enter_tr {args : List AV} {xs : Array Value} {N : Nat} (h : VRs m args xs.toList) : TR m (max N args.length) (ofArgs args 0 .nil) (xs ++ Array.replicate (N - xs.size) undef) := by
  have hl := h.length
  rw [Array.length_toList] at hl
  refine ⟨by simp; omega, fun t => ?_⟩
  rw [ofArgs_get, Array.getD_eq_getD_getElem?, Array.getElem?_append]
  by_cases h1 : t < xs.size
  · rw [if_pos (by omega), if_pos h1]
    have : args[t]? = some args[t] := List.getElem?_eq_getElem (by omega)
    obtain ⟨v, h2, h3⟩ := h.get this
    rw [Array.getElem?_toList] at h2
    rw [h2, Nat.sub_zero, this]; exact h3
  · rw [if_neg (by omega), if_neg h1]
    have : (Array.replicate (N - xs.size) undef)[t - xs.size]?.getD undef = undef := by
      rw [Array.getElem?_replicate]; split <;> rfl
    rw [this]
    exact VR.undef_iff.2 rfl
theorem leave_ok {rec : Task → Option Res} (hrec : RecOk P rec) : ∀ {ds : List ADef} {H H' : Hp} {nx nx' : Nat}, Wf H nx → leaveA rec ds H nx = some (H', nx') → AP H nx H' nx' ∧ ∀ m W dsv, DR m ds dsv → Rel m H W → Fresh m nx nx' →
    ∀ (fn : Func) (tmps : Array Value) (R : Ending → World → Prop), (∀ m' W', Post m H nx W m' H' nx' W' → LeavesInM Fence.wide 0 P fn tmps R [] .returning W') → LeavesInM Fence.wide 0 P fn tmps R dsv .returning W := by
  intro ds
  induction ds with
  | nil =>
    intro H H' nx nx' hW h
    simp only [leaveA, Option.some.injEq, Prod.mk.injEq] at h
    obtain ⟨rfl, rfl⟩ := h
    exact ⟨.refl hW, fun m W dsv hd hR _ fn tmps R hK => by cases hd; exact hK m W (.refl hR)⟩
  | cons d ds ih =>
    intro H H' nx nx' hW h
    cases d with
    | mark r =>
      simp only [leaveA] at h
      cases hg : H.get r with
      | none => simp [hg] at h
      | some ob =>
        cases ob <;> simp only [hg] at h <;> try (cases h; done)
        rename_i b
        cases b <;> simp only at h <;> try (cases h; done)
        have a1 : AP H nx (H.put r (.dfr false)) nx := put_ap hW hg rfl
        obtain ⟨a2, w2⟩ := ih a1.wf h
        refine ⟨a1.trans a2, fun m W dsv hd hR hF fn tmps R hK => ?_⟩
        obtain ⟨k, t, hk, rfl, hd⟩ := hd
        obtain ⟨k', o, e1, e2, e3⟩ := hR.obj r _ hg
        rw [hk] at e1; cases e1
        simp only [OR, if_true] at e3
        subst e3
        have hlt := (Array.getElem?_eq_some_iff.1 e2).1
        obtain ⟨_, p⟩ := put_ok (ob' := .dfr false) (W' := W.putObj k.b (.deferred none)) hR hW hg rfl rfl hk (World.putObj_heap_same hlt) (fun b hb => World.putObj_heap_other hb) World.putObj_size rfl rfl rfl rfl
        refine ⟨by simp, .inl ⟨k.b, _, rfl, run_takeDeferred e2, ?_⟩⟩
        exact w2 m _ t hd p.rel hF fn tmps R (fun m' W' q => hK m' W' (p.trans a1 a2 (fun i a b => by omega) q))
    | fn f cap args =>
      simp only [leaveA] at h
      cases hc : rec (.dcall f (args ++ cap) H nx) with
      | none => simp [hc] at h
      | some r =>
        cases r <;> simp only [hc] at h <;> try (cases h; done)
        rename_i v H1 n1
        obtain ⟨hb, a1, w1⟩ := hrec _ _ hc hW
        obtain ⟨a2, w2⟩ := ih a1.wf h
        refine ⟨a1.trans a2, fun m W dsv hd hR hF fn tmps R hK => ?_⟩
        obtain ⟨xs, ys, t, rfl, h1, h2, hd⟩ := hd
        refine ⟨by simp, .inr ⟨fun h => (by cases h), .func f, ys, f, xs ++ ys, rfl, ?_, fun _ _ => trivial, ?_⟩⟩
        · simp only [invoke]; exact hb.call _ _
        · have hF1 := hF.left a2.le
          refine (w1 m W (xs ++ ys) .returning (by rw [Array.toList_append]; exact h2.append h1) hR hF1).mono ?_
          rintro e u' W' ⟨rfl, v', m', rfl, p, hv⟩
          exact w2 m' W' t (hd.mono p.le) p.rel (p.fresh hF a1.le) fn tmps R (fun m2 W2 q => hK m2 W2 (p.trans a1 a2 hF1 q))

/-! The tasks. -/
theorem call_ok {rec : Task → Option Res} (hrec : RecOk P rec) (hp : progOk P = true) {f : FuncId} {args : List AV} {H H' : Hp} {nx nx' : Nat} {v : AV} (h : step P rec (.call f args H nx) = some (.call v H' nx')) : CallOk P f args H nx v H' nx' := by
  intro hW
  simp only [step] at h
  cases hf : P.funcs[f]? with
  | none => simp [hf] at h
  | some fn =>
    cases hb : fn.body with
    | none => simp [hf, hb] at h
    | some c =>
      obtain ⟨hc, hbody⟩ := progOk_fn hp hf hb
      simp only [hf, hb] at h
      cases hr : rec (.code (max fn.ntmps args.length) none c ⟨ofArgs args 0 .nil, [], H, nx⟩) with
      | none => simp [hr] at h
      | some r =>
        have main : ∀ (e : Ex) (s : St), (e = .normal ∨ e = .ret) → CodeOk P (max fn.ntmps args.length) none c ⟨ofArgs args 0 .nil, [], H, nx⟩ e s →
            (match leaveA rec s.defers s.heap s.next with
              | some (H, nx) => match resultsA P H s.tmps fn.results.toList with
                | some v => some (Res.call v H nx)
                | none => none
              | none => none) = some (.call v H' nx') →
            HasBody P f ∧ AP H nx H' nx' ∧ ∀ m W (xs : Array Value), VRs m args xs.toList → Rel m H W → Fresh m nx nx' → Calls P f xs W (VPost m H nx W v H' nx') := by
          intro e s he hco h
          obtain ⟨a1, w1⟩ := hco hc hW
          cases hl : leaveA rec s.defers s.heap s.next with
          | none => simp [hl] at h
          | some p =>
            obtain ⟨H2, n2⟩ := p
            simp only [hl] at h
            cases hrs : resultsA P H2 s.tmps fn.results.toList with
            | none => simp [hrs] at h
            | some v2 =>
              simp [hrs] at h
              obtain ⟨rfl, rfl, rfl⟩ := h
              obtain ⟨a2, w2⟩ := leave_ok hrec a1.wf hl
              refine ⟨hbody, a1.trans a2, fun m W xs hxs hR hF => ?_⟩
              have hF1 : Fresh m nx s.next := hF.left a2.le
              refine (callsIn_wide (n := 0)).1 (callsIn_of_wp_marks hf hb trivial ?_)
              refine wpIn_mono (wpC_wpIn (w1 m W ⟨xs ++ Array.replicate (fn.ntmps - xs.size) undef, []⟩ Fence.wide ⟨enter_tr hxs, rfl⟩ hR hF1 rfl)) ?_
              rintro ex a' W' ⟨rfl, m1, p1, sr1⟩
              have fin : LeavesInM Fence.wide 0 P fn a'.tmps (VPost m H nx W v2 H2 n2) a'.defers .returning W' := by
                refine w2 m1 W' _ sr1.defers p1.rel (p1.fresh hF a1.le) fn a'.tmps _ (fun m2 W2 p2 => ?_)
                obtain ⟨v', h1, h2⟩ := results_ok p2.rel (sr1.tmps.mono p2.le) hrs
                exact ⟨v', h2, v', m2, rfl, p1.trans a1 a2 hF1 p2, h1⟩
              rcases he with rfl | rfl
              · exact fin
              · exact fin
        cases r with
        | call v H nx => simp [hr] at h
        | code e s =>
          simp only [hr] at h
          cases e <;> simp only at h <;> try (cases h; done)
          · exact main _ s (.inl rfl) (hrec _ _ hr) h
          · exact main _ s (.inr rfl) (hrec _ _ hr) h
theorem dcall_ok {rec : Task → Option Res} (hrec : RecOk P rec) (hp : progOk P = true) {f : FuncId} {args : List AV} {H H' : Hp} {nx nx' : Nat} {v : AV} (h : step P rec (.dcall f args H nx) = some (.call v H' nx')) : DCallOk P f args H nx v H' nx' := by
  intro hW
  simp only [step] at h
  cases hf : P.funcs[f]? with
  | none => simp [hf] at h
  | some fn =>
    cases hb : fn.body with
    | none => simp [hf, hb] at h
    | some c =>
      obtain ⟨hc, hbody⟩ := progOk_fn hp hf hb
      simp only [hf, hb] at h
      cases hr : rec (.code (max fn.ntmps args.length) none c ⟨ofArgs args 0 .nil, [], H, nx⟩) with
      | none => simp [hr] at h
      | some r =>
        have main : ∀ (e : Ex) (s : St), (e = .normal ∨ e = .ret) → CodeOk P (max fn.ntmps args.length) none c ⟨ofArgs args 0 .nil, [], H, nx⟩ e s →
            (match s.defers with
              | [] => match resultsA P s.heap s.tmps fn.results.toList with
                | some v => some (Res.call v s.heap s.next)
                | none => none
              | _ => none) = some (.call v H' nx') →
            HasBody P f ∧ AP H nx H' nx' ∧ ∀ m W (xs : Array Value) (u : FrameMode), VRs m args xs.toList → Rel m H W → Fresh m nx nx' → CallsDIn Fence.wide 0 P f xs u W (fun e u' W' => u' = u ∧ VPost m H nx W v H' nx' e W') := by
          intro e s he hco h
          obtain ⟨a1, w1⟩ := hco hc hW
          cases hd : s.defers with
          | cons d ds => simp [hd] at h
          | nil =>
            simp only [hd] at h
            cases hrs : resultsA P s.heap s.tmps fn.results.toList with
            | none => simp [hrs] at h
            | some v2 =>
              simp [hrs] at h
              obtain ⟨rfl, rfl, rfl⟩ := h
              refine ⟨hbody, a1, fun m W xs u hxs hR hF => ?_⟩
              refine callsDIn_of_wp hf hb trivial ?_
              refine wpIn_mono (wpC_wpIn (w1 m W ⟨xs ++ Array.replicate (fn.ntmps - xs.size) undef, []⟩ Fence.wide ⟨enter_tr hxs, rfl⟩ hR hF rfl)) ?_
              rintro ex a' W' ⟨rfl, m1, p1, sr1⟩
              have hdv := sr1.defers
              rw [hd] at hdv
              obtain ⟨v', h1, h2⟩ := results_ok p1.rel sr1.tmps hrs
              rcases he with rfl | rfl
              · exact ⟨hdv, v', h2, v', m1, rfl, p1, h1⟩
              · exact ⟨hdv, v', h2, v', m1, rfl, p1, h1⟩
        cases r with
        | call v H nx => simp [hr] at h
        | code e s =>
          simp only [hr] at h
          cases e <;> simp only at h <;> try (cases h; done)
          · exact main _ s (.inl rfl) (hrec _ _ hr) h
          · exact main _ s (.inr rfl) (hrec _ _ hr) h
end Abs
end Go.Proofs.Ythiifonejoejpaa
