/- The evaluator: a call without arguments, in pieces. -/
import Derived.Test.YthiifonejoejpaaAb24
namespace Go.Proofs.Ythiifonejoejpaa
namespace Abs
open Go.RowKit
variable {P : Program}

def headC : Code → Code
  | .seq a _ => a
  | c => c
def tailC : Code → Code
  | .seq _ b => b
  | c => c
def isSeq : Code → Bool
  | .seq _ _ => true
  | _ => false
def bodyOf (P : Program) (f : FuncId) : Code := match P.funcs[f]? with
  | some fn => fn.body.getD .skip
  | none => .skip
def hasBody (P : Program) (f : FuncId) : Bool := match P.funcs[f]? with
  | some fn => fn.body.isSome
  | none => false
def resOf (P : Program) (f : FuncId) : List ResultVar := match P.funcs[f]? with
  | some fn => fn.results.toList
  | none => []
def tmpsCount (P : Program) (f : FuncId) : Nat := match P.funcs[f]? with
  | some fn => fn.ntmps
  | none => 0
noncomputable def keepT (t : Tr AObj) : List Nat → Tr AObj
  | [] => .nil
  | x :: l => match t.getF x with
    | some o => (keepT t l).put x o
    | none => keepT t l
theorem keepT_get {t : Tr AObj} {l : List Nat} {x : Nat} {o : AObj} (h : (keepT t l).get x = some o) : t.get x = some o := by
  induction l with
  | nil => simp [keepT, Tr.get] at h
  | cons y l ih =>
    simp only [keepT, Tr.getF_eq] at h
    cases hy : t.get y with
    | none => rw [hy] at h; exact ih h
    | some o' =>
      simp only [hy, Tr.put_eq, Tr.get_set] at h
      split at h
      · rename_i e; subst e; rw [hy]; exact h
      · exact ih h
noncomputable def forgetR (l : List Nat) : Option Res → Option St
  | some (.code .normal s) => some ⟨s.tmps, s.defers, ⟨keepT s.heap.t l, s.heap.bad, s.heap.wr⟩, s.next⟩
  | _ => none
noncomputable def piece (P : Program) (k n : Nat) (c : Code) (s : St) (l : List Nat) : Option St := forgetR l (runF P k (.code n none c s))
noncomputable def lastR (P : Program) (rs : List ResultVar) : Option Res → Bool
  | some (.code .ret ⟨T, [], H, _⟩) => isT (resultsA P H T rs)
  | _ => false
  where isT : Option AV → Bool
  | some (.bool true) => true
  | _ => false
noncomputable def lastOk (P : Program) (f : FuncId) (k n : Nat) (c : Code) (s : St) : Bool := lastR P (resOf P f) (runF P k (.code n none c s))

/-- From here the function ends with true, and no block of before was turned. -/
def Good (P : Program) (f : FuncId) (n : Nat) (c : Code) (s : St) : Prop := codeOk c = true → Wf s.heap s.next → ∀ (W0 : World) (m : NM) (W : World) (a : Act), SR m n s a → Rel m s.heap W → (∀ x, s.next ≤ x → m x = none) →
  (∀ x k, m x = some k → W0.heap.size ≤ k.b) → Below W0.heap.size W0 W →
    c.wpIn Fence.wide 0 P (fun e a' W' => e = .ret ∧ a'.defers = [] ∧ (∀ fn, P.funcs[f]? = some fn → (results fn a'.tmps).run P W' = .ok (.bool true) W') ∧ Below W0.heap.size W0 W') a W
theorem post_in {m m1 : NM} {H H1 : Hp} {nx n1 : Nat} {W0 W W1 : World} (p : Post m H nx W m1 H1 n1 W1) (hle : nx ≤ n1) (h3 : ∀ x, nx ≤ x → m x = none) (h4 : ∀ x k, m x = some k → W0.heap.size ≤ k.b) (h5 : Below W0.heap.size W0 W) :
    (∀ x, n1 ≤ x → m1 x = none) ∧ (∀ x k, m1 x = some k → W0.heap.size ≤ k.b) ∧ Below W0.heap.size W0 W1 := by
  have own : ∀ w b, Owns m H w b → W0.heap.size ≤ b := fun w b ⟨i, oi, ki, _, _, _, hm, hb⟩ => by rw [← hb]; exact h4 i ki hm
  refine ⟨fun x hx => ?_, fun x k hk => ?_, h5.trans ⟨p.os, p.tape, p.output, p.size, fun b hb => p.frame b (Nat.lt_of_lt_of_le hb h5.size) (fun ho => by have := own _ _ ho; omega)⟩⟩
  · cases hm : m1 x with
    | none => rfl
    | some k =>
      rcases p.new x k hm with h | ⟨_, h, _⟩
      · rw [h3 x (by omega)] at h; cases h
      · omega
  · rcases p.new x k hk with h | ⟨_, _, h | h⟩
    · exact h4 x k h
    · exact Nat.le_trans h5.size h
    · exact own _ _ h
theorem good_step (hp : progOk P = true) {f : FuncId} {k n : Nat} {c : Code} {s s2 : St} {l : List Nat} (hq : isSeq c = true) (h : piece P k n (headC c) s l = some s2) (hg : Good P f n (tailC c) s2) : Good P f n c s := by
  intro hc hW W0 m W a sr hR hF hN hB
  cases c <;> simp only [isSeq] at hq <;> try (cases hq; done)
  rename_i x y
  simp only [codeOk, Bool.and_eq_true] at hc
  simp only [headC] at h
  simp only [tailC] at hg
  unfold piece at h
  rw [runF_eq] at h
  cases hr : run P k (.code n none x s) with
  | none => simp [hr, forgetR] at h
  | some r =>
    cases r with
    | call _ _ _ => simp [hr, forgetR] at h
    | code e s1 =>
      cases e <;> simp only [hr, forgetR] at h <;> try (cases h; done)
      cases h
      obtain ⟨a1, w1⟩ := (sound hp k _ _ hr : CodeOk P n none x s .normal s1) hc.1 hW
      refine wpIn_seq (wpIn_mono (wpC_wpIn (w1 m W a Fence.wide sr hR (fun x h1 _ => hF x h1) rfl)) ?_)
      rintro ex a' W' ⟨rfl, m1, p1, sr1⟩
      obtain ⟨q1, q2, q3⟩ := post_in p1 a1.le hF hN hB
      have hsub : ∀ x o, (⟨keepT s1.heap.t l, s1.heap.bad, s1.heap.wr⟩ : Hp).get x = some o → s1.heap.get x = some o := fun x o h => by
        obtain ⟨h1, h2⟩ := Hp.get_some.1 h
        exact Hp.get_some.2 ⟨h1, keepT_get h2⟩
      refine hg hc.2 ⟨fun x hx => ?_, a1.wf.bad, fun x o h => a1.wf.ok x o (keepT_get h)⟩ W0 m1 W' a' ⟨sr1.tmps, sr1.defers⟩ (p1.rel.sub hsub) q1 q2 q3
      cases hk : (keepT s1.heap.t l).get x with
      | none => rfl
      | some o => have := keepT_get hk; rw [a1.wf.none x hx] at this; cases this
theorem good_last (hp : progOk P = true) {f : FuncId} {k n : Nat} {c : Code} {s : St} (h : lastOk P f k n c s = true) : Good P f n c s := by
  intro hc hW W0 m W a sr hR hF hN hB
  unfold lastOk at h
  rw [runF_eq] at h
  cases hr : run P k (.code n none c s) with
  | none => simp [hr, lastR] at h
  | some r =>
    cases r with
    | call _ _ _ => simp [hr, lastR] at h
    | code e s1 =>
      obtain ⟨T, ds, H, nx⟩ := s1
      cases e <;> cases ds <;> simp only [hr, lastR] at h <;> try (cases h; done)
      obtain ⟨a1, w1⟩ := (sound hp k _ _ hr : CodeOk P n none c s .ret _) hc hW
      refine wpIn_mono (wpC_wpIn (w1 m W a Fence.wide sr hR (fun x h1 _ => hF x h1) rfl)) ?_
      rintro ex a' W' ⟨rfl, m1, p1, sr1⟩
      obtain ⟨_, _, q3⟩ := post_in p1 a1.le hF hN hB
      refine ⟨rfl, sr1.defers, fun fn hf => ?_, q3⟩
      cases hv : resultsA P H T (resOf P f) with
      | none => simp [hv, lastR.isT] at h
      | some v =>
        have : v = .bool true := by
          cases v <;> simp only [hv, lastR.isT] at h <;> try (cases h; done)
          rename_i b; cases b <;> first | rfl | cases h
        subst this
        simp only [resOf, hf] at hv
        obtain ⟨v', g1, g2⟩ := results_ok p1.rel sr1.tmps hv
        simp only [VR] at g1
        rw [g2, g1]
theorem good_call (hp : progOk P = true) {f : FuncId} (hb : hasBody P f = true) (hg : Good P f (tmpsCount P f) (bodyOf P f) ⟨.nil, [], ⟨.nil, [], 0⟩, 0⟩) (W : World) :
    Calls P f #[] W (fun e W' => e = .returned (.bool true) ∧ Below W.heap.size W W') := by
  cases hf : P.funcs[f]? with
  | none => simp [hasBody, hf] at hb
  | some fn =>
    cases hbo : fn.body with
    | none => simp [hasBody, hf, hbo] at hb
    | some c =>
      obtain ⟨hc, _⟩ := progOk_fn hp hf hbo
      simp only [bodyOf, tmpsCount, hf, hbo, Option.getD_some] at hg
      refine (callsIn_wide (n := 0)).1 (callsIn_of_wp_marks hf hbo trivial ?_)
      have hT := enter_tr (m := fun _ => none) (N := fn.ntmps) (args := []) (xs := #[]) (by simp [VRs])
      refine wpIn_mono (hg hc wf_nil W (fun _ => none) W ⟨#[] ++ Array.replicate (fn.ntmps - (#[] : Array Value).size) undef, []⟩ ⟨by simpa [ofArgs] using hT, rfl⟩ (rel_nil W) (fun _ _ => rfl) (fun x k h => by cases h) (.refl _ _)) ?_
      rintro e a' W' ⟨rfl, hd, hr, hB⟩
      have fin : LeavesInM Fence.wide 0 P fn a'.tmps (fun e W' => e = .returned (.bool true) ∧ Below W.heap.size W W') a'.defers .returning W' := by
        rw [hd]; exact ⟨.bool true, hr fn hf, rfl, hB⟩
      exact fin
end Abs
end Go.Proofs.Ythiifonejoejpaa
