/- The evaluator: what is to be shown of a run; names behind an operation. -/
import Derived.Test.YthiifonejoejpaaAb9
namespace Go.Proofs.Ythiifonejoejpaa
namespace Abs
open Go.RowKit
variable {P : Program} {m : NM}

def FR (m : NM) : Option Nat → Fence → Prop
  | none, F => F = Fence.wide
  | some l, F => ∃ k, m l = some k ∧ F = Fence.wide.inRound k.b
theorem FR.mono {m m' : NM} (h : Le m m') {r : Option Nat} {F : Fence} (k : FR m r F) : FR m' r F := by
  cases r with
  | none => exact k
  | some l => obtain ⟨b, h1, h2⟩ := k; exact ⟨b, h _ _ h1, h2⟩
def DR (m : NM) : List ADef → List Deferred → Prop
  | [], ds => ds = []
  | .mark r :: l, ds => ∃ k t, m r = some k ∧ ds = { target := .collected k.b, args := #[] } :: t ∧ DR m l t
  | .fn f cap args :: l, ds => ∃ xs ys t, ds = { target := .fn (.func f) ys, args := xs } :: t ∧ VRs m cap ys.toList ∧ VRs m args xs.toList ∧ DR m l t
theorem DR.mono {m m' : NM} (h : Le m m') : ∀ {l : List ADef} {ds : List Deferred}, DR m l ds → DR m' l ds := by
  intro l
  induction l with
  | nil => intro ds k; exact k
  | cons d l ih =>
    intro ds k
    cases d with
    | mark r => obtain ⟨b, t, h1, rfl, h2⟩ := k; exact ⟨b, t, h _ _ h1, rfl, ih h2⟩
    | fn f cap args => obtain ⟨xs, ys, t, rfl, h1, h2, h3⟩ := k; exact ⟨xs, ys, t, rfl, h1.mono h, h2.mono h, ih h3⟩
structure SR (m : NM) (n : Nat) (s : St) (a : Act) : Prop where
  tmps : TR m n s.tmps a.tmps
  defers : DR m s.defers a.defers
theorem SR.mono {m m' : NM} (h : Le m m') {n : Nat} {s : St} {a : Act} (k : SR m n s a) : SR m' n s a := ⟨k.tmps.mono h, k.defers.mono h⟩
def Ex.toExit : Ex → Exit
  | .normal => .normal
  | .exit id => .exit id
  | .goto l => .goto l
  | .ret => .ret

/-- What a piece of code comes to; a loop's is met at the head of a round, too. -/
def wpC (F : Fence) (P : Program) (Q : Exit → Act → World → Prop) (a : Act) (w : World) : Code → Prop
  | .loop c => ∀ (b : Frame) (k : List Item) (cs : List Frame), b.roundOf = F.round → F.fn b.fn → F.room (cs.length + 1 + 0) →
      ∃ e a' w', Q e a' w' ∧ ArrivesIn (Machine.fenced P F) P (lone (b.atR a (.code c :: .inLoop c :: k)) cs w) b k cs e a' w'
  | c => c.wpIn F 0 P Q a w
theorem wpC_wpIn {F : Fence} {Q : Exit → Act → World → Prop} {a : Act} {w : World} {c : Code} (h : wpC F P Q a w c) : c.wpIn F 0 P Q a w := by
  cases c with
  | loop c =>
    intro b k cs hro hb hr
    obtain ⟨e, a', w', hq, harr⟩ := h b k cs hro hb hr
    exact ⟨e, a', w', hq, .of_steps (.one (fenced_calm hb hr rfl) stepR_loop) harr⟩
  | _ => exact h
/-- A loop: a round, and the loop again. -/
theorem wpC_loop {F : Fence} {Q : Exit → Act → World → Prop} {a : Act} {w : World} {c : Code} (h : c.wpIn F 0 P (Exit.then (fun a' w' => wpC F P Q a' w' (.loop c)) Q) a w) : wpC F P Q a w (.loop c) := by
  intro b k cs hro hb hr
  obtain ⟨e, a₁, w₁, hq, harr⟩ := h b (.inLoop c :: k) cs hro hb hr
  cases e with
  | normal =>
    obtain ⟨e₂, a₂, w₂, hq₂, harr₂⟩ := hq b k cs hro hb hr
    exact ⟨e₂, a₂, w₂, hq₂, .of_steps (StepsIn.trans harr (.one (fenced_calm hb hr rfl) stepR_inLoop)) harr₂⟩
  | exit id => exact ⟨_, a₁, w₁, hq, .pass (x := .inLoop c) rfl (fun _ _ => .inl (by simp)) harr⟩
  | goto l => exact ⟨_, a₁, w₁, hq, .pass (x := .inLoop c) rfl (fun _ _ => .inl (by simp)) harr⟩
  | ret => exact ⟨_, a₁, w₁, hq, .pass (x := .inLoop c) rfl (fun _ _ => .inl (by simp)) harr⟩
  | panic ch => exact ⟨_, a₁, w₁, hq, .pass (x := .inLoop c) rfl (fun _ _ => .inl (by simp)) harr⟩
  | outgrown => exact ⟨_, a₁, w₁, hq, .pass (x := .inLoop c) rfl (fun _ _ => .inl (by simp)) harr⟩
theorem wpC_mono {F : Fence} {Q Q' : Exit → Act → World → Prop} {a : Act} {w : World} {c : Code} (h : wpC F P Q a w c) (hq : ∀ e a w, Q e a w → Q' e a w) : wpC F P Q' a w c := by
  cases c with
  | loop c => exact fun b k cs h1 h2 h3 => let ⟨e, a', w', q, r⟩ := h b k cs h1 h2 h3; ⟨e, a', w', hq _ _ _ q, r⟩
  | _ => exact wpIn_mono h hq

/-- The end of a piece of code. -/
def CPost (m : NM) (n : Nat) (s : St) (W : World) (e : Ex) (s' : St) (ex : Exit) (a' : Act) (W' : World) : Prop := ex = e.toExit ∧ ∃ m', Post m s.heap s.next W m' s'.heap s'.next W' ∧ SR m' n s' a'
/-- The end of a call. -/
def VPost (m : NM) (H : Hp) (nx : Nat) (W : World) (v : AV) (H' : Hp) (nx' : Nat) (e : Ending) (W' : World) : Prop := ∃ v' m', e = .returned v' ∧ Post m H nx W m' H' nx' W' ∧ VR m' v v'
def CodeOk (P : Program) (n : Nat) (round : Option Nat) (c : Code) (s : St) (e : Ex) (s' : St) : Prop := codeOk c = true → Wf s.heap s.next → AP s.heap s.next s'.heap s'.next ∧
  ∀ m W a F, SR m n s a → Rel m s.heap W → Fresh m s.next s'.next → FR m round F → wpC F P (CPost m n s W e s') a W c
/-- A Go function that can be entered. -/
def HasBody (P : Program) (f : FuncId) : Prop := ∃ fn c, P.funcs[f]? = some fn ∧ fn.body = some c ∧ (fn.name == "runtime.NumGoroutine") = false
theorem HasBody.call {f : FuncId} (h : HasBody P f) (args : Array Value) (w : World) : (callFunc f args).run P w = .ok (.enter f args) w := by
  obtain ⟨fn, c, h1, h2, h3⟩ := h
  simp only [callFunc, Sem.run_bind, run_program, Result.andThen_ok, h1]
  rw [Sem.run_ite, if_neg (by simp [h3]), Sem.run_ite, if_neg (by simp [h2])]
  rfl
def CallOk (P : Program) (f : FuncId) (args : List AV) (H : Hp) (nx : Nat) (v : AV) (H' : Hp) (nx' : Nat) : Prop := Wf H nx → HasBody P f ∧ AP H nx H' nx' ∧
  ∀ m W (xs : Array Value), VRs m args xs.toList → Rel m H W → Fresh m nx nx' → Calls P f xs W (VPost m H nx W v H' nx')
def DCallOk (P : Program) (f : FuncId) (args : List AV) (H : Hp) (nx : Nat) (v : AV) (H' : Hp) (nx' : Nat) : Prop := Wf H nx → HasBody P f ∧ AP H nx H' nx' ∧
  ∀ m W (xs : Array Value) (u : FrameMode), VRs m args xs.toList → Rel m H W → Fresh m nx nx' → CallsDIn Fence.wide 0 P f xs u W (fun e u' W' => u' = u ∧ VPost m H nx W v H' nx' e W')
def TaskOk (P : Program) : Task → Res → Prop
  | .code n round c s, .code e s' => CodeOk P n round c s e s'
  | .call f args H nx, .call v H' nx' => CallOk P f args H nx v H' nx'
  | .dcall f args H nx, .call v H' nx' => DCallOk P f args H nx v H' nx'
  | _, _ => True
def RecOk (P : Program) (rec : Task → Option Res) : Prop := ∀ t r, rec t = some r → TaskOk P t r

/-! Names behind an operation. -/
section ap
variable {H H' : Hp} {nx nx' : Nat} {T : Tr AV}
theorem cellsW_ap {n : Nat} {cs cs' : List AV} (hW : Wf H nx) (h : cellsW H n = some cs) : AP H nx (H.put n (.cells true cs')) nx := put_ap hW (cellsW_inv h) rfl
theorem mapAt_inv {r : Nat} {p : List (AV × AV × Nat) × Nat} (h : mapAt H r = some p) : H.get r = some (.map p.1 p.2) := by
  unfold mapAt at h
  split at h
  · rename_i e; cases h; exact e
  · cases h
theorem append_ap {t xt : TypeId} {s x v : AV} (hW : Wf H nx) (h : appendA P t xt s x H nx = some (v, H', nx')) : AP H nx H' nx' := by
  unfold appendA growA at h
  simp only [Bool.cond_eq_ite] at h
  (repeat' split at h) <;> first
    | (cases h; done)
    | (simp only [Option.some.injEq, Prod.mk.injEq] at h; obtain ⟨_, rfl, rfl⟩ := h; first
        | exact .refl hW
        | exact lay_ap hW _
        | exact cellsW_ap hW (by assumption)
        | exact (del_ap hW).trans (lay_ap (del_ap hW).wf _))
theorem copy_ap {t : TypeId} {s x v : AV} (hW : Wf H nx) (h : copyA P t s x H = some (v, H')) : AP H nx H' nx := by
  unfold copyA at h
  simp only [Bool.cond_eq_ite] at h
  (repeat' split at h) <;> first
    | (cases h; done)
    | (simp only [Option.some.injEq, Prod.mk.injEq] at h; obtain ⟨_, rfl⟩ := h; first
        | exact .refl hW
        | exact cellsW_ap hW (by assumption))
theorem heap_ap {rec : Task → Option Res} {o : Op} {v : AV} (hW : Wf H nx) (h : heapA P rec T H nx o = some (v, H', nx'))
    (hnc : ∀ f args ts, o ≠ .call { callee := .value f, args := args, argTypes := ts }) : AP H nx H' nx' := by
  unfold heapA at h
  simp only [Bool.cond_eq_ite] at h
  (repeat' split at h) <;> first
    | (cases h; done)
    | (exact absurd rfl (hnc _ _ _))
    | exact append_ap hW h
    | (simp only [Option.some.injEq, Prod.mk.injEq] at h; obtain ⟨_, rfl, rfl⟩ := h; first
        | exact .refl hW
        | exact lay_ap hW _
        | exact cellsW_ap hW (by assumption)
        | exact copy_ap hW (by assumption)
        | exact put_ap hW (mapAt_inv (by assumption)) rfl)
end ap
end Abs
end Go.Proofs.Ythiifonejoejpaa
