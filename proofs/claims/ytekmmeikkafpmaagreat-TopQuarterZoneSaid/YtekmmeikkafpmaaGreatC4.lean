/- Steps that are taken together. -/
import Derived.Test.YtekmmeikkafpmaaGreatCok
import Derived.ProofKit
import Derived.OpenShut
import Derived.Carry
import Derived.Deep.SlicePairs
set_option linter.unusedSimpArgs false
set_option linter.unusedVariables false
namespace Go.Proofs.YtekmmeikkafpmaaGreat
namespace Abs
section
variable {P : Program} {B : Ent} {n : Nat} {rd : Option Nat} {c : Code} {E : Env} {ds : List ADef} {H : Hp} {nx : Nat} {Q : Qc}
def aft (P : Program) (man : List Nat) (n : Nat) (c : Code) (E : Env) (H : Hp) (nx : Nat) : Mid := auto P man n (cOps c) [] (cOps c).toList E H nx
theorem call_same {g : FuncId} {args : List AV} {H : Hp} {Post : AV → Hp → Nat → Prop} (hc : CallH P g args H nx Post) : CallIn P B g args H nx Post := by
  intro hW
  obtain ⟨hb, h⟩ := hc hW
  refine ⟨hb, fun m W xs I hxs => (h m W xs hxs I.rel I.top).mono ?_⟩
  rintro e W' ⟨v, v', H', nx', m', rfl, J, hv, hP⟩
  have hle : Le m m' := by
    intro k b hk
    have : k < nx := by
      rcases Nat.lt_or_ge k nx with h | h
      · exact h
      · rw [I.top k h] at hk; cases hk
    exact J.le k b this hk
  refine ⟨v, v', H', nx', m', rfl, hle, ?_, hv, hP⟩
  refine I.step J.ap ⟨hle, fun k b hk => ?_, J.rel, J.frame, J.os, J.tape, J.output, J.size⟩
  rcases Nat.lt_or_ge k nx with h | h
  · left
    rw [← hk]; exact (J.eq k h).symm
  · right
    refine ⟨h, ?_, J.new k b h hk⟩
    rcases Nat.lt_or_ge k nx' with h' | h'
    · exact h'
    · rw [J.top k h'] at hk; cases hk
theorem embV {σ : Sg} {Hc H : Hp} {i p o : Nat} (cs : List AV) (w : Bool) (big : List AV) (h : (Hc.get i, H.get p) = (some (.cells false cs), some (.cells w big))) (hl : o + cs.length ≤ big.length) (hr : renL σ cs = some ((big.drop o).take cs.length)) : EmbE σ Hc H (i, p, o) := by
  simp only [Prod.mk.injEq] at h
  exact ⟨_, _, h.1, h.2, .inr ⟨cs, w, big, rfl, rfl, hl, hr⟩⟩
end
end Abs
end Go.Proofs.YtekmmeikkafpmaaGreat

namespace Go.Proofs.YtekmmeikkafpmaaGreat
namespace Abs
open Go.RowKit
section
variable {P : Program} {B : Ent} {man set : List Nat} {n : Nat} {rd : Option Nat} {ops : Array Oper} {l : List Oper} {E : Env} {ds : List ADef} {H : Hp} {nx : Nat} {c : Code}
def FO0 (P : Program) (man set : List Nat) (n : Nat) (ops : Array Oper) (l : List Oper) (E : Env) (ds : List ADef) (H : Hp) (nx : Nat) (Q : Qo) : Prop :=
  ∀ T, T.get = E → ∃ T' H' nx', ops1 P norec n none ops l ⟨T, ds, H, nx⟩ = some ⟨T', ds, H', nx'⟩ ∧ Q T'.get ds H' nx'
structure FO (P : Program) (man set : List Nat) (n : Nat) (ops : Array Oper) (l : List Oper) (E : Env) (ds : List ADef) (H : Hp) (nx : Nat) (Q : Qo) : Prop where
  run : FO0 P man set n ops l E ds H nx Q
variable {Q : Qo}

end
end Abs
end Go.Proofs.YtekmmeikkafpmaaGreat

namespace Go.Proofs.YtekmmeikkafpmaaGreat
namespace Abs
inductive Ms where
  | mk (E : Env) (H : Hp) (nx : Nat) (l : List Oper) (set : List Nat)
def Ms.E : Ms → Env
  | .mk E _ _ _ _ => E
def Ms.H : Ms → Hp
  | .mk _ H _ _ _ => H
def Ms.nx : Ms → Nat
  | .mk _ _ nx _ _ => nx
def Ms.l : Ms → List Oper
  | .mk _ _ _ l _ => l
def Ms.set : Ms → List Nat
  | .mk _ _ _ _ set => set
def Mid.ms (set : List Nat) : Mid → Ms
  | .mk E H nx l => .mk E H nx l set
section
variable {P : Program} {B : Ent} {man : List Nat} {n : Nat} {rd : Option Nat} {ops : Array Oper} {ds : List ADef} {Q : Qo} {c : Code} {E : Env} {H : Hp} {nx : Nat}
def go (P : Program) (x : Nat) (man : List Nat) (n : Nat) (ops : Array Oper) : Ms → Ms
  | .mk E H nx l set => (adv P x man n ops set l E H nx).ms set
def Ms.step (v : AV) : Ms → Ms
  | .mk E H nx l set => .mk ((Mid.mk E H nx l).after v) H nx l.tail set
variable {S : Ms}

end
end Abs
end Go.Proofs.YtekmmeikkafpmaaGreat

namespace Go.Proofs.YtekmmeikkafpmaaGreat
namespace Abs
open Go.ChangeShapes Go.WideShapes Go.ChangeAt Go.RowKit Go.Deep
inductive LK where
  | int (k : IntKind)
  | bool
  | str
  | slice (es : List LK)
section
variable (P : Program)
def kindsF (k : TypeId → Option (List LK)) : List Field → Nat → Nat → Option (List LK)
  | [], off, total => cond (Nat.beq off total) (some []) none
  | f :: fs, off, total => cond (Nat.beq f.offset off) (match k f.type with
    | some ks => cond (Nat.beq (P.cellsOf f.type) ks.length) (match kindsF k fs (off + ks.length) total with
      | some r => some (ks ++ r)
      | none => none) none
    | none => none) none
def kindsT : Nat → TypeId → Option (List LK)
  | 0, _ => none
  | d + 1, t => match P.underlying t with
    | some (.int k) => some [.int k]
    | some .bool => some [.bool]
    | some .string => some [.str]
    | some (.slice e) => match kindsT d e with
      | some es => cond (Nat.beq (P.cellsOf e) es.length) (some [.slice es]) none
      | none => none
    | some (.struct fs) => kindsF P (kindsT d) fs.toList 0 (P.cellsOf t)
    | some (.array n e) => match kindsT d e with
      | some es => cond (Nat.beq (P.cellsOf e) es.length && Nat.beq (P.cellsOf t) (n * es.length)) (some ((List.replicate n es).flatten)) none
      | none => none
    | _ => none
end
mutual
def LKok (W : World) (base : Nat) : LK → Value → Prop
  | .int k, v => ∃ n, v = .int k n ∧ (Lit.int k n).wf = true
  | .bool, v => ∃ b, v = .bool b
  | .str, v => ∃ s, v = .string s
  | .slice es, v => v = .slice none 0 0 ∨ ∃ (a : Addr) (len cap : Nat), v = .slice (some a) len cap ∧ len ≤ cap ∧ cap ≤ maxLen ∧ ∀ i, i < cap → ∃ cs, W.cells? base (a.add (i * es.length)) es.length = some cs ∧ LKs W base es cs
def LKs (W : World) (base : Nat) : List LK → List Value → Prop
  | [], vs => vs = []
  | k :: ks, vs => ∃ v t, vs = v :: t ∧ LKok W base k v ∧ LKs W base ks t
end
section
variable {P : Program} {H : Type} {enc : TypeId × Value → H} {W : World} {base : Nat} {spare : Nat → Bool} {held : Bool}
theorem LKs.append : ∀ {a b : List LK} {u v : List Value}, LKs W base a u → LKs W base b v → LKs W base (a ++ b) (u ++ v)
  | [], b, u, v, h, k => by simp only [LKs] at h; subst h; exact k
  | x :: a, b, u, v, h, k => by
    simp only [LKs] at h
    obtain ⟨y, t, rfl, h1, h2⟩ := h
    simp only [List.cons_append, LKs]
    exact ⟨y, t ++ v, rfl, h1, LKs.append h2 k⟩
theorem LKs.length : ∀ {a : List LK} {u : List Value}, LKs W base a u → u.length = a.length
  | [], u, h => by simp only [LKs] at h; subst h; rfl
  | x :: a, u, h => by
    simp only [LKs] at h
    obtain ⟨y, t, rfl, h1, h2⟩ := h
    simp [LKs.length h2]
theorem kindsF_ok {k : TypeId → Option (List LK)} {cs : List Value} {n : Nat} (hk : ∀ t ks x cs, k t = some ks → DataW.trod enc P W base spare held n t cs = some x → LKs W base ks cs) :
    ∀ {fs : List Field} {off : Nat} {ks : List LK}, kindsF P k fs off cs.length = some ks → off ≤ cs.length → (∀ f ∈ fs, ∃ x, DataW.trod enc P W base spare held n f.type ((cs.drop f.offset).take (P.cellsOf f.type)) = some x) → LKs W base ks (cs.drop off)
  | [], off, ks, h, ho, _ => by
    simp only [kindsF, Bool.cond_eq_ite, Nat.beq_eq] at h
    split at h <;> cases h
    rename_i e
    subst e
    simp [LKs]
  | f :: fs, off, ks, h, ho, hf => by
    simp only [kindsF, Bool.cond_eq_ite, Nat.beq_eq] at h
    split at h <;> try (cases h; done)
    rename_i e
    subst e
    split at h <;> try (cases h; done)
    rename_i k1 h1
    split at h <;> try (cases h; done)
    rename_i hl
    split at h <;> cases h
    rename_i r h2
    obtain ⟨x, hx⟩ := hf f (by simp)
    have g1 := hk _ _ _ _ h1 hx
    have gl := g1.length
    rw [List.length_take, List.length_drop] at gl
    have g2 := kindsF_ok (cs := cs) hk h2 (by omega) (fun g hg => hf g (by simp [hg]))
    have e2 : cs.drop f.offset = (cs.drop f.offset).take (P.cellsOf f.type) ++ cs.drop (f.offset + k1.length) := by
      rw [← hl, ← List.drop_drop, List.take_append_drop]
    rw [e2]
    exact g1.append g2
theorem replicate_ok {es : List LK} {z : Nat} (hz : es.length = z) : ∀ {n : Nat} {cs : List Value}, cs.length = n * z → (∀ i, i < n → LKs W base es ((cs.drop (i * z)).take z)) → LKs W base (List.replicate n es).flatten cs
  | 0, cs, hl, _ => by simp at hl; subst hl; simp [LKs]
  | n + 1, cs, hl, h => by
    have h0 := h 0 (by omega)
    simp only [Nat.zero_mul, List.drop_zero] at h0
    have ih := replicate_ok (cs := cs.drop z) hz (n := n) (by rw [List.length_drop, hl, Nat.add_mul]; omega) (fun i hi => by
      have := h (i + 1) (by omega)
      rw [List.drop_drop]
      rwa [show z + i * z = (i + 1) * z by rw [Nat.add_mul]; omega])
    have e : cs = cs.take z ++ cs.drop z := (List.take_append_drop _ _).symm
    rw [e, List.replicate_succ, List.flatten_cons]
    exact h0.append ih
theorem kindsT_ok (hsp : ∀ b, spare b = true) : ∀ (d : Nat) {t : TypeId} {ks : List LK} {x : DataW H × List MemPlace} {fuel : Nat} {cs : List Value}, kindsT P d t = some ks → DataW.trod enc P W base spare held fuel t cs = some x → LKs W base ks cs
  | 0, _, _, _, _, _, h, _ => by cases h
  | d + 1, t, ks, x, fuel, cs, h, hx => by
    simp only [kindsT] at h
    split at h
    · rename_i k ht
      cases h
      obtain ⟨n, rfl, _, hw⟩ := DataW.trod_int ht hx
      simp only [LKs, LKok]; exact ⟨_, _, rfl, ⟨n, rfl, hw⟩, rfl⟩
    · rename_i ht
      cases h
      obtain ⟨b, rfl, _⟩ := DataW.trod_bool ht hx
      simp only [LKs, LKok]; exact ⟨_, _, rfl, ⟨b, rfl⟩, rfl⟩
    · rename_i ht
      cases h
      cases fuel with
      | zero => simp [DataW.trod] at hx
      | succ n =>
        unfold DataW.trod at hx
        rw [ht] at hx
        split at hx <;> try (cases hx; done)
        all_goals first
          | (simp only [LKs, LKok]; exact ⟨_, _, rfl, ⟨_, rfl⟩, rfl⟩)
          | (simp_all; done)
    · rename_i e ht
      split at h <;> try (cases h; done)
      rename_i es he
      simp only [Bool.cond_eq_ite, Nat.beq_eq] at h
      split at h <;> cases h
      rename_i hl
      rcases open_slice ht hx with ⟨rfl, _⟩ | ⟨a, len, cap, m, n, D, Pl, rfl, _, h1, h2, h3, _, h4⟩
      · simp only [LKs, LKok]; exact ⟨_, _, rfl, .inl rfl, rfl⟩
      · simp only [LKs, LKok]
        refine ⟨_, _, rfl, .inr ⟨a, len, cap, rfl, h1, h2, fun i hi => ?_⟩, rfl⟩
        obtain ⟨cs', g1, g2⟩ := h4 i (by rw [h3, hsp]; exact hi)
        rw [hl] at g1
        exact ⟨cs', g1, kindsT_ok hsp d he g2⟩
    · rename_i fs ht
      obtain ⟨xs, n, _, _, hl, hlen, hf⟩ := DataW.trod_struct ht hx
      rw [← hl] at h
      have := kindsF_ok (cs := cs) (n := n) (k := kindsT P d) (fun t ks x cs a b => kindsT_ok hsp d a b) h (Nat.zero_le _) (fun f hfm => by
        obtain ⟨i, hi, rfl⟩ := List.mem_iff_getElem.1 hfm
        have := hf i fs.toList[i] (by rw [← Array.getElem?_toList]; exact List.getElem?_eq_getElem hi)
        rw [this]
        have hi' : i < xs.length := by rw [hlen, ← Array.length_toList]; exact hi
        exact ⟨xs[i], List.getElem?_eq_getElem hi'⟩)
      simpa using this
    · rename_i n e ht
      split at h <;> try (cases h; done)
      rename_i es he
      simp only [Bool.cond_eq_ite, Bool.and_eq_true, Nat.beq_eq] at h
      split at h <;> cases h
      rename_i hl
      obtain ⟨xs, m, _, _, h1, h2, h3⟩ := DataW.trod_array ht hx
      refine replicate_ok rfl (by rw [h1, hl.2]) (fun i hi => ?_)
      have := h3 i hi
      rw [hl.1] at this
      exact kindsT_ok hsp d he (this.trans (List.getElem?_eq_getElem (by omega)))
    · cases h

theorem calls_of {f : FuncId} {args : List AV} {t : Tr AObj} {nx : Nat} (hc : CallH P f args ⟨t, [], 0⟩ nx (fun v H' nx' => v = .bool true ∧ H' = ⟨t, [], 0⟩ ∧ nx' = nx)) (ht : (Nat.ble t.sup nx && (t.allB okO && t.allB fun o => !o.writable)) = true)
    {m : NM} {W : World} {xs : Array Value} (hx : VRs m args xs.toList) (hR : Rel m ⟨t, [], 0⟩ W) (htop : ∀ n, nx ≤ n → m n = none) : Calls P f xs W (fun e W' => e = .returned (.bool true) ∧ Below W.heap.size W W') := by
  simp only [Bool.and_eq_true] at ht
  obtain ⟨_, h⟩ := hc (wf_of ht.1 ht.2.1)
  refine (h m W xs hx hR htop).mono ?_
  rintro e W' ⟨v, v', H', nx', m', rfl, J, hv, rfl, rfl, rfl⟩
  simp only [VR] at hv
  subst hv
  refine ⟨rfl, J.os, J.tape, J.output, J.size, fun b hb => J.frame b hb ?_⟩
  rintro ⟨i, oi, ki, _, hg, hw, _⟩
  rw [hget] at hg
  have := Tr.allB_get ht.2.2 hg
  simp only [Bool.not_eq_true'] at this
  rw [hw] at this; cases this
theorem rel_empty (m : NM) (W : World) : Rel m (⟨objs [], [], 0⟩ : Hp) W := ⟨fun n ob h => (by rw [hget] at h; cases h), fun i j oi oj ki kj h => (by rw [hget] at h; cases h)⟩
def m1 (k : Blk) : NM := fun n => match n with
  | 0 => some k
  | _ => none
end
end Abs
end Go.Proofs.YtekmmeikkafpmaaGreat
