/- Steps that are taken together. -/
import Derived.Test.YtoecekncncbjgaaGreatCok
import Derived.ProofKit
import Derived.OpenShut
import Derived.Carry
import Derived.Deep.SlicePairs
set_option linter.unusedSimpArgs false
set_option linter.unusedVariables false
namespace Go.Proofs.YtoecekncncbjgaaGreat
namespace Abs
section
variable {P : Program} {B : Ent} {n : Nat} {rd : Option Nat} {c : Code} {E : Env} {ds : List ADef} {H : Hp} {nx : Nat} {Q : Qc}
/-- The state behind a region of which nothing is left to the reader. -/
def aft (P : Program) (man : List Nat) (n : Nat) (c : Code) (E : Env) (H : Hp) (nx : Nat) : Mid := auto P man n (cOps c) [] (cOps c).toList E H nx
/-- A region, all of it, and what follows. -/
theorem tc_r (man : List Nat) (h : (kind c, kind (cA c), (aft P man n (cA c) E H nx).l) = (3, 1, [])) (k : TC P B n rd (cB c) (aft P man n (cA c) E H nx).E ds (aft P man n (cA c) E H nx).H (aft P man n (cA c) E H nx).nx Q) : TC P B n rd c E ds H nx Q := by
  simp only [Prod.mk.injEq] at h
  exact tc_seqr0 man (by rw [h.1, h.2.1]) (to_end _ rfl h.2.2 k)
/-- A region alone. -/
theorem tc_re (man : List Nat) (h : (kind c, (aft P man n c E H nx).l) = (1, [])) (k : Q .normal (aft P man n c E H nx).E ds (aft P man n c E H nx).H (aft P man n c E H nx).nx) : TC P B n rd c E ds H nx Q := by
  simp only [Prod.mk.injEq] at h
  exact tc_reg0 man h.1 (to_end _ rfl h.2 k)
/-- A question, and what follows. -/
theorem tc_sc (b : Bool) (h : (kind c, kind (cA c), condE E (cA c)) = (3, 4, some (.bool b))) (k1 : b = true → TC P B n rd (cA (cA c)) E ds H nx (Qseq P B n rd (cB c) Q)) (k0 : b = false → TC P B n rd (cB (cA c)) E ds H nx (Qseq P B n rd (cB c) Q)) : TC P B n rd c E ds H nx Q := by
  simp only [Prod.mk.injEq] at h
  exact tc_seq h.1 (tc_cond b (by rw [h.2.1, h.2.2]) k1 k0)
/-- A block, and what follows. -/
theorem tc_sb (h : (kind c, kind (cA c)) = (3, 5)) (k : TC P B n rd (cA (cA c)) E ds H nx (Qblk (cId (cA c)) (Qseq P B n rd (cB c) Q))) : TC P B n rd c E ds H nx Q := by
  simp only [Prod.mk.injEq] at h
  exact tc_seq h.1 (tc_block h.2 k)
/-- A region that draws its order, of which nothing is left to the reader. -/
def opsDr (P : Program) (n : Nat) (c : Code) (L : List (Nat × AV)) (ds : List ADef) (H : Hp) (nx : Nat) : Option St := opsD P norec n (cOps c) (Region.before (cOps c)) (cOps c).toList 0 ⟨trOf L, ds, H, nx⟩ ⟨[], [], []⟩
def getS : Option St → St
  | some s => s
  | none => ⟨.nil, [], ⟨.nil, [], 0⟩, 0⟩
open Go.RowKit in
theorem tc_regK (hp : progOk P = true) {rec : Task → Option Res} (hrec : RecOk P rec) (L : List (Nat × AV)) (hF : Facts E L) (h : kind c = 2) {s : St}
    (ho : opsD P rec n (cOps c) (Region.before (cOps c)) (cOps c).toList 0 ⟨trOf L, ds, H, nx⟩ ⟨[], [], []⟩ = some s) (k : Q .normal s.tmps.get s.defers s.heap s.next) : TC P B n rd c E ds H nx Q := by
  refine ⟨?_⟩
  intro hc T hT F m W a A
  subst hT
  cases c <;> simp only [kind] at h <;> try (cases h; done)
  rename_i i ops d
  cases d <;> simp only [kind] at h <;> try (cases h; done)
  simp only [cOps] at ho
  have hmx : P.follows .mixedOrders = true := by simp only [progOk, Bool.and_eq_true] at hp; exact hp.1
  have ht : tidyR ops = true := by simpa [codeOk] using hc
  obtain ⟨a1, w1⟩ := draw_ok hrec hmx ht A.inn.ap.wf ho
  exact w1 m W a F rd ⟨tr_keep A.tmps hF, A.defers⟩ A.inn.rel (A.inn.fresh _) A.fr _ (fun a' m' W' p sr' => ⟨.normal, s.tmps, s.defers, s.heap, s.next, m', rfl, ⟨A.inn.step a1 p, sr'.tmps, sr'.defers, A.fr.mono p.le⟩, k⟩) i
theorem tc_rd (hp : progOk P = true) (L : List (Nat × AV)) (hF : Facts E L) (h : (kind c, kind (cA c), (opsDr P n (cA c) L ds H nx).isSome) = (3, 2, true))
    (k : TC P B n rd (cB c) (getS (opsDr P n (cA c) L ds H nx)).tmps.get (getS (opsDr P n (cA c) L ds H nx)).defers (getS (opsDr P n (cA c) L ds H nx)).heap (getS (opsDr P n (cA c) L ds H nx)).next Q) : TC P B n rd c E ds H nx Q := by
  simp only [Prod.mk.injEq] at h
  obtain ⟨h1, h2, h3⟩ := h
  cases hx : opsDr P n (cA c) L ds H nx with
  | none => rw [hx] at h3; cases h3
  | some s =>
    rw [hx] at k
    exact tc_seq h1 (tc_regK hp norec_ok L hF h2 hx k)
/-- A promise over all that there is. -/
theorem call_same {g : FuncId} {args : List AV} {H : Hp} {Post : AV → Hp → Nat → Prop} (hc : CallH P g args H nx Post) : CallIn P B g args H nx Post := by
  intro hW
  obtain ⟨hb, h⟩ := hc hW
  refine ⟨hb, fun m W xs I hxs => (h m W xs hxs I.rel I.top).mono ?_⟩
  rintro e W' ⟨v, v', H', nx', m', rfl, J, hv, hP⟩
  have hle : Le m m' := by
    intro k b hk
    have : k < nx := by
      rcases Nat.lt_or_ge k nx with h | h
      · exact h
      · rw [I.top k h] at hk; cases hk
    exact J.le k b this hk
  refine ⟨v, v', H', nx', m', rfl, hle, ?_, hv, hP⟩
  refine I.step J.ap ⟨hle, fun k b hk => ?_, J.rel, J.frame, J.os, J.tape, J.output, J.size⟩
  rcases Nat.lt_or_ge k nx with h | h
  · left
    rw [← hk]; exact (J.eq k h).symm
  · right
    refine ⟨h, ?_, J.new k b h hk⟩
    rcases Nat.lt_or_ge k nx' with h' | h'
    · exact h'
    · rw [J.top k h'] at hk; cases hk
theorem to_done0 (x : Nat) {man set : List Nat} {ops : Array Oper} {l : List Oper} {Q : Qo} (h : (adv P x man n ops set l E H nx).l = []) (k : Q (adv P x man n ops set l E H nx).E ds (adv P x man n ops set l E H nx).H (adv P x man n ops set l E H nx).nx) : TO P B man set n rd ops l E ds H nx Q := by
  refine to_adv x ?_
  refine to_end (adv P x man n ops set l E H nx) ?_ h k
  generalize adv P x man n ops set l E H nx = M at h
  obtain ⟨E1, H1, nx1, l1⟩ := M
  simp only [Mid.l] at h
  subst h
  rfl
theorem wrap64 {n : Int} (h1 : -9223372036854775808 ≤ n) (h2 : n < 9223372036854775808) : IntKind.wrap .i64 n = n := by
  have key : IntKind.wrap .i64 n = if decide (9223372036854775808 ≤ n % 18446744073709551616) = true then n % 18446744073709551616 - 18446744073709551616 else n % 18446744073709551616 := rfl
  rw [key]
  simp only [decide_eq_true_eq]
  split <;> omega
theorem wrap64_nat {n : Nat} (h : n < 9223372036854775808) : IntKind.wrap .i64 (n : Int) = n := wrap64 (by omega) (by omega)
theorem fact_eq {E : Env} {t : Nat} {v v' : AV} (h : E t = some v) (e : v = v') : E t = some v' := by rw [h, e]
theorem tc_facts {L : List (Nat × AV)} (h : E = lk L noE) (k : TC P B n rd c (lk L noE) ds H nx Q) : TC P B n rd c E ds H nx Q := by rw [h]; exact k
/-! Rows. -/
theorem loadT_one {t : Tr AObj} {k off : Nat} {w : Bool} {cs : List AV} {ty : TypeId} (hg : t.get k = some (.cells w cs)) (ha : isAggT P ty = some false) : loadT P ⟨t, [], 0⟩ ty k off = cs[off]? := by
  simp only [loadT, cellsAt, hget, hg, partT, ha]
theorem loadT_agg {t : Tr AObj} {k off z : Nat} {w : Bool} {cs : List AV} {ty : TypeId} (hg : t.get k = some (.cells w cs)) (ha : isAggT P ty = some true) (hz : sz P ty = some z) : loadT P ⟨t, [], 0⟩ ty k off = (takeN cs off z).map .agg := by
  simp only [loadT, cellsAt, hget, hg, partT, ha, hz]
theorem takeN_row {z : Nat} : ∀ {L : List (List AV)} (hL : ∀ x ∈ L, x.length = z) {i : Nat} {x : List AV}, L[i]? = some x → takeN L.flatten (i * z) z = some x
  | [], _, i, x, h => by simp at h
  | y :: L, hL, 0, x, h => by
    simp only [List.getElem?_cons_zero, Option.some.injEq] at h; subst h
    have := hL y (by simp)
    simp [takeN, this]
  | y :: L, hL, i + 1, x, h => by
    simp only [List.getElem?_cons_succ] at h
    have hy := hL y (by simp)
    have ih := takeN_row (fun x hx => hL x (by simp [hx])) h
    unfold takeN at ih ⊢
    have e : (y :: L).flatten.drop ((i + 1) * z) = L.flatten.drop (i * z) := by
      rw [List.flatten_cons, show (i + 1) * z = y.length + i * z by rw [hy, Nat.add_mul]; omega, List.drop_append, List.drop_eq_nil_of_le (by omega), Nat.add_sub_cancel_left, List.nil_append]
    rw [e]; exact ih
/-- A row of values of one cell, of more cells. -/
theorem row_one {t : Tr AObj} {k : Nat} {w : Bool} {L : List AV} {ty : TypeId} (hg : t.get k = some (.cells w L)) (ha : isAggT P ty = some false) : ∀ i v, L[i]? = some v → loadT P ⟨t, [], 0⟩ ty k (0 + i * 1) = some v := by
  intro i v h
  rw [loadT_one hg ha, Nat.zero_add, Nat.mul_one, h]
theorem row_agg {t : Tr AObj} {k z : Nat} {w : Bool} {L : List (List AV)} {ty : TypeId} (hg : t.get k = some (.cells w L.flatten)) (ha : isAggT P ty = some true) (hz : sz P ty = some z) (hL : ∀ x ∈ L, x.length = z) :
    ∀ i v, (L.map AV.agg)[i]? = some v → loadT P ⟨t, [], 0⟩ ty k (0 + i * z) = some v := by
  intro i v h
  rw [List.getElem?_map, Option.map_eq_some_iff] at h
  obtain ⟨x, hx, rfl⟩ := h
  rw [loadT_agg hg ha hz, Nat.zero_add, takeN_row hL hx]; rfl
theorem embV {σ : Sg} {Hc H : Hp} {i p o : Nat} (cs : List AV) (w : Bool) (big : List AV) (h : (Hc.get i, H.get p) = (some (.cells false cs), some (.cells w big))) (hl : o + cs.length ≤ big.length) (hr : renL σ cs = some ((big.drop o).take cs.length)) : EmbE σ Hc H (i, p, o) := by
  simp only [Prod.mk.injEq] at h
  exact ⟨_, _, h.1, h.2, .inr ⟨cs, w, big, rfl, rfl, hl, hr⟩⟩
theorem embF {σ : Sg} {Hc H : Hp} {i p : Nat} (ob ob' : AObj) (h : (Hc.get i, H.get p) = (some ob, some ob')) (hr : renO σ ob = some ob') : EmbE σ Hc H (i, p, 0) := by
  simp only [Prod.mk.injEq] at h
  exact ⟨_, _, h.1, h.2, .inl ⟨rfl, hr⟩⟩
/-- A row that names nothing, seen as a whole. -/
theorem embP {σ : Sg} {Hc H : Hp} {i p : Nat} (cs : List AV) (w : Bool) (h : (Hc.get i, H.get p) = (some (.cells false cs), some (.cells w cs))) (hp : cs.all plain = true) : EmbE σ Hc H (i, p, 0) :=
  embV cs w cs h (by simp) (by rw [renL_plain hp]; simp)
def callOf : Option Vw → Option (FuncId × List AV)
  | some (.call g vs) => some (g, vs)
  | _ => none
def gArgs (g : FuncId) : Option (List AV) → Option (FuncId × List AV)
  | some vs => some (g, vs)
  | none => none
theorem callOf_some {v : Option Vw} {g : FuncId} {vs : List AV} (h : callOf v = some (g, vs)) : v = some (.call g vs) := by
  unfold callOf at h
  split at h <;> cases h; rfl
/-- A call that changes nothing, by its promise over few objects: L says what those stand for. -/
theorem to_callp0 (x : Nat) {man set : List Nat} {ops : Array Oper} {l : List Oper} {Q : Qo} {g : FuncId} {argsc : List AV} {tc : Tr AObj} {nxc : Nat} {v0 : AV} (L : List (Nat × Nat × Nat))
    (hc : CallH P g argsc ⟨tc, [], 0⟩ nxc (fun v H' nx' => v = v0 ∧ H' = ⟨tc, [], 0⟩ ∧ nx' = nxc))
    (h : ((renL (sg L) argsc).isSome, callOf (hdV P n ops (adv P x man n ops set l E H nx)), hBad (adv P x man n ops set l E H nx).H, hWr (adv P x man n ops set l E H nx).H, (Nat.ble tc.sup nxc && tc.allB okO), L.map (·.1), disB ⟨tc, [], 0⟩ L, fulls ⟨tc, [], 0⟩ L, ren (sgX L (adv P x man n ops set l E H nx).nx nxc nxc) v0) =
      (true, gArgs g (renL (sg L) argsc), [], 0, true, upTo 0 nxc, true, [], some v0))
    (hE : EmbL (sg L) ⟨tc, [], 0⟩ (adv P x man n ops set l E H nx).H L)
    (k : TO P B man set n rd ops (adv P x man n ops set l E H nx).rest ((adv P x man n ops set l E H nx).after v0) ds (adv P x man n ops set l E H nx).H (adv P x man n ops set l E H nx).nx Q) : TO P B man set n rd ops l E ds H nx Q := by
  simp only [Prod.mk.injEq] at h
  obtain ⟨hr, h1, h2, h3, h4, h5, h6, h7, h8⟩ := h
  cases ha : renL (sg L) argsc with
  | none =>
    exact absurd hr (by rw [ha]; simp)
  | some args =>
    rw [ha] at h1
    generalize hM : adv P x man n ops set l E H nx = M at h1 h2 h3 h8 hE k
    obtain ⟨E1, ⟨t, bad, wr⟩, nx1, l1⟩ := M
    simp only [Mid.H, Mid.nx, Mid.E, hBad, hWr] at h2 h3 h8 hE k
    subst h2 h3
    refine to_call0 x (call_pure L hc h4 h5 ha hE (by rw [h6, h7]) h8) (by rw [hM]; simp only [Prod.mk.injEq, Mid.H, Mid.nx, and_true]; exact (callOf_some h1)) ?_
    rintro _ _ _ ⟨rfl, rfl, rfl⟩
    rw [hM]; exact k
end
end Abs
end Go.Proofs.YtoecekncncbjgaaGreat

/- Regions that draw their order and do nothing but look. -/
namespace Go.Proofs.YtoecekncncbjgaaGreat
namespace Abs
open Go.RowKit
section
variable {P : Program} {B : Ent} {man set : List Nat} {n : Nat} {rd : Option Nat} {ops : Array Oper} {l : List Oper} {E : Env} {ds : List ADef} {H : Hp} {nx : Nat} {c : Code}
/-- A goal: what the operations that are left come to, in the order of the text. -/
def FO0 (P : Program) (man set : List Nat) (n : Nat) (ops : Array Oper) (l : List Oper) (E : Env) (ds : List ADef) (H : Hp) (nx : Nat) (Q : Qo) : Prop :=
  ∀ T, T.get = E → ∃ T' H' nx', ops1 P norec n none ops l ⟨T, ds, H, nx⟩ = some ⟨T', ds, H', nx'⟩ ∧ Q T'.get ds H' nx'
structure FO (P : Program) (man set : List Nat) (n : Nat) (ops : Array Oper) (l : List Oper) (E : Env) (ds : List ADef) (H : Hp) (nx : Nat) (Q : Qo) : Prop where
  run : FO0 P man set n ops l E ds H nx Q
variable {Q : Qo}
theorem fo_op1 {o : Oper} {E' : Env} {H' : Hp} {nx' : Nat} (h : ∀ T, T.get = E → ∃ T', op1 P norec n none ops o ⟨T, ds, H, nx⟩ = some ⟨T', ds, H', nx'⟩ ∧ T'.get = E')
    (k : FO P man set n ops l E' ds H' nx' Q) : FO P man set n ops (o :: l) E ds H nx Q := by
  refine ⟨?_⟩
  intro T hT
  obtain ⟨T', h1, h2⟩ := h T hT
  obtain ⟨T2, H2, nx2, h3, h4⟩ := k.run T' h2
  exact ⟨T2, H2, nx2, by simp only [ops1, h1]; exact h3, h4⟩
theorem fo_auto : ∀ {l : List Oper} {E : Env} {H : Hp} {nx : Nat}, FO P man set n ops (auto P man n ops set l E H nx).l (auto P man n ops set l E H nx).E ds (auto P man n ops set l E H nx).H (auto P man n ops set l E H nx).nx Q → FO P man set n ops l E ds H nx Q
  | [], E, H, nx, h => h
  | o :: l, E, H, nx, h => by
    unfold auto at h
    cases hs : guardSet set o with
    | false => rw [hs] at h; exact h
    | true =>
      rw [hs] at h
      simp only [cond_true] at h
      cases hp : stepE P man n ops E H nx o with
      | none => rw [hp] at h; exact h
      | some r =>
        obtain ⟨E', H', nx'⟩ := r
        rw [hp] at h
        exact fo_op1 (fun T hT => by subst hT; exact stepE_ok hp) (fo_auto h)
theorem fo_run : ∀ (k : Nat) {l : List Oper} {E : Env} {H : Hp} {nx : Nat}, FO P man set n ops (runK P man n ops k l E H nx).l (runK P man n ops k l E H nx).E ds (runK P man n ops k l E H nx).H (runK P man n ops k l E H nx).nx Q → FO P man set n ops l E ds H nx Q
  | 0, _, _, _, _, h => h
  | _ + 1, [], _, _, _, h => h
  | k + 1, o :: l, E, H, nx, h => by
    unfold runK at h
    cases hp : stepE P man n ops E H nx o with
    | none => rw [hp] at h; exact h
    | some r =>
      obtain ⟨E', H', nx'⟩ := r
      rw [hp] at h
      exact fo_op1 (fun T hT => by subst hT; exact stepE_ok hp) (fo_run k h)
theorem fo_adv (k : Nat) {l : List Oper} {E : Env} {H : Hp} {nx : Nat} (h : FO P man set n ops (adv P k man n ops set l E H nx).l (adv P k man n ops set l E H nx).E ds (adv P k man n ops set l E H nx).H (adv P k man n ops set l E H nx).nx Q) : FO P man set n ops l E ds H nx Q := by
  cases k with
  | zero => exact fo_auto h
  | succ k => exact fo_run k h
theorem fo_done0 (x : Nat) (h : (adv P x man n ops set l E H nx).l = []) (k : Q (adv P x man n ops set l E H nx).E ds (adv P x man n ops set l E H nx).H (adv P x man n ops set l E H nx).nx) : FO P man set n ops l E ds H nx Q := by
  refine fo_adv x ?_
  rw [h]
  refine ⟨?_⟩
  intro T hT
  exact ⟨T, _, _, rfl, by rw [hT]; exact k⟩
theorem fo_pure0 (x : Nat) {v : AV} (r : Option AV) (hr : r = some v) (h : hdP P n ops (adv P x man n ops set l E H nx) = r)
    (k : FO P man set n ops (adv P x man n ops set l E H nx).rest ((adv P x man n ops set l E H nx).after v) ds (adv P x man n ops set l E H nx).H (adv P x man n ops set l E H nx).nx Q) : FO P man set n ops l E ds H nx Q := by
  refine fo_adv x ?_
  subst hr
  generalize adv P x man n ops set l E H nx = M at h k
  obtain ⟨E1, H1, nx1, l1⟩ := M
  simp only [hdP, Mid.E, Mid.l] at h
  simp only [Mid.E, Mid.H, Mid.nx, Mid.l]
  cases l1 with
  | nil => simp at h
  | cons o l1 =>
    simp only at h
    simp only [Mid.rest, Mid.after, Mid.l, Mid.E, Mid.H, Mid.nx, List.tail_cons] at k
    cases hl : dstLt n o <;> simp only [hl, cond_true, cond_false] at h <;> try (cases h; done)
    split at h <;> try (cases h; done)
    rename_i hg
    cases ht : touch o.op <;> simp only [ht, cond_true, cond_false] at h <;> try (cases h; done)
    refine fo_op1 (fun T hT => ?_) k
    subst hT
    obtain ⟨hk, hw⟩ := guardE_ok hg
    rw [pureE_get] at h
    obtain ⟨T', h1, h2⟩ := putA_ok hl v T
    exact ⟨T', by simp only [op1, hk, hw, ht, cond_true, cond_false, h, Option.map_some, stepSt, h1], h2⟩
theorem fo_load0 (x : Nat) {t : TypeId} {m off : Nat} {v : AV} {H0 : Hp} (hd : loadT P H0 t m off = some v) (hv : (hdV P n ops (adv P x man n ops set l E H nx), (adv P x man n ops set l E H nx).H) = (some (.load t m off), H0))
    (k : FO P man set n ops (adv P x man n ops set l E H nx).rest ((adv P x man n ops set l E H nx).after v) ds H0 (adv P x man n ops set l E H nx).nx Q) : FO P man set n ops l E ds H nx Q := by
  refine fo_adv x ?_
  generalize adv P x man n ops set l E H nx = M at hv k
  obtain ⟨E1, H1, nx1, l1⟩ := M
  simp only [Prod.mk.injEq, hdV, Mid.E, Mid.H, Mid.l] at hv
  simp only [Mid.E, Mid.H, Mid.nx, Mid.l]
  obtain ⟨hv, rfl⟩ := hv
  cases l1 with
  | nil => simp at hv
  | cons o l1 =>
    simp only at hv
    simp only [Mid.rest, Mid.after, Mid.l, Mid.E, Mid.nx, List.tail_cons] at k
    cases hl : dstLt n o <;> simp only [hl, cond_true, cond_false] at hv <;> try (cases hv; done)
    split at hv <;> try (cases hv; done)
    rename_i hg
    refine fo_op1 (fun T hT => ?_) k
    subst hT
    obtain ⟨hk, hw⟩ := guardE_ok hg
    have ht := view_touch hv
    have hdf' : isDefer o.op = false := view_defer hv
    obtain ⟨T', h1, h2⟩ := putA_ok hl v T
    exact ⟨T', by simp only [op1, hk, hw, ht, hdf', cond_true, cond_false, (does_ok (rec := norec) hv (v := v) (H' := H1) (nx' := nx1) ⟨hd, rfl, rfl⟩).1, stepSt, h1], h2⟩

/-- Operations that do nothing but look: loads, lengths of what is no map. -/
def looks (o : Oper) : Bool := !(touch o.op) || isLoad o.op
theorem loadA_wr {T : Tr AV} {t : TypeId} {x : Operand} {tt : Tr AObj} {b : List (Nat × Nat)} {w w' nx : Nat} {v : AV} {H' : Hp} {nx' : Nat} (h : heapA P norec T ⟨tt, b, w⟩ nx (.load t x) = some (v, H', nx')) :
    H' = ⟨tt, b, w⟩ ∧ nx' = nx ∧ heapA P norec T ⟨tt, b, w'⟩ nx (.load t x) = some (v, ⟨tt, b, w'⟩, nx) := by
  obtain ⟨rfl, rfl, k, off, h1, h2⟩ := load_inv h
  refine ⟨rfl, rfl, ?_⟩
  have : loadT P ⟨tt, b, w'⟩ t k off = some v := h2
  simp only [heapA, h1, this]
theorem opsD_looks {pre : Array Nat} {tt : Tr AObj} : ∀ {l : List Oper} {j : Nat} {T T' : Tr AV} {H' : Hp} {nx nx' : Nat} {rs : List (Nat × Nat)}, l.all looks = true →
    ops1 P norec n none ops l ⟨T, ds, ⟨tt, [], 0⟩, nx⟩ = some ⟨T', ds, H', nx'⟩ → opsD P norec n ops pre l j ⟨T, ds, ⟨tt, [], 0⟩, nx⟩ ⟨[], rs, []⟩ = some ⟨T', ds, H', nx'⟩
  | [], j, T, T', H', nx, nx', rs, _, h => by simpa only [ops1, opsD] using h
  | o :: l, j, T, T', H', nx, nx', rs, hl, h => by
    simp only [List.all_cons, Bool.and_eq_true] at hl
    simp only [ops1] at h
    cases h1 : op1 P norec n none ops o ⟨T, ds, ⟨tt, [], 0⟩, nx⟩ with
    | none => simp [h1] at h
    | some s1 =>
      simp only [h1] at h
      unfold op1 at h1
      cases ha : askedA ops T o with
      | false => rw [ha] at h1; cases h1
      | true =>
        rw [ha, cond_true] at h1
        cases hw : wantedA ops T o with
        | false =>
          rw [hw, cond_false] at h1
          simp only [stepSt] at h1
          cases hp : putA n o.dst .undef T with
          | none => simp [hp] at h1
          | some T1 =>
            simp only [hp, Option.some.injEq] at h1
            subst h1
            have ih := opsD_looks (pre := pre) (j := j + 1) (rs := rs) hl.2 h
            simp only [opsD, opD, ha, hw, cond_true, cond_false, stepSt, hp]; exact ih
        | true =>
          rw [hw, cond_true] at h1
          cases ht : touch o.op with
          | false =>
            rw [ht, cond_false] at h1
            cases hx : pureA P T o.op with
            | none => simp [hx, stepSt] at h1
            | some v =>
              simp only [hx, Option.map_some, stepSt] at h1
              cases hp : putA n o.dst v T with
              | none => simp [hp] at h1
              | some T1 =>
                simp only [hp, Option.some.injEq] at h1
                subst h1
                have ih := opsD_looks (pre := pre) (j := j + 1) (rs := rs) hl.2 h
                simp only [opsD, opD, ha, hw, ht, cond_true, cond_false, stepSt, hx, Option.map_some, hp]; exact ih
          | true =>
            have hld : isLoad o.op = true := by
              have := hl.1
              simp only [looks, ht, Bool.not_true, Bool.false_or] at this; exact this
            obtain ⟨dst, op, ty, pos, aft, gd⟩ := o
            cases op <;> simp only [isLoad] at hld <;> try (cases hld; done)
            rename_i t x
            rw [ht, cond_true] at h1
            simp only [isDefer, cond_false] at h1
            cases hx : heapA P norec T ⟨tt, [], 0⟩ nx (.load t x) with
            | none => simp [hx, stepSt] at h1
            | some r =>
              obtain ⟨v, H1, nx1⟩ := r
              obtain ⟨e1, e2, e3⟩ := loadA_wr (w' := nx) hx
              subst e1 e2
              simp only [hx, stepSt] at h1
              cases hp : putA n dst v T with
              | none => simp [hp] at h1
              | some T1 =>
                simp only [hp, Option.some.injEq] at h1
                subst h1
                have ih := opsD_looks (pre := pre) (j := j + 1) (rs := (j, nameO T x) :: rs) hl.2 h
                simp only [opsD, opD, ha, hw, ht, cond_true, unseen, e3, hp, clear]; exact ih
/-- A region that draws its order and does nothing but look. -/
theorem tc_regd0 {Q : Qc} (hp : progOk P = true) (man : List Nat) (L : List (Nat × AV)) (hF : Facts E L) (h : (kind c, (cOps c).toList.all looks, hBad H, hWr H) = (2, true, [], 0))
    (k : FO P man [] n (cOps c) (cOps c).toList (lk L noE) ds H nx (Q .normal)) : TC P B n rd c E ds H nx Q := by
  simp only [Prod.mk.injEq] at h
  obtain ⟨h1, h2, h3, h4⟩ := h
  obtain ⟨t, bad, wr⟩ := H
  simp only [hBad, hWr] at h3 h4
  subst h3 h4
  obtain ⟨T', H', nx', g1, g2⟩ := k.run (trOf L) (trOf_get L)
  exact tc_regK hp norec_ok L hF h1 (opsD_looks h2 g1) g2
theorem tc_seqd0 {Q : Qc} (hp : progOk P = true) (man : List Nat) (L : List (Nat × AV)) (hF : Facts E L) (h : (kind c, kind (cA c), (cOps (cA c)).toList.all looks, hBad H, hWr H) = (3, 2, true, [], 0))
    (k : FO P man [] n (cOps (cA c)) (cOps (cA c)).toList (lk L noE) ds H nx (fun E ds H nx => TC P B n rd (cB c) E ds H nx Q)) : TC P B n rd c E ds H nx Q := by
  simp only [Prod.mk.injEq] at h
  exact tc_seq h.1 (tc_regd0 hp man L hF (by simp only [Prod.mk.injEq]; exact h.2) k)
/-- The guard's operation, whose value is known. -/
theorem to_known0 (x : Nat) {Q : Qo} (b : Bool) (h : askV (ask ops (adv P x man n ops set l E H nx)) = some b)
    (k : TO P B man (askJ (ask ops (adv P x man n ops set l E H nx)) :: set) n rd ops (adv P x man n ops set l E H nx).l (Env.set (adv P x man n ops set l E H nx).E (askD (ask ops (adv P x man n ops set l E H nx))) (.bool b)) ds (adv P x man n ops set l E H nx).H (adv P x man n ops set l E H nx).nx Q) : TO P B man set n rd ops l E ds H nx Q := by
  refine to_ask0 x b h (fun e => ?_) (fun e => ?_) <;> subst e <;> exact k
/-- A call that changes nothing and returns something of which V is so. -/
theorem to_callq0 (x : Nat) {Q : Qo} {g : FuncId} {argsc : List AV} {tc : Tr AObj} {nxc : Nat} {V : AV → Prop} (L : List (Nat × Nat × Nat)) (hV : ∀ σ v, V v → ren σ v = some v)
    (hc : CallH P g argsc ⟨tc, [], 0⟩ nxc (fun v H' nx' => V v ∧ H' = ⟨tc, [], 0⟩ ∧ nx' = nxc))
    (h : ((renL (sg L) argsc).isSome, callOf (hdV P n ops (adv P x man n ops set l E H nx)), hBad (adv P x man n ops set l E H nx).H, hWr (adv P x man n ops set l E H nx).H, (Nat.ble tc.sup nxc && tc.allB okO), L.map (·.1), disB ⟨tc, [], 0⟩ L, fulls ⟨tc, [], 0⟩ L) =
      (true, gArgs g (renL (sg L) argsc), [], 0, true, upTo 0 nxc, true, []))
    (hE : EmbL (sg L) ⟨tc, [], 0⟩ (adv P x man n ops set l E H nx).H L)
    (k : ∀ v, V v → TO P B man set n rd ops (adv P x man n ops set l E H nx).rest ((adv P x man n ops set l E H nx).after v) ds (adv P x man n ops set l E H nx).H (adv P x man n ops set l E H nx).nx Q) : TO P B man set n rd ops l E ds H nx Q := by
  simp only [Prod.mk.injEq] at h
  obtain ⟨hr, h1, h2, h3, h4, h5, h6, h7⟩ := h
  cases ha : renL (sg L) argsc with
  | none =>
    exact absurd hr (by rw [ha]; simp)
  | some args =>
    rw [ha] at h1
    generalize hM : adv P x man n ops set l E H nx = M at h1 h2 h3 hE k
    obtain ⟨E1, ⟨t, bad, wr⟩, nx1, l1⟩ := M
    simp only [Mid.H, Mid.nx, Mid.E, hBad, hWr] at h2 h3 hE k
    subst h2 h3
    simp only [Bool.and_eq_true] at h4
    refine to_call0 x (call_emb (nx := nx1) (R := fun v H' nx' => V v ∧ H' = ⟨t, [], 0⟩ ∧ nx' = nx1) L hc (wf_of h4.1 h4.2) h5 ha hE h6 ?_) (by rw [hM]; simp only [Prod.mk.injEq, Mid.H, Mid.nx, and_true]; exact (callOf_some h1)) ?_
    · rintro vc Hc' nxc' hle ⟨hv, rfl, rfl⟩
      refine ⟨vc, t, [], trivial, hV _ _ hv, ?_, hv, rfl, by omega⟩
      rw [h7, Nat.sub_self]; rfl
    · rintro v _ _ ⟨hv, rfl, rfl⟩
      rw [hM]; exact k v hv
/-- The state in the midst of a region, told anew. -/
theorem to_norm0 (j : Nat) (set0 : List Nat) (L : List (Nat × AV)) (H0 : Hp) (nx0 : Nat) {Q : Qo} (f : Facts E L) (h : (l, H, nx) = (ops.toList.drop j, H0, nx0)) (k : TO P B man set0 n rd ops (ops.toList.drop j) (lk L noE) ds H0 nx0 Q) : TO P B man set n rd ops l E ds H nx Q := by
  simp only [Prod.mk.injEq] at h
  obtain ⟨rfl, rfl, rfl⟩ := h
  exact ⟨(to_keep (set := set0) L f k).run⟩
end
end Abs
end Go.Proofs.YtoecekncncbjgaaGreat

/- The steps of regions, with the state in one piece. -/
namespace Go.Proofs.YtoecekncncbjgaaGreat
namespace Abs
inductive Ms where
  | mk (E : Env) (H : Hp) (nx : Nat) (l : List Oper) (set : List Nat)
def Ms.E : Ms → Env
  | .mk E _ _ _ _ => E
def Ms.H : Ms → Hp
  | .mk _ H _ _ _ => H
def Ms.nx : Ms → Nat
  | .mk _ _ nx _ _ => nx
def Ms.l : Ms → List Oper
  | .mk _ _ _ l _ => l
def Ms.set : Ms → List Nat
  | .mk _ _ _ _ set => set
def Ms.mid : Ms → Mid
  | .mk E H nx l _ => .mk E H nx l
def Mid.ms (set : List Nat) : Mid → Ms
  | .mk E H nx l => .mk E H nx l set
section
variable {P : Program} {B : Ent} {man : List Nat} {n : Nat} {rd : Option Nat} {ops : Array Oper} {ds : List ADef} {Q : Qo} {c : Code} {E : Env} {H : Hp} {nx : Nat}
/-- Some operations on. -/
def go (P : Program) (x : Nat) (man : List Nat) (n : Nat) (ops : Array Oper) : Ms → Ms
  | .mk E H nx l set => (adv P x man n ops set l E H nx).ms set
/-- One operation on, which made v; one that made v, and what there is. -/
def Ms.step (v : AV) : Ms → Ms
  | .mk E H nx l set => .mk ((Mid.mk E H nx l).after v) H nx l.tail set
def Ms.stepH (v : AV) (H' : Hp) (nx' : Nat) : Ms → Ms
  | .mk E H nx l set => .mk ((Mid.mk E H nx l).after v) H' nx' l.tail set
/-- A guard is settled. -/
def Ms.settle (ops : Array Oper) (b : Bool) : Ms → Ms
  | .mk E H nx l set => .mk (E.set (askD (ask ops (.mk E H nx l))) (.bool b)) H nx l (askJ (ask ops (.mk E H nx l)) :: set)
theorem go_eq (x : Nat) (E : Env) (H : Hp) (nx : Nat) (l : List Oper) (set : List Nat) : ∃ E' H' nx' l', adv P x man n ops set l E H nx = .mk E' H' nx' l' ∧ go P x man n ops (.mk E H nx l set) = .mk E' H' nx' l' set := by
  cases h : adv P x man n ops set l E H nx with
  | mk E' H' nx' l' => exact ⟨E', H', nx', l', rfl, by simp only [go, h, Mid.ms]⟩
/-- The goal, with the state in one piece. -/
abbrev TOm (P : Program) (B : Ent) (man : List Nat) (n : Nat) (rd : Option Nat) (ops : Array Oper) (S : Ms) (ds : List ADef) (Q : Qo) : Prop := TO P B man S.set n rd ops S.l S.E ds S.H S.nx Q
variable {S : Ms}
theorem to_ask (x : Nat) (b : Bool) (h : askV (ask ops (go P x man n ops S).mid) = some b) (k1 : b = true → TOm P B man n rd ops ((go P x man n ops S).settle ops true) ds Q) (k0 : b = false → TOm P B man n rd ops ((go P x man n ops S).settle ops false) ds Q) : TOm P B man n rd ops S ds Q := by
  cases S with
  | mk E H nx l set =>
    obtain ⟨E', H', nx', l', e1, e2⟩ := go_eq (P := P) (man := man) (n := n) (ops := ops) x E H nx l set
    rw [e2] at h k1 k0
    change TO P B man set n rd ops l E ds H nx Q
    exact to_ask0 x b (by rw [e1]; exact h) (by rw [e1]; exact k1) (by rw [e1]; exact k0)
theorem to_known (x : Nat) (b : Bool) (h : askV (ask ops (go P x man n ops S).mid) = some b) (k : TOm P B man n rd ops ((go P x man n ops S).settle ops b) ds Q) : TOm P B man n rd ops S ds Q :=
  to_ask x b h (fun e => by subst e; exact k) (fun e => by subst e; exact k)
theorem to_does (x : Nat) {w : Vw} {v : AV} {H0 H' : Hp} {nx0 nx' : Nat} (hd : Does P w H0 nx0 v H' nx') (hv : (hdV P n ops (go P x man n ops S).mid, (go P x man n ops S).H, (go P x man n ops S).nx) = (some w, H0, nx0))
    (k : TOm P B man n rd ops ((go P x man n ops S).stepH v H' nx') ds Q) : TOm P B man n rd ops S ds Q := by
  cases S with
  | mk E H nx l set =>
    obtain ⟨E', H1, nx1, l', e1, e2⟩ := go_eq (P := P) (man := man) (n := n) (ops := ops) x E H nx l set
    rw [e2] at hv k
    change TO P B man set n rd ops l E ds H nx Q
    exact to_does0 x hd (by rw [e1]; exact hv) (by rw [e1]; exact k)
theorem to_load (x : Nat) {t : TypeId} {m off : Nat} {v : AV} {H0 : Hp} (hl : loadT P H0 t m off = some v) (hv : (hdV P n ops (go P x man n ops S).mid, (go P x man n ops S).H) = (some (.load t m off), H0))
    (k : TOm P B man n rd ops ((go P x man n ops S).step v) ds Q) : TOm P B man n rd ops S ds Q := by
  cases S with
  | mk E H nx l set =>
    obtain ⟨E', H1, nx1, l', e1, e2⟩ := go_eq (P := P) (man := man) (n := n) (ops := ops) x E H nx l set
    rw [e2] at hv k
    change TO P B man set n rd ops l E ds H nx Q
    have hH : H1 = H0 := congrArg Prod.snd hv
    subst hH
    exact to_load0 x hl (by rw [e1]; exact hv) (by rw [e1]; exact k)
theorem to_pure (x : Nat) {v : AV} (r : Option AV) (hr : r = some v) (h : hdP P n ops (go P x man n ops S).mid = r) (k : TOm P B man n rd ops ((go P x man n ops S).step v) ds Q) : TOm P B man n rd ops S ds Q := by
  cases S with
  | mk E H nx l set =>
    obtain ⟨E', H1, nx1, l', e1, e2⟩ := go_eq (P := P) (man := man) (n := n) (ops := ops) x E H nx l set
    rw [e2] at h k
    change TO P B man set n rd ops l E ds H nx Q
    exact to_pure0 x r hr (by rw [e1]; exact h) (by rw [e1]; exact k)
theorem to_call (x : Nat) {g : FuncId} {vs : List AV} {R : AV → Hp → Nat → Prop} {H0 : Hp} {nx0 : Nat} (hc : CallIn P B g vs H0 nx0 R) (hv : (hdV P n ops (go P x man n ops S).mid, (go P x man n ops S).H, (go P x man n ops S).nx) = (some (.call g vs), H0, nx0))
    (k : ∀ v H' nx', R v H' nx' → TOm P B man n rd ops ((go P x man n ops S).stepH v H' nx') ds Q) : TOm P B man n rd ops S ds Q := by
  cases S with
  | mk E H nx l set =>
    obtain ⟨E', H1, nx1, l', e1, e2⟩ := go_eq (P := P) (man := man) (n := n) (ops := ops) x E H nx l set
    rw [e2] at hv k
    change TO P B man set n rd ops l E ds H nx Q
    exact to_call0 x hc (by rw [e1]; exact hv) (by rw [e1]; exact k)
theorem to_callp (x : Nat) {g : FuncId} {argsc : List AV} {tc : Tr AObj} {nxc : Nat} {v0 : AV} (L : List (Nat × Nat × Nat))
    (hc : CallH P g argsc ⟨tc, [], 0⟩ nxc (fun v H' nx' => v = v0 ∧ H' = ⟨tc, [], 0⟩ ∧ nx' = nxc))
    (h : ((renL (sg L) argsc).isSome, callOf (hdV P n ops (go P x man n ops S).mid), hBad (go P x man n ops S).H, hWr (go P x man n ops S).H, (Nat.ble tc.sup nxc && tc.allB okO), L.map (·.1), disB ⟨tc, [], 0⟩ L, fulls ⟨tc, [], 0⟩ L, ren (sgX L (go P x man n ops S).nx nxc nxc) v0) =
      (true, gArgs g (renL (sg L) argsc), [], 0, true, upTo 0 nxc, true, [], some v0))
    (hE : EmbL (sg L) ⟨tc, [], 0⟩ (go P x man n ops S).H L) (k : TOm P B man n rd ops ((go P x man n ops S).step v0) ds Q) : TOm P B man n rd ops S ds Q := by
  cases S with
  | mk E H nx l set =>
    obtain ⟨E', H1, nx1, l', e1, e2⟩ := go_eq (P := P) (man := man) (n := n) (ops := ops) x E H nx l set
    rw [e2] at h hE k
    change TO P B man set n rd ops l E ds H nx Q
    exact to_callp0 x L hc (by rw [e1]; exact h) (by rw [e1]; exact hE) (by rw [e1]; exact k)
theorem to_callq (x : Nat) {g : FuncId} {argsc : List AV} {tc : Tr AObj} {nxc : Nat} {V : AV → Prop} (L : List (Nat × Nat × Nat)) (hV : ∀ σ v, V v → ren σ v = some v)
    (hc : CallH P g argsc ⟨tc, [], 0⟩ nxc (fun v H' nx' => V v ∧ H' = ⟨tc, [], 0⟩ ∧ nx' = nxc))
    (h : ((renL (sg L) argsc).isSome, callOf (hdV P n ops (go P x man n ops S).mid), hBad (go P x man n ops S).H, hWr (go P x man n ops S).H, (Nat.ble tc.sup nxc && tc.allB okO), L.map (·.1), disB ⟨tc, [], 0⟩ L, fulls ⟨tc, [], 0⟩ L) =
      (true, gArgs g (renL (sg L) argsc), [], 0, true, upTo 0 nxc, true, []))
    (hE : EmbL (sg L) ⟨tc, [], 0⟩ (go P x man n ops S).H L) (k : ∀ v, V v → TOm P B man n rd ops ((go P x man n ops S).step v) ds Q) : TOm P B man n rd ops S ds Q := by
  cases S with
  | mk E H nx l set =>
    obtain ⟨E', H1, nx1, l', e1, e2⟩ := go_eq (P := P) (man := man) (n := n) (ops := ops) x E H nx l set
    rw [e2] at h hE k
    change TO P B man set n rd ops l E ds H nx Q
    exact to_callq0 x L hV hc (by rw [e1]; exact h) (by rw [e1]; exact hE) (by rw [e1]; exact k)
theorem to_norm (j : Nat) (set0 : List Nat) (L : List (Nat × AV)) (H0 : Hp) (nx0 : Nat) (f : Facts S.E L) (h : (S.l, S.H, S.nx) = (ops.toList.drop j, H0, nx0)) (k : TOm P B man n rd ops (.mk (lk L noE) H0 nx0 (ops.toList.drop j) set0) ds Q) : TOm P B man n rd ops S ds Q :=
  to_norm0 j set0 L H0 nx0 f h k
theorem to_done (x : Nat) (h : (go P x man n ops S).l = []) (k : Q (go P x man n ops S).E ds (go P x man n ops S).H (go P x man n ops S).nx) : TOm P B man n rd ops S ds Q := by
  cases S with
  | mk E H nx l set =>
    obtain ⟨E', H1, nx1, l', e1, e2⟩ := go_eq (P := P) (man := man) (n := n) (ops := ops) x E H nx l set
    rw [e2] at h k
    change TO P B man set n rd ops l E ds H nx Q
    exact to_done0 x (by rw [e1]; exact h) (by rw [e1]; exact k)
theorem tc_reg {Q : Qc} (man : List Nat) (h : kind c = 1) (k : TOm P B man n rd (cOps c) (.mk E H nx (cOps c).toList []) ds (Q .normal)) : TC P B n rd c E ds H nx Q := tc_reg0 man h k
theorem tc_seqr {Q : Qc} (man : List Nat) (h : (kind c, kind (cA c)) = (3, 1)) (k : TOm P B man n rd (cOps (cA c)) (.mk E H nx (cOps (cA c)).toList []) ds (fun E ds H nx => TC P B n rd (cB c) E ds H nx Q)) : TC P B n rd c E ds H nx Q := tc_seqr0 man h k

abbrev FOm (P : Program) (man : List Nat) (n : Nat) (ops : Array Oper) (S : Ms) (ds : List ADef) (Q : Qo) : Prop := FO P man S.set n ops S.l S.E ds S.H S.nx Q
theorem fo_load (x : Nat) {t : TypeId} {m off : Nat} {v : AV} {H0 : Hp} (hl : loadT P H0 t m off = some v) (hv : (hdV P n ops (go P x man n ops S).mid, (go P x man n ops S).H) = (some (.load t m off), H0))
    (k : FOm P man n ops ((go P x man n ops S).step v) ds Q) : FOm P man n ops S ds Q := by
  cases S with
  | mk E H nx l set =>
    obtain ⟨E', H1, nx1, l', e1, e2⟩ := go_eq (P := P) (man := man) (n := n) (ops := ops) x E H nx l set
    rw [e2] at hv k
    change FO P man set n ops l E ds H nx Q
    have hH : H1 = H0 := congrArg Prod.snd hv
    subst hH
    exact fo_load0 x hl (by rw [e1]; exact hv) (by rw [e1]; exact k)
theorem fo_pure (x : Nat) {v : AV} (r : Option AV) (hr : r = some v) (h : hdP P n ops (go P x man n ops S).mid = r) (k : FOm P man n ops ((go P x man n ops S).step v) ds Q) : FOm P man n ops S ds Q := by
  cases S with
  | mk E H nx l set =>
    obtain ⟨E', H1, nx1, l', e1, e2⟩ := go_eq (P := P) (man := man) (n := n) (ops := ops) x E H nx l set
    rw [e2] at h k
    change FO P man set n ops l E ds H nx Q
    exact fo_pure0 x r hr (by rw [e1]; exact h) (by rw [e1]; exact k)
theorem fo_done (x : Nat) (h : (go P x man n ops S).l = []) (k : Q (go P x man n ops S).E ds (go P x man n ops S).H (go P x man n ops S).nx) : FOm P man n ops S ds Q := by
  cases S with
  | mk E H nx l set =>
    obtain ⟨E', H1, nx1, l', e1, e2⟩ := go_eq (P := P) (man := man) (n := n) (ops := ops) x E H nx l set
    rw [e2] at h k
    change FO P man set n ops l E ds H nx Q
    exact fo_done0 x (by rw [e1]; exact h) (by rw [e1]; exact k)
theorem tc_regd {Q : Qc} (hp : progOk P = true) (man : List Nat) (L : List (Nat × AV)) (hF : Facts E L) (h : (kind c, (cOps c).toList.all looks, hBad H, hWr H) = (2, true, [], 0))
    (k : FOm P man n (cOps c) (.mk (lk L noE) H nx (cOps c).toList []) ds (Q .normal)) : TC P B n rd c E ds H nx Q := tc_regd0 hp man L hF h k
theorem tc_seqd {Q : Qc} (hp : progOk P = true) (man : List Nat) (L : List (Nat × AV)) (hF : Facts E L) (h : (kind c, kind (cA c), (cOps (cA c)).toList.all looks, hBad H, hWr H) = (3, 2, true, [], 0))
    (k : FOm P man n (cOps (cA c)) (.mk (lk L noE) H nx (cOps (cA c)).toList []) ds (fun E ds H nx => TC P B n rd (cB c) E ds H nx Q)) : TC P B n rd c E ds H nx Q := tc_seqd0 hp man L hF h k
end
end Abs
end Go.Proofs.YtoecekncncbjgaaGreat

/- What came in, as rows that are only looked at. -/
namespace Go.Proofs.YtoecekncncbjgaaGreat
namespace Abs
open Go.ChangeShapes Go.WideShapes Go.ChangeAt Go.RowKit Go.Deep
/-- What a cell of a type holds. -/
inductive LK where
  | int (k : IntKind)
  | bool
  | str
  | slice (es : List LK)
section
variable (P : Program)
def kindsF (k : TypeId → Option (List LK)) : List Field → Nat → Nat → Option (List LK)
  | [], off, total => cond (Nat.beq off total) (some []) none
  | f :: fs, off, total => cond (Nat.beq f.offset off) (match k f.type with
    | some ks => cond (Nat.beq (P.cellsOf f.type) ks.length) (match kindsF k fs (off + ks.length) total with
      | some r => some (ks ++ r)
      | none => none) none
    | none => none) none
def kindsT : Nat → TypeId → Option (List LK)
  | 0, _ => none
  | d + 1, t => match P.underlying t with
    | some (.int k) => some [.int k]
    | some .bool => some [.bool]
    | some .string => some [.str]
    | some (.slice e) => match kindsT d e with
      | some es => cond (Nat.beq (P.cellsOf e) es.length) (some [.slice es]) none
      | none => none
    | some (.struct fs) => kindsF P (kindsT d) fs.toList 0 (P.cellsOf t)
    | some (.array n e) => match kindsT d e with
      | some es => cond (Nat.beq (P.cellsOf e) es.length && Nat.beq (P.cellsOf t) (n * es.length)) (some ((List.replicate n es).flatten)) none
      | none => none
    | _ => none
end
mutual
def LKok (W : World) (base : Nat) : LK → Value → Prop
  | .int k, v => ∃ n, v = .int k n ∧ (Lit.int k n).wf = true
  | .bool, v => ∃ b, v = .bool b
  | .str, v => ∃ s, v = .string s
  | .slice es, v => v = .slice none 0 0 ∨ ∃ (a : Addr) (len cap : Nat), v = .slice (some a) len cap ∧ len ≤ cap ∧ cap ≤ maxLen ∧ ∀ i, i < cap → ∃ cs, W.cells? base (a.add (i * es.length)) es.length = some cs ∧ LKs W base es cs
def LKs (W : World) (base : Nat) : List LK → List Value → Prop
  | [], vs => vs = []
  | k :: ks, vs => ∃ v t, vs = v :: t ∧ LKok W base k v ∧ LKs W base ks t
end
section
variable {P : Program} {H : Type} {enc : TypeId × Value → H} {W : World} {base : Nat} {spare : Nat → Bool} {held : Bool}
theorem LKs.append : ∀ {a b : List LK} {u v : List Value}, LKs W base a u → LKs W base b v → LKs W base (a ++ b) (u ++ v)
  | [], b, u, v, h, k => by simp only [LKs] at h; subst h; exact k
  | x :: a, b, u, v, h, k => by
    simp only [LKs] at h
    obtain ⟨y, t, rfl, h1, h2⟩ := h
    simp only [List.cons_append, LKs]
    exact ⟨y, t ++ v, rfl, h1, LKs.append h2 k⟩
theorem LKs.length : ∀ {a : List LK} {u : List Value}, LKs W base a u → u.length = a.length
  | [], u, h => by simp only [LKs] at h; subst h; rfl
  | x :: a, u, h => by
    simp only [LKs] at h
    obtain ⟨y, t, rfl, h1, h2⟩ := h
    simp [LKs.length h2]
theorem kindsF_ok {k : TypeId → Option (List LK)} {cs : List Value} {n : Nat} (hk : ∀ t ks x cs, k t = some ks → DataW.trod enc P W base spare held n t cs = some x → LKs W base ks cs) :
    ∀ {fs : List Field} {off : Nat} {ks : List LK}, kindsF P k fs off cs.length = some ks → off ≤ cs.length → (∀ f ∈ fs, ∃ x, DataW.trod enc P W base spare held n f.type ((cs.drop f.offset).take (P.cellsOf f.type)) = some x) → LKs W base ks (cs.drop off)
  | [], off, ks, h, ho, _ => by
    simp only [kindsF, Bool.cond_eq_ite, Nat.beq_eq] at h
    split at h <;> cases h
    rename_i e
    subst e
    simp [LKs]
  | f :: fs, off, ks, h, ho, hf => by
    simp only [kindsF, Bool.cond_eq_ite, Nat.beq_eq] at h
    split at h <;> try (cases h; done)
    rename_i e
    subst e
    split at h <;> try (cases h; done)
    rename_i k1 h1
    split at h <;> try (cases h; done)
    rename_i hl
    split at h <;> cases h
    rename_i r h2
    obtain ⟨x, hx⟩ := hf f (by simp)
    have g1 := hk _ _ _ _ h1 hx
    have gl := g1.length
    rw [List.length_take, List.length_drop] at gl
    have g2 := kindsF_ok (cs := cs) hk h2 (by omega) (fun g hg => hf g (by simp [hg]))
    have e2 : cs.drop f.offset = (cs.drop f.offset).take (P.cellsOf f.type) ++ cs.drop (f.offset + k1.length) := by
      rw [← hl, ← List.drop_drop, List.take_append_drop]
    rw [e2]
    exact g1.append g2
theorem replicate_ok {es : List LK} {z : Nat} (hz : es.length = z) : ∀ {n : Nat} {cs : List Value}, cs.length = n * z → (∀ i, i < n → LKs W base es ((cs.drop (i * z)).take z)) → LKs W base (List.replicate n es).flatten cs
  | 0, cs, hl, _ => by simp at hl; subst hl; simp [LKs]
  | n + 1, cs, hl, h => by
    have h0 := h 0 (by omega)
    simp only [Nat.zero_mul, List.drop_zero] at h0
    have ih := replicate_ok (cs := cs.drop z) hz (n := n) (by rw [List.length_drop, hl, Nat.add_mul]; omega) (fun i hi => by
      have := h (i + 1) (by omega)
      rw [List.drop_drop]
      rwa [show z + i * z = (i + 1) * z by rw [Nat.add_mul]; omega])
    have e : cs = cs.take z ++ cs.drop z := (List.take_append_drop _ _).symm
    rw [e, List.replicate_succ, List.flatten_cons]
    exact h0.append ih
theorem kindsT_ok (hsp : ∀ b, spare b = true) : ∀ (d : Nat) {t : TypeId} {ks : List LK} {x : DataW H × List MemPlace} {fuel : Nat} {cs : List Value}, kindsT P d t = some ks → DataW.trod enc P W base spare held fuel t cs = some x → LKs W base ks cs
  | 0, _, _, _, _, _, h, _ => by cases h
  | d + 1, t, ks, x, fuel, cs, h, hx => by
    simp only [kindsT] at h
    split at h
    · rename_i k ht
      cases h
      obtain ⟨n, rfl, _, hw⟩ := DataW.trod_int ht hx
      simp only [LKs, LKok]; exact ⟨_, _, rfl, ⟨n, rfl, hw⟩, rfl⟩
    · rename_i ht
      cases h
      obtain ⟨b, rfl, _⟩ := DataW.trod_bool ht hx
      simp only [LKs, LKok]; exact ⟨_, _, rfl, ⟨b, rfl⟩, rfl⟩
    · rename_i ht
      cases h
      cases fuel with
      | zero => simp [DataW.trod] at hx
      | succ n =>
        unfold DataW.trod at hx
        rw [ht] at hx
        split at hx <;> try (cases hx; done)
        all_goals first
          | (simp only [LKs, LKok]; exact ⟨_, _, rfl, ⟨_, rfl⟩, rfl⟩)
          | (simp_all; done)
    · rename_i e ht
      split at h <;> try (cases h; done)
      rename_i es he
      simp only [Bool.cond_eq_ite, Nat.beq_eq] at h
      split at h <;> cases h
      rename_i hl
      rcases open_slice ht hx with ⟨rfl, _⟩ | ⟨a, len, cap, m, n, D, Pl, rfl, _, h1, h2, h3, _, h4⟩
      · simp only [LKs, LKok]; exact ⟨_, _, rfl, .inl rfl, rfl⟩
      · simp only [LKs, LKok]
        refine ⟨_, _, rfl, .inr ⟨a, len, cap, rfl, h1, h2, fun i hi => ?_⟩, rfl⟩
        obtain ⟨cs', g1, g2⟩ := h4 i (by rw [h3, hsp]; exact hi)
        rw [hl] at g1
        exact ⟨cs', g1, kindsT_ok hsp d he g2⟩
    · rename_i fs ht
      obtain ⟨xs, n, _, _, hl, hlen, hf⟩ := DataW.trod_struct ht hx
      rw [← hl] at h
      have := kindsF_ok (cs := cs) (n := n) (k := kindsT P d) (fun t ks x cs a b => kindsT_ok hsp d a b) h (Nat.zero_le _) (fun f hfm => by
        obtain ⟨i, hi, rfl⟩ := List.mem_iff_getElem.1 hfm
        have := hf i fs.toList[i] (by rw [← Array.getElem?_toList]; exact List.getElem?_eq_getElem hi)
        rw [this]
        have hi' : i < xs.length := by rw [hlen, ← Array.length_toList]; exact hi
        exact ⟨xs[i], List.getElem?_eq_getElem hi'⟩)
      simpa using this
    · rename_i n e ht
      split at h <;> try (cases h; done)
      rename_i es he
      simp only [Bool.cond_eq_ite, Bool.and_eq_true, Nat.beq_eq] at h
      split at h <;> cases h
      rename_i hl
      obtain ⟨xs, m, _, _, h1, h2, h3⟩ := DataW.trod_array ht hx
      refine replicate_ok rfl (by rw [h1, hl.2]) (fun i hi => ?_)
      have := h3 i hi
      rw [hl.1] at this
      exact kindsT_ok hsp d he (this.trans (List.getElem?_eq_getElem (by omega)))
    · cases h

/-- Where a row has a cell, it is no cell of its own. -/
theorem spot_row {es : List LK} {a : Addr} {len : Nat} (hz : 0 < es.length) (hl : 0 < len) (h : ∀ i, i < len → ∃ cs, W.cells? base (a.add (i * es.length)) es.length = some cs ∧ LKs W base es cs) : a.spot = none := by
  obtain ⟨cs0, g0, _⟩ := h 0 hl
  obtain ⟨_, hl0, hc0⟩ := World.cells?_some g0
  have c0 := hc0 0 hz
  rw [List.getElem?_eq_getElem (by omega)] at c0
  have := World.cell?_spot c0
  simpa [Addr.add] using this
/-- A row's cells, in their block. -/
theorem open_row {es : List LK} {a : Addr} {len : Nat} (hz : 0 < es.length) (hl : 0 < len) (h : ∀ i, i < len → ∃ cs, W.cells? base (a.add (i * es.length)) es.length = some cs ∧ LKs W base es cs) :
    a.spot = none ∧ ∃ c e fz pre vs rest, W.heap[a.block]? = some (.cells c e fz) ∧ c.toList = pre ++ (vs ++ rest) ∧ pre.length = a.off ∧ vs.length = len * es.length ∧ ∀ i, i < len → LKs W base es ((vs.drop (i * es.length)).take es.length) := by
  obtain ⟨cs0, g0, _⟩ := h 0 hl
  obtain ⟨_, hl0, hc0⟩ := World.cells?_some g0
  have c0 := hc0 0 hz
  rw [List.getElem?_eq_getElem (by omega)] at c0
  have hspot : a.spot = none := by
    have := World.cell?_spot c0
    simpa [Addr.add] using this
  obtain ⟨b, off, spot⟩ := a
  simp only at hspot
  subst hspot
  refine ⟨rfl, ?_⟩
  have hcell : ∀ j, j < len * es.length → ∃ v, W.cell? ⟨b, off + j, none⟩ = some v := by
    intro j hj
    have hd : j / es.length < len := Nat.div_lt_of_lt_mul (by rw [Nat.mul_comm]; exact hj)
    obtain ⟨cs, g1, _⟩ := h (j / es.length) hd
    obtain ⟨_, hl1, hc1⟩ := World.cells?_some g1
    have := hc1 (j % es.length) (Nat.mod_lt _ hz)
    rw [List.getElem?_eq_getElem (by rw [hl1]; exact Nat.mod_lt _ hz), add_none, add_none, Nat.add_assoc, Nat.mul_comm, Nat.div_add_mod] at this
    exact ⟨_, this⟩
  obtain ⟨v0, hv0⟩ := hcell 0 (Nat.mul_pos hl hz)
  simp only [World.cell?, Nat.add_zero] at hv0
  split at hv0 <;> try (cases hv0; done)
  rename_i c e fz hb
  have hidx : ∀ j, j < len * es.length → ∃ v, c[off + j]? = some v := by
    intro j hj
    obtain ⟨v, hv⟩ := hcell j hj
    simp only [World.cell?, hb] at hv
    exact ⟨v, by simpa using hv⟩
  have hsize : off + len * es.length ≤ c.size := by
    obtain ⟨v, hv⟩ := hidx (len * es.length - 1) (by have := Nat.mul_pos hl hz; omega)
    have := (Array.getElem?_eq_some_iff.1 hv).1
    omega
  refine ⟨c, e, fz, c.toList.take off, (c.toList.drop off).take (len * es.length), (c.toList.drop off).drop (len * es.length), hb, ?_, ?_, ?_, ?_⟩
  · rw [List.take_append_drop, List.take_append_drop]
  · have e : c.toList.length = c.size := Array.length_toList
    show (c.toList.take off).length = off
    rw [List.length_take, e]; omega
  · have e : c.toList.length = c.size := Array.length_toList
    rw [List.length_take, List.length_drop, e]; omega
  · intro i hi
    obtain ⟨cs, g1, g2⟩ := h i hi
    obtain ⟨_, hl1, hc1⟩ := World.cells?_some g1
    have hiz : i * es.length + es.length ≤ len * es.length := by
      have := Nat.mul_le_mul_right es.length (Nat.succ_le_of_lt hi)
      rw [Nat.succ_mul] at this; exact this
    have : ((List.take (len * es.length) (List.drop off c.toList)).drop (i * es.length)).take es.length = cs := by
      apply List.ext_getElem?
      intro j
      rw [List.getElem?_take, List.getElem?_drop]
      by_cases hj : j < es.length
      · rw [if_pos hj, List.getElem?_take, if_pos (by omega), List.getElem?_drop, ← hc1 j hj, add_none, add_none]
        simp only [World.cell?, hb]
        simp [Nat.add_assoc]
      · rw [if_neg hj, List.getElem?_eq_none (by omega)]
    rw [this]; exact g2
/-- A law that was shown over names, over the machine. -/
theorem calls_of {f : FuncId} {args : List AV} {t : Tr AObj} {nx : Nat} (hc : CallH P f args ⟨t, [], 0⟩ nx (fun v H' nx' => v = .bool true ∧ H' = ⟨t, [], 0⟩ ∧ nx' = nx)) (ht : (Nat.ble t.sup nx && (t.allB okO && t.allB fun o => !o.writable)) = true)
    {m : NM} {W : World} {xs : Array Value} (hx : VRs m args xs.toList) (hR : Rel m ⟨t, [], 0⟩ W) (htop : ∀ n, nx ≤ n → m n = none) : Calls P f xs W (fun e W' => e = .returned (.bool true) ∧ Below W.heap.size W W') := by
  simp only [Bool.and_eq_true] at ht
  obtain ⟨_, h⟩ := hc (wf_of ht.1 ht.2.1)
  refine (h m W xs hx hR htop).mono ?_
  rintro e W' ⟨v, v', H', nx', m', rfl, J, hv, rfl, rfl, rfl⟩
  simp only [VR] at hv
  subst hv
  refine ⟨rfl, J.os, J.tape, J.output, J.size, fun b hb => J.frame b hb ?_⟩
  rintro ⟨i, oi, ki, _, hg, hw, _⟩
  rw [hget] at hg
  have := Tr.allB_get ht.2.2 hg
  simp only [Bool.not_eq_true'] at this
  rw [hw] at this; cases this
/-- What there is where nothing came in. -/
theorem rel_empty (m : NM) (W : World) : Rel m (⟨objs [], [], 0⟩ : Hp) W := ⟨fun n ob h => (by rw [hget] at h; cases h), fun i j oi oj ki kj h => (by rw [hget] at h; cases h)⟩
def m1 (k : Blk) : NM := fun n => match n with
  | 0 => some k
  | _ => none
theorem m1_top (k : Blk) : ∀ n, 1 ≤ n → m1 k n = none := fun n h => by cases n with | zero => omega | succ n => rfl
/-- One row. -/
theorem rel_one {k : Blk} {avs : List AV} {c : Array Value} {e : TypeId} {fz : Nat × Nat} {pre vs rest : List Value} {W : World} (hb : W.heap[k.b]? = some (.cells c e fz)) (hc : c.toList = pre ++ (vs ++ rest)) (hp : pre.length = k.o) (hv : VRs (m1 k) avs vs) :
    Rel (m1 k) (⟨objs [(0, .cells false avs)], [], 0⟩ : Hp) W := by
  have hg : ∀ n ob, (⟨objs [(0, .cells false avs)], [], 0⟩ : Hp).get n = some ob → n = 0 ∧ ob = .cells false avs := by
    intro n ob h
    rw [hget] at h
    simp only [objs, Tr.get_set] at h
    split at h
    · cases h; exact ⟨by assumption, rfl⟩
    · cases h
  constructor
  · intro n ob h
    obtain ⟨rfl, rfl⟩ := hg n ob h
    exact ⟨k, _, rfl, hb, c, e, fz, pre, vs, rest, rfl, hc, hp, hv, by simp⟩
  · intro i j oi oj ki kj gi gj _ _ _ _
    exact .inl (by rw [(hg i oi gi).1, (hg j oj gj).1])
end
end Abs
end Go.Proofs.YtoecekncncbjgaaGreat
