/- Promises of functions that lay new objects: names given anew behind a call. -/
import Derived.Test.YtnnamdcpmbhboaaGreatS5
set_option linter.unusedSimpArgs false
set_option linter.unusedVariables false
namespace Go.Proofs.YtnnamdcpmbhboaaGreat
namespace Abs
open Go.RowKit
def layA : Hp → Nat → List AObj → Hp
  | H, _, [] => H
  | H, nx, o :: l => layA (H.lay nx o) (nx + 1) l
def renOs (σ : Sg) : List AObj → Option (List AObj)
  | [] => some []
  | o :: l => match renO σ o, renOs σ l with
    | some o', some l' => some (o' :: l')
    | _, _ => none
def AllCells (l : List AObj) : Prop := ∀ o ∈ l, ∃ w cs, o = AObj.cells w cs
theorem layA_bad : ∀ {l : List AObj} {H : Hp} {nx : Nat}, (layA H nx l).bad = H.bad
  | [], _, _ => rfl
  | o :: l, H, nx => by simp only [layA]; rw [layA_bad (l := l)]; rfl
theorem layA_wr : ∀ {l : List AObj} {H : Hp} {nx : Nat}, (layA H nx l).wr = H.wr
  | [], _, _ => rfl
  | o :: l, H, nx => by simp only [layA]; rw [layA_wr (l := l)]; rfl
theorem layA_t : ∀ {l : List AObj} {H : Hp} {nx : Nat} (n : Nat), (layA H nx l).t.get n = if n < nx then H.t.get n else match l[n - nx]? with
    | some o => some o
    | none => H.t.get n
  | [], H, nx, n => by simp [layA]
  | o :: l, H, nx, n => by
    simp only [layA, layA_t (l := l) n]
    have e : (H.lay nx o).t.get n = if n = nx then some o else H.t.get n := Tr.get_set _ _ _ _
    rw [e]
    rcases Nat.lt_trichotomy n nx with h | h | h
    · rw [if_pos (by omega), if_neg (by omega), if_pos h]
    · subst h
      rw [if_pos (by omega), if_pos rfl, if_neg (by omega), Nat.sub_self]; rfl
    · rw [if_neg (by omega), if_neg (by omega), if_neg (by omega), show n - nx = (n - (nx + 1)) + 1 by omega, List.getElem?_cons_succ]
theorem layA_get {l : List AObj} {H : Hp} {nx : Nat} (hW : Wf H nx) (n : Nat) : (layA H nx l).get n = if n < nx then H.get n else l[n - nx]? := by
  rw [Hp.get_eq, layA_bad, layA_t]
  by_cases h : n < nx
  · rw [if_pos h, if_pos h, Hp.get_eq]
  · rw [if_neg h, if_neg h, hW.seen (by omega), if_neg (by simp), hW.none n (by omega)]
    cases l[n - nx]? <;> rfl
theorem layA_ap {l : List AObj} {H : Hp} {nx : Nat} (hW : Wf H nx) (hc : AllCells l) : AP H nx (layA H nx l) (nx + l.length) where
  le := by omega
  bad := layA_bad
  wr := by rw [layA_wr]; exact Nat.le_refl _
  same := fun n h1 _ => by rw [layA_t, if_pos h1]
  old := fun n o h1 h2 => by
    rw [layA_t, if_pos h1] at h2
    exact ⟨o, h2, Kin.refl o⟩
  wf := ⟨fun n hn => by
      rw [layA_t, if_neg (by omega), List.getElem?_eq_none (by omega)]
      exact hW.none n (by omega),
    fun p hp => by rw [layA_bad] at hp; have := hW.bad p hp; omega, fun n o hn => by
      rw [layA_t] at hn
      split at hn
      · exact hW.ok n o hn
      · split at hn
        · rename_i ob he
          cases hn
          obtain ⟨w, cs, rfl⟩ := hc _ (List.mem_of_getElem? he)
          trivial
        · exact hW.ok n o hn⟩
theorem renOs_len {σ : Sg} : ∀ {l l' : List AObj}, renOs σ l = some l' → l'.length = l.length
  | [], _, h => by cases h; rfl
  | o :: l, l', h => by
    simp only [renOs] at h
    split at h <;> cases h
    rename_i h1 h2
    simp only [List.length_cons, renOs_len h2]
theorem renOs_get {σ : Sg} : ∀ {l l' : List AObj} {i : Nat} {o : AObj}, renOs σ l = some l' → l[i]? = some o → ∃ o', l'[i]? = some o' ∧ renO σ o = some o'
  | [], _, _, _, _, h => by simp at h
  | o :: l, l', i, o1, h, k => by
    simp only [renOs] at h
    split at h <;> cases h
    rename_i h1 h2
    cases i with
    | zero => simp only [List.getElem?_cons_zero, Option.some.injEq] at k; subst k; exact ⟨_, rfl, h1⟩
    | succ i => simp only [List.getElem?_cons_succ] at k ⊢; exact renOs_get h2 k
theorem renOs_cells {σ : Sg} : ∀ {l l' : List AObj}, renOs σ l = some l' → AllCells l → AllCells l'
  | [], _, h, _ => by cases h; intro o ho; cases ho
  | o :: l, l', h, k => by
    simp only [renOs] at h
    split at h <;> cases h
    rename_i h1 h2
    obtain ⟨w, cs, rfl⟩ := k o List.mem_cons_self
    simp only [renO] at h1
    split at h1 <;> cases h1
    have := renOs_cells h2 (fun x hx => k x (List.mem_cons_of_mem _ hx))
    intro x hx
    rcases List.mem_cons.1 hx with rfl | hx
    · exact ⟨_, _, rfl⟩
    · exact this x hx
section
variable {P : Program}
theorem callOk_new {σ : Sg} (L : List (Nat × Nat × Nat)) {g : FuncId} {argsc args : List AV} {tc : Tr AObj} {H : Hp} {nxc nx : Nat} {v0 v : AV} {obs obs' : List AObj}
    (hc : CallH P g argsc ⟨tc, [], 0⟩ nxc (fun v H' nx' => v = v0 ∧ H' = layA ⟨tc, [], 0⟩ nxc obs ∧ nx' = nxc + obs.length))
    (hWc : Wf ⟨tc, [], 0⟩ nxc) (hk : L.map (·.1) = upTo 0 nxc) (ha : renL (sg L) argsc = some args) (hE : EmbL (sg L) ⟨tc, [], 0⟩ H L) (hD : disB ⟨tc, [], 0⟩ L = true)
    (hro : (tc.allB fun o => !o.writable) = true) (hcs : AllCells obs) (hs1 : ∀ n, n < nxc → σ n = sg L n) (hs2 : ∀ n, nxc ≤ n → σ n = if n < nxc + obs.length then some (nx + (n - nxc), 0) else none)
    (hv : ren σ v0 = some v) (ho : renOs σ obs = some obs') : CallOk P g args H nx v (layA H nx obs') (nx + obs.length) := by
  intro hW
  obtain ⟨hb, h⟩ := hc hWc
  have hlen := renOs_len ho
  have hgetA : ∀ n, (layA H nx obs').get n = if n < nx then H.get n else obs'[n - nx]? := fun n => layA_get hW n
  have hgetC : ∀ n, (layA ⟨tc, [], 0⟩ nxc obs).get n = if n < nxc then (⟨tc, [], 0⟩ : Hp).get n else obs[n - nxc]? := fun n => layA_get hWc n
  refine ⟨hb, by rw [← hlen]; exact layA_ap hW (renOs_cells ho hcs), fun m W xs hxs hR hF => ?_⟩
  have hRc := rel_emb hWc hk hE hD hR
  have htop : ∀ n, nxc ≤ n → mOf L m n = none := by
    intro n hn
    cases h : mOf L m n with
    | none => rfl
    | some k =>
      obtain ⟨p, o, k0, hs, _⟩ := mOf_some h
      have : n ∈ L.map (·.1) := List.mem_map.2 ⟨_, sg_mem hs, rfl⟩
      rw [hk, mem_upTo] at this; omega
  refine (h (mOf L m) W xs ((renL_iff mOf_lk argsc args ha _).2 hxs) hRc htop).mono ?_
  rintro e W' ⟨vc, v', Hc', nxc', mc', rfl, J, hv', rfl, rfl, rfl⟩
  have hno : ∀ {w b : Nat}, ¬ Owns (mOf L m) ⟨tc, [], 0⟩ w b := by
    rintro w b ⟨i, oi, ki, _, hg, hw, _⟩
    rw [hget] at hg
    have := Tr.allB_get hro hg
    simp only [Bool.not_eq_true'] at this
    rw [hw] at this; cases this
  have hfr : ∀ b, b < W.heap.size → W'.heap[b]? = W.heap[b]? := fun b hb => J.frame b hb hno
  let m' : NM := fun n => if n < nx then m n else if n < nx + obs.length then mc' (nxc + (n - nx)) else m n
  have hm1 : ∀ n, n < nx → m' n = m n := fun n hn => by simp only [m', if_pos hn]
  have hm2 : ∀ n, nx ≤ n → n < nx + obs.length → m' n = mc' (nxc + (n - nx)) := fun n h1 h2 => by simp only [m', if_neg (Nat.not_lt.2 h1), if_pos h2]
  have hm3 : ∀ n, nx + obs.length ≤ n → m' n = m n := fun n h1 => by simp only [m', if_neg (show ¬ n < nx by omega), if_neg (Nat.not_lt.2 h1)]
  have hle : Le m m' := fun n k hn => by
    rcases Nat.lt_or_ge n nx with h1 | h1
    · rw [hm1 n h1]; exact hn
    · rcases Nat.lt_or_ge n (nx + obs.length) with h2 | h2
      · rw [hF n h1 h2] at hn; cases hn
      · rw [hm3 n h2]; exact hn
  have hlk : Lk σ mc' m' := fun n p o hs => by
    rcases Nat.lt_or_ge n nxc with hn | hn
    · rw [hs1 n hn] at hs
      obtain ⟨ob, ob', h1, h2, _⟩ := embL_mem hE (sg_mem hs)
      have hp : p < nx := hW.lt h2
      rw [J.eq n hn, hm1 p hp]
      simp only [mOf, hs]
    · rw [hs2 n hn] at hs
      split at hs <;> cases hs
      rename_i hlt
      rw [hm2 _ (by omega) (by omega), show nxc + (nx + (n - nxc) - nx) = n by omega]
      cases mc' n <;> rfl
  have hnew : ∀ n, nx ≤ n → n < nx + obs.length → ∃ ob ob' k r, obs[n - nx]? = some ob ∧ obs'[n - nx]? = some ob' ∧ renO σ ob = some ob' ∧ m' n = some k ∧ W'.heap[k.b]? = some r ∧ OR m' k ob' r ∧ W.heap.size ≤ k.b := by
    intro n h1 h2
    obtain ⟨ob, hob⟩ : ∃ ob, obs[n - nx]? = some ob := ⟨_, List.getElem?_eq_getElem (show n - nx < obs.length by omega)⟩
    obtain ⟨ob', g1, g2⟩ := renOs_get ho hob
    have hg : (layA ⟨tc, [], 0⟩ nxc obs).get (nxc + (n - nx)) = some ob := by
      rw [hgetC, if_neg (by omega), show nxc + (n - nx) - nxc = n - nx by omega]; exact hob
    obtain ⟨k, r, q1, q2, q3⟩ := J.rel.obj _ _ hg
    refine ⟨ob, ob', k, r, hob, g1, g2, by rw [hm2 n h1 h2]; exact q1, q2, (renO_iff hlk g2 _ _).1 q3, ?_⟩
    rcases J.new _ k (Nat.le_add_right _ _) q1 with h | h
    · exact h
    · exact (hno h).elim
  refine ⟨v', m', rfl, ⟨hle, fun n k hn => ?_, ⟨?_, ?_⟩, fun b hb _ => hfr b hb, J.os, J.tape, J.output, J.size⟩, (ren_iff hlk _ _ hv _).1 hv'⟩
  · rcases Nat.lt_or_ge n nx with h1 | h1
    · rw [hm1 n h1] at hn; exact .inl hn
    · rcases Nat.lt_or_ge n (nx + obs.length) with h2 | h2
      · obtain ⟨_, _, k', _, _, _, _, g4, _, _, g7⟩ := hnew n h1 h2
        rw [hn] at g4; cases g4
        exact .inr ⟨h1, h2, .inl g7⟩
      · rw [hm3 n h2] at hn; exact .inl hn
  · intro n ob hn
    rw [hgetA] at hn
    split at hn
    · rename_i h1
      obtain ⟨k, o, g1, g2, g3⟩ := hR.obj n ob hn
      exact ⟨k, o, by rw [hm1 n h1]; exact g1, (hfr k.b (hR.lt hn g1)).trans g2, g3.mono hle⟩
    · rename_i h1
      have h2 : n - nx < obs'.length := (List.getElem?_eq_some_iff.1 hn).1
      obtain ⟨_, ob', k, r, _, g2, _, g4, g5, g6, _⟩ := hnew n (by omega) (by omega)
      rw [hn] at g2; cases g2
      exact ⟨k, r, g4, g5, g6⟩
  · intro i j oi oj ki kj gi gj mi mj hw hb
    have side : ∀ {n : Nat} {o : AObj} {k : Blk}, (layA H nx obs').get n = some o → m' n = some k → (n < nx ∧ H.get n = some o ∧ m n = some k ∧ k.b < W.heap.size) ∨
        (nx ≤ n ∧ n < nx + obs.length ∧ W.heap.size ≤ k.b ∧ ∃ ob, (layA ⟨tc, [], 0⟩ nxc obs).get (nxc + (n - nx)) = some ob ∧ mc' (nxc + (n - nx)) = some k ∧ renO σ ob = some o) := by
      intro n o k hn hk
      rw [hgetA] at hn
      split at hn
      · rename_i h1
        rw [hm1 n h1] at hk
        exact .inl ⟨h1, hn, hk, hR.lt hn hk⟩
      · rename_i h1
        have h2 : n - nx < obs'.length := (List.getElem?_eq_some_iff.1 hn).1
        obtain ⟨ob, ob', k', r, g1, g2, g3, g4, _, _, g7⟩ := hnew n (by omega) (by omega)
        rw [hn] at g2; cases g2
        rw [hk] at g4; cases g4
        refine .inr ⟨by omega, by omega, g7, ob, ?_, ?_, g3⟩
        · rw [hgetC, if_neg (by omega), show nxc + (n - nx) - nxc = n - nx by omega]; exact g1
        · rw [← hm2 n (by omega) (by omega)]; exact hk
    rcases side gi mi with ⟨_, a1, a2, a3⟩ | ⟨a0, _, a1, ob1, a2, a3, a4⟩ <;> rcases side gj mj with ⟨_, b1, b2, b3⟩ | ⟨b0, _, b1, ob2, b2, b3, b4⟩
    · exact hR.inj i j oi oj ki kj a1 b1 a2 b2 hw hb
    · rw [hb] at a3; omega
    · rw [hb] at a1; omega
    · have := (J.rel.inj _ _ ob1 ob2 ki kj a2 b2 a3 b3 (by rw [← renO_writable a4]; exact hw) hb).eq (renO_solo a4).1
      exact .inl (by omega)
end
def idxN : List Nat → Nat → Option Nat
  | [], _ => none
  | a :: l, n => cond (Nat.beq a n) (some 0) (match idxN l n with
    | some i => some (i + 1)
    | none => none)
theorem idxN_get : ∀ {l : List Nat} {n i : Nat}, idxN l n = some i → l[i]? = some n
  | [], _, _, h => by cases h
  | a :: l, n, i, h => by
    simp only [idxN] at h
    cases hb : Nat.beq a n <;> rw [hb] at h
    · rw [cond_false] at h
      split at h <;> cases h
      rename_i j hj
      simpa using idxN_get hj
    · cases h
      rw [Nat.eq_of_beq_eq_true hb]; rfl
def sgO (q : Nat) (olds : List Nat) : Sg := fun n => cond (n.blt q) (some (n, 0)) (match idxN olds n with
  | some i => some (q + i, 0)
  | none => none)
theorem nodup_get : ∀ {l : List Nat} {i j a : Nat}, l.Nodup → l[i]? = some a → l[j]? = some a → i = j
  | [], i, j, a, _, h, _ => by simp at h
  | b :: l, i, j, a, hn, h, k => by
    obtain ⟨h1, h2⟩ := List.nodup_cons.1 hn
    cases i with
    | zero =>
      cases j with
      | zero => rfl
      | succ j =>
        simp only [List.getElem?_cons_zero, List.getElem?_cons_succ, Option.some.injEq] at h k
        exact (h1 (h ▸ List.mem_of_getElem? k)).elim
    | succ i =>
      cases j with
      | zero =>
        simp only [List.getElem?_cons_zero, List.getElem?_cons_succ, Option.some.injEq] at h k
        exact (h1 (k ▸ List.mem_of_getElem? h)).elim
      | succ j =>
        simp only [List.getElem?_cons_succ] at h k
        rw [nodup_get h2 h k]
def Cano (q : Nat) (v : AV) (H : Hp) (v0 : AV) (obs : List AObj) : Prop := ∃ olds : List Nat, olds.Nodup ∧ (∀ o ∈ olds, q ≤ o) ∧ olds.length = obs.length ∧ ren (sgO q olds) v = some v0 ∧
  ∀ (i o : Nat), olds[i]? = some o → ∃ ob ob' : AObj, H.get o = some ob ∧ obs[i]? = some ob' ∧ renO (sgO q olds) ob = some ob'
section
variable {P : Program}
theorem call_canon {f : FuncId} {args : List AV} {t : Tr AObj} {nx : Nat} {v0 : AV} {obs : List AObj} (hc : CallH P f args ⟨t, [], 0⟩ nx (fun v H' _ => Cano nx v H' v0 obs)) (hro : (t.allB fun o => !o.writable) = true) (hcs : AllCells obs) :
    CallH P f args ⟨t, [], 0⟩ nx (fun v H' nx' => v = v0 ∧ H' = layA ⟨t, [], 0⟩ nx obs ∧ nx' = nx + obs.length) := by
  intro hW
  obtain ⟨hb, h⟩ := hc hW
  refine ⟨hb, fun m W xs hxs hR ht => (h m W xs hxs hR ht).mono ?_⟩
  rintro e W' ⟨v, v', H', nx', m', rfl, J, hv', ⟨olds, hnd, hge, hlen, hrv, hob⟩⟩
  have hno : ∀ {w b : Nat}, ¬ Owns m ⟨t, [], 0⟩ w b := by
    rintro w b ⟨i, oi, ki, _, hg, hw, _⟩
    rw [hget] at hg
    have := Tr.allB_get hro hg
    simp only [Bool.not_eq_true'] at this
    rw [hw] at this; cases this
  have hfr : ∀ b, b < W.heap.size → W'.heap[b]? = W.heap[b]? := fun b hb => J.frame b hb hno
  have hgetA : ∀ n, (layA ⟨t, [], 0⟩ nx obs).get n = if n < nx then (⟨t, [], 0⟩ : Hp).get n else obs[n - nx]? := fun n => layA_get hW n
  let m2 : NM := fun n => if n < nx then m n else match olds[n - nx]? with
    | some o => m' o
    | none => none
  have hm1 : ∀ n, n < nx → m2 n = m n := fun n hn => by simp only [m2, if_pos hn]
  have hm2 : ∀ n o, nx ≤ n → olds[n - nx]? = some o → m2 n = m' o := fun n o h1 h2 => by simp only [m2, if_neg (Nat.not_lt.2 h1), h2]
  have hlk : Lk (sgO nx olds) m' m2 := fun n p o hs => by
    simp only [sgO, Bool.cond_eq_ite, Nat.blt_eq] at hs
    split at hs
    · rename_i hn
      cases hs
      rw [J.eq n hn, hm1 n hn]
      show m n = _
      cases m n <;> rfl
    · split at hs <;> cases hs
      rename_i i hi
      rw [hm2 _ n (by omega) (by rw [show nx + i - nx = i by omega]; exact idxN_get hi)]
      cases m' n <;> rfl
  have side : ∀ {n : Nat} {o : AObj}, (layA ⟨t, [], 0⟩ nx obs).get n = some o → (n < nx ∧ (⟨t, [], 0⟩ : Hp).get n = some o) ∨
      (nx ≤ n ∧ ∃ old ob, olds[n - nx]? = some old ∧ H'.get old = some ob ∧ renO (sgO nx olds) ob = some o ∧ m2 n = m' old ∧ nx ≤ old) := by
    intro n o hn
    rw [hgetA] at hn
    split at hn
    · rename_i h1; exact .inl ⟨h1, hn⟩
    · rename_i h1
      have h2 : n - nx < obs.length := (List.getElem?_eq_some_iff.1 hn).1
      obtain ⟨old, hold⟩ : ∃ old, olds[n - nx]? = some old := ⟨_, List.getElem?_eq_getElem (show n - nx < olds.length by omega)⟩
      obtain ⟨ob, ob', g1, g2, g3⟩ := hob _ _ hold
      rw [hn] at g2; cases g2
      exact .inr ⟨by omega, old, ob, hold, g1, g3, hm2 n old (by omega) hold, hge old (List.mem_of_getElem? hold)⟩
  have hnw : ∀ {old : Nat} {k : Blk}, nx ≤ old → m' old = some k → W.heap.size ≤ k.b := fun h1 h2 => by
    rcases J.new _ _ h1 h2 with h | h
    · exact h
    · exact (hno h).elim
  refine ⟨v0, v', _, _, m2, rfl, ?_, (ren_iff hlk _ _ hrv _).1 hv', rfl, rfl, rfl⟩
  exact {
    erel := hR
    eq := fun n h1 => hm1 n h1
    new := fun n k h1 h2 => by
      simp only [m2, if_neg (Nat.not_lt.2 h1)] at h2
      split at h2
      · rename_i o ho
        exact .inl (hnw (hge o (List.mem_of_getElem? ho)) h2)
      · cases h2
    top := fun n h1 => by
      simp only [m2, if_neg (show ¬ n < nx by omega)]
      rw [List.getElem?_eq_none (by omega)]
    rel := by
      constructor
      · intro n ob hn
        rcases side hn with ⟨h1, h2⟩ | ⟨h1, old, ob0, h2, h3, h4, h5, h6⟩
        · obtain ⟨k, o, g1, g2, g3⟩ := hR.obj n ob h2
          have hle : Le m m2 := fun n k hn => by
            rcases Nat.lt_or_ge n nx with h1 | h1
            · rw [hm1 n h1]; exact hn
            · rw [ht n h1] at hn; cases hn
          exact ⟨k, o, by rw [hm1 n h1]; exact g1, (hfr k.b (hR.lt h2 g1)).trans g2, g3.mono hle⟩
        · obtain ⟨k, r, q1, q2, q3⟩ := J.rel.obj old ob0 h3
          exact ⟨k, r, h5.trans q1, q2, (renO_iff hlk h4 _ _).1 q3⟩
      · intro i j oi oj ki kj gi gj mi mj hw hb
        rcases side gi with ⟨a0, a1⟩ | ⟨a0, o1, ob1, a1, a2, a3, a4, a5⟩ <;> rcases side gj with ⟨b0, b1⟩ | ⟨b0, o2, ob2, b1, b2, b3, b4, b5⟩
        · rw [hm1 i a0] at mi
          rw [hm1 j b0] at mj
          exact hR.inj i j oi oj ki kj a1 b1 mi mj hw hb
        · rw [hm1 i a0] at mi
          have := hR.lt a1 mi
          have := hnw b5 (b4.symm.trans mj)
          rw [hb] at *; omega
        · rw [hm1 j b0] at mj
          have := hR.lt b1 mj
          have := hnw a5 (a4.symm.trans mi)
          rw [hb] at *; omega
        · have e := (J.rel.inj o1 o2 ob1 ob2 ki kj a2 b2 (a4.symm.trans mi) (b4.symm.trans mj) (by rw [← renO_writable a3]; exact hw) hb).eq (renO_solo a3).1
          subst e
          have := nodup_get hnd a1 b1
          exact .inl (by omega)
    frame := fun b hb _ => hfr b hb
    os := J.os
    tape := J.tape
    output := J.output
    size := J.size
    ap := layA_ap hW hcs }
end
end Abs
end Go.Proofs.YtnnamdcpmbhboaaGreat

namespace Go.Proofs.YtnnamdcpmbhboaaGreat
namespace Abs
namespace Sx
open Go.RowKit
def memN (n : Nat) : List Nat → Bool
  | [] => false
  | a :: l => cond (Nat.beq a n) true (memN n l)
def nodB : List Nat → Bool
  | [] => true
  | a :: l => cond (memN a l) false (nodB l)
theorem memN_iff {n : Nat} : ∀ {l : List Nat}, memN n l = true ↔ n ∈ l
  | [] => by simp [memN]
  | a :: l => by
    simp only [memN, Bool.cond_eq_ite, List.mem_cons]
    cases hb : Nat.beq a n with
    | true => simp [(Nat.eq_of_beq_eq_true hb).symm]
    | false =>
      have : n ≠ a := fun e => by rw [e, Nat.beq_refl] at hb; cases hb
      simp [memN_iff (l := l), this]
theorem nodB_ok : ∀ {l : List Nat}, nodB l = true → l.Nodup
  | [], _ => List.nodup_nil
  | a :: l, h => by
    simp only [nodB] at h
    cases hb : memN a l <;> rw [hb] at h
    · exact List.nodup_cons.2 ⟨fun hm => (by rw [memN_iff.2 hm] at hb; cases hb), nodB_ok h⟩
    · cases h
mutual
/-- A value in new names. -/
def SV.rn (q : Nat) (olds : List Nat) : SV → Option SV
  | .slice n oc eo len cap esz ex => match sgO q olds n with
    | some (p, _) => some (.slice p oc eo len cap esz ex)
    | none => none
  | .agg cs => match SV.rns q olds cs with
    | some cs' => some (.agg cs')
    | none => none
  | .tuple cs => match SV.rns q olds cs with
    | some cs' => some (.tuple cs')
    | none => none
  | .int k x => some (.int k x)
  | .bool x => some (.bool x)
  | .str s => some (.str s)
  | .nilp => some .nilp
  | .nils => some .nils
  | .nilm => some .nilm
  | .nilf => some .nilf
  | .nili => some .nili
  | _ => none
def SV.rns (q : Nat) (olds : List Nat) : List SV → Option (List SV)
  | [] => some []
  | a :: l => match SV.rn q olds a, SV.rns q olds l with
    | some b, some l' => some (b :: l')
    | _, _ => none
end
def SO.rn (q : Nat) (olds : List Nat) : SO → Option SO
  | .cells w cs => match SV.rns q olds cs with
    | some cs' => some (.cells w cs')
    | none => none
  | .row w len a cm => some (.row w len a cm)
  | _ => none
mutual
/-- The names from q on that a value has, each once. -/
def SV.nms (q : Nat) : SV → List Nat → List Nat
  | .slice n _ _ _ _ _ _, l => cond (n.blt q) l (cond (memN n l) l (l ++ [n]))
  | .agg cs, l => SV.nmss q cs l
  | .tuple cs, l => SV.nmss q cs l
  | _, l => l
def SV.nmss (q : Nat) : List SV → List Nat → List Nat
  | [], l => l
  | v :: vs, l => SV.nmss q vs (SV.nms q v l)
end
def closeN (q : Nat) (H : SH) : Nat → List Nat → List Nat → List Nat
  | 0, _, l => l
  | _ + 1, [], l => l
  | f + 1, n :: td, l => match H.get n with
    | some (.cells _ cs) => closeN q H f (td ++ (SV.nmss q cs l).drop l.length) (SV.nmss q cs l)
    | _ => closeN q H f td l
def rnObs (q : Nat) (olds : List Nat) (H : SH) : List Nat → Option (List SO)
  | [] => some []
  | n :: l => match H.get n with
    | some o => match SO.rn q olds o, rnObs q olds H l with
      | some o', some l' => some (o' :: l')
      | _, _ => none
    | none => none
def canW (q : Nat) (v : SV) (H : SH) (olds : List Nat) : OT (SV × List SO) := cond (nodB olds) (cond (olds.all fun o => q.ble o) (match SV.rn q olds v, rnObs q olds H olds with
  | some w, some os => .leaf (w, os)
  | _, _ => .no) .no) .no
def canS (q : Nat) (v : SV) (H : SH) : OT (SV × List SO) := canW q v H (closeN q H 200 (SV.nms q v []) (SV.nms q v []))
def canR (q : Nat) : SRes × List X → OT (SV × List SO)
  | (.call v H _, _) => canS q v H
  | _ => .no
def SO.ins (xs : List X) (ns : List Nat) : SO → SO
  | .cells w cs => .cells w (SV.inss xs ns cs)
  | .row w len a cm => .row w (len.ins xs) (a.ins xs) cm
  | o => o
def SO.okN (k : Nat) : SO → Bool
  | .cells _ cs => SV.okNs k cs
  | .row _ _ _ _ => true
  | _ => false
def SO.okNs (k : Nat) : List SO → Bool
  | [] => true
  | o :: l => cond (SO.okN k o) (SO.okNs k l) false
def SO.inss (xs : List X) (ns : List Nat) : List SO → List SO
  | [] => []
  | o :: l => SO.ins xs ns o :: SO.inss xs ns l
def SO.dens (ρ : Val) : List SO → List AObj
  | [] => []
  | o :: l => o.den ρ :: SO.dens ρ l
def layS : SH → Nat → List SO → SH
  | H, _, [] => H
  | H, nx, o :: l => layS (H.lay nx o) (nx + 1) l
def insN (R : Rgs) (xs : List X) (ns : List Nat) (H : SH) (nx : Nat) : List X → OT (SV × List SO) → OT (SRes × List X)
  | _, .no => .no
  | fs, .leaf (v, os) => cond (v.okN (ns.length + os.length)) (cond (SO.okNs (ns.length + os.length) os)
      (.leaf (.call (v.ins xs (ns ++ upTo nx os.length)) (layS H nx (SO.inss xs (ns ++ upTo nx os.length) os)) (nx + os.length), fs)) .no) .no
  | fs, .ask b t f => match X.dec R fs (b.ins xs) with
    | some true => insN R xs ns H nx fs t
    | some false => insN R xs ns H nx fs f
    | none => .ask (b.ins xs) (insN R xs ns H nx (X.nrm (b.ins xs) true ++ fs) t) (insN R xs ns H nx (X.nrm (b.ins xs) false ++ fs) f)
  | fs, .need l t => needT (ndA R fs xs l) (insN R xs ns H nx (ndA R fs xs l ++ fs) t)
structure PrN where
  g : FuncId
  sh : List Sh
  pre : List X
  out : List Bool → OT (SV × List SO)
def Pr.toN (p : Pr) : PrN := ⟨p.g, p.sh, p.pre, fun es => (p.out es).map fun v => (v, [])⟩
def PrN.run (R : Rgs) (p : PrN) (fs : List X) (args : List SV) (H : SH) (nx : Nat) : OT (SRes × List X) := match flSs R fs H p.sh args with
  | some (xs, ns, es) => needT (ndA R fs xs p.pre) (insN R xs ns H nx (ndA R fs xs p.pre ++ fs) (p.out es))
  | none => .no
def findN : List PrN → FuncId → Option PrN
  | [], _ => none
  | p :: l, g => cond (Nat.beq p.g g) (some p) (findN l g)
def selN (R : Rgs) (fs : List X) (H : SH) (args : List SV) (g : FuncId) : List PrN → Option PrN
  | [] => none
  | p :: l => cond (Nat.beq p.g g) (match flSs R fs H p.sh args with
    | some _ => some p
    | none => match selN R fs H args g l with
      | some q => cond (apart p.sh q.sh) (some q) none
      | none => none) (selN R fs H args g l)
def ksN (R : Rgs) (l : List PrN) : Ctrs := fun g => match findN l g with
  | some _ => some (fun fs args H nx => match selN R fs H args g l with
    | some p => p.run R fs args H nx
    | none => .no)
  | none => none
def PrN.SE (fn : Nat → List Int → Int) (p : PrN) (es : List Bool) (a : List AV) (H : Hp) (nx : Nat) (r : Res) : Prop := ∃ xs ns w os v os', FlRs (valX fn []) H p.sh a xs ns es ∧ AllB (valX fn xs) p.pre ∧ OT.sem (valX fn xs) (p.out es) = some (w, os) ∧
  w.okN (ns.length + os.length) = true ∧ SO.okNs (ns.length + os.length) os = true ∧ ren (sg (LL (ns ++ upTo nx os.length))) (w.den (valX fn xs)) = some v ∧ renOs (sg (LL (ns ++ upTo nx os.length))) (SO.dens (valX fn xs) os) = some os' ∧ r = .call v (layA H nx os') (nx + os.length)
def PrN.S (fn : Nat → List Int → Int) (p : PrN) (a : List AV) (H : Hp) (nx : Nat) (r : Res) : Prop := ∃ es, p.SE fn es a H nx r
def PrN.OkE (P : Program) (fn : Nat → List Int → Int) (p : PrN) (es : List Bool) : Prop := ∀ a H nx r, p.SE fn es a H nx r → TaskOk P (.call p.g a H nx) r
def PrN.Ok (P : Program) (fn : Nat → List Int → Int) (p : PrN) : Prop := ∀ a H nx r, p.S fn a H nx r → TaskOk P (.call p.g a H nx) r
def OT.isN (ρ : Val) (v : AV) (os : List AObj) : OT (SV × List SO) → Prop
  | .no => False
  | .leaf w => v = w.1.den ρ ∧ os = SO.dens ρ w.2
  | .ask b t f => (b.denB ρ = true → OT.isN ρ v os t) ∧ (b.denB ρ = false → OT.isN ρ v os f)
  | .need l t => AllB ρ l ∧ OT.isN ρ v os t
def PrNsOk (P : Program) (fn : Nat → List Int → Int) : List PrN → Prop
  | [] => True
  | p :: l => p.Ok P fn ∧ PrNsOk P fn l
section
variable {P : Program} {ρ : Val} {R : Rgs} {fs : List X} {fn : Nat → List Int → Int}
theorem OT.isN_sem {v : AV} {os : List AObj} : ∀ {t : OT (SV × List SO)}, OT.isN ρ v os t → ∃ w l, OT.sem ρ t = some (w, l) ∧ v = w.den ρ ∧ os = SO.dens ρ l
  | .no, h => h.elim
  | .leaf w, h => ⟨w.1, w.2, rfl, h⟩
  | .ask b t f, h => by
    simp only [OT.sem]
    cases hb : b.denB ρ with
    | true => exact OT.isN_sem (h.1 hb)
    | false => exact OT.isN_sem (h.2 hb)
  | .need l t, h => by
    simp only [OT.sem, if_pos (allB_fcs h.1)]
    exact OT.isN_sem h.2
mutual
theorem SV.rn_ren {q : Nat} {olds : List Nat} : ∀ {v w : SV}, SV.rn q olds v = some w → ren (sgO q olds) (v.den ρ) = some (w.den ρ) := by
  intro v w h
  cases v <;> simp only [SV.rn] at h <;> try (cases h; done)
  case slice n oc eo len cap esz ex =>
    split at h <;> cases h
    rename_i p o hs
    have ho : o = 0 := by
      simp only [sgO, Bool.cond_eq_ite] at hs
      split at hs
      · cases hs; rfl
      · split at hs <;> cases hs; rfl
    subst ho
    simp only [SV.den, ren, hs, Nat.zero_add, show Nat.beq 0 0 = true from rfl, Bool.true_or, cond_true]
  case agg cs =>
    split at h <;> cases h
    rename_i cs' hc
    simp only [SV.den, ren, SV.rns_ren hc]
  case tuple cs =>
    split at h <;> cases h
    rename_i cs' hc
    simp only [SV.den, ren, SV.rns_ren hc]
  all_goals (cases h; rfl)
theorem SV.rns_ren {q : Nat} {olds : List Nat} : ∀ {v w : List SV}, SV.rns q olds v = some w → renL (sgO q olds) (SV.dens ρ v) = some (SV.dens ρ w) := by
  intro v w h
  cases v with
  | nil => cases h; rfl
  | cons a l =>
    simp only [SV.rns] at h
    split at h <;> cases h
    rename_i h1 h2
    simp only [SV.dens, renL, SV.rn_ren h1, SV.rns_ren h2]
end
theorem SO.rn_ren {q : Nat} {olds : List Nat} {o o' : SO} (h : SO.rn q olds o = some o') : renO (sgO q olds) (o.den ρ) = some (o'.den ρ) := by
  cases o <;> simp only [SO.rn] at h <;> try (cases h; done)
  case cells w cs =>
    split at h <;> cases h
    rename_i cs' hc
    simp only [SO.den, renO, SV.rns_ren hc]
  case row w len a cm =>
    cases h
    simp only [SO.den, renO, renL_plain (rowD_plain _ _)]
theorem SO.rn_cells {q : Nat} {olds : List Nat} {o o' : SO} (h : SO.rn q olds o = some o') : ∃ w cs, o'.den ρ = .cells w cs := by
  cases o <;> simp only [SO.rn] at h <;> try (cases h; done)
  case cells w cs =>
    split at h <;> cases h
    exact ⟨_, _, rfl⟩
  case row w len a cm =>
    cases h
    exact ⟨_, _, rfl⟩
theorem rnObs_ok {q : Nat} {olds : List Nat} {H : SH} : ∀ {l : List Nat} {os : List SO}, rnObs q olds H l = some os → l.length = (SO.dens ρ os).length ∧ AllCells (SO.dens ρ os) ∧
    ∀ (i o : Nat), l[i]? = some o → ∃ ob ob' : AObj, (hD ρ H).get o = some ob ∧ (SO.dens ρ os)[i]? = some ob' ∧ renO (sgO q olds) ob = some ob'
  | [], os, h => by
    cases h
    exact ⟨rfl, (fun o ho => by cases ho), (fun i o hi => by simp at hi)⟩
  | n :: l, os, h => by
    simp only [rnObs] at h
    split at h <;> try (cases h; done)
    rename_i ob hg
    split at h <;> cases h
    rename_i o' l' h1 h2
    obtain ⟨k1, k2, k3⟩ := rnObs_ok h2
    refine ⟨by simp only [SO.dens, List.length_cons, k1], fun o ho => ?_, fun i o hi => ?_⟩
    · simp only [SO.dens] at ho
      rcases List.mem_cons.1 ho with rfl | ho
      · exact SO.rn_cells h1
      · exact k2 o ho
    · cases i with
      | zero =>
        simp only [List.getElem?_cons_zero, Option.some.injEq] at hi
        subst hi
        exact ⟨_, _, by rw [hD_get, hg]; rfl, rfl, SO.rn_ren h1⟩
      | succ i => simp only [List.getElem?_cons_succ, SO.dens] at hi ⊢; exact k3 i o hi
theorem canW_ok {q : Nat} {v : SV} {H : SH} {olds : List Nat} {x : SV × List SO} (h : OT.sem ρ (canW q v H olds) = some x) : Cano q (v.den ρ) (hD ρ H) (x.1.den ρ) (SO.dens ρ x.2) ∧ AllCells (SO.dens ρ x.2) := by
  unfold canW at h
  cases h1 : nodB olds <;> rw [h1] at h <;> simp only [cond_true, cond_false] at h
  · cases h
  cases h2 : (olds.all fun o => q.ble o) <;> rw [h2] at h <;> simp only [cond_true, cond_false] at h
  · cases h
  split at h
  · rename_i w os g1 g2
    have := leaf_some h
    subst this
    obtain ⟨k1, k2, k3⟩ := rnObs_ok (ρ := ρ) g2
    refine ⟨⟨olds, nodB_ok h1, fun o ho => ?_, k1, SV.rn_ren g1, k3⟩, k2⟩
    rw [List.all_eq_true] at h2
    exact Nat.le_of_ble_eq_true (h2 o ho)
  · cases h
theorem SO.ins_ren (xs : List X) (ns : List Nat) (o : SO) (h : o.okN ns.length = true) : renO (sg (LL ns)) (o.den (valX ρ.fn (denX ρ xs))) = some ((o.ins xs ns).den ρ) := by
  cases o <;> simp only [SO.okN] at h <;> try (cases h; done)
  case cells w cs => simp only [SO.den, SO.ins, renO, SV.inss_ren xs ns cs h]
  case row w len a cm =>
    simp only [SO.den, SO.ins, renO, renL_plain (rowD_plain _ _), ins_den, ins_sem]
    rw [rowD_fn (ρ := ρ) (ρ' := valX ρ.fn (denX ρ xs)) rfl]
theorem SO.inss_ren (xs : List X) (ns : List Nat) : ∀ (l : List SO), SO.okNs ns.length l = true → renOs (sg (LL ns)) (SO.dens (valX ρ.fn (denX ρ xs)) l) = some (SO.dens ρ (SO.inss xs ns l))
  | [], _ => rfl
  | o :: l, h => by
    simp only [SO.okNs] at h
    obtain ⟨h1, h2⟩ := cond_true_false h
    simp only [SO.inss, SO.dens, renOs, SO.ins_ren xs ns o h1, SO.inss_ren xs ns l h2]
theorem SO.okN_cells {k : Nat} : ∀ {l : List SO}, SO.okNs k l = true → AllCells (SO.dens ρ l)
  | [], _ => fun o ho => by cases ho
  | o :: l, h => by
    simp only [SO.okNs] at h
    obtain ⟨h1, h2⟩ := cond_true_false h
    intro x hx
    simp only [SO.dens] at hx
    rcases List.mem_cons.1 hx with rfl | hx
    · cases o <;> simp only [SO.okN] at h1 <;> first | exact ⟨_, _, rfl⟩ | cases h1
    · exact SO.okN_cells h2 x hx
theorem layS_den : ∀ {l : List SO} {H : SH} {nx : Nat}, layA (hD ρ H) nx (SO.dens ρ l) = hD ρ (layS H nx l)
  | [], _, _ => rfl
  | o :: l, H, nx => by
    simp only [SO.dens, layA, layS, hD_lay]
    exact layS_den
theorem dens_len (l : List SO) : (SO.dens ρ l).length = l.length := by
  induction l with
  | nil => rfl
  | cons o l ih => simp only [SO.dens, List.length_cons, ih]
theorem upTo_length : ∀ (a n : Nat), (upTo a n).length = n
  | _, 0 => rfl
  | a, n + 1 => by simp only [upTo, List.length_cons, upTo_length]
theorem insN_ok (hR : R.ok ρ) {xs : List X} {ns : List Nat} {H : SH} {nx : Nat} : ∀ {t : OT (SV × List SO)} {fs : List X} {x : SRes × List X}, Fcs ρ fs → OT.sem ρ (insN R xs ns H nx fs t) = some x →
    ∃ w os v os', OT.sem (valX ρ.fn (denX ρ xs)) t = some (w, os) ∧ w.okN (ns.length + os.length) = true ∧ SO.okNs (ns.length + os.length) os = true ∧ ren (sg (LL (ns ++ upTo nx os.length))) (w.den (valX ρ.fn (denX ρ xs))) = some v ∧
      renOs (sg (LL (ns ++ upTo nx os.length))) (SO.dens (valX ρ.fn (denX ρ xs)) os) = some os' ∧ rD ρ x.1 = .call v (layA (hD ρ H) nx os') (nx + os.length) ∧ Fcs ρ x.2
  | .no, _, _, _, h => by cases h
  | .leaf (v, os), fs, x, hf, h => by
    simp only [insN] at h
    cases hb : v.okN (ns.length + os.length) <;> rw [hb] at h <;> simp only [cond_true, cond_false] at h
    · cases h
    cases hc : SO.okNs (ns.length + os.length) os <;> rw [hc] at h <;> simp only [cond_true, cond_false] at h
    · cases h
    have := leaf_some h
    subst this
    have hl : (ns ++ upTo nx os.length).length = ns.length + os.length := by rw [List.length_append, upTo_length]
    have h1 := SV.ins_ren (ρ := ρ) xs _ v (by rw [hl]; exact hb)
    have h2 := SO.inss_ren (ρ := ρ) xs (ns ++ upTo nx os.length) os (by rw [hl]; exact hc)
    refine ⟨v, os, _, _, rfl, hb, hc, h1, h2, ?_, hf⟩
    simp only [rD, layS_den]
  | .ask b t f, fs, x, hf, h => by
    simp only [insN] at h
    simp only [OT.sem, ← ins_denB]
    split at h
    · rename_i e; rw [X.dec_ok hR hf _ e]; exact insN_ok hR hf h
    · rename_i e; rw [X.dec_ok hR hf _ e]; exact insN_ok hR hf h
    · simp only [OT.sem] at h
      cases hb : (b.ins xs).denB ρ with
      | true => rw [hb] at h; exact insN_ok hR (.append (X.nrm_ok _ hb) hf) h
      | false => rw [hb] at h; exact insN_ok hR (.append (X.nrm_ok _ hb) hf) h
  | .need l t, fs, x, hf, h => by
    simp only [insN] at h
    obtain ⟨h1, h2⟩ := needT_some h
    obtain ⟨w, os, v, os', g1, g2⟩ := insN_ok hR (h1.append hf) h2
    refine ⟨w, os, v, os', ?_, g2⟩
    simp only [OT.sem, if_pos (allB_fcs (ndA_ok hR hf h1)), g1]
theorem PrN.S_uniq {p : PrN} {a : List AV} {H : Hp} {nx : Nat} {r r' : Res} (h : p.S fn a H nx r) (k : p.S fn a H nx r') : r = r' := by
  obtain ⟨es, xs, ns, w, os, v, os1, h1, h2, h3, _, h4, h5, h6, rfl⟩ := h
  obtain ⟨ds, ys, ms, w', os', v', os1', k1, k2, k3, _, k4, k5, k6, rfl⟩ := k
  obtain ⟨rfl, rfl, rfl⟩ := FlRs_uniq h1 k1
  rw [h3] at k3
  cases k3
  rw [h5] at k5
  cases k5
  rw [h6] at k6
  cases k6
  rfl
def SelNQ (g : FuncId) : List PrN → PrN → Prop
  | [], _ => False
  | p :: l, q => (p.g = g ∧ q = p) ∨ ((p.g = g → apart p.sh q.sh = true) ∧ SelNQ g l q)
theorem selNQ_ok : ∀ {l : List PrN} {g : FuncId} {q : PrN}, PrNsOk P fn l → SelNQ g l q → q.g = g ∧ q.Ok P fn
  | [], _, _, _, h => h.elim
  | p :: l, g, q, hl, h => by
    rcases h with ⟨h1, rfl⟩ | ⟨_, h⟩
    · exact ⟨h1, hl.1⟩
    · exact selNQ_ok hl.2 h
theorem selNQ_uniq {a : List AV} {H : Hp} {nx : Nat} {v w : Res} : ∀ {l : List PrN} {g : FuncId} {q r : PrN}, SelNQ g l q → SelNQ g l r → q.S fn a H nx v → r.S fn a H nx w → v = w
  | [], _, _, _, h, _, _, _ => h.elim
  | p :: l, g, q, r, h, k, hs, ks => by
    have no : ∀ {p q : PrN} {v w : Res}, apart p.sh q.sh = true → p.S fn a H nx v → q.S fn a H nx w → False := fun h hs ks => by
      obtain ⟨_, _, _, _, _, _, _, h1, _⟩ := hs
      obtain ⟨_, _, _, _, _, _, _, k1, _⟩ := ks
      exact apart_not h h1 k1
    rcases h with ⟨h1, rfl⟩ | ⟨h1, h⟩ <;> rcases k with ⟨k1, rfl⟩ | ⟨k1, k⟩
    · exact PrN.S_uniq hs ks
    · exact (no (k1 h1) hs ks).elim
    · exact (no (h1 k1) ks hs).elim
    · exact selNQ_uniq h k hs ks
theorem selN_sel {R : Rgs} {fs : List X} {H : SH} {args : List SV} {g : FuncId} : ∀ {l : List PrN} {q : PrN}, selN R fs H args g l = some q → SelNQ g l q
  | [], _, h => by cases h
  | p :: l, q, h => by
    simp only [selN] at h
    cases hb : Nat.beq p.g g <;> rw [hb] at h
    · rw [cond_false] at h
      exact .inr ⟨fun e => (by rw [e, Nat.beq_refl] at hb; cases hb), selN_sel h⟩
    · rw [cond_true] at h
      have hg := Nat.eq_of_beq_eq_true hb
      split at h
      · cases h; exact .inl ⟨hg, rfl⟩
      · split at h <;> try (cases h; done)
        rename_i r hr
        cases ha : apart p.sh r.sh <;> rw [ha] at h <;> cases h
        exact .inr ⟨fun _ => ha, selN_sel hr⟩
def ctsN (l : List PrN) (hl : PrNsOk P fn l) : Cts P where
  C g a H nx r := ∃ p, SelNQ g l p ∧ p.S fn a H nx r
  uniq g a H nx r r' h k := by
    obtain ⟨p, h1, h2⟩ := h
    obtain ⟨q, k1, k2⟩ := k
    exact selNQ_uniq h1 k1 h2 k2
  ok g a H nx r h := by
    obtain ⟨p, h1, h2⟩ := h
    obtain ⟨e, hok⟩ := selNQ_ok hl h1
    have := hok a H nx r h2
    rw [e] at this
    exact this
theorem ctsN_has (l : List PrN) (hl : PrNsOk P fn l) (hfn : ρ.fn = fn) (hR : R.ok ρ) : (ctsN l hl).has ρ (ksN R l) := by
  refine ⟨fun g k fs args H nx r fs' hk hf h => ?_⟩
  unfold ksN at hk
  split at hk <;> cases hk
  dsimp only at h
  split at h
  case h_2 => cases h
  rename_i p hp
  unfold PrN.run at h
  split at h <;> try (cases h; done)
  rename_i xs ns es hfl
  obtain ⟨h1, h2⟩ := needT_some h
  obtain ⟨w, os, v, os', g1, g0, g2, g3, g4, g5, g6⟩ := insN_ok hR (h1.append hf) h2
  have e1 := flSs_ok (ρ := ρ) hR hf hfl
  have e2 := ndA_ok hR hf h1
  rw [hfn] at e1 e2 g1 g3 g4
  exact ⟨⟨p, selN_sel hp, es, denX ρ xs, ns, w, os, v, os', e1, e2, g1, g0, g2, g3, g4, g5⟩, g6⟩
theorem sg_app {ns : List Nat} {nx k n : Nat} : sg (LL (ns ++ upTo nx k)) n = if n < ns.length then sg (LL ns) n else if n < ns.length + k then some (nx + (n - ns.length), 0) else none := by
  rw [sg_LL0]
  have ut : ∀ (k a i : Nat), (upTo a k)[i]? = if i < k then some (a + i) else none := by
    intro k
    induction k with
    | zero => intro a i; simp [upTo]
    | succ k ih =>
      intro a i
      cases i with
      | zero => simp [upTo]
      | succ i =>
        simp only [upTo, List.getElem?_cons_succ, ih, Nat.add_lt_add_iff_right]
        split
        · exact congrArg some (by omega)
        · rfl
  split
  · rename_i h
    rw [List.getElem?_append_left h, sg_LL0]
  · rename_i h
    rw [List.getElem?_append_right (by omega), ut]
    by_cases h2 : n < ns.length + k
    · rw [if_pos (by omega), if_pos h2]; rfl
    · rw [if_neg (by omega), if_neg h2]; rfl
theorem prN_okE {p : PrN} {es : List Bool} (h : ∀ (xs : List Int), xs.length = (rwFs p.sh 0).2 → es.length = rowNs p.sh → AllB (valX fn xs) p.pre → AllB (valX fn xs) (rwFs p.sh 0).1 → CallH P p.g (SV.dens (valX fn xs) (cnSs p.sh (cn0 es)).1) (hD (valX fn xs) ⟨tplT (cnSs p.sh (cn0 es)).2.ob, [], 0⟩) (cnSs p.sh (cn0 es)).2.q
    (fun v H' _ => ∃ w os, OT.sem (valX fn xs) (p.out es) = some (w, os) ∧ Cano (cnSs p.sh (cn0 es)).2.q v H' (w.den (valX fn xs)) (SO.dens (valX fn xs) os))) : p.OkE P fn es := by
  rintro a H nx r ⟨xs, ns, w, os, v, os', hfl, hpre, hsem, _, hokn, hrv, hro', rfl⟩
  obtain ⟨h1, h2, h3, h4, h5, h6⟩ := cnSs_ok (Z := xs) (ns := ns) 0 0 [] [] hfl (fun t _ => by rw [Nat.zero_add]) (fun t _ => by rw [Nat.zero_add]) (fun p hp => by cases hp) (fun p hp => by cases hp)
  obtain ⟨hrw, hlen⟩ := rwFs_ok (Z := xs) 0 hfl (fun t _ => by rw [Nat.zero_add])
  have hc := h xs (by rw [hlen, Nat.zero_add]) (rowNs_ok hfl) hpre hrw
  have ec : (⟨0, 0, es ++ [], []⟩ : Cn) = cn0 es := by rw [List.append_nil]; rfl
  rw [ec] at h1 h2 h3 h4 h5 h6
  generalize cnSs p.sh (cn0 es) = R at *
  obtain ⟨args, i, q, e', ob⟩ := R
  simp only at h1 h2 h3 h4 h5 h6 hc
  rw [List.map_nil, List.nil_append] at h6
  have hnd : (ob.map (·.1)).Nodup := by rw [h6]; exact upTo_nodup _ _
  rw [Nat.zero_add] at h3
  subst h3
  have hget : ∀ n o, (Tr.map (SO.den (valX fn xs)) (tplT ob)).get n = some o → ∃ m w cs cs', n < ns.length ∧ ns[n]? = some m ∧ o = .cells false cs' ∧ H.get m = some (.cells w cs) ∧ renL (sg (LL ns)) cs' = some cs := by
    intro n o hn
    rw [Tr.get_map] at hn
    cases hg : (tplT ob).get n with
    | none => rw [hg] at hn; cases hn
    | some o' =>
      rw [hg] at hn
      cases hn
      have hm := tplT_mem hg
      obtain ⟨m, w, cs, cs', k1, k2, k3, k4⟩ := h5 _ hm
      refine ⟨m, w, cs, cs', ?_, k1, k2, k3, k4⟩
      have : n ∈ ob.map (·.1) := List.mem_map.2 ⟨_, hm, rfl⟩
      rw [h6, mem_upTo] at this; omega
  have hro : ((Tr.map (SO.den (valX fn xs)) (tplT ob)).allB fun o => !o.writable) = true := allB_of_get fun n o hn => by
    obtain ⟨m, w, cs, cs', _, _, rfl, _⟩ := hget n o hn
    rfl
  have hW : Wf (⟨Tr.map (SO.den (valX fn xs)) (tplT ob), [], 0⟩ : Hp) ns.length := ⟨fun n hn => by
    cases hg : (Tr.map (SO.den (valX fn xs)) (tplT ob)).get n with
    | none => rfl
    | some o => obtain ⟨m, w, cs, cs', k, _⟩ := hget n o hg; omega, fun p hp => (by cases hp), fun n o hn => by
    obtain ⟨m, w, cs, cs', _, _, rfl, _⟩ := hget n o hn
    trivial⟩
  have hc1 : CallH P p.g (SV.dens (valX fn xs) args) ⟨Tr.map (SO.den (valX fn xs)) (tplT ob), [], 0⟩ ns.length (fun v H' _ => Cano ns.length v H' (w.den (valX fn xs)) (SO.dens (valX fn xs) os)) := hc.mono fun v H' nx' ⟨w', os1, g1, g2⟩ => by
    rw [hsem] at g1
    cases g1
    exact g2
  have hall := SO.okN_cells (ρ := valX fn xs) hokn
  have hc2 := call_canon hc1 hro hall
  have := callOk_new (H := H) (nx := nx) (σ := sg (LL (ns ++ upTo nx os.length))) (LL ns) hc2 hW (LL_fst ns 0) h1 (embL_of ?_) ?_ hro hall (fun n hn => by rw [sg_app, if_pos hn]) (fun n hn => by rw [sg_app, if_neg (by omega), dens_len]) hrv hro'
  · rw [dens_len] at this
    exact this
  · intro x hx
    obtain ⟨⟨m, k⟩, hm, rfl⟩ := List.mem_map.1 hx
    have hk := List.mem_zipIdx hm
    have hkn : ns[k]? = some m := by
      have := List.getElem?_eq_some_iff.2 ⟨(by omega : k < ns.length), by have := hk.2.2; simpa using this.symm⟩
      exact this
    have hin : k ∈ ob.map (·.1) := by rw [h6, mem_upTo]; omega
    obtain ⟨⟨k', o⟩, hp, rfl⟩ := List.mem_map.1 hin
    obtain ⟨m', w, cs, cs', k1, k2, k3, k4⟩ := h5 _ hp
    simp only at k1 hkn
    rw [hkn] at k1
    cases k1
    refine embW cs cs' w ?_ k4
    rw [k3]
    have : (⟨Tr.map (SO.den (valX fn xs)) (tplT ob), [], 0⟩ : Hp).get k' = some (.cells false cs') := by
      rw [Abs.hget, Tr.get_map, tplT_get hnd hp]
      exact congrArg some k2
    rw [this]
  · unfold disB
    rw [List.all_eq_true]
    intro x _
    cases hg : (⟨Tr.map (SO.den (valX fn xs)) (tplT ob), [], 0⟩ : Hp).get x.1 with
    | none => rfl
    | some o =>
      rw [Abs.hget] at hg
      obtain ⟨m, w, cs, cs', _, _, rfl, _⟩ := hget _ _ hg
      rfl
theorem toN_sem {t : OT SV} : ∀ {w : SV} {os : List SO}, OT.sem ρ (t.map fun v => (v, ([] : List SO))) = some (w, os) → OT.sem ρ t = some w ∧ os = [] := by
  intro w os h
  rw [OT.sem_map] at h
  cases hs : OT.sem ρ t with
  | none => rw [hs] at h; cases h
  | some w' => rw [hs] at h; cases h; exact ⟨rfl, rfl⟩
theorem Pr.Ok.toN {p : Pr} (h : p.Ok P fn) : p.toN.Ok P fn := by
  rintro a H nx r ⟨es, xs, ns, w, os, v, os', h1, h2, h3, h0, h4, h5, h6, rfl⟩
  obtain ⟨h7, rfl⟩ := toN_sem h3
  cases h6
  simp only [List.length_nil, upTo, List.append_nil] at h5
  exact h a H nx v ⟨xs, ns, es, w, h1, h2, h7, h0, h5⟩
def runPN (P : Program) (R : Rgs) (l : List PrN) (p : PrN) (fuel : Nat) (es : List Bool) : OT (SV × List SO) := (exS P R (ksN R l) fuel ((rwFs p.sh 0).1 ++ p.pre) (.call p.g (cnSs p.sh (cn0 es)).1 ⟨tplT (cnSs p.sh (cn0 es)).2.ob, [], 0⟩ (cnSs p.sh (cn0 es)).2.q)).bind (canR (cnSs p.sh (cn0 es)).2.q)
theorem unN {p : PrN} {l : List PrN} {R : Rgs} {fuel : Nat} {es : List Bool} (T : OT (SV × List SO)) (hp : progOk P = true) (hl : PrNsOk P fn l) (hv : vrB (rwFs p.sh 0).2 R.vr = true) (hfr : ∀ i l, inR (fn i l) (nthR R.fr i)) (h : runPN P R l p fuel es = T)
    (k : ∀ (xs : List Int), xs.length = (rwFs p.sh 0).2 → AllB (valX fn xs) p.pre → AllB (valX fn xs) (rwFs p.sh 0).1 → OT.vc (valX fn xs) (fun x => OT.isN (valX fn xs) (x.1.den (valX fn xs)) (SO.dens (valX fn xs) x.2) (p.out es)) T) : p.OkE P fn es := by
  refine prN_okE fun xs hlen hes hpre hrw => ?_
  have hR : R.ok (valX fn xs) := ⟨fun i => vr_ok hv hlen i, hfr⟩
  obtain ⟨x, h1, h2⟩ := OT.vc_sem (k xs hlen hpre hrw)
  rw [← h] at h1
  obtain ⟨⟨r, fs'⟩, g1, g2⟩ := bind_some h1
  have hok := call_sx hp hR (ctsN_has l hl rfl hR) ((allB_fcs hrw).append (allB_fcs hpre)) g1
  cases r with
  | code e s => cases g2
  | call v H' nx' =>
    refine (callH_of_ok hok).mono fun w H2 nx2 ⟨e1, e2, _⟩ => ?_
    subst e1 e2
    obtain ⟨w, os, q1, q2, q3⟩ := OT.isN_sem h2
    refine ⟨w, os, q1, ?_⟩
    rw [← q2, ← q3]
    exact (canW_ok g2).1
theorem okN_all {p : PrN} (h : ∀ es : List Bool, es.length = rowNs p.sh → p.OkE P fn es) : p.Ok P fn := fun a H nx r ⟨es, k⟩ => h es (by
  obtain ⟨_, _, _, _, _, _, h1, _⟩ := k
  exact rowNs_ok h1) a H nx r k
theorem okN2 {p : PrN} (hn : rowNs p.sh = 2) (h1 : p.OkE P fn [true, true]) (h2 : p.OkE P fn [true, false]) (h3 : p.OkE P fn [false, true]) (h4 : p.OkE P fn [false, false]) : p.Ok P fn := okN_all fun es he => by
  rw [hn] at he
  match es, he with
  | [true, true], _ => exact h1
  | [true, false], _ => exact h2
  | [false, true], _ => exact h3
  | [false, false], _ => exact h4
end
end Sx
end Abs
end Go.Proofs.YtnnamdcpmbhboaaGreat
