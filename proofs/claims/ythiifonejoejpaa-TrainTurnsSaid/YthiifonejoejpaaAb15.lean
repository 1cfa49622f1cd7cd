/- The evaluator: regions that draw their order: whatever the order. -/
import Derived.Test.YthiifonejoejpaaAb14
namespace Go.Proofs.Ythiifonejoejpaa
namespace Abs
open Go.RowKit
variable {P : Program}

/-- What is said of the blocks, but for the relation. -/
structure PW (m : NM) (H : Hp) (nx : Nat) (W : World) (m' : NM) (w nx' : Nat) (W' : World) : Prop where
  le : Le m m'
  new : ∀ n k, m' n = some k → m n = some k ∨ (nx ≤ n ∧ n < nx' ∧ (W.heap.size ≤ k.b ∨ Owns m H w k.b))
  frame : ∀ b, b < W.heap.size → ¬ Owns m H w b → W'.heap[b]? = W.heap[b]?
  os : W'.os = W.os
  tape : W'.tape = W.tape
  output : W'.output = W.output
  size : W.heap.size ≤ W'.heap.size
def doneB (listed : Array Bool) (i : Nat) : Bool := listed.getD i false
theorem doneB_set {listed : Array Bool} {j i : Nat} (hj : j < listed.size) : doneB (listed.setIfInBounds j true) i = if i = j then true else doneB listed i := by
  unfold doneB
  rw [Array.getD_eq_getD_getElem?, Array.getElem?_setIfInBounds]
  by_cases h : j = i
  · subst h; simp [hj]
  · rw [if_neg h, if_neg (Ne.symm h), Array.getD_eq_getD_getElem?]
/-- What is in sight: all that has been laid by what is done. -/
def HD (st : Nat → St) (k : Nat) (D : Nat → Bool) (e : Nat) : Hp :=
  ⟨(st e).heap.t, ((List.range e).filterMap fun i => cond (D i) none (some ((st i).next, (st (i + 1)).next))) ++ (st 0).heap.bad, (st k).next⟩
theorem HD_hid {st : Nat → St} {k e x : Nat} {D : Nat → Bool} : hid (HD st k D e).bad x = true ↔ (∃ i, i < e ∧ D i = false ∧ (st i).next ≤ x ∧ x < (st (i + 1)).next) ∨ hid (st 0).heap.bad x = true := by
  rw [hid_iff, hid_iff]
  constructor
  · rintro ⟨p, hp, h1, h2⟩
    rcases List.mem_append.1 hp with hp | hp
    · obtain ⟨i, hi, he⟩ := List.mem_filterMap.1 hp
      rw [List.mem_range] at hi
      cases hd : D i with
      | true => simp [hd] at he
      | false => simp [hd] at he; subst he; exact .inl ⟨i, hi, hd, h1, h2⟩
    · exact .inr ⟨p, hp, h1, h2⟩
  · rintro (⟨i, hi, hd, h1, h2⟩ | ⟨p, hp, h1, h2⟩)
    · exact ⟨_, List.mem_append_left _ (List.mem_filterMap.2 ⟨i, List.mem_range.2 hi, by simp [hd]; rfl⟩), h1, h2⟩
    · exact ⟨p, List.mem_append_right _ hp, h1, h2⟩
theorem HD_get {st : Nat → St} {k e x : Nat} {D : Nat → Bool} {o : AObj} : (HD st k D e).get x = some o ↔ (∀ i, i < e → D i = false → ¬ ((st i).next ≤ x ∧ x < (st (i + 1)).next)) ∧ hid (st 0).heap.bad x = false ∧ (st e).heap.t.get x = some o := by
  rw [Hp.get_some]
  have : hid (HD st k D e).bad x = false ↔ (∀ i, i < e → D i = false → ¬ ((st i).next ≤ x ∧ x < (st (i + 1)).next)) ∧ hid (st 0).heap.bad x = false := by
    constructor
    · intro h
      have hn : ¬ (hid (HD st k D e).bad x = true) := by rw [h]; simp
      rw [HD_hid] at hn
      refine ⟨fun i hi hd hx => hn (.inl ⟨i, hi, hd, hx⟩), ?_⟩
      cases hq : hid (st 0).heap.bad x with
      | false => rfl
      | true => exact absurd (.inr hq) hn
    · rintro ⟨h1, h2⟩
      cases hq : hid (HD st k D e).bad x with
      | false => rfl
      | true =>
        rcases HD_hid.1 hq with ⟨i, a, b, c⟩ | h
        · exact absurd c (h1 i a b)
        · rw [h2] at h; cases h
  rw [this, and_assoc]
  rfl
theorem Rel.sub {m : NM} {H H' : Hp} {W : World} (h : Rel m H W) (hs : ∀ n o, H'.get n = some o → H.get n = some o) : Rel m H' W :=
  ⟨fun n o g => h.obj n o (hs n o g), fun i j oi oj ki kj a b => h.inj i j oi oj ki kj (hs i oi a) (hs j oj b)⟩

section inv
variable {rec : Task → Option Res} {n : Nat} {ops : Array Oper} {st : Nat → St} {dr : Nat → Dr} {kd : Nat → K}
structure Inv (n : Nat) (ops : Array Oper) (st : Nat → St) (kd : Nat → K) (m0 : NM) (W0 : World) (listed : Array Bool) (a : Act) (W : World) (m : NM) (e : Nat) : Prop where
  size : listed.size = ops.size
  closed : ∀ (j : Nat) (o : Oper), ops[j]? = some o → doneB listed j = true → ∀ ed ∈ o.after, Region.binds .any ed = true → doneB listed ed.on = true
  asz : a.tmps.size = n
  done : ∀ i t, doneB listed i = true → dstOf ops i = some t → VR m (((st ops.size).tmps.get t).getD .undef) (a.tmps.getD t undef)
  rest : ∀ t, (∀ i, doneB listed i = true → dstOf ops i ≠ some t) → VR m (((st 0).tmps.get t).getD .undef) (a.tmps.getD t undef)
  dfr : DR m (st 0).defers a.defers
  ele : e ≤ ops.size
  before : ∀ i, i < e → (kd i).writes = true → doneB listed i = true
  now : e = ops.size ∨ ((kd e).writes = true ∧ doneB listed e = false)
  dom : ∀ x b, m x = some b → m0 x = some b ∨ ∃ i, i < ops.size ∧ doneB listed i = true ∧ (st i).next ≤ x ∧ x < (st (i + 1)).next
  rel : Rel m (HD st ops.size (doneB listed) e) W
  pw : PW m0 (st 0).heap (st 0).next W0 m (st ops.size).heap.wr (st ops.size).next W
theorem Inv.lt {m0 : NM} {W0 : World} {listed : Array Bool} {a : Act} {W : World} {m : NM} {e : Nat} (I : Inv n ops st kd m0 W0 listed a W m e) {i : Nat} (h : doneB listed i = true) : i < ops.size := by
  rcases Nat.lt_or_ge i ops.size with h1 | h1
  · exact h1
  · unfold doneB at h
    rw [Array.getD_eq_getD_getElem?, Array.getElem?_eq_none (by rw [I.size]; exact h1)] at h
    cases h
theorem Inv.bf {m0 : NM} {W0 : World} {listed : Array Bool} {a : Act} {W : World} {m : NM} {e : Nat} (I : Inv n ops st kd m0 W0 listed a W m e) (ht : Tidy ops) {i j : Nat} (hd : doneB listed j = true) (h : Bf ops i j) : doneB listed i = true :=
  bf_closed ht.up (D := fun i => doneB listed i = true) I.closed (I.lt hd) hd h

/-- An operation that is done leaves the places of the temporaries. -/
theorem Inv.tmps {m0 : NM} {W0 : World} {listed : Array Bool} {a : Act} {W : World} {m m' : NM} {e j : Nat} {o : Oper} {v : AV} {v' : Value} (I : Inv n ops st kd m0 W0 listed a W m e) (hT : Trace P rec n ops st dr kd) (hj : ops[j]? = some o) (hu : doneB listed j = false)
    (hp : putA n o.dst v (st j).tmps = some (st (j + 1)).tmps) (hm : Le m m') (hv : VR m' v v') :
    (a.put o.dst v').tmps.size = n ∧ (∀ i t, doneB (listed.setIfInBounds j true) i = true → dstOf ops i = some t → VR m' (((st ops.size).tmps.get t).getD .undef) ((a.put o.dst v').tmps.getD t undef)) ∧
    (∀ t, (∀ i, doneB (listed.setIfInBounds j true) i = true → dstOf ops i ≠ some t) → VR m' (((st 0).tmps.get t).getD .undef) ((a.put o.dst v').tmps.getD t undef)) := by
  have hjl := (Array.getElem?_eq_some_iff.1 hj).1
  have hjs : j < listed.size := by rw [I.size]; exact hjl
  have hdj : dstOf ops j = o.dst := by simp [dstOf, hj]
  have hsz : (a.put o.dst v').tmps.size = n := by cases h : o.dst <;> simp [Act.put, I.asz]
  have other : ∀ t, o.dst ≠ some t → (a.put o.dst v').tmps.getD t undef = a.tmps.getD t undef := fun t ht => by
    cases h : o.dst with
    | none => rfl
    | some d =>
      have : d ≠ t := fun e => ht (by rw [h, e])
      simp [Act.put, Array.getElem?_setIfInBounds_ne this]
  refine ⟨hsz, fun i t hi ht => ?_, fun t ht => ?_⟩
  · rw [doneB_set hjs] at hi
    by_cases e : i = j
    · subst e
      rw [hdj] at ht
      have hlt : t < n := by
        rw [ht] at hp
        simp only [putA, Bool.cond_eq_ite, Nat.blt_eq] at hp
        split at hp
        · assumption
        · cases hp
      have h1 : (st ops.size).tmps.get t = some v := by
        rw [hT.tmp (i := i + 1) (by omega) (Nat.le_refl _) (fun l h1 h2 h3 => by
          have := hT.tidy.dst i l t (by rw [hdj]; exact ht) h3; omega)]
        exact (putA_get hp t).2 ht
      rw [h1, ht]
      simp [Act.put, I.asz, hlt]; exact hv
    · rw [if_neg e] at hi
      rw [other t (fun h => e (hT.tidy.dst i j t ht (by rw [hdj]; exact h)))]
      exact (I.done i t hi ht).mono hm
  · rw [other t (fun h => ht j (by rw [doneB_set hjs]; simp) (by rw [hdj]; exact h))]
    exact (I.rest t (fun i hi => ht i (by rw [doneB_set hjs]; split; rfl; exact hi))).mono hm
theorem Inv.closed' {m0 : NM} {W0 : World} {listed : Array Bool} {a : Act} {W : World} {m : NM} {e j : Nat} {o : Oper} (I : Inv n ops st kd m0 W0 listed a W m e) (hj : ops[j]? = some o) (hpre : ∀ ed ∈ o.after, Region.binds .any ed = true → doneB listed ed.on = true) :
    ∀ (j' : Nat) (o : Oper), ops[j']? = some o → doneB (listed.setIfInBounds j true) j' = true → ∀ ed ∈ o.after, Region.binds .any ed = true → doneB (listed.setIfInBounds j true) ed.on = true := by
  have hjs : j < listed.size := by rw [I.size]; exact (Array.getElem?_eq_some_iff.1 hj).1
  intro j' o' ho' hd ed he hb
  rw [doneB_set hjs] at hd ⊢
  split
  · rfl
  · split at hd
    · rename_i e; subst e; rw [hj] at ho'; cases ho'; exact hpre ed he hb
    · exact I.closed j' o' ho' hd ed he hb
/-- What the run turned in sight was there at the region's beginning, or was laid since. -/
theorem Inv.owns {m0 : NM} {W0 : World} {listed : Array Bool} {a : Act} {W : World} {m : NM} {e j b w : Nat} (I : Inv n ops st kd m0 W0 listed a W m e) (hT : Trace P rec n ops st dr kd) (hF : Fresh m0 (st 0).next (st ops.size).next) (hj : j ≤ ops.size) {H : Hp}
    (hH : ∀ x o, H.get x = some o → (st j).heap.get x = some o) (hw : (st ops.size).heap.wr ≤ w) (h : Owns m H w b) : W0.heap.size ≤ b ∨ Owns m0 (st 0).heap (st ops.size).heap.wr b := by
  obtain ⟨x, ox, kx, h1, h2, h3, h4, h5⟩ := h
  have hg := hH x ox h2
  have hlt := (hT.at j hj).wf.lt hg
  have hlt2 := hT.mono hj (Nat.le_refl _)
  rcases I.pw.new x kx h4 with h6 | ⟨_, _, h6⟩
  · rcases Nat.lt_or_ge x (st 0).next with h7 | h7
    · obtain ⟨o0, e0, f0⟩ := (hT.aps (Nat.zero_le j) hj).get_old h7 hg
      exact .inr ⟨x, o0, kx, by omega, e0, f0.trans h3, h6, h5⟩
    · rw [hF x h7 (by omega)] at h6; cases h6
  · rw [h5] at h6; exact h6
/-- The blocks, behind one operation more. -/
theorem Inv.pw' {m0 : NM} {W0 : World} {listed : Array Bool} {a : Act} {W W' : World} {m m' : NM} {e j : Nat} (I : Inv n ops st kd m0 W0 listed a W m e) (hT : Trace P rec n ops st dr kd) (hF : Fresh m0 (st 0).next (st ops.size).next) (hj : j < ops.size) {H H' : Hp} {nx : Nat}
    (hH : ∀ x o, H.get x = some o → (st j).heap.get x = some o) (hw : (st ops.size).heap.wr ≤ H'.wr) (hnx : nx ≤ (st (j + 1)).next) (p : Post m H (st j).next W m' H' nx W') :
    PW m0 (st 0).heap (st 0).next W0 m' (st ops.size).heap.wr (st ops.size).next W' where
  le := I.pw.le.trans p.le
  new := fun x k h => by
    have h0 := hT.mono (Nat.zero_le j) (by omega)
    have h1 := hT.mono (show j + 1 ≤ ops.size by omega) (Nat.le_refl _)
    rcases p.new x k h with h | ⟨a1, a2, h⟩
    · exact I.pw.new x k h
    · refine .inr ⟨by omega, by omega, ?_⟩
      rcases h with h | h
      · exact .inl (Nat.le_trans I.pw.size h)
      · exact I.owns hT hF (by omega) hH hw h
  frame := fun b hb hno => by
    have h1 := I.pw.size
    rw [p.frame b (by omega) (fun h => ?_)]
    · exact I.pw.frame b hb hno
    · rcases I.owns hT hF (by omega) hH hw h with h | h
      · omega
      · exact hno h
  os := p.os.trans I.pw.os
  tape := p.tape.trans I.pw.tape
  output := p.output.trans I.pw.output
  size := Nat.le_trans I.pw.size p.size
theorem Inv.dom' {m0 : NM} {W0 : World} {listed : Array Bool} {a : Act} {W W' : World} {m m' : NM} {e j nx : Nat} (I : Inv n ops st kd m0 W0 listed a W m e) (hj : j < ops.size) {H H' : Hp} (hnx : nx ≤ (st (j + 1)).next) (p : Post m H (st j).next W m' H' nx W') :
    ∀ x b, m' x = some b → m0 x = some b ∨ ∃ i, i < ops.size ∧ doneB (listed.setIfInBounds j true) i = true ∧ (st i).next ≤ x ∧ x < (st (i + 1)).next := fun x b h => by
  have hjs : j < listed.size := by rw [I.size]; exact hj
  rcases p.new x b h with h | ⟨a1, a2, _⟩
  · rcases I.dom x b h with h | ⟨i, h1, h2, h3⟩
    · exact .inl h
    · exact .inr ⟨i, h1, by rw [doneB_set hjs]; split; rfl; exact h2, h3⟩
  · exact .inr ⟨j, hj, by rw [doneB_set hjs]; simp, a1, by omega⟩
theorem Inv.fresh {m0 : NM} {W0 : World} {listed : Array Bool} {a : Act} {W : World} {m : NM} {e j : Nat} (I : Inv n ops st kd m0 W0 listed a W m e) (hT : Trace P rec n ops st dr kd) (hF : Fresh m0 (st 0).next (st ops.size).next) (hj : j < ops.size) (hu : doneB listed j = false) : Fresh m (st j).next (st (j + 1)).next := fun x h1 h2 => by
  cases hx : m x with
  | none => rfl
  | some b =>
    have h3 := hT.mono (Nat.zero_le j) (by omega)
    have h4 := hT.mono (show j + 1 ≤ ops.size by omega) (Nat.le_refl _)
    rcases I.dom x b hx with h | ⟨i, hi, hd, h5, h6⟩
    · rw [hF x (by omega) (by omega)] at h; cases h
    · rcases Nat.lt_trichotomy i j with h | h | h
      · have := hT.mono (show i + 1 ≤ j by omega) (by omega); omega
      · subst h; rw [hu] at hd; cases hd
      · have := hT.mono (show j + 1 ≤ i by omega) (by omega); omega
end inv
end Abs
end Go.Proofs.Ythiifonejoejpaa
