/- The evaluator: regions that draw their order: whatever the order. -/
import Derived.Test.YtekmmeikkafpmaaGreatA4
set_option linter.unusedSimpArgs false
set_option linter.unusedVariables false
namespace Go.Proofs.YtekmmeikkafpmaaGreat
namespace Abs
open Go.RowKit
variable {P : Program}

structure PW (m : NM) (H : Hp) (nx : Nat) (W : World) (m' : NM) (w nx' : Nat) (W' : World) : Prop where
  le : Le m m'
  new : ∀ n k, m' n = some k → m n = some k ∨ (nx ≤ n ∧ n < nx' ∧ (W.heap.size ≤ k.b ∨ Owns m H w k.b))
  frame : ∀ b, b < W.heap.size → ¬ Owns m H w b → W'.heap[b]? = W.heap[b]?
  os : W'.os = W.os
  tape : W'.tape = W.tape
  output : W'.output = W.output
  size : W.heap.size ≤ W'.heap.size
def doneB (listed : Array Bool) (i : Nat) : Bool := listed.getD i false
theorem doneB_set {listed : Array Bool} {j i : Nat} (hj : j < listed.size) : doneB (listed.setIfInBounds j true) i = if i = j then true else doneB listed i := by
  unfold doneB
  rw [Array.getD_eq_getD_getElem?, Array.getElem?_setIfInBounds]
  by_cases h : j = i
  · subst h; simp [hj]
  · rw [if_neg h, if_neg (Ne.symm h), Array.getD_eq_getD_getElem?]
def HD (st : Nat → St) (k : Nat) (D : Nat → Bool) (e : Nat) : Hp :=
  ⟨(st e).heap.t, ((List.range e).filterMap fun i => cond (D i) none (some ((st i).next, (st (i + 1)).next))) ++ (st 0).heap.bad, (st k).next⟩
theorem HD_hid {st : Nat → St} {k e x : Nat} {D : Nat → Bool} : hid (HD st k D e).bad x = true ↔ (∃ i, i < e ∧ D i = false ∧ (st i).next ≤ x ∧ x < (st (i + 1)).next) ∨ hid (st 0).heap.bad x = true := by
  rw [hid_iff, hid_iff]
  constructor
  · rintro ⟨p, hp, h1, h2⟩
    rcases List.mem_append.1 hp with hp | hp
    · obtain ⟨i, hi, he⟩ := List.mem_filterMap.1 hp
      rw [List.mem_range] at hi
      cases hd : D i with
      | true => simp [hd] at he
      | false => simp [hd] at he; subst he; exact .inl ⟨i, hi, hd, h1, h2⟩
    · exact .inr ⟨p, hp, h1, h2⟩
  · rintro (⟨i, hi, hd, h1, h2⟩ | ⟨p, hp, h1, h2⟩)
    · exact ⟨_, List.mem_append_left _ (List.mem_filterMap.2 ⟨i, List.mem_range.2 hi, by simp [hd]; rfl⟩), h1, h2⟩
    · exact ⟨p, List.mem_append_right _ hp, h1, h2⟩
theorem HD_get {st : Nat → St} {k e x : Nat} {D : Nat → Bool} {o : AObj} : (HD st k D e).get x = some o ↔ (∀ i, i < e → D i = false → ¬ ((st i).next ≤ x ∧ x < (st (i + 1)).next)) ∧ hid (st 0).heap.bad x = false ∧ (st e).heap.t.get x = some o := by
  rw [Hp.get_some]
  have : hid (HD st k D e).bad x = false ↔ (∀ i, i < e → D i = false → ¬ ((st i).next ≤ x ∧ x < (st (i + 1)).next)) ∧ hid (st 0).heap.bad x = false := by
    constructor
    · intro h
      have hn : ¬ (hid (HD st k D e).bad x = true) := by rw [h]; simp
      rw [HD_hid] at hn
      refine ⟨fun i hi hd hx => hn (.inl ⟨i, hi, hd, hx⟩), ?_⟩
      cases hq : hid (st 0).heap.bad x with
      | false => rfl
      | true => exact absurd (.inr hq) hn
    · rintro ⟨h1, h2⟩
      cases hq : hid (HD st k D e).bad x with
      | false => rfl
      | true =>
        rcases HD_hid.1 hq with ⟨i, a, b, c⟩ | h
        · exact absurd c (h1 i a b)
        · rw [h2] at h; cases h
  rw [this, and_assoc]
  rfl
theorem Rel.sub {m : NM} {H H' : Hp} {W : World} (h : Rel m H W) (hs : ∀ n o, H'.get n = some o → H.get n = some o) : Rel m H' W :=
  ⟨fun n o g => h.obj n o (hs n o g), fun i j oi oj ki kj a b => h.inj i j oi oj ki kj (hs i oi a) (hs j oj b)⟩

section inv
variable {rec : Task → Option Res} {n : Nat} {ops : Array Oper} {st : Nat → St} {dr : Nat → Dr} {kd : Nat → K}
structure Inv (n : Nat) (ops : Array Oper) (st : Nat → St) (kd : Nat → K) (m0 : NM) (W0 : World) (listed : Array Bool) (a : Act) (W : World) (m : NM) (e : Nat) : Prop where
  size : listed.size = ops.size
  closed : ∀ (j : Nat) (o : Oper), ops[j]? = some o → doneB listed j = true → ∀ ed ∈ o.after, Region.binds .any ed = true → doneB listed ed.on = true
  asz : a.tmps.size = n
  done : ∀ i t, doneB listed i = true → dstOf ops i = some t → VU m ((st ops.size).tmps.get t) (a.tmps.getD t undef)
  rest : ∀ t, (∀ i, doneB listed i = true → dstOf ops i ≠ some t) → VU m ((st 0).tmps.get t) (a.tmps.getD t undef)
  dfr : DR m (st 0).defers a.defers
  ele : e ≤ ops.size
  before : ∀ i, i < e → (kd i).writes = true → doneB listed i = true
  now : e = ops.size ∨ ((kd e).writes = true ∧ doneB listed e = false)
  dom : ∀ x b, m x = some b → m0 x = some b ∨ ∃ i, i < ops.size ∧ doneB listed i = true ∧ (st i).next ≤ x ∧ x < (st (i + 1)).next
  rel : Rel m (HD st ops.size (doneB listed) e) W
  pw : PW m0 (st 0).heap (st 0).next W0 m (st ops.size).heap.wr (st ops.size).next W
theorem Inv.lt {m0 : NM} {W0 : World} {listed : Array Bool} {a : Act} {W : World} {m : NM} {e : Nat} (I : Inv n ops st kd m0 W0 listed a W m e) {i : Nat} (h : doneB listed i = true) : i < ops.size := by
  rcases Nat.lt_or_ge i ops.size with h1 | h1
  · exact h1
  · unfold doneB at h
    rw [Array.getD_eq_getD_getElem?, Array.getElem?_eq_none (by rw [I.size]; exact h1)] at h
    cases h
theorem Inv.bf {m0 : NM} {W0 : World} {listed : Array Bool} {a : Act} {W : World} {m : NM} {e : Nat} (I : Inv n ops st kd m0 W0 listed a W m e) (ht : Tidy ops) {i j : Nat} (hd : doneB listed j = true) (h : Bf ops i j) : doneB listed i = true :=
  bf_closed ht.up (D := fun i => doneB listed i = true) I.closed (I.lt hd) hd h

theorem Inv.tmps {m0 : NM} {W0 : World} {listed : Array Bool} {a : Act} {W : World} {m m' : NM} {e j : Nat} {o : Oper} {v : AV} {v' : Value} (I : Inv n ops st kd m0 W0 listed a W m e) (hT : Trace P rec n ops st dr kd) (hj : ops[j]? = some o) (hu : doneB listed j = false)
    (hp : putA n o.dst v (st j).tmps = some (st (j + 1)).tmps) (hm : Le m m') (hv : VR m' v v') :
    (a.put o.dst v').tmps.size = n ∧ (∀ i t, doneB (listed.setIfInBounds j true) i = true → dstOf ops i = some t → VU m' ((st ops.size).tmps.get t) ((a.put o.dst v').tmps.getD t undef)) ∧
    (∀ t, (∀ i, doneB (listed.setIfInBounds j true) i = true → dstOf ops i ≠ some t) → VU m' ((st 0).tmps.get t) ((a.put o.dst v').tmps.getD t undef)) := by
  have hjl := (Array.getElem?_eq_some_iff.1 hj).1
  have hjs : j < listed.size := by rw [I.size]; exact hjl
  have hdj : dstOf ops j = o.dst := by simp [dstOf, hj]
  have hsz : (a.put o.dst v').tmps.size = n := by cases h : o.dst <;> simp [Act.put, I.asz]
  have other : ∀ t, o.dst ≠ some t → (a.put o.dst v').tmps.getD t undef = a.tmps.getD t undef := fun t ht => by
    cases h : o.dst with
    | none => rfl
    | some d =>
      have : d ≠ t := fun e => ht (by rw [h, e])
      simp [Act.put, Array.getElem?_setIfInBounds_ne this]
  refine ⟨hsz, fun i t hi ht => ?_, fun t ht => ?_⟩
  · rw [doneB_set hjs] at hi
    by_cases e : i = j
    · subst e
      rw [hdj] at ht
      have hlt : t < n := by
        rw [ht] at hp
        simp only [putA, Bool.cond_eq_ite, Nat.blt_eq] at hp
        split at hp
        · assumption
        · cases hp
      have h1 : (st ops.size).tmps.get t = some v := by
        rw [hT.tmp (i := i + 1) (by omega) (Nat.le_refl _) (fun l h1 h2 h3 => by
          have := hT.tidy.dst i l t (by rw [hdj]; exact ht) h3; omega)]
        exact (putA_get hp t).2 ht
      rw [h1, ht]
      simp [Act.put, I.asz, hlt]; exact hv
    · rw [if_neg e] at hi
      rw [other t (fun h => e (hT.tidy.dst i j t ht (by rw [hdj]; exact h)))]
      exact (I.done i t hi ht).mono hm
  · rw [other t (fun h => ht j (by rw [doneB_set hjs]; simp) (by rw [hdj]; exact h))]
    exact (I.rest t (fun i hi => ht i (by rw [doneB_set hjs]; split; rfl; exact hi))).mono hm
theorem Inv.closed' {m0 : NM} {W0 : World} {listed : Array Bool} {a : Act} {W : World} {m : NM} {e j : Nat} {o : Oper} (I : Inv n ops st kd m0 W0 listed a W m e) (hj : ops[j]? = some o) (hpre : ∀ ed ∈ o.after, Region.binds .any ed = true → doneB listed ed.on = true) :
    ∀ (j' : Nat) (o : Oper), ops[j']? = some o → doneB (listed.setIfInBounds j true) j' = true → ∀ ed ∈ o.after, Region.binds .any ed = true → doneB (listed.setIfInBounds j true) ed.on = true := by
  have hjs : j < listed.size := by rw [I.size]; exact (Array.getElem?_eq_some_iff.1 hj).1
  intro j' o' ho' hd ed he hb
  rw [doneB_set hjs] at hd ⊢
  split
  · rfl
  · split at hd
    · rename_i e; subst e; rw [hj] at ho'; cases ho'; exact hpre ed he hb
    · exact I.closed j' o' ho' hd ed he hb
theorem Inv.owns {m0 : NM} {W0 : World} {listed : Array Bool} {a : Act} {W : World} {m : NM} {e j b w : Nat} (I : Inv n ops st kd m0 W0 listed a W m e) (hT : Trace P rec n ops st dr kd) (hF : Fresh m0 (st 0).next (st ops.size).next) (hj : j ≤ ops.size) {H : Hp}
    (hH : ∀ x o, H.get x = some o → (st j).heap.get x = some o) (hw : (st ops.size).heap.wr ≤ w) (h : Owns m H w b) : W0.heap.size ≤ b ∨ Owns m0 (st 0).heap (st ops.size).heap.wr b := by
  obtain ⟨x, ox, kx, h1, h2, h3, h4, h5⟩ := h
  have hg := hH x ox h2
  have hlt := (hT.at j hj).wf.lt hg
  have hlt2 := hT.mono hj (Nat.le_refl _)
  rcases I.pw.new x kx h4 with h6 | ⟨_, _, h6⟩
  · rcases Nat.lt_or_ge x (st 0).next with h7 | h7
    · obtain ⟨o0, e0, f0⟩ := (hT.aps (Nat.zero_le j) hj).get_old h7 hg
      exact .inr ⟨x, o0, kx, by omega, e0, f0.1.trans h3, h6, h5⟩
    · rw [hF x h7 (by omega)] at h6; cases h6
  · rw [h5] at h6; exact h6
theorem Inv.pw' {m0 : NM} {W0 : World} {listed : Array Bool} {a : Act} {W W' : World} {m m' : NM} {e j : Nat} (I : Inv n ops st kd m0 W0 listed a W m e) (hT : Trace P rec n ops st dr kd) (hF : Fresh m0 (st 0).next (st ops.size).next) (hj : j < ops.size) {H H' : Hp} {nx : Nat}
    (hH : ∀ x o, H.get x = some o → (st j).heap.get x = some o) (hw : (st ops.size).heap.wr ≤ H'.wr) (hnx : nx ≤ (st (j + 1)).next) (p : Post m H (st j).next W m' H' nx W') :
    PW m0 (st 0).heap (st 0).next W0 m' (st ops.size).heap.wr (st ops.size).next W' where
  le := I.pw.le.trans p.le
  new := fun x k h => by
    have h0 := hT.mono (Nat.zero_le j) (by omega)
    have h1 := hT.mono (show j + 1 ≤ ops.size by omega) (Nat.le_refl _)
    rcases p.new x k h with h | ⟨a1, a2, h⟩
    · exact I.pw.new x k h
    · refine .inr ⟨by omega, by omega, ?_⟩
      rcases h with h | h
      · exact .inl (Nat.le_trans I.pw.size h)
      · exact I.owns hT hF (by omega) hH hw h
  frame := fun b hb hno => by
    have h1 := I.pw.size
    rw [p.frame b (by omega) (fun h => ?_)]
    · exact I.pw.frame b hb hno
    · rcases I.owns hT hF (by omega) hH hw h with h | h
      · omega
      · exact hno h
  os := p.os.trans I.pw.os
  tape := p.tape.trans I.pw.tape
  output := p.output.trans I.pw.output
  size := Nat.le_trans I.pw.size p.size
theorem Inv.dom' {m0 : NM} {W0 : World} {listed : Array Bool} {a : Act} {W W' : World} {m m' : NM} {e j nx : Nat} (I : Inv n ops st kd m0 W0 listed a W m e) (hj : j < ops.size) {H H' : Hp} (hnx : nx ≤ (st (j + 1)).next) (p : Post m H (st j).next W m' H' nx W') :
    ∀ x b, m' x = some b → m0 x = some b ∨ ∃ i, i < ops.size ∧ doneB (listed.setIfInBounds j true) i = true ∧ (st i).next ≤ x ∧ x < (st (i + 1)).next := fun x b h => by
  have hjs : j < listed.size := by rw [I.size]; exact hj
  rcases p.new x b h with h | ⟨a1, a2, _⟩
  · rcases I.dom x b h with h | ⟨i, h1, h2, h3⟩
    · exact .inl h
    · exact .inr ⟨i, h1, by rw [doneB_set hjs]; split; rfl; exact h2, h3⟩
  · exact .inr ⟨j, hj, by rw [doneB_set hjs]; simp, a1, by omega⟩
theorem Inv.fresh {m0 : NM} {W0 : World} {listed : Array Bool} {a : Act} {W : World} {m : NM} {e j : Nat} (I : Inv n ops st kd m0 W0 listed a W m e) (hT : Trace P rec n ops st dr kd) (hF : Fresh m0 (st 0).next (st ops.size).next) (hj : j < ops.size) (hu : doneB listed j = false) : Fresh m (st j).next (st (j + 1)).next := fun x h1 h2 => by
  cases hx : m x with
  | none => rfl
  | some b =>
    have h3 := hT.mono (Nat.zero_le j) (by omega)
    have h4 := hT.mono (show j + 1 ≤ ops.size by omega) (Nat.le_refl _)
    rcases I.dom x b hx with h | ⟨i, hi, hd, h5, h6⟩
    · rw [hF x (by omega) (by omega)] at h; cases h
    · rcases Nat.lt_trichotomy i j with h | h | h
      · have := hT.mono (show i + 1 ≤ j by omega) (by omega); omega
      · subst h; rw [hu] at hd; cases hd
      · have := hT.mono (show j + 1 ≤ i by omega) (by omega); omega
end inv
end Abs
end Go.Proofs.YtekmmeikkafpmaaGreat

namespace Go.Proofs.YtekmmeikkafpmaaGreat
namespace Abs
open Go.RowKit
variable {P : Program} {rec : Task → Option Res} {n : Nat} {ops : Array Oper} {st : Nat → St} {dr : Nat → Dr} {kd : Nat → K}
variable {m0 m : NM} {W0 W : World} {listed : Array Bool} {a : Act} {e j : Nat} {o : Oper}

theorem hp_get (hA : At ops st dr kd j) {x : Nat} {ob : AObj} : (hpAt ops j (st j) (dr j)).get x = some ob → hid (st 0).heap.bad x = false ∧ (∀ i, i < j → ¬ Bf ops i j → ¬ ((st i).next ≤ x ∧ x < (st (i + 1)).next)) ∧ (st j).heap.t.get x = some ob := by
  intro h
  obtain ⟨h1, h2⟩ := Hp.get_some.1 h
  refine ⟨?_, fun i hi hb hx => ?_, h2⟩
  · cases hq : hid (st 0).heap.bad x with
    | false => rfl
    | true =>
      obtain ⟨p, hp, h3, h4⟩ := hid_iff.1 hq
      have : hid (hpAt ops j (st j) (dr j)).bad x = true := hid_iff.2 ⟨p, unseen_mem.2 (.inl (by rw [hA.bad]; exact hp)), h3, h4⟩
      rw [this] at h1; cases h1
  · have hm := hA.all i hi (by omega)
    have : hid (hpAt ops j (st j) (dr j)).bad x = true := hid_iff.2 ⟨_, unseen_mem.2 (.inr ⟨_, hm, by simpa [Bf] using hb, rfl⟩), hx.1, hx.2⟩
    rw [this] at h1; cases h1
theorem hp_sub (hA : At ops st dr kd j) (x : Nat) (ob : AObj) (h : (hpAt ops j (st j) (dr j)).get x = some ob) : (st j).heap.get x = some ob := by
  obtain ⟨h1, _, h3⟩ := hp_get hA h
  exact Hp.get_some.2 ⟨by rw [hA.bad]; exact h1, h3⟩

theorem Inv.sight (I : Inv n ops st kd m0 W0 listed a W m e) (hT : Trace P rec n ops st dr kd) (hj : j < ops.size) (hd : ∀ i, Bf ops i j → doneB listed i = true) {x : Nat} {ob : AObj} (h : (hpAt ops j (st j) (dr j)).get x = some ob)
    (hs : (st e).heap.t.get x = (st j).heap.t.get x) : (HD st ops.size (doneB listed) e).get x = some ob := by
  have hA := hT.at j (by omega)
  obtain ⟨h1, h2, h3⟩ := hp_get hA h
  refine HD_get.2 ⟨fun i hi hdi hx => ?_, h1, by rw [hs]; exact h3⟩
  have hxj : x < (st j).next := hA.wf.lt (hp_sub hA x ob h)
  have hij : i < j := by
    rcases Nat.lt_or_ge i j with h4 | h4
    · exact h4
    · have := hT.mono h4 (show i ≤ ops.size by have := I.ele; omega); omega
  exact h2 i hij (fun hb => by rw [hd i hb] at hdi; cases hdi) hx
theorem rel_same {D D' : Nat → Bool} (hR : Rel m (HD st ops.size D e) W) (hn : (st (j + 1)).next = (st j).next) (hD : ∀ i, D i = false → i = j ∨ D' i = false) : Rel m (HD st ops.size D' e) W := hR.sub fun x ob h => by
  obtain ⟨h1, h2, h3⟩ := HD_get.1 h
  refine HD_get.2 ⟨fun i hi hdi hx => ?_, h2, h3⟩
  rcases hD i hdi with rfl | h4
  · omega
  · exact h1 i hi h4 hx

theorem Inv.preds (I : Inv n ops st kd m0 W0 listed a W m e) (hT : Tidy ops) (hj : ops[j]? = some o) (hpre : ∀ ed ∈ o.after, Region.binds .any ed = true → doneB listed ed.on = true) (i : Nat) (h : Bf ops i j) : doneB listed i = true := by
  obtain ⟨ed, he, hb, h⟩ := (bf_iff hT.up hj).1 h
  rcases h with rfl | h
  · exact hpre ed he hb
  · exact I.bf hT (hpre ed he hb) h
theorem Inv.look (I : Inv n ops st kd m0 W0 listed a W m e) (hT : Trace P rec n ops st dr kd) (hj : ops[j]? = some o) (hu : doneB listed j = false) (hd : ∀ i, Bf ops i j → doneB listed i = true) {t : Tmp} (ht : t ∈ o.looksAt ops) : VU m ((st j).tmps.get t) (a.tmps.getD t undef) := by
  have hjl := (Array.getElem?_eq_some_iff.1 hj).1
  by_cases h : ∃ i, dstOf ops i = some t
  · obtain ⟨i, hi⟩ := h
    have uniq : ∀ l, i + 1 ≤ l → dstOf ops l ≠ some t := fun l hl h => by have := hT.tidy.dst i l t hi h; omega
    rcases hT.tidy.look j o hj t ht i hi with hb | hb
    case inr =>
      have hil : i < ops.size := by
        rcases Nat.lt_or_ge i ops.size with h1 | h1
        · exact h1
        · unfold dstOf at hi; rw [Array.getElem?_eq_none h1] at hi; simp at hi
      have hij := bf_lt hT.tidy.up hil hb
      have hv := I.rest t (fun l hl hlt => by
        have := hT.tidy.dst i l t hi hlt
        subst this
        have := I.bf hT.tidy hl hb
        rw [hu] at this; cases this)
      rw [hT.tmp (i := 0) (by omega) (by omega) (fun l _ h1 hlt => by have := hT.tidy.dst i l t hi hlt; omega)]
      exact hv
    have hij := bf_lt hT.tidy.up hjl hb
    have hv := I.done i t (hd i hb) hi
    rw [hT.tmp (i := i + 1) (by omega) (Nat.le_refl _) (fun l h1 _ => uniq l h1)] at hv
    rw [hT.tmp (i := i + 1) (by omega) (by omega) (fun l h1 _ => uniq l h1)]
    exact hv
  · have hv := I.rest t (fun i _ hi => h ⟨i, hi⟩)
    rw [hT.tmp (i := 0) (by omega) (by omega) (fun l _ _ hl => h ⟨l, hl⟩)]
    exact hv
theorem Inv.ev (I : Inv n ops st kd m0 W0 listed a W m e) (hT : Trace P rec n ops st dr kd) (hj : ops[j]? = some o) (hu : doneB listed j = false) (hd : ∀ i, Bf ops i j → doneB listed i = true) : Ev m (st j).tmps a.eval o.op.operands := fun x hx v hv =>
  evalO_ok (fun t ht => I.look hT hj hu hd (by
    subst ht
    exact List.mem_append_left _ (List.mem_filterMap.2 ⟨.tmp t, by simpa using hx, rfl⟩))) hv
theorem Inv.want (I : Inv n ops st kd m0 W0 listed a W m e) (hT : Trace P rec n ops st dr kd) (hj : ops[j]? = some o) (hu : doneB listed j = false) (hd : ∀ i, Bf ops i j → doneB listed i = true) : wantedA ops (st j).tmps o = Region.wanted o (yielded ops a.tmps) :=
  wanted_ok (hT.asked hj) fun g w t hg ht => I.look hT hj hu hd (List.mem_append_right _ (by simp [hg, ht]))
theorem Inv.sum (I : Inv n ops st kd m0 W0 listed a W m e) (hT : Trace P rec n ops st dr kd) (hj : ops[j]? = some o) (hu : doneB listed j = false) (hpre : ∀ ed ∈ o.after, Region.binds .any ed = true → doneB listed ed.on = true)
    {v : AV} {v' : Value} {m' : NM} {W' : World} {e' : Nat} (hp : putA n o.dst v (st j).tmps = some (st (j + 1)).tmps) (hm : Le m m') (hv : VR m' v v') (h1 : e' ≤ ops.size) (h2 : ∀ i, i < e' → (kd i).writes = true → doneB (listed.setIfInBounds j true) i = true)
    (h3 : e' = ops.size ∨ ((kd e').writes = true ∧ doneB (listed.setIfInBounds j true) e' = false))
    (h4 : ∀ x b, m' x = some b → m0 x = some b ∨ ∃ i, i < ops.size ∧ doneB (listed.setIfInBounds j true) i = true ∧ (st i).next ≤ x ∧ x < (st (i + 1)).next)
    (h5 : Rel m' (HD st ops.size (doneB (listed.setIfInBounds j true)) e') W') (h6 : PW m0 (st 0).heap (st 0).next W0 m' (st ops.size).heap.wr (st ops.size).next W') :
    Inv n ops st kd m0 W0 (listed.setIfInBounds j true) (a.put o.dst v') W' m' e' := by
  obtain ⟨t1, t2, t3⟩ := I.tmps hT hj hu hp hm hv
  exact ⟨by simp [I.size], I.closed' hj hpre, t1, t2, t3, by
    have : (a.put o.dst v').defers = a.defers := by cases h : o.dst <;> simp [Act.put]
    rw [this]; exact I.dfr.mono hm, h1, h2, h3, h4, h5, h6⟩
theorem Inv.keepE (I : Inv n ops st kd m0 W0 listed a W m e) (hj : j < ops.size) (hk : (kd j).writes = false) :
    (∀ i, i < e → (kd i).writes = true → doneB (listed.setIfInBounds j true) i = true) ∧ (e = ops.size ∨ ((kd e).writes = true ∧ doneB (listed.setIfInBounds j true) e = false)) := by
  have hjs : j < listed.size := by rw [I.size]; exact hj
  refine ⟨fun i hi hw => by rw [doneB_set hjs]; split; rfl; exact I.before i hi hw, ?_⟩
  rcases I.now with h | ⟨h1, h2⟩
  · exact .inl h
  · refine .inr ⟨h1, ?_⟩
    rw [doneB_set hjs, if_neg (fun h => by rw [h] at h1; rw [hk] at h1; cases h1)]; exact h2
theorem Inv.same (I : Inv n ops st kd m0 W0 listed a W m e) (hT : Trace P rec n ops st dr kd) (hj : ops[j]? = some o) (hu : doneB listed j = false) (hpre : ∀ ed ∈ o.after, Region.binds .any ed = true → doneB listed ed.on = true)
    {v : AV} {v' : Value} {m' : NM} {W' : World} (hp : putA n o.dst v (st j).tmps = some (st (j + 1)).tmps) (hk : (kd j).writes = false) (hn : (st (j + 1)).next = (st j).next) (hm : Le m m') (hm' : ∀ x b, m' x = some b → m x = some b) (hv : VR m' v v')
    (hR : Rel m' (HD st ops.size (doneB listed) e) W') (hfr : ∀ b, b < W.heap.size → W'.heap[b]? = W.heap[b]?) (g1 : W'.os = W.os) (g2 : W'.tape = W.tape) (g3 : W'.output = W.output) (g4 : W.heap.size ≤ W'.heap.size) :
    Inv n ops st kd m0 W0 (listed.setIfInBounds j true) (a.put o.dst v') W' m' e := by
  have hjl := (Array.getElem?_eq_some_iff.1 hj).1
  have hjs : j < listed.size := by rw [I.size]; exact hjl
  obtain ⟨k1, k2⟩ := I.keepE hjl hk
  refine I.sum hT hj hu hpre hp hm hv I.ele k1 k2 (fun x b h => ?_) (rel_same hR hn (fun i hi => ?_)) ⟨I.pw.le.trans hm, fun x b h => I.pw.new x b (hm' x b h), fun b hb hno => ?_, g1.trans I.pw.os, g2.trans I.pw.tape, g3.trans I.pw.output, Nat.le_trans I.pw.size g4⟩
  · rcases I.dom x b (hm' x b h) with h | ⟨i, h1, h2, h3⟩
    · exact .inl h
    · exact .inr ⟨i, h1, by rw [doneB_set hjs]; split; rfl; exact h2, h3⟩
  · by_cases h : i = j
    · exact .inl h
    · exact .inr (by rw [doneB_set hjs, if_neg h]; exact hi)
  · rw [hfr b (Nat.lt_of_lt_of_le hb I.pw.size)]; exact I.pw.frame b hb hno
theorem loadT_congr {H H' : Hp} {t : TypeId} {x off : Nat} (h : ∀ ob, H.get x = some ob → H'.get x = some ob) {v : AV} (hl : loadT P H t x off = some v) : loadT P H' t x off = some v := by
  unfold loadT at hl ⊢
  cases hc : cellsAt H x with
  | none => simp [hc] at hl
  | some cs =>
    have : cellsAt H' x = some cs := by rcases cellsAt_inv hc with ⟨w, hg⟩ | ⟨r, hg⟩ <;> simp [cellsAt, h _ hg]
    rw [this]; rw [hc] at hl; exact hl

theorem exists_next (ops : Array Oper) (kd : Nat → K) : ∀ (r e : Nat), e + r = ops.size → ∃ e', e ≤ e' ∧ e' ≤ ops.size ∧ (∀ i, e ≤ i → i < e' → (kd i).writes = false) ∧ (e' = ops.size ∨ (kd e').writes = true) := by
  intro r
  induction r with
  | zero => intro e h; exact ⟨e, Nat.le_refl _, by omega, fun i h1 h2 => by omega, .inl (by omega)⟩
  | succ r ih =>
    intro e h
    cases hw : (kd e).writes with
    | true => exact ⟨e, Nat.le_refl _, by omega, fun i h1 h2 => by omega, .inr hw⟩
    | false =>
      obtain ⟨e', h1, h2, h3, h4⟩ := ih (e + 1) (by omega)
      refine ⟨e', by omega, h2, fun i a b => ?_, h4⟩
      by_cases he : i = e
      · rw [he]; exact hw
      · exact h3 i (by omega) b
end Abs
end Go.Proofs.YtekmmeikkafpmaaGreat

namespace Go.Proofs.YtekmmeikkafpmaaGreat
namespace Abs
open Go.RowKit
variable {P : Program} {rec : Task → Option Res} {n : Nat} {ops : Array Oper} {st : Nat → St} {dr : Nat → Dr} {kd : Nat → K}
variable {m0 m : NM} {W0 W : World} {listed : Array Bool} {a : Act} {e j : Nat} {o : Oper} {F : Fence} {round : Option Nat}

theorem Inv.write (I : Inv n ops st kd m0 W0 listed a W m e) (hT : Trace P rec n ops st dr kd) (hF : Fresh m0 (st 0).next (st ops.size).next) (hfr : FR m0 round F) (hj : ops[j]? = some o) (hu : doneB listed j = false)
    (hpre : ∀ ed ∈ o.after, Region.binds .any ed = true → doneB listed ed.on = true) (hk : (kd j).writes = true) (ht : touch o.op = true) (hil : isLoad o.op = false) {v : AV} {T : Tr AV} {H : Hp} {nx : Nat}
    (hh : heapA P rec (st j).tmps (hpAt ops j (st j) (dr j)) (st j).next o.op = some (v, H, nx)) (hp : putA n o.dst v (st j).tmps = some T) (es : st (j + 1) = ⟨T, (st j).defers, ⟨H.t, (st j).heap.bad, lower H.wr (st j).heap.wr⟩, nx⟩) {Q : Exit → Act → World → Prop} :
    o.wpIn F 0 P a W (fun a' W' => ∃ m' e', Inv n ops st kd m0 W0 (listed.setIfInBounds j true) a' W' m' e') Q := by
  have hjl := (Array.getElem?_eq_some_iff.1 hj).1
  have hjs : j < listed.size := by rw [I.size]; exact hjl
  have hA := hT.at j (by omega)
  have hd := fun i h => I.preds hT.tidy hj hpre i h
  have hev := I.ev hT hj hu hd
  have hfm := hfr.mono I.pw.le
  have hnd := hT.nd hj
  have hwrk : (st ops.size).heap.wr ≤ (st (j + 1)).heap.wr := (hT.aps (show j + 1 ≤ ops.size by omega) (Nat.le_refl _)).wr
  have hej : e = j := by
    rcases Nat.lt_trichotomy e j with h | h | h
    · exfalso
      have hel : e < ops.size := by omega
      obtain ⟨hwe, hue⟩ := I.now.resolve_left (by omega)
      rcases hT.bar hel hwe hj ht (.inl hil) (by omega) with ⟨h2, _⟩ | ⟨_, h2⟩
      · omega
      · rw [hd e h2] at hue; cases hue
    · exact h
    · rw [I.before j h hk] at hu; cases hu
  subst hej
  have notdone : ∀ l, Bf ops e l → doneB listed l = false := fun l hl => by
    cases h : doneB listed l with
    | false => rfl
    | true => rw [I.bf hT.tidy h hl] at hu; cases hu
  have hview : ∀ x ob, (hpAt ops e (st e) (dr e)).get x = some ob → (HD st ops.size (doneB listed) e).get x = some ob := fun x ob hg => I.sight hT hjl hd hg rfl
  have hnx : (st (e + 1)).next = nx := by rw [es]
  have htt : (st (e + 1)).heap.t = H.t := by rw [es]
  have hfrs : Fresh m (st e).next nx := by rw [← hnx]; exact I.fresh hT hF hjl hu
  obtain ⟨ap, hwp⟩ := heapop_ok hT.sound hA.hp hh hnd
  refine hwp m W a F round hev (I.rel.sub hview) hfrs hfm _ Q (fun v' m' W' p hv => ?_)
  have hwr : (st ops.size).heap.wr ≤ H.wr := by
    have : (st (e + 1)).heap.wr = lower H.wr (st e).heap.wr := by rw [es]
    have := lower_le_left H.wr (st e).heap.wr
    omega
  obtain ⟨e', f1, f2, f3, f4⟩ := exists_next ops kd (ops.size - (e + 1)) (e + 1) (by omega)
  have behind : ∀ l o', e < l → ops[l]? = some o' → touch o'.op = true → isLoad o'.op = false → doneB (listed.setIfInBounds e true) l = false := fun l o' hl ho' q1 q2 => by
    rw [doneB_set hjs, if_neg (by omega)]
    rcases hT.bar hjl hk ho' q1 (.inl q2) (by omega) with ⟨h2, _⟩ | ⟨_, h2⟩
    · omega
    · exact notdone l h2
  refine ⟨m', e', I.sum hT hj hu hpre (by rw [es]; exact hp) p.le hv f2 (fun i hi hwi => ?_) ?_ (I.dom' hjl (by omega) p) (p.rel.sub fun x ob hg => ?_) (I.pw' hT hF hjl (hp_sub hA) hwr (by omega) p)⟩
  · rcases Nat.lt_trichotomy i e with h | h | h
    · rw [doneB_set hjs, if_neg (by omega)]; exact I.before i h hwi
    · rw [doneB_set hjs, if_pos h]
    · rw [f3 i (by omega) hi] at hwi; cases hwi
  · rcases f4 with h | h
    · exact .inl h
    · rcases Nat.lt_or_ge e' ops.size with hek | hek
      case inr => exact .inl (by omega)
      have ho' := Array.getElem?_eq_getElem hek
      have hst := hT.step e' _ ho'
      refine .inr ⟨h, ?_⟩
      have hty : touch (ops[e']).op = true ∧ isLoad (ops[e']).op = false := by
        cases hkl : kd e' with
        | store a' =>
          rw [hkl] at hst
          exact ⟨hst.2.1, hst.2.2.1⟩
        | wrt => rw [hkl] at hst; exact ⟨hst.2.1, hst.2.2.1⟩
        | _ => rw [hkl] at h; cases h
      exact behind e' _ (by omega) ho' hty.1 hty.2
  · obtain ⟨g1, g2, g3⟩ := HD_get.1 hg
    have hlt : x < (st (e + 1)).next := by
      rcases Nat.lt_or_ge x (st (e + 1)).next with h | h
      · exact h
      · exfalso
        have hlt' : x < (st e').next := by
          rcases Nat.lt_or_ge x (st e').next with h5 | h5
          · exact h5
          · rw [(hT.at e' f2).wf.none x h5] at g3; cases g3
        obtain ⟨l, h8, h9, h10, h11⟩ := hT.who h f1 f2 hlt'
        have hol := Array.getElem?_eq_getElem (show l < ops.size by omega)
        obtain ⟨q1, q2⟩ := hT.layer hol (by omega)
        exact g1 l h9 (behind l _ (by omega) hol q1 q2) ⟨h10, h11⟩
    rw [hT.stills hlt f1 f2 (fun l h1 h2 => .inl (f3 l h1 h2)), htt] at g3
    refine Hp.get_some.2 ⟨?_, g3⟩
    cases hq : hid H.bad x with
    | false => rfl
    | true =>
      exfalso
      rw [ap.bad] at hq
      obtain ⟨q, hq1, hq2, hq3⟩ := hid_iff.1 hq
      rcases unseen_mem.1 hq1 with h5 | ⟨y, hy, hb, rfl⟩
      · have : hid (st 0).heap.bad x = true := hid_iff.2 ⟨q, by rw [← hA.bad]; exact h5, hq2, hq3⟩
        rw [this] at g2; cases g2
      · obtain ⟨h6, h7, _⟩ := hA.ss y hy
        rw [h7] at hq2 hq3
        simp only at hq2 hq3
        have hol := Array.getElem?_eq_getElem (show y.1 < ops.size by omega)
        obtain ⟨q1, q2⟩ := hT.layer hol (by omega)
        rcases hT.bar hjl hk hol q1 (.inl q2) (by omega) with ⟨_, h8⟩ | ⟨h8, _⟩
        · unfold Bf at h8; rw [hb] at h8; cases h8
        · omega
theorem Inv.step (I : Inv n ops st kd m0 W0 listed a W m e) (hT : Trace P rec n ops st dr kd) (hF : Fresh m0 (st 0).next (st ops.size).next) (hfr : FR m0 round F) (hj : ops[j]? = some o) (hu : doneB listed j = false)
    (hpre : ∀ ed ∈ o.after, Region.binds .any ed = true → doneB listed ed.on = true) {Q : Exit → Act → World → Prop} :
    wpOpIn F 0 P ops Q j (fun a' W' => ∃ m' e', Inv n ops st kd m0 W0 (listed.setIfInBounds j true) a' W' m' e') a W := by
  have hjl := (Array.getElem?_eq_some_iff.1 hj).1
  have hjs : j < listed.size := by rw [I.size]; exact hjl
  have hA := hT.at j (by omega)
  have hd := fun i h => I.preds hT.tidy hj hpre i h
  have hev := I.ev hT hj hu hd
  have hw := I.want hT hj hu hd
  have hfm := hfr.mono I.pw.le
  have hs := hT.step j o hj
  have hnd := hT.nd hj
  have hwrk : (st ops.size).heap.wr ≤ (st (j + 1)).heap.wr := (hT.aps (show j + 1 ≤ ops.size by omega) (Nat.le_refl _)).wr
  -- a write that is due, or not: where e stands
  have notdone : ∀ l, Bf ops j l → doneB listed l = false := fun l hl => by
    cases h : doneB listed l with
    | false => rfl
    | true => rw [I.bf hT.tidy h hl] at hu; cases hu
  have due : e < ops.size → (kd e).writes = true ∧ doneB listed e = false := fun h => I.now.resolve_left (by omega)
  have after_e : ∀ l, e < ops.size → Bf ops e l → doneB listed l = false := fun l he hl => by
    cases h : doneB listed l with
    | false => rfl
    | true => rw [I.bf hT.tidy h hl] at due; exact absurd (due he).2 (by simp)
  unfold wpOpIn
  simp only [hj]
  cases hk : kd j with
  | skip =>
    rw [hk] at hs
    obtain ⟨h1, T, hp, es, ed⟩ := hs
    rw [if_neg (by rw [← hw, h1]; simp)]
    refine ⟨fun f _ => hfm.fn f, m, e, I.same hT hj hu hpre (v := .undef) (by rw [es]; exact hp) (by rw [hk]; rfl) (by rw [es]) (Le.refl m) (fun _ _ h => h) (VR.undef_iff.2 rfl) I.rel (fun _ _ => rfl) rfl rfl rfl (Nat.le_refl _)⟩
  | pure =>
    rw [hk] at hs
    obtain ⟨h1, _, v, T, hv, hp, es, ed⟩ := hs
    rw [if_pos (by rw [← hw, h1])]
    refine pureop_ok hv m W a F round hev hfm (fun v' hvr => ⟨m, e, I.same hT hj hu hpre (by rw [es]; exact hp) (by rw [hk]; rfl) (by rw [es]) (Le.refl m) (fun _ _ h => h) hvr I.rel (fun _ _ => rfl) rfl rfl rfl (Nat.le_refl _)⟩)
  | load nm =>
    rw [hk] at hs
    obtain ⟨h1, ht, t, x, v, T, ho, hh, hp, es, hnm, hc, ed⟩ := hs
    rw [if_pos (by rw [← hw, h1])]
    have hh' := hh
    rw [ho] at hh'
    obtain ⟨_, _, nn, off, hx, hl⟩ := load_inv hh'
    have hnn : nm = nn := by rw [hnm]; simp [nameO, hx]
    subst hnn
    -- the name reads as it did
    have hsame : ∀ ob, (hpAt ops j (st j) (dr j)).get nm = some ob → (HD st ops.size (doneB listed) e).get nm = some ob := fun ob hg => by
      refine I.sight hT hjl hd hg ?_
      have hlt := hA.wf.lt (hp_sub hA _ _ hg)
      rcases Nat.lt_or_ge j e with hje | hje
      · refine hT.stills hlt (by omega) I.ele (fun l h3 h4 => ?_)
        cases hwl : (kd l).writes with
        | false => exact .inl rfl
        | true =>
          right
          have hdl := I.before l h4 hwl
          have hlk : l < ops.size := I.lt hdl
          have hne : j ≠ l := fun h => by rw [← h, hk] at hwl; cases hwl
          cases hkl : kd l with
          | store a' => exact hT.loadStay hlk (by omega) hkl hk (fun h5 => by rw [notdone l h5] at hdl; cases hdl) (Nat.lt_of_lt_of_le hlt (hT.mono h3 (by omega)))
          | wrt =>
            rcases hT.bar hlk hwl hj ht (.inr hkl) hne with ⟨_, h5⟩ | ⟨h5, _⟩
            · rw [notdone l h5] at hdl; cases hdl
            · omega
          | _ => rw [hkl] at hwl; cases hwl
      · have hel : e < ops.size := by omega
        obtain ⟨hwe, hue⟩ := due hel
        obtain ⟨h5, h6, _⟩ := hp_get hA hg
        have hlt2 : nm < (st e).next := by
          rcases Nat.lt_or_ge nm (st e).next with h7 | h7
          · exact h7
          · exfalso
            obtain ⟨l, h8, h9, h10, h11⟩ := hT.who h7 hje (by omega) hlt
            have hbl : Bf ops l j := by
              rcases Classical.em (Bf ops l j) with hb | hb
              · exact hb
              · exact absurd ⟨h10, h11⟩ (h6 l h9 hb)
            have hol := Array.getElem?_eq_getElem (show l < ops.size by omega)
            obtain ⟨q1, q2⟩ := hT.layer hol (by omega)
            have hdl := hd l hbl
            by_cases hle : l = e
            · rw [hle] at hdl; rw [hue] at hdl; cases hdl
            · rcases hT.bar hel hwe hol q1 (.inl q2) hle with ⟨h12, _⟩ | ⟨_, h12⟩
              · omega
              · rw [after_e l hel h12] at hdl; cases hdl
        refine (hT.stillsB hlt2 hje (by omega) (fun l h3 h4 => ?_) (by rw [(hp_get hA hg).2.2]; simp)).symm
        cases hwl : (kd l).writes with
        | false => exact .inl rfl
        | true =>
          right
          have hlk : l < ops.size := by omega
          have hol := Array.getElem?_eq_getElem hlk
          have hul : doneB listed l = false := by
            by_cases hle : l = e
            · rw [hle]; exact hue
            · have hstl := hT.step l _ hol
              have hty : touch (ops[l]).op = true ∧ isLoad (ops[l]).op = false := by
                cases hkl : kd l with
                | store a' =>
                  rw [hkl] at hstl
                  exact ⟨hstl.2.1, hstl.2.2.1⟩
                | wrt => rw [hkl] at hstl; exact ⟨hstl.2.1, hstl.2.2.1⟩
                | _ => rw [hkl] at hwl; cases hwl
              rcases hT.bar hel hwe hol hty.1 (.inl hty.2) hle with ⟨h12, _⟩ | ⟨_, h12⟩
              · omega
              · exact after_e l hel h12
          have hne : j ≠ l := by omega
          cases hkl : kd l with
          | store a' =>
            refine ⟨a', rfl, fun hn => ?_⟩
            rcases hT.loadBar hlk hjl hkl hk with h13 | h13 | h13
            · have := bf_lt hT.tidy.up hlk h13; omega
            · rw [hd l h13] at hul; cases hul
            · exact h13 hn.symm
          | wrt =>
            rcases hT.bar hlk hwl hj ht (.inr hkl) hne with ⟨h13, _⟩ | ⟨_, h13⟩
            · omega
            · rw [hd l h13] at hul; cases hul
          | _ => rw [hkl] at hwl; cases hwl
    have hl2 : loadT P (HD st ops.size (doneB listed) e) t nm off = some v := loadT_congr (fun _ h => hsame _ h) hl
    have hheap : heapA P rec (st j).tmps (HD st ops.size (doneB listed) e) (st ops.size).next o.op = some (v, HD st ops.size (doneB listed) e, (st ops.size).next) := by
      rw [ho]; simp [heapA, hx, hl2]
    have hWf : Wf (HD st ops.size (doneB listed) e) (st ops.size).next := by
      have hwe := (hT.at e I.ele).wf
      have hle := hT.mono I.ele (Nat.le_refl _)
      refine ⟨fun y hy => hwe.none y (by omega), fun p hp => ?_, hwe.ok⟩
      rcases List.mem_append.1 hp with hp | hp
      · obtain ⟨i, hi, he⟩ := List.mem_filterMap.1 hp
        rw [List.mem_range] at hi
        cases hdi : doneB listed i with
        | true => simp [hdi] at he
        | false =>
          simp [hdi] at he; subst he
          exact hT.mono (show i + 1 ≤ ops.size by have := I.ele; omega) (Nat.le_refl _)
      · have := hT.wf0.bad p hp
        have := hT.mono (Nat.zero_le ops.size) (Nat.le_refl _)
        omega
    obtain ⟨_, hwp⟩ := heapop_ok hT.sound hWf hheap hnd
    refine hwp m W a F round hev I.rel (fun y h3 h4 => by omega) hfm _ Q (fun v' m' W' p hv => ⟨m', e, ?_⟩)
    refine I.same hT hj hu hpre (by rw [es]; exact hp) (by rw [hk]; rfl) (by rw [es]) p.le (fun y b hy => ?_) hv p.rel (fun b hb => p.frame b hb ?_) p.os p.tape p.output p.size
    · rcases p.new y b hy with h | ⟨h3, h4, _⟩
      · exact h
      · omega
    · rintro ⟨i, oi, ki, h3, h4, _⟩
      have := hWf.lt h4
      simp only [HD] at h3
      omega
  | fresh =>
    rw [hk] at hs
    obtain ⟨h1, ht, hil, v, T, H, nx, hh, hp, hle, es, ed⟩ := hs
    rw [if_pos (by rw [← hw, h1])]
    have hje : j < e := by
      rcases Nat.lt_or_ge j e with h | h
      · exact h
      · exfalso
        have hel : e < ops.size := by omega
        obtain ⟨hwe, hue⟩ := due hel
        have hne : j ≠ e := fun h => by rw [← h, hk] at hwe; cases hwe
        rcases hT.bar hel hwe hj ht (.inl hil) hne with ⟨h2, _⟩ | ⟨_, h2⟩
        · omega
        · rw [hd e h2] at hue; cases hue
    have nowr : ∀ l, j ≤ l → l < e → (kd l).writes = false := fun l h3 h4 => by
      cases hwl : (kd l).writes with
      | false => rfl
      | true =>
        exfalso
        have hdl := I.before l h4 hwl
        have hne : j ≠ l := fun h => by rw [← h, hk] at hwl; cases hwl
        rcases hT.bar (I.lt hdl) hwl hj ht (.inl hil) hne with ⟨_, h5⟩ | ⟨h5, _⟩
        · rw [notdone l h5] at hdl; cases hdl
        · omega
    have hview : ∀ x ob, (hpAt ops j (st j) (dr j)).get x = some ob → (HD st ops.size (doneB listed) e).get x = some ob := fun x ob hg =>
      I.sight hT hjl hd hg (hT.stills (hA.wf.lt (hp_sub hA _ _ hg)) (by omega) I.ele (fun l h3 h4 => .inl (nowr l h3 h4)))
    have hnx : (st (j + 1)).next = nx := by rw [es]
    have hfrs : Fresh m (st j).next nx := by rw [← hnx]; exact I.fresh hT hF hjl hu
    obtain ⟨ap, hwp⟩ := heapop_ok hT.sound hA.hp hh hnd
    refine hwp m W a F round hev (I.rel.sub hview) hfrs hfm _ Q (fun v' m' W' p hv => ⟨m', e, ?_⟩)
    have noown : ∀ b, ¬ Owns m (hpAt ops j (st j) (dr j)) H.wr b := by
      rintro b ⟨i, oi, ki, h3, h4, _⟩
      have := hA.hp.lt h4
      omega
    have hwr : (st ops.size).heap.wr ≤ H.wr := by
      have : (st (j + 1)).heap.wr = lower H.wr (st j).heap.wr := by rw [es]
      have := lower_le_left H.wr (st j).heap.wr
      omega
    obtain ⟨k1, k2⟩ := I.keepE hjl (by rw [hk]; rfl)
    -- what is in sight now: what was, and what has been laid
    have split : ∀ x ob kx, (HD st ops.size (doneB (listed.setIfInBounds j true)) e).get x = some ob → m' x = some kx →
        (H.get x = some ob ∧ W.heap.size ≤ kx.b) ∨ ((HD st ops.size (doneB listed) e).get x = some ob ∧ m x = some kx ∧ kx.b < W.heap.size) := by
      intro x ob kx hg hx
      obtain ⟨g1, g2, g3⟩ := HD_get.1 hg
      by_cases hin : (st j).next ≤ x ∧ x < (st (j + 1)).next
      · left
        refine ⟨Hp.get_some.2 ⟨?_, ?_⟩, ?_⟩
        · cases hq : hid H.bad x with
          | false => rfl
          | true =>
            exfalso
            rw [ap.bad] at hq
            obtain ⟨q, hq1, hq2, hq3⟩ := hid_iff.1 hq
            have := hA.hp.bad q hq1
            omega
        · have : (st (j + 1)).heap.t = H.t := by rw [es]
          rw [← this, ← hT.stills hin.2 (by omega) I.ele (fun l h3 h4 => .inl (nowr l (by omega) h4))]
          exact g3
        · rcases p.new x kx hx with h | ⟨_, _, h | h⟩
          · rw [hfrs x hin.1 (by omega)] at h; cases h
          · exact h
          · exact absurd h (noown _)
      · right
        have hg' : (HD st ops.size (doneB listed) e).get x = some ob := HD_get.2 ⟨fun i hi hdi hxi => by
          by_cases h : i = j
          · subst h; exact hin hxi
          · exact g1 i hi (by rw [doneB_set hjs, if_neg h]; exact hdi) hxi, g2, g3⟩
        obtain ⟨k0, o0, q1, q2, _⟩ := I.rel.obj x ob hg'
        have := p.le x k0 q1
        rw [hx] at this; cases this
        exact ⟨hg', q1, I.rel.lt hg' q1⟩
    refine I.sum hT hj hu hpre (by rw [es]; exact hp) p.le hv I.ele k1 k2 (I.dom' hjl (by omega) p) ⟨fun x ob hg => ?_, fun x y ox oy kx ky gx gy mx my hwx hb => ?_⟩ (I.pw' hT hF hjl (hp_sub hA) hwr (by omega) p)
    · by_cases hin : ∃ kx, m' x = some kx
      · obtain ⟨kx, hx⟩ := hin
        rcases split x ob kx hg hx with ⟨h3, _⟩ | ⟨h3, h4, h5⟩
        · exact p.rel.obj x ob h3
        · obtain ⟨k0, o0, q1, q2, q3⟩ := I.rel.obj x ob h3
          rw [h4] at q1; cases q1
          exact ⟨kx, o0, hx, by rw [p.frame _ h5 (noown _)]; exact q2, q3.mono p.le⟩
      · exfalso
        obtain ⟨g1, g2, g3⟩ := HD_get.1 hg
        by_cases h3 : (st j).next ≤ x ∧ x < (st (j + 1)).next
        · have : H.get x = some ob := by
            refine Hp.get_some.2 ⟨?_, ?_⟩
            · cases hq : hid H.bad x with
              | false => rfl
              | true =>
                exfalso
                rw [ap.bad] at hq
                obtain ⟨q, hq1, hq2, hq3⟩ := hid_iff.1 hq
                have := hA.hp.bad q hq1
                omega
            · have : (st (j + 1)).heap.t = H.t := by rw [es]
              rw [← this, ← hT.stills h3.2 (by omega) I.ele (fun l h3 h4 => .inl (nowr l (by omega) h4))]
              exact g3
          obtain ⟨k0, _, q1, _⟩ := p.rel.obj x ob this
          exact hin ⟨k0, q1⟩
        · have hg' : (HD st ops.size (doneB listed) e).get x = some ob := HD_get.2 ⟨fun i hi hdi hxi => by
            by_cases h : i = j
            · subst h; exact h3 hxi
            · exact g1 i hi (by rw [doneB_set hjs, if_neg h]; exact hdi) hxi, g2, g3⟩
          obtain ⟨k0, _, q1, _⟩ := I.rel.obj x ob hg'
          exact hin ⟨k0, p.le x k0 q1⟩
    · rcases split x ox kx gx mx with ⟨h3, h4⟩ | ⟨h3, h4, h5⟩ <;> rcases split y oy ky gy my with ⟨h6, h7⟩ | ⟨h6, h7, h8⟩
      · exact p.rel.inj x y ox oy kx ky h3 h6 mx my hwx hb
      · omega
      · omega
      · exact I.rel.inj x y ox oy kx ky h3 h6 h4 h7 hwx hb
  | store nm =>
    rw [hk] at hs
    obtain ⟨h1, ht, hil, v, T, H, nx, hh, hp, es, _⟩ := hs
    rw [if_pos (by rw [← hw, h1])]
    exact I.write hT hF hfr hj hu hpre (by rw [hk]; rfl) ht hil hh hp es
  | wrt =>
    rw [hk] at hs
    obtain ⟨h1, ht, hil, v, T, H, nx, hh, hp, _, es, _⟩ := hs
    rw [if_pos (by rw [← hw, h1])]
    exact I.write hT hF hfr hj hu hpre (by rw [hk]; rfl) ht hil hh hp es

def unl (ops : Array Oper) (listed : Array Bool) : Nat := ((List.range ops.size).filter fun i => !listed.getD i true).length
theorem filt_less {l : List Nat} (hnd : l.Nodup) {i : Nat} (hi : i ∈ l) {f g : Nat → Bool} (hf : f i = true) (hg : g i = false) (hfg : ∀ j, j ≠ i → g j = f j) : (l.filter g).length + 1 = (l.filter f).length := by
  induction l with
  | nil => simp at hi
  | cons x l ih =>
    obtain ⟨h1, h2⟩ := List.nodup_cons.1 hnd
    by_cases e : x = i
    · subst e
      have : l.filter g = l.filter f := List.filter_congr fun y hy => hfg y (fun e => h1 (e ▸ hy))
      simp [List.filter_cons, hf, hg, this]
    · have hi' : i ∈ l := by rcases List.mem_cons.1 hi with h | h; exact absurd h.symm e; exact h
      have := ih h2 hi'
      rw [List.filter_cons, List.filter_cons, hfg x e]
      split
      · simp only [List.length_cons]; omega
      · exact this
theorem unl_set {ops : Array Oper} {listed : Array Bool} {i : Nat} (hi : i < ops.size) (hl : listed.size = ops.size) (h : listed.getD i true = false) : unl ops (listed.setIfInBounds i true) + 1 = unl ops listed := by
  refine filt_less List.nodup_range (List.mem_range.2 hi) (by simp [h]) (by simp [hl, hi]) fun j hj => ?_
  rw [getD_set_ne true (Ne.symm hj)]
theorem doneB_true {ops : Array Oper} {listed : Array Bool} (hl : listed.size = ops.size) {i : Nat} (hi : i < ops.size) : doneB listed i = listed.getD i true := by
  unfold doneB
  rw [Array.getD_eq_getD_getElem?, Array.getD_eq_getD_getElem?, Array.getElem?_eq_getElem (by omega)]
  rfl
theorem region_any (hT : Trace P rec n ops st dr kd) (hF : Fresh m0 (st 0).next (st ops.size).next) (hfr : FR m0 round F) {Q : Exit → Act → World → Prop}
    (hQ : ∀ a' m' W', PW m0 (st 0).heap (st 0).next W0 m' (st ops.size).heap.wr (st ops.size).next W' → Rel m' (st ops.size).heap W' → SR m' n (st ops.size) a' → Q .normal a' W') :
    ∀ (fuel : Nat) (listed : Array Bool) (a : Act) (W : World) (m : NM) (e : Nat), Inv n ops st kd m0 W0 listed a W m e → unl ops listed ≤ fuel → wpAnyIn F 0 P .any ops Q fuel listed a W := by
  have nil_done : ∀ (listed : Array Bool) (a : Act) (W : World) (m : NM) (e : Nat), Inv n ops st kd m0 W0 listed a W m e → Region.ready .any ops listed = [] → Q .normal a W := by
    intro listed a W m e I hnil
    have all : ∀ j, j < ops.size → doneB listed j = true := by
      intro j
      induction j using Nat.strongRecOn with
      | _ j ih =>
        intro hj
        cases hd : doneB listed j with
        | true => rfl
        | false =>
          exfalso
          have ho := Array.getElem?_eq_getElem hj
          have : j ∈ Region.ready .any ops listed := mem_ready.2 ⟨by rw [← doneB_true I.size hj]; exact hd, _, ho, fun ed he hb => by
            have h1 := hT.tidy.up j _ ho ed he hb
            exact ih ed.on h1 (by omega)⟩
          rw [hnil] at this; simp at this
    have he : e = ops.size := by
      rcases I.now with h | ⟨_, h⟩
      · exact h
      · have := I.ele
        rcases Nat.lt_or_ge e ops.size with h1 | h1
        · rw [all e h1] at h; cases h
        · omega
    subst he
    have hA := hT.at ops.size (Nat.le_refl _)
    refine hQ a m W I.pw (I.rel.sub fun x ob h => ?_) ⟨⟨I.asz, fun t => ?_⟩, ?_⟩
    · obtain ⟨h1, h2⟩ := Hp.get_some.1 h
      exact HD_get.2 ⟨(fun i hi hdi _ => by rw [all i hi] at hdi; cases hdi), (by rw [← hA.bad]; exact h1), h2⟩
    · by_cases h : ∃ i, dstOf ops i = some t
      · obtain ⟨i, hi⟩ := h
        have hik : i < ops.size := by
          unfold dstOf at hi
          rcases Nat.lt_or_ge i ops.size with h1 | h1
          · exact h1
          · rw [Array.getElem?_eq_none h1] at hi; simp at hi
        exact I.done i t (all i hik) hi
      · have hv := I.rest t (fun i _ hi => h ⟨i, hi⟩)
        rw [hT.tmp (i := 0) (by omega) (Nat.le_refl _) (fun l _ _ hl => h ⟨l, hl⟩)]
        exact hv
    · rw [hA.defers]; exact I.dfr
  intro fuel
  induction fuel with
  | zero =>
    intro listed a W m e I hle
    have hnil : Region.ready .any ops listed = [] := by
      rcases h : Region.ready .any ops listed with _ | ⟨x, l⟩
      · rfl
      · exfalso
        have hx : x ∈ Region.ready .any ops listed := by rw [h]; simp
        obtain ⟨h1, o, ho, _⟩ := mem_ready.1 hx
        have := unl_set (Array.getElem?_eq_some_iff.1 ho).1 I.size h1
        omega
    exact ⟨hnil, nil_done listed a W m e I hnil⟩
  | succ fuel ih =>
    intro listed a W m e I hle
    refine ⟨nil_done listed a W m e I, fun j hj => ?_⟩
    obtain ⟨h1, o, ho, h2⟩ := mem_ready.1 hj
    have hjl := (Array.getElem?_eq_some_iff.1 ho).1
    refine wpOpIn_mono (fun a' W' ⟨m', e', I'⟩ => ih _ a' W' m' e' I' ?_) (I.step hT hF hfr ho (by rw [doneB_true I.size hjl]; exact h1) (fun ed he hb => h2 ed he hb))
    have := unl_set hjl I.size h1
    omega

theorem draw_ok {rec : Task → Option Res} (hrec : RecOk P rec) (hm : P.follows .mixedOrders = true) {n : Nat} {ops : Array Oper} {s s' : St} (ht : tidyR ops = true) (hW : Wf s.heap s.next) (h : opsD P rec n ops (Region.before ops) ops.toList 0 s ⟨[], [], []⟩ = some s') :
    AP s.heap s.next s'.heap s'.next ∧ ∀ m W a F round, SR m n s a → Rel m s.heap W → Fresh m s.next s'.next → FR m round F → ∀ (Q : Exit → Act → World → Prop),
      (∀ a' m' W', Post m s.heap s.next W m' s'.heap s'.next W' → SR m' n s' a' → Q .normal a' W') → ∀ id, (Code.region id ops true).wpIn F 0 P Q a W := by
  obtain ⟨st, dr, kd, e1, e2, e3, e4⟩ := opsD_trace ops.toList 0 s s' _ h
  simp only [Nat.zero_add, Array.length_toList] at e3 e4
  have hT : Trace P rec n ops st dr kd := ⟨hrec, tidy_of ht, fun j o ho => (e4 j o (by rw [Array.getElem?_toList]; exact ho)).1, fun {j o} ho => (e4 j o (by rw [Array.getElem?_toList]; exact ho)).2, e2, by rw [e1]; exact hW⟩
  have hap := hT.aps (Nat.zero_le ops.size) (Nat.le_refl _)
  rw [e1, e3] at hap
  refine ⟨hap, fun m W a F round sr hR hF hfr Q hQ id => wpIn_region_any hm ?_⟩
  obtain ⟨e', f1, f2, f3, f4⟩ := exists_next ops kd ops.size 0 (by omega)
  have hdone : ∀ i, doneB (Array.replicate ops.size false) i = false := fun i => by
    unfold doneB
    rw [Array.getD_eq_getD_getElem?, Array.getElem?_replicate]
    split <;> rfl
  refine region_any (m0 := m) (W0 := { W with drawn := W.drawn + 1 }) hT (by rw [e1, e3]; exact hF) hfr (fun a' m' W' pw hr sr' => ?_) ops.size _ a _ m e' ?_ ?_
  · rw [e1, e3] at pw
    rw [e3] at hr sr'
    exact hQ a' m' W' ⟨pw.le, pw.new, hr, pw.frame, pw.os, pw.tape, pw.output, pw.size⟩ sr'
  · refine ⟨by simp, fun j o _ hd => (by rw [hdone] at hd; cases hd), sr.tmps.1, fun i t hd => (by rw [hdone] at hd; cases hd), fun t _ => (by rw [e1]; exact sr.tmps.2 t), by rw [e1]; exact sr.defers, f2, fun i hi hw => ?_, ?_, fun x b hx => .inl hx, ?_, ?_⟩
    · rw [f3 i (by omega) hi] at hw; cases hw
    · rcases f4 with h | h
      · exact .inl h
      · exact .inr ⟨h, hdone _⟩
    · refine (hR.heap rfl : Rel m s.heap { W with drawn := W.drawn + 1 }).sub fun x ob hg => ?_
      obtain ⟨g1, g2, g3⟩ := HD_get.1 hg
      have hlt : x < (st 0).next := by
        rcases Nat.lt_or_ge x (st 0).next with h | h
        · exact h
        · exfalso
          have hlt' : x < (st e').next := by
            rcases Nat.lt_or_ge x (st e').next with h5 | h5
            · exact h5
            · rw [(hT.at e' f2).wf.none x h5] at g3; cases g3
          obtain ⟨l, h8, h9, h10, h11⟩ := hT.who h f1 f2 hlt'
          exact g1 l h9 (hdone l) ⟨h10, h11⟩
      rw [hT.stills hlt f1 f2 (fun l h1 h2 => .inl (f3 l h1 h2)), e1] at g3
      rw [e1] at g2
      exact Hp.get_some.2 ⟨g2, g3⟩
    · exact ⟨Le.refl m, fun _ _ h => .inl h, fun _ _ _ => rfl, rfl, rfl, rfl, Nat.le_refl _⟩
  · unfold unl
    exact Nat.le_trans (List.length_filter_le _ _) (by simp)
end Abs
end Go.Proofs.YtekmmeikkafpmaaGreat

namespace Go.Proofs.YtekmmeikkafpmaaGreat
namespace Abs
open Go.RowKit
variable {P : Program} {m : NM}

def progOk (P : Program) : Bool := P.follows .mixedOrders && P.funcs.all fun fn => match fn.body with
  | some c => codeOk c && !(fn.name == "runtime.NumGoroutine")
  | none => true
theorem progOk_fn (h : progOk P = true) {f : FuncId} {fn : Func} {c : Code} (hf : P.funcs[f]? = some fn) (hb : fn.body = some c) : codeOk c = true ∧ HasBody P f := by
  simp only [progOk, Bool.and_eq_true, Array.all_eq_true_iff_forall_mem] at h
  have := h.2 fn (Array.mem_of_getElem? hf)
  simp only [hb, Bool.and_eq_true, Bool.not_eq_true'] at this
  exact ⟨this.1, fn, c, hf, hb, this.2⟩

def resultS (tmps : Array Value) : ResultVar → Sem Value
  | .tmp t => pure (tmps.getD t undef)
  | .cell a t => do loadVar t (← asAddr (tmps.getD a undef))
theorem result_ok {H : Hp} {W : World} {n : Nat} {T : Tr AV} {tmps : Array Value} (hR : Rel m H W) (hT : TR m n T tmps) {r : ResultVar} {a : AV} (h : resultA P H T r = some a) : ∃ v, VR m a v ∧ (resultS tmps r).run P W = .ok v W := by
  unfold resultA at h
  cases r with
  | tmp t => exact ⟨_, (hT.2 t).of h, rfl⟩
  | cell x t =>
    simp only at h
    split at h <;> try (cases h; done)
    rename_i nn off hx
    have hv := (hT.2 x).of hx
    simp only [VR] at hv
    obtain ⟨k, hk, hv⟩ := hv
    obtain ⟨v, h1, h2⟩ := loadT_ok hR h hk
    exact ⟨v, h1, by simp [resultS, hv, asAddr, h2]⟩
theorem resultsL_ok {H : Hp} {W : World} {n : Nat} {T : Tr AV} {tmps : Array Value} (hR : Rel m H W) (hT : TR m n T tmps) : ∀ {rs : List ResultVar} {l : List AV}, resultsL P H T rs = some l → ∃ vs, VRs m l vs ∧ (rs.mapM (resultS tmps)).run P W = .ok vs W := by
  intro rs
  induction rs with
  | nil => intro l h; simp [resultsL] at h; subst h; exact ⟨[], .nil, by simp⟩
  | cons r rs ih =>
    intro l h
    unfold resultsL at h
    cases h1 : resultA P H T r with
    | none => simp [h1] at h
    | some a => cases h2 : resultsL P H T rs with
      | none => simp [h1, h2] at h
      | some l' =>
        simp [h1, h2] at h; subst h
        obtain ⟨v, g1, g2⟩ := result_ok hR hT h1
        obtain ⟨vs, g3, g4⟩ := ih h2
        exact ⟨v :: vs, .cons g1 g3, by simp [List.mapM_cons, g2, g4]⟩
theorem results_ok {H : Hp} {W : World} {n : Nat} {T : Tr AV} {tmps : Array Value} {fn : Func} {a : AV} (hR : Rel m H W) (hT : TR m n T tmps) (h : resultsA P H T fn.results.toList = some a) : ∃ v, VR m a v ∧ (results fn tmps).run P W = .ok v W := by
  unfold resultsA at h
  cases hl : resultsL P H T fn.results.toList with
  | none => simp [hl] at h
  | some l =>
    obtain ⟨vs, g1, g2⟩ := resultsL_ok hR hT hl
    have key : (results fn tmps).run P W = .ok (if h : vs.toArray.size = 1 then vs.toArray[0] else .tuple vs.toArray) W := by
      have he : results fn tmps = (do let vs ← fn.results.mapM (resultS tmps); pure (if h : vs.size = 1 then vs[0] else .tuple vs)) := by
        unfold results
        congr 1
      rw [he, Array.mapM_eq_mapM_toList]
      simp [g2]
    rw [key]
    simp only [hl] at h
    split at h
    · rename_i v e
      cases e; cases h
      obtain ⟨v', t, rfl, h1, h2⟩ := g1.cons_inv
      rw [h2.nil_inv]
      exact ⟨v', h1, rfl⟩
    · rename_i l' hne e
      cases e; cases h
      refine ⟨.tuple vs.toArray, by simp only [VR]; exact ⟨_, rfl, by simpa using g1⟩, ?_⟩
      have : ¬ vs.toArray.size = 1 := by
        intro h1
        simp at h1
        rw [g1.length] at h1
        obtain ⟨x, rfl⟩ := List.length_eq_one_iff.1 h1
        exact hne x rfl
      rw [dif_neg this]
    · rename_i e; cases e
theorem ofArgs_get : ∀ (l : List AV) (i : Nat) (T : Tr AV) (t : Nat), (ofArgs l i T).get t = if i ≤ t ∧ t < i + l.length then l[t - i]? else T.get t := by
  intro l
  induction l with
  | nil => intro i T t; simp [ofArgs]; omega
  | cons v l ih =>
    intro i T t
    simp only [ofArgs, ih, Tr.get_set, List.length_cons]
    by_cases h1 : i + 1 ≤ t ∧ t < i + 1 + l.length
    · rw [if_pos h1, if_pos (by omega), show t - i = (t - (i + 1)) + 1 by omega]; simp
    · rw [if_neg h1]
      by_cases h2 : t = i
      · subst h2; rw [if_pos rfl, if_pos (by omega)]; simp
      · rw [if_neg h2, if_neg (by omega)]
theorem enter_tr {args : List AV} {xs : Array Value} {N : Nat} (h : VRs m args xs.toList) : TR m (max N args.length) (ofArgs args 0 .nil) (xs ++ Array.replicate (N - xs.size) undef) := by
  have hl := h.length
  rw [Array.length_toList] at hl
  refine ⟨by simp; omega, fun t => ?_⟩
  rw [ofArgs_get, Array.getD_eq_getD_getElem?, Array.getElem?_append]
  by_cases h1 : t < xs.size
  · rw [if_pos (by omega), if_pos h1]
    have : args[t]? = some args[t] := List.getElem?_eq_getElem (by omega)
    obtain ⟨v, h2, h3⟩ := h.get this
    rw [Array.getElem?_toList] at h2
    rw [h2, Nat.sub_zero, this]; exact h3
  · rw [if_neg (by omega), if_neg h1]
    exact trivial
theorem leave_ok {rec : Task → Option Res} (hrec : RecOk P rec) : ∀ {ds : List ADef} {H H' : Hp} {nx nx' : Nat}, Wf H nx → leaveA rec ds H nx = some (H', nx') → AP H nx H' nx' ∧ ∀ m W dsv, DR m ds dsv → Rel m H W → Fresh m nx nx' →
    ∀ (fn : Func) (tmps : Array Value) (R : Ending → World → Prop), (∀ m' W', Post m H nx W m' H' nx' W' → LeavesInM Fence.wide 0 P fn tmps R [] .returning W') → LeavesInM Fence.wide 0 P fn tmps R dsv .returning W := by
  intro ds
  induction ds with
  | nil =>
    intro H H' nx nx' hW h
    simp only [leaveA, Option.some.injEq, Prod.mk.injEq] at h
    obtain ⟨rfl, rfl⟩ := h
    exact ⟨.refl hW, fun m W dsv hd hR _ fn tmps R hK => by cases hd; exact hK m W (.refl hR)⟩
  | cons d ds ih =>
    intro H H' nx nx' hW h
    cases d with
    | mark r =>
      simp only [leaveA] at h
      cases hg : H.get r with
      | none => simp [hg] at h
      | some ob =>
        cases ob <;> simp only [hg] at h <;> try (cases h; done)
        rename_i b
        cases b <;> simp only at h <;> try (cases h; done)
        have a1 : AP H nx (H.put r (.dfr false)) nx := put_ap hW hg rfl
        obtain ⟨a2, w2⟩ := ih a1.wf h
        refine ⟨a1.trans a2, fun m W dsv hd hR hF fn tmps R hK => ?_⟩
        obtain ⟨k, t, hk, rfl, hd⟩ := hd
        obtain ⟨k', o, e1, e2, e3⟩ := hR.obj r _ hg
        rw [hk] at e1; cases e1
        simp only [OR, if_true] at e3
        subst e3
        have hlt := (Array.getElem?_eq_some_iff.1 e2).1
        obtain ⟨_, p⟩ := put_ok (ob' := .dfr false) (W' := W.putObj k.b (.deferred none)) hR hW hg rfl rfl hk (World.putObj_heap_same hlt) (fun b hb => World.putObj_heap_other hb) World.putObj_size rfl rfl rfl rfl
        refine ⟨by simp, .inl ⟨k.b, _, rfl, run_takeDeferred e2, ?_⟩⟩
        exact w2 m _ t hd p.rel hF fn tmps R (fun m' W' q => hK m' W' (p.trans a1 a2 (fun i a b => by omega) q))
    | fn f cap args =>
      simp only [leaveA] at h
      cases hc : rec (.dcall f (args ++ cap) H nx) with
      | none => simp [hc] at h
      | some r =>
        cases r <;> simp only [hc] at h <;> try (cases h; done)
        rename_i v H1 n1
        obtain ⟨hb, a1, w1⟩ := hrec _ _ hc hW
        obtain ⟨a2, w2⟩ := ih a1.wf h
        refine ⟨a1.trans a2, fun m W dsv hd hR hF fn tmps R hK => ?_⟩
        obtain ⟨xs, ys, t, rfl, h1, h2, hd⟩ := hd
        refine ⟨by simp, .inr ⟨fun h => (by cases h), .func f, ys, f, xs ++ ys, rfl, ?_, fun _ _ => trivial, ?_⟩⟩
        · simp only [invoke]; exact hb.call _ _
        · have hF1 := hF.left a2.le
          refine (w1 m W (xs ++ ys) .returning (by rw [Array.toList_append]; exact h2.append h1) hR hF1).mono ?_
          rintro e u' W' ⟨rfl, v', m', rfl, p, hv⟩
          exact w2 m' W' t (hd.mono p.le) p.rel (p.fresh hF a1.le) fn tmps R (fun m2 W2 q => hK m2 W2 (p.trans a1 a2 hF1 q))

theorem call_ok {rec : Task → Option Res} (hrec : RecOk P rec) (hp : progOk P = true) {f : FuncId} {args : List AV} {H H' : Hp} {nx nx' : Nat} {v : AV} (h : step P rec (.call f args H nx) = some (.call v H' nx')) : CallOk P f args H nx v H' nx' := by
  intro hW
  simp only [step] at h
  cases hf : P.funcs[f]? with
  | none => simp [hf] at h
  | some fn =>
    cases hb : fn.body with
    | none => simp [hf, hb] at h
    | some c =>
      obtain ⟨hc, hbody⟩ := progOk_fn hp hf hb
      simp only [hf, hb] at h
      cases hr : rec (.code (max fn.ntmps args.length) none c ⟨ofArgs args 0 .nil, [], H, nx⟩) with
      | none => simp [hr] at h
      | some r =>
        have main : ∀ (e : Ex) (s : St), (e = .normal ∨ e = .ret) → CodeOk P (max fn.ntmps args.length) none c ⟨ofArgs args 0 .nil, [], H, nx⟩ e s →
            (match leaveA rec s.defers s.heap s.next with
              | some (H, nx) => match resultsA P H s.tmps fn.results.toList with
                | some v => some (Res.call v H nx)
                | none => none
              | none => none) = some (.call v H' nx') →
            HasBody P f ∧ AP H nx H' nx' ∧ ∀ m W (xs : Array Value), VRs m args xs.toList → Rel m H W → Fresh m nx nx' → Calls P f xs W (VPost m H nx W v H' nx') := by
          intro e s he hco h
          obtain ⟨a1, w1⟩ := hco hc hW
          cases hl : leaveA rec s.defers s.heap s.next with
          | none => simp [hl] at h
          | some p =>
            obtain ⟨H2, n2⟩ := p
            simp only [hl] at h
            cases hrs : resultsA P H2 s.tmps fn.results.toList with
            | none => simp [hrs] at h
            | some v2 =>
              simp [hrs] at h
              obtain ⟨rfl, rfl, rfl⟩ := h
              obtain ⟨a2, w2⟩ := leave_ok hrec a1.wf hl
              refine ⟨hbody, a1.trans a2, fun m W xs hxs hR hF => ?_⟩
              have hF1 : Fresh m nx s.next := hF.left a2.le
              refine (callsIn_wide (n := 0)).1 (callsIn_of_wp_marks hf hb trivial ?_)
              refine wpIn_mono (wpC_wpIn (w1 m W ⟨xs ++ Array.replicate (fn.ntmps - xs.size) undef, []⟩ Fence.wide ⟨enter_tr hxs, rfl⟩ hR hF1 rfl)) ?_
              rintro ex a' W' ⟨rfl, m1, p1, sr1⟩
              have fin : LeavesInM Fence.wide 0 P fn a'.tmps (VPost m H nx W v2 H2 n2) a'.defers .returning W' := by
                refine w2 m1 W' _ sr1.defers p1.rel (p1.fresh hF a1.le) fn a'.tmps _ (fun m2 W2 p2 => ?_)
                obtain ⟨v', h1, h2⟩ := results_ok p2.rel (sr1.tmps.mono p2.le) hrs
                exact ⟨v', h2, v', m2, rfl, p1.trans a1 a2 hF1 p2, h1⟩
              rcases he with rfl | rfl
              · exact fin
              · exact fin
        cases r with
        | call v H nx => simp [hr] at h
        | code e s =>
          simp only [hr] at h
          cases e <;> simp only at h <;> try (cases h; done)
          · exact main _ s (.inl rfl) (hrec _ _ hr) h
          · exact main _ s (.inr rfl) (hrec _ _ hr) h
theorem dcall_ok {rec : Task → Option Res} (hrec : RecOk P rec) (hp : progOk P = true) {f : FuncId} {args : List AV} {H H' : Hp} {nx nx' : Nat} {v : AV} (h : step P rec (.dcall f args H nx) = some (.call v H' nx')) : DCallOk P f args H nx v H' nx' := by
  intro hW
  simp only [step] at h
  cases hf : P.funcs[f]? with
  | none => simp [hf] at h
  | some fn =>
    cases hb : fn.body with
    | none => simp [hf, hb] at h
    | some c =>
      obtain ⟨hc, hbody⟩ := progOk_fn hp hf hb
      simp only [hf, hb] at h
      cases hr : rec (.code (max fn.ntmps args.length) none c ⟨ofArgs args 0 .nil, [], H, nx⟩) with
      | none => simp [hr] at h
      | some r =>
        have main : ∀ (e : Ex) (s : St), (e = .normal ∨ e = .ret) → CodeOk P (max fn.ntmps args.length) none c ⟨ofArgs args 0 .nil, [], H, nx⟩ e s →
            (match s.defers with
              | [] => match resultsA P s.heap s.tmps fn.results.toList with
                | some v => some (Res.call v s.heap s.next)
                | none => none
              | _ => none) = some (.call v H' nx') →
            HasBody P f ∧ AP H nx H' nx' ∧ ∀ m W (xs : Array Value) (u : FrameMode), VRs m args xs.toList → Rel m H W → Fresh m nx nx' → CallsDIn Fence.wide 0 P f xs u W (fun e u' W' => u' = u ∧ VPost m H nx W v H' nx' e W') := by
          intro e s he hco h
          obtain ⟨a1, w1⟩ := hco hc hW
          cases hd : s.defers with
          | cons d ds => simp [hd] at h
          | nil =>
            simp only [hd] at h
            cases hrs : resultsA P s.heap s.tmps fn.results.toList with
            | none => simp [hrs] at h
            | some v2 =>
              simp [hrs] at h
              obtain ⟨rfl, rfl, rfl⟩ := h
              refine ⟨hbody, a1, fun m W xs u hxs hR hF => ?_⟩
              refine callsDIn_of_wp hf hb trivial ?_
              refine wpIn_mono (wpC_wpIn (w1 m W ⟨xs ++ Array.replicate (fn.ntmps - xs.size) undef, []⟩ Fence.wide ⟨enter_tr hxs, rfl⟩ hR hF rfl)) ?_
              rintro ex a' W' ⟨rfl, m1, p1, sr1⟩
              have hdv := sr1.defers
              rw [hd] at hdv
              obtain ⟨v', h1, h2⟩ := results_ok p1.rel sr1.tmps hrs
              rcases he with rfl | rfl
              · exact ⟨hdv, v', h2, v', m1, rfl, p1, h1⟩
              · exact ⟨hdv, v', h2, v', m1, rfl, p1, h1⟩
        cases r with
        | call v H nx => simp [hr] at h
        | code e s =>
          simp only [hr] at h
          cases e <;> simp only at h <;> try (cases h; done)
          · exact main _ s (.inl rfl) (hrec _ _ hr) h
          · exact main _ s (.inr rfl) (hrec _ _ hr) h
end Abs
end Go.Proofs.YtekmmeikkafpmaaGreat

namespace Go.Proofs.YtekmmeikkafpmaaGreat
namespace Abs
open Go.RowKit
variable {P : Program} {m : NM}

theorem CodeOk.mk {n : Nat} {round : Option Nat} {c : Code} {s : St} {e : Ex} {s' : St} (hl : ∀ c', c ≠ .loop c') (h : codeOk c = true → Wf s.heap s.next → AP s.heap s.next s'.heap s'.next ∧
    ∀ m W a F, SR m n s a → Rel m s.heap W → Fresh m s.next s'.next → FR m round F → c.wpIn F 0 P (CPost m n s W e s') a W) : CodeOk P n round c s e s' := fun h1 h2 => by
  obtain ⟨a, w⟩ := h h1 h2
  refine ⟨a, fun m W b F h3 h4 h5 h6 => ?_⟩
  have := w m W b F h3 h4 h5 h6
  cases c <;> first | exact this | exact absurd rfl (hl _)
theorem CPost.after {n : Nat} {s s1 s2 : St} {W W1 : World} {e : Ex} {m1 : NM} (a1 : AP s.heap s.next s1.heap s1.next) (a2 : AP s1.heap s1.next s2.heap s2.next) (hF : Fresh m s.next s1.next) (p : Post m s.heap s.next W m1 s1.heap s1.next W1) {ex : Exit} {a : Act} {W2 : World}
    (h : CPost m1 n s1 W1 e s2 ex a W2) : CPost m n s W e s2 ex a W2 := by
  obtain ⟨h1, m2, h2, h3⟩ := h
  exact ⟨h1, m2, p.trans a1 a2 hF h2, h3⟩

theorem range_rest {rec : Task → Option Res} (hrec : RecOk P rec) {n : Nat} {round : Option Nat} {g : FuncId} {first cap : List AV} {ps : Array Tmp} {assign body : Code} {D : Nat} {s1 s' : St} {e : Ex} {v : AV} {H3 : Hp} {nx3 : Nat} (hca : codeOk assign = true) (hcb : codeOk body = true) (hW : Wf s1.heap s1.next)
    (hcall : rec (.call g (first ++ [.yield s1.next] ++ cap) (s1.heap.lay s1.next (.loop ⟨.ready, none, n, s1.tmps, ps.toList, assign, body, D⟩)) (s1.next + 1)) = some (.call v H3 nx3))
    (h : (match H3.get s1.next with
      | some (.loop L) => match L.state with
        | .busy => none
        | _ => match L.pending with
          | none => some (Res.code .normal ⟨s1.tmps, s1.defers, H3.put s1.next (.loop { L with state := .exhausted }), nx3⟩)
          | some c => rec (.code n round c ⟨s1.tmps, s1.defers, H3.put s1.next (.loop { L with state := .exhausted }), nx3⟩)
      | _ => none) = some (.code e s')) :
    HasBody P g ∧ AP s1.heap s1.next s'.heap s'.next ∧ ∀ m1 W1 (a1 : Act) F fn dfb xs ys, SR m1 n s1 a1 → Rel m1 s1.heap W1 → Fresh m1 s1.next s'.next → FR m1 round F → (∃ kd, m1 D = some kd ∧ dfb = kd.b) → VRs m1 first xs → VRs m1 cap ys →
      Calls P g (xs.toArray ++ #[.func (.yield W1.heap.size) #[] #[]] ++ ys.toArray) (W1.alloc (.loop { state := .ready, pending := none, fn, tmps := a1.tmps, params := ps, assign, body, defers := dfb }))
        (rangePost F 0 P W1.heap.size (CPost m1 n s1 W1 e s') a1) := by
  have hob : ObOk (.loop ⟨.ready, none, n, s1.tmps, ps.toList, assign, body, D⟩) := ⟨hca, hcb, fun c h => by cases h⟩
  have b1 := lay_ap hW _ hob
  obtain ⟨hbody, b2, w2⟩ := hrec _ _ hcall b1.wf
  refine ⟨hbody, ?_⟩
  cases hg : H3.get s1.next with
  | none => simp [hg] at h
  | some ob =>
    cases ob <;> simp only [hg] at h <;> try (cases h; done)
    rename_i L
    have hok := b2.wf.ok _ _ (Hp.get_some.1 hg).2
    have b3 : AP H3 nx3 (H3.put s1.next (.loop { L with state := .exhausted })) nx3 := put_ap b2.wf hg rfl hok
    have hbusy : L.state ≠ .busy := fun hb => by rw [hb] at h; cases h
    have h' : (match L.pending with
          | none => some (Res.code .normal ⟨s1.tmps, s1.defers, H3.put s1.next (.loop { L with state := .exhausted }), nx3⟩)
          | some c => rec (.code n round c ⟨s1.tmps, s1.defers, H3.put s1.next (.loop { L with state := .exhausted }), nx3⟩)) = some (.code e s') := by
      cases hst : L.state <;> rw [hst] at h <;> first | exact h | exact absurd hst hbusy
    clear h
    -- up to the end of the loop
    have upto : ∀ (hnx : nx3 ≤ s'.next) m1 W1 (a1 : Act) F fn dfb xs ys, SR m1 n s1 a1 → Rel m1 s1.heap W1 → Fresh m1 s1.next s'.next → FR m1 round F → (∃ kd, m1 D = some kd ∧ dfb = kd.b) → VRs m1 first xs → VRs m1 cap ys →
        (∀ m4 W4, Post m1 s1.heap s1.next W1 m4 (H3.put s1.next (.loop { L with state := .exhausted })) nx3 W4 → (match L.pending with | none => CPost m1 n s1 W1 e s' .normal a1 W4 | some c => c.wpIn F 0 P (CPost m1 n s1 W1 e s') a1 W4)) →
        Calls P g (xs.toArray ++ #[.func (.yield W1.heap.size) #[] #[]] ++ ys.toArray) (W1.alloc (.loop { state := .ready, pending := none, fn, tmps := a1.tmps, params := ps, assign, body, defers := dfb }))
          (rangePost F 0 P W1.heap.size (CPost m1 n s1 W1 e s') a1) := by
      intro hnx m1 W1 a1 F fn dfb xs ys sr hR hF hfr hD hxs hys hK
      have hm : m1 s1.next = none := hF s1.next (Nat.le_refl _) (by have := b2.le; omega)
      obtain ⟨kd, hkd, hdf⟩ := hD
      have hle := le_upd (k := ⟨W1.heap.size, 0, 0⟩) hm
      obtain ⟨_, p1⟩ := lay_ok (W' := W1.alloc (.loop { state := .ready, pending := none, fn, tmps := a1.tmps, params := ps, assign, body, defers := dfb })) (C := 0) hR hW hm rfl rfl rfl rfl
        (ob := .loop ⟨.ready, none, n, s1.tmps, ps.toList, assign, body, D⟩) ⟨_, rfl, rfl, rfl, rfl, rfl, rfl, sr.tmps.mono hle, ⟨kd, hle _ _ hkd, hdf⟩⟩ hob
      have hF1 : Fresh m1 s1.next (s1.next + 1) := hF.left (by have := b2.le; omega)
      have hF2 := p1.fresh (hF.left hnx) (by omega)
      have hargs : VRs (upd m1 s1.next ⟨W1.heap.size, 0, 0⟩) (first ++ [.yield s1.next] ++ cap) (xs.toArray ++ #[Value.func (.yield W1.heap.size) #[] #[]] ++ ys.toArray).toList := by
        simp only [Array.toList_append]
        exact ((hxs.mono hle).append (.cons (by simp only [VR]; exact ⟨_, upd_same, rfl⟩) .nil)).append (hys.mono hle)
      refine (w2 _ _ _ hargs p1.rel hF2).mono ?_
      rintro en W3 ⟨v', m3, rfl, p3, _⟩
      have hk3 := p3.le _ _ (upd_same (m := m1) (n := s1.next) (k := ⟨W1.heap.size, 0, 0⟩))
      obtain ⟨r, hb, r0, hr0, e1, e2, e3, e4, e5, e6, e7⟩ := loop_at p3.rel hg hk3
      cases hr0
      obtain ⟨_, p4⟩ := loop_put (L' := { L with state := .exhausted }) (r' := { r with state := .exhausted }) p3.rel b2.wf hg hk3 hb ⟨_, rfl, rfl, e2, e3, e4, e5, e6, e7⟩ hok
      have pall := p1.trans b1 (b2.trans b3) hF1 (p3.trans b2 b3 hF2 p4)
      refine ⟨r.pending, _, run_endLoop hb (by rw [e1]; exact hbusy), ?_⟩
      have := hK m3 _ pall
      have key : ∀ W4, (match L.pending with | none => CPost m1 n s1 W1 e s' .normal a1 W4 | some c => c.wpIn F 0 P (CPost m1 n s1 W1 e s') a1 W4) → (match r.pending with | none => CPost m1 n s1 W1 e s' .normal a1 W4 | some c => c.wpIn F 0 P (CPost m1 n s1 W1 e s') a1 W4) := fun W4 h => by rw [e2]; exact h
      exact key _ this
    generalize (H3.put s1.next (.loop { L with state := .exhausted })) = H4 at b3 h' upto
    cases hpend : L.pending with
    | none =>
      simp only [hpend, Option.some.injEq, Res.code.injEq] at h'
      obtain ⟨rfl, rfl⟩ := h'
      refine ⟨b1.trans (b2.trans b3), fun m1 W1 a1 F fn dfb xs ys sr hR hF hfr hD hxs hys => upto (Nat.le_refl _) m1 W1 a1 F fn dfb xs ys sr hR hF hfr hD hxs hys (fun m4 W4 p4 => ?_)⟩
      simp only [hpend]
      exact ⟨rfl, m4, p4, ⟨sr.tmps.mono p4.le, sr.defers.mono p4.le⟩⟩
    | some c =>
      simp only [hpend] at h'
      obtain ⟨b4, w4⟩ := hrec _ _ h' (hok.2.2 c hpend) b3.wf
      have ball := b1.trans (b2.trans b3)
      refine ⟨ball.trans b4, fun m1 W1 a1 F fn dfb xs ys sr hR hF hfr hD hxs hys => upto b4.le m1 W1 a1 F fn dfb xs ys sr hR hF hfr hD hxs hys (fun m4 W4 p4 => ?_)⟩
      simp only [hpend]
      have hF1 := hF.left b4.le
      exact wpIn_mono (wpC_wpIn (w4 m4 W4 a1 F ⟨sr.tmps.mono p4.le, sr.defers.mono p4.le⟩ p4.rel (p4.fresh hF ball.le) (hfr.mono p4.le))) (fun _ _ _ h => h.after (s1 := ⟨s1.tmps, s1.defers, H4, nx3⟩) ball b4 hF1 p4)

section
variable {P : Program} {n : Nat} {F : Fence} {b : Frame} {a : Act} {k : List Item} {cs : List Frame} {w : World} {Q : Exit → Act → World → Prop}
def noGo (Q : Exit → Act → World → Prop) : Exit → Act → World → Prop
  | .goto _, _, _ => False
  | e, a, w => Q e a w
theorem stepR_scope {c : Code} : Go.step P (lone (b.atR a (.code (.scope c) :: k)) cs w) = .next (lone (b.atR a (.code c :: .inScope c :: k)) cs w) :=
  step_lone_go (by simp [stepG, stepG.exec, Frame.atR])
theorem stepR_inScope {c : Code} : Go.step P (lone (b.atR a (.inScope c :: k)) cs w) = .next (lone (b.atR a k) cs w) :=
  step_lone_go (by simp [stepG, stepG.exec, Frame.atR])
theorem wpIn_scope {c : Code} (h : c.wpIn F n P (noGo Q) a w) : (Code.scope c).wpIn F n P Q a w := by
  intro b k cs hro hb hr
  have h0 : (lone (b.atR a (.code (.scope c) :: k)) cs w).fenced P F := fenced_calm hb hr rfl
  obtain ⟨e, a₁, w₁, hq, harr⟩ := h b (.inScope c :: k) cs hro hb hr
  cases e with
  | normal => exact ⟨.normal, a₁, w₁, hq, .head h0 stepR_scope (StepsIn.trans harr (.one (fenced_calm hb hr rfl) stepR_inScope))⟩
  | exit id' =>
    have hx : exitTo id' (.inScope c :: k) = exitTo id' k := by simp [exitTo]
    exact ⟨.exit id', a₁, w₁, hq, fun k' hk => .head h0 stepR_scope (harr.1 k' (by rw [hx]; exact hk)),
      fun hr' hk => let ⟨k₁, h1, h2⟩ := harr.2 hr' (by rw [hx]; exact hk); ⟨k₁, h1, .head h0 stepR_scope h2⟩⟩
  | goto l => exact hq.elim
  | ret => exact ⟨_, a₁, w₁, hq, .of_steps (.one h0 stepR_scope) harr⟩
  | panic ch => exact ⟨_, a₁, w₁, hq, .of_steps (.one h0 stepR_scope) harr⟩
  | outgrown => exact ⟨_, a₁, w₁, hq, .of_steps (.one h0 stepR_scope) harr⟩
end
theorem code_ok {rec : Task → Option Res} (hrec : RecOk P rec) (hp : progOk P = true) {n : Nat} {round : Option Nat} {c : Code} {s : St} {e : Ex} {s' : St} (h : step P rec (.code n round c s) = some (.code e s')) : CodeOk P n round c s e s' := by
  have hmx : P.follows .mixedOrders = true := by simp only [progOk, Bool.and_eq_true] at hp; exact hp.1
  cases c with
  | skip =>
    simp only [step, Option.some.injEq, Res.code.injEq] at h
    obtain ⟨rfl, rfl⟩ := h
    exact .mk (by simp) fun _ hW => ⟨.refl hW, fun m W a F sr hR _ _ => wpIn_skip ⟨rfl, m, .refl hR, sr⟩⟩
  | label l =>
    simp only [step, Option.some.injEq, Res.code.injEq] at h
    obtain ⟨rfl, rfl⟩ := h
    exact .mk (by simp) fun _ hW => ⟨.refl hW, fun m W a F sr hR _ _ => wpIn_label ⟨rfl, m, .refl hR, sr⟩⟩
  | exit id =>
    simp only [step, Option.some.injEq, Res.code.injEq] at h
    obtain ⟨rfl, rfl⟩ := h
    exact .mk (by simp) fun _ hW => ⟨.refl hW, fun m W a F sr hR _ _ => wpIn_exit ⟨rfl, m, .refl hR, sr⟩⟩
  | goto l =>
    simp only [step, Option.some.injEq, Res.code.injEq] at h
    obtain ⟨rfl, rfl⟩ := h
    exact .mk (by simp) fun _ hW => ⟨.refl hW, fun m W a F sr hR _ _ => wpIn_goto ⟨rfl, m, .refl hR, sr⟩⟩
  | ret =>
    simp only [step, Option.some.injEq, Res.code.injEq] at h
    obtain ⟨rfl, rfl⟩ := h
    exact .mk (by simp) fun _ hW => ⟨.refl hW, fun m W a F sr hR _ _ => wpIn_ret ⟨rfl, m, .refl hR, sr⟩⟩
  | scope x =>
    simp only [step] at h
    refine .mk (by simp) fun hc hW => ?_
    simp only [codeOk] at hc
    cases hx : rec (.code n round x s) with
    | none => simp [hx] at h
    | some r =>
      cases r with
      | call v H nx => simp [hx] at h
      | code e1 s1 =>
        obtain ⟨a1, w1⟩ := hrec _ _ hx hc hW
        cases e1 with
        | goto id => simp [hx] at h
        | exit id =>
          simp [hx] at h; obtain ⟨rfl, rfl⟩ := h
          refine ⟨a1, fun m W a F sr hR hF hfr => wpIn_scope (wpIn_mono (wpC_wpIn (w1 m W a F sr hR hF hfr)) ?_)⟩
          rintro ex a' W' ⟨rfl, h⟩; exact ⟨rfl, h⟩
        | normal =>
          simp [hx] at h; obtain ⟨rfl, rfl⟩ := h
          refine ⟨a1, fun m W a F sr hR hF hfr => wpIn_scope (wpIn_mono (wpC_wpIn (w1 m W a F sr hR hF hfr)) ?_)⟩
          rintro ex a' W' ⟨rfl, h⟩; exact ⟨rfl, h⟩
        | ret =>
          simp [hx] at h; obtain ⟨rfl, rfl⟩ := h
          refine ⟨a1, fun m W a F sr hR hF hfr => wpIn_scope (wpIn_mono (wpC_wpIn (w1 m W a F sr hR hF hfr)) ?_)⟩
          rintro ex a' W' ⟨rfl, h⟩; exact ⟨rfl, h⟩
  | refuse w => simp [step] at h
  | region id ops draw =>
    cases draw with
    | false =>
      simp only [step] at h
      cases ho : ops1 P rec n round ops ops.toList s with
      | none => simp [ho] at h
      | some s1 =>
        simp [ho] at h
        obtain ⟨rfl, rfl⟩ := h
        refine .mk (by simp) fun _ hW => ?_
        obtain ⟨a1, w1⟩ := ops1_ok hrec ops.toList 0 s s1 rfl hW ho
        refine ⟨a1, fun m W a F sr hR hF hfr => wpIn_region ?_⟩
        rw [List.range_eq_range']
        have := w1 m W a F sr hR hF hfr (CPost m n s W .normal s1) (fun a' m' W' p sr' => ⟨rfl, m', p, sr'⟩)
        rwa [Array.length_toList] at this
    | true =>
      simp only [step] at h
      cases ho : opsD P rec n ops (Region.before ops) ops.toList 0 s ⟨[], [], []⟩ with
      | none => simp [ho] at h
      | some s1 =>
        simp [ho] at h
        obtain ⟨rfl, rfl⟩ := h
        refine .mk (by simp) fun hc hW => ?_
        have ht : tidyR ops = true := by simpa [codeOk] using hc
        obtain ⟨a1, w1⟩ := draw_ok hrec hmx ht hW ho
        exact ⟨a1, fun m W a F sr hR hF hfr => w1 m W a F round sr hR hF hfr _ (fun a' m' W' p sr' => ⟨rfl, m', p, sr'⟩) id⟩
  | seq x y =>
    simp only [step] at h
    refine .mk (by simp) fun hc hW => ?_
    simp only [codeOk, Bool.and_eq_true] at hc
    cases hx : rec (.code n round x s) with
    | none => simp [hx] at h
    | some r =>
      cases r with
      | call v H nx => simp [hx] at h
      | code e1 s1 =>
        obtain ⟨a1, w1⟩ := hrec _ _ hx hc.1 hW
        cases e1 with
        | normal =>
          simp only [hx] at h
          obtain ⟨a2, w2⟩ := hrec _ _ h hc.2 a1.wf
          refine ⟨a1.trans a2, fun m W a F sr hR hF hfr => wpIn_seq ?_⟩
          have hF1 := hF.left a2.le
          refine wpIn_mono (wpC_wpIn (w1 m W a F sr hR hF1 hfr)) ?_
          rintro ex a' W' ⟨rfl, m1, p1, sr1⟩
          exact wpIn_mono (wpC_wpIn (w2 m1 W' a' F sr1 p1.rel (p1.fresh hF a1.le) (hfr.mono p1.le))) (fun _ _ _ h => h.after a1 a2 hF1 p1)
        | exit id =>
          simp [hx] at h; obtain ⟨rfl, rfl⟩ := h
          refine ⟨a1, fun m W a F sr hR hF hfr => wpIn_seq (wpIn_mono (wpC_wpIn (w1 m W a F sr hR hF hfr)) ?_)⟩
          rintro ex a' W' ⟨rfl, h⟩; exact ⟨rfl, h⟩
        | goto id =>
          simp [hx] at h; obtain ⟨rfl, rfl⟩ := h
          refine ⟨a1, fun m W a F sr hR hF hfr => wpIn_seq (wpIn_mono (wpC_wpIn (w1 m W a F sr hR hF hfr)) ?_)⟩
          rintro ex a' W' ⟨rfl, h⟩; exact ⟨rfl, h⟩
        | ret =>
          simp [hx] at h; obtain ⟨rfl, rfl⟩ := h
          refine ⟨a1, fun m W a F sr hR hF hfr => wpIn_seq (wpIn_mono (wpC_wpIn (w1 m W a F sr hR hF hfr)) ?_)⟩
          rintro ex a' W' ⟨rfl, h⟩; exact ⟨rfl, h⟩
  | cond co x y =>
    simp only [step] at h
    refine .mk (by simp) fun hc hW => ?_
    simp only [codeOk, Bool.and_eq_true] at hc
    cases hv : evalO s.tmps co with
    | none => simp [hv] at h
    | some v =>
      cases v <;> simp only [hv] at h <;> try (cases h; done)
      rename_i t
      have hcc : codeOk (cond t x y) = true := by cases t; exact hc.2; exact hc.1
      obtain ⟨a1, w1⟩ := hrec _ _ h hcc hW
      refine ⟨a1, fun m W a F sr hR hF hfr => ?_⟩
      have he : a.eval co = .bool t := by
        have := ev_of sr.tmps #[co] co (by simp) _ hv
        simpa only [VR] using this
      refine wpIn_cond he ?_
      have := wpC_wpIn (w1 m W a F sr hR hF hfr)
      cases t <;> exact this
  | block id x =>
    simp only [step] at h
    refine .mk (by simp) fun hc hW => ?_
    simp only [codeOk] at hc
    cases hx : rec (.code n round x s) with
    | none => simp [hx] at h
    | some r =>
      cases r with
      | call v H nx => simp [hx] at h
      | code e1 s1 =>
        obtain ⟨a1, w1⟩ := hrec _ _ hx hc hW
        cases e1 with
        | exit id' =>
          simp only [hx, Bool.cond_eq_ite, Nat.beq_eq] at h
          split at h
          · rename_i hid
            simp only [Option.some.injEq, Res.code.injEq] at h; obtain ⟨rfl, rfl⟩ := h
            refine ⟨a1, fun m W a F sr hR hF hfr => wpIn_block (wpIn_mono (wpC_wpIn (w1 m W a F sr hR hF hfr)) ?_)⟩
            rintro ex a' W' ⟨rfl, h⟩
            simp only [Ex.toExit, Exit.inBlock, hid, if_true]; exact ⟨rfl, h⟩
          · rename_i hid
            simp only [Option.some.injEq, Res.code.injEq] at h; obtain ⟨rfl, rfl⟩ := h
            refine ⟨a1, fun m W a F sr hR hF hfr => wpIn_block (wpIn_mono (wpC_wpIn (w1 m W a F sr hR hF hfr)) ?_)⟩
            rintro ex a' W' ⟨rfl, h⟩
            simp only [Ex.toExit, Exit.inBlock, if_neg hid]; exact ⟨rfl, h⟩
        | normal =>
          simp [hx] at h; obtain ⟨rfl, rfl⟩ := h
          refine ⟨a1, fun m W a F sr hR hF hfr => wpIn_block (wpIn_mono (wpC_wpIn (w1 m W a F sr hR hF hfr)) ?_)⟩
          rintro ex a' W' ⟨rfl, h⟩; exact ⟨rfl, h⟩
        | goto id =>
          simp [hx] at h; obtain ⟨rfl, rfl⟩ := h
          refine ⟨a1, fun m W a F sr hR hF hfr => wpIn_block (wpIn_mono (wpC_wpIn (w1 m W a F sr hR hF hfr)) ?_)⟩
          rintro ex a' W' ⟨rfl, h⟩; exact ⟨rfl, h⟩
        | ret =>
          simp [hx] at h; obtain ⟨rfl, rfl⟩ := h
          refine ⟨a1, fun m W a F sr hR hF hfr => wpIn_block (wpIn_mono (wpC_wpIn (w1 m W a F sr hR hF hfr)) ?_)⟩
          rintro ex a' W' ⟨rfl, h⟩; exact ⟨rfl, h⟩
  | loop x =>
    simp only [step] at h
    intro hc hW
    have hcx : codeOk x = true := by simpa only [codeOk] using hc
    cases hx : rec (.code n round x s) with
    | none => simp [hx] at h
    | some r =>
      cases r with
      | call v H nx => simp [hx] at h
      | code e1 s1 =>
        obtain ⟨a1, w1⟩ := hrec _ _ hx hcx hW
        cases e1 with
        | normal =>
          simp only [hx] at h
          obtain ⟨a2, w2⟩ := hrec _ _ h hc a1.wf
          refine ⟨a1.trans a2, fun m W a F sr hR hF hfr => wpC_loop ?_⟩
          have hF1 := hF.left a2.le
          refine wpIn_mono (wpC_wpIn (w1 m W a F sr hR hF1 hfr)) ?_
          rintro ex a' W' ⟨rfl, m1, p1, sr1⟩
          exact wpC_mono (w2 m1 W' a' F sr1 p1.rel (p1.fresh hF a1.le) (hfr.mono p1.le)) (fun _ _ _ h => h.after a1 a2 hF1 p1)
        | exit id =>
          simp [hx] at h; obtain ⟨rfl, rfl⟩ := h
          refine ⟨a1, fun m W a F sr hR hF hfr => wpC_loop (wpIn_mono (wpC_wpIn (w1 m W a F sr hR hF hfr)) ?_)⟩
          rintro ex a' W' ⟨rfl, h⟩; exact ⟨rfl, h⟩
        | goto id =>
          simp [hx] at h; obtain ⟨rfl, rfl⟩ := h
          refine ⟨a1, fun m W a F sr hR hF hfr => wpC_loop (wpIn_mono (wpC_wpIn (w1 m W a F sr hR hF hfr)) ?_)⟩
          rintro ex a' W' ⟨rfl, h⟩; exact ⟨rfl, h⟩
        | ret =>
          simp [hx] at h; obtain ⟨rfl, rfl⟩ := h
          refine ⟨a1, fun m W a F sr hR hF hfr => wpC_loop (wpIn_mono (wpC_wpIn (w1 m W a F sr hR hF hfr)) ?_)⟩
          rintro ex a' W' ⟨rfl, h⟩; exact ⟨rfl, h⟩
  | rangeFunc fo ps assign body =>
    refine .mk (by simp) fun hc hW => ?_
    simp only [codeOk, Bool.and_eq_true] at hc
    simp only [step] at h
    cases hv : evalO s.tmps fo with
    | none => simp [hv] at h
    | some v =>
      cases v <;> simp only [hv] at h <;> try (cases h; done)
      rename_i g first cap
      have hfo : ∀ m (a : Act), SR m n s a → ∃ xs ys : Array Value, a.eval fo = .func (.func g) xs ys ∧ VRs m first xs.toList ∧ VRs m cap ys.toList := fun m a sr => by
        have := ev_of sr.tmps #[fo] fo (by simp) _ hv
        simpa only [VR] using this
      cases round with
      | none =>
        simp only at h
        have b0 : AP s.heap s.next (s.heap.lay s.next (.dfr true)) (s.next + 1) := lay_ap hW _
        split at h
        · rename_i v2 H3 nx3 hcall
          obtain ⟨hbody, b1, w1⟩ := range_rest (s1 := ⟨s.tmps, .mark s.next :: s.defers, s.heap.lay s.next (.dfr true), s.next + 1⟩) (round := none) hrec hc.1 hc.2 b0.wf hcall h
          refine ⟨b0.trans b1, fun m W a F sr hR hF hfr => wpIn_rangeFunc fun fn _ => ?_⟩
          cases hfr
          obtain ⟨xs, ys, he, hxs, hys⟩ := hfo m a sr
          have hm : m s.next = none := hF s.next (Nat.le_refl _) (by have := b1.le; simp only at this; omega)
          have hle := le_upd (k := ⟨W.heap.size, 0, 0⟩) hm
          obtain ⟨_, p0⟩ := lay_ok (W' := W.alloc (.deferred (some []))) (C := 0) (ob := .dfr true) (o := .deferred (some [])) hR hW hm rfl rfl rfl rfl rfl
          have hF0 : Fresh m s.next (s.next + 1) := hF.left (by have := b1.le; simp only at this; omega)
          have hcalls := w1 _ _ ⟨a.tmps, { target := .collected W.heap.size, args := #[] } :: a.defers⟩ Fence.wide fn W.heap.size xs.toList ys.toList
            ⟨sr.tmps.mono hle, ⟨_, _, upd_same, rfl, sr.defers.mono hle⟩⟩ p0.rel (p0.fresh hF (by omega)) rfl ⟨_, upd_same, rfl⟩ (hxs.mono hle) (hys.mono hle)
          have hsz : (W.alloc (.deferred (some []))).heap.size = W.heap.size + 1 := World.size_alloc _ _
          rw [hsz] at hcalls
          have henter := run_enterLoop_outer (P := P) (w := W) fn a.tmps ps assign body
          generalize ((W.alloc (.deferred (some []))).alloc (.loop { state := .ready, pending := none, fn, tmps := a.tmps, params := ps, assign, body, defers := W.heap.size })) = X at henter hcalls
          refine ⟨W.heap.size + 1, [{ target := .collected W.heap.size, args := #[] }], X, { target := .fn (.func g) ys, args := xs ++ #[.func (.yield (W.heap.size + 1)) #[] #[]] }, X, g, xs ++ #[.func (.yield (W.heap.size + 1)) #[] #[]] ++ ys, X, henter, ?_, fun _ _ => trivial, ?_, (fun h => by cases h), callsIn_wide.2 ?_⟩
          · simp only [resolve, he]; simp [Deferred.ofValue, Act.eval]
          · simp only [invoke]; exact hbody.call _ _
          · refine (by simpa using hcalls : Calls P g _ _ _).mono ?_
            intro en W' h
            cases en with
            | returned v3 =>
              obtain ⟨jump, w4, h1, h2⟩ := h
              refine ⟨jump, w4, h1, ?_⟩
              cases jump with
              | none => exact h2.after b0 b1 hF0 p0
              | some c => exact wpIn_mono h2 (fun _ _ _ h => h.after b0 b1 hF0 p0)
            | panicked ch => exact (h : CPost _ _ _ _ _ _ _ _ _).after b0 b1 hF0 p0
            | outgrown =>
              obtain ⟨a3, w3, h3⟩ := h
              exact ⟨a3, w3, h3.after b0 b1 hF0 p0⟩
        · cases h
      | some l =>
        simp only at h
        cases hgl : s.heap.get l with
        | none => simp [hgl] at h
        | some ob =>
          cases ob <;> simp only [hgl] at h <;> try (cases h; done)
          rename_i L0
          split at h
          · rename_i v2 H3 nx3 hcall
            obtain ⟨hbody, b1, w1⟩ := range_rest (round := some l) hrec hc.1 hc.2 hW hcall h
            refine ⟨b1, fun m W a F sr hR hF hfr => wpIn_rangeFunc fun fn _ => ?_⟩
            have hfr' := hfr
            obtain ⟨k, hk, rfl⟩ := hfr
            obtain ⟨xs, ys, he, hxs, hys⟩ := hfo m a sr
            obtain ⟨r, hb, r0, hr0, e1, e2, e3, e4, e5, e6, kd, e7, e8⟩ := loop_at hR hgl hk
            cases hr0
            have hcalls := w1 m W a (Fence.wide.inRound k.b) fn r.defers xs.toList ys.toList sr hR hF hfr' ⟨kd, e7, e8⟩ hxs hys
            have henter := run_enterLoop_inner (P := P) hb fn a.tmps ps assign body
            generalize (W.alloc (.loop { state := .ready, pending := none, fn, tmps := a.tmps, params := ps, assign, body, defers := r.defers })) = X at henter hcalls
            refine ⟨W.heap.size, [], X, { target := .fn (.func g) ys, args := xs ++ #[.func (.yield W.heap.size) #[] #[]] }, X, g, xs ++ #[.func (.yield W.heap.size) #[] #[]] ++ ys, X, henter, ?_, fun _ _ => trivial, ?_, (fun h => by cases h), CallsIn.inRound _ (callsIn_wide.2 ?_)⟩
            · simp only [resolve, he]; simp [Deferred.ofValue, Act.eval]
            · simp only [invoke]; exact hbody.call _ _
            · simpa using hcalls
          · cases h

theorem sound (hp : progOk P = true) : ∀ (f : Nat), RecOk P (run P f) := by
  intro f
  induction f with
  | zero => intro t r h; simp [run] at h
  | succ f ih =>
    intro t r h
    simp only [run] at h
    cases t with
    | code n round c s =>
      cases r with
      | code e s' => exact code_ok ih hp h
      | call v H nx => trivial
    | call f args H nx =>
      cases r with
      | code e s' => trivial
      | call v H' nx' => exact call_ok ih hp h
    | dcall f args H nx =>
      cases r with
      | code e s' => trivial
      | call v H' nx' => exact dcall_ok ih hp h
end Abs
end Go.Proofs.YtekmmeikkafpmaaGreat
