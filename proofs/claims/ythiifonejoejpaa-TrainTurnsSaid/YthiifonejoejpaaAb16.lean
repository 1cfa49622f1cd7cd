/- The evaluator: regions that draw their order: one operation more, whichever. -/
import Derived.Test.YthiifonejoejpaaAb15
namespace Go.Proofs.Ythiifonejoejpaa
namespace Abs
open Go.RowKit
variable {P : Program} {rec : Task → Option Res} {n : Nat} {ops : Array Oper} {st : Nat → St} {dr : Nat → Dr} {kd : Nat → K}
variable {m0 m : NM} {W0 W : World} {listed : Array Bool} {a : Act} {e j : Nat} {o : Oper}

theorem hp_get (hA : At ops st dr kd j) {x : Nat} {ob : AObj} : (hpAt ops j (st j) (dr j)).get x = some ob → hid (st 0).heap.bad x = false ∧ (∀ i, i < j → ¬ Bf ops i j → ¬ ((st i).next ≤ x ∧ x < (st (i + 1)).next)) ∧ (st j).heap.t.get x = some ob := by
  intro h
  obtain ⟨h1, h2⟩ := Hp.get_some.1 h
  refine ⟨?_, fun i hi hb hx => ?_, h2⟩
  · cases hq : hid (st 0).heap.bad x with
    | false => rfl
    | true =>
      obtain ⟨p, hp, h3, h4⟩ := hid_iff.1 hq
      have : hid (hpAt ops j (st j) (dr j)).bad x = true := hid_iff.2 ⟨p, unseen_mem.2 (.inl (by rw [hA.bad]; exact hp)), h3, h4⟩
      rw [this] at h1; cases h1
  · have hm := hA.all i hi (by omega)
    have : hid (hpAt ops j (st j) (dr j)).bad x = true := hid_iff.2 ⟨_, unseen_mem.2 (.inr ⟨_, hm, by simpa [Bf] using hb, rfl⟩), hx.1, hx.2⟩
    rw [this] at h1; cases h1
theorem hp_sub (hA : At ops st dr kd j) (x : Nat) (ob : AObj) (h : (hpAt ops j (st j) (dr j)).get x = some ob) : (st j).heap.get x = some ob := by
  obtain ⟨h1, _, h3⟩ := hp_get hA h
  exact Hp.get_some.2 ⟨by rw [hA.bad]; exact h1, h3⟩

/-- All that the operation may look at is in sight. -/
theorem Inv.sight (I : Inv n ops st kd m0 W0 listed a W m e) (hT : Trace P rec n ops st dr kd) (hj : j < ops.size) (hd : ∀ i, Bf ops i j → doneB listed i = true) {x : Nat} {ob : AObj} (h : (hpAt ops j (st j) (dr j)).get x = some ob)
    (hs : (st e).heap.t.get x = (st j).heap.t.get x) : (HD st ops.size (doneB listed) e).get x = some ob := by
  have hA := hT.at j (by omega)
  obtain ⟨h1, h2, h3⟩ := hp_get hA h
  refine HD_get.2 ⟨fun i hi hdi hx => ?_, h1, by rw [hs]; exact h3⟩
  have hxj : x < (st j).next := hA.wf.lt (hp_sub hA x ob h)
  have hij : i < j := by
    rcases Nat.lt_or_ge i j with h4 | h4
    · exact h4
    · have := hT.mono h4 (show i ≤ ops.size by have := I.ele; omega); omega
  exact h2 i hij (fun hb => by rw [hd i hb] at hdi; cases hdi) hx
theorem rel_same {D D' : Nat → Bool} (hR : Rel m (HD st ops.size D e) W) (hn : (st (j + 1)).next = (st j).next) (hD : ∀ i, D i = false → i = j ∨ D' i = false) : Rel m (HD st ops.size D' e) W := hR.sub fun x ob h => by
  obtain ⟨h1, h2, h3⟩ := HD_get.1 h
  refine HD_get.2 ⟨fun i hi hdi hx => ?_, h2, h3⟩
  rcases hD i hdi with rfl | h4
  · omega
  · exact h1 i hi h4 hx

theorem Inv.preds (I : Inv n ops st kd m0 W0 listed a W m e) (hT : Tidy ops) (hj : ops[j]? = some o) (hpre : ∀ ed ∈ o.after, Region.binds .any ed = true → doneB listed ed.on = true) (i : Nat) (h : Bf ops i j) : doneB listed i = true := by
  obtain ⟨ed, he, hb, h⟩ := (bf_iff hT.up hj).1 h
  rcases h with rfl | h
  · exact hpre ed he hb
  · exact I.bf hT (hpre ed he hb) h
theorem Inv.look (I : Inv n ops st kd m0 W0 listed a W m e) (hT : Trace P rec n ops st dr kd) (hj : ops[j]? = some o) (hu : doneB listed j = false) (hd : ∀ i, Bf ops i j → doneB listed i = true) {t : Tmp} (ht : t ∈ o.looksAt ops) : VR m (((st j).tmps.get t).getD .undef) (a.tmps.getD t undef) := by
  have hjl := (Array.getElem?_eq_some_iff.1 hj).1
  by_cases h : ∃ i, dstOf ops i = some t
  · obtain ⟨i, hi⟩ := h
    have uniq : ∀ l, i + 1 ≤ l → dstOf ops l ≠ some t := fun l hl h => by have := hT.tidy.dst i l t hi h; omega
    rcases hT.tidy.look j o hj t ht i hi with hb | hb
    case inr =>
      have hil : i < ops.size := by
        rcases Nat.lt_or_ge i ops.size with h1 | h1
        · exact h1
        · unfold dstOf at hi; rw [Array.getElem?_eq_none h1] at hi; simp at hi
      have hij := bf_lt hT.tidy.up hil hb
      have hv := I.rest t (fun l hl hlt => by
        have := hT.tidy.dst i l t hi hlt
        subst this
        have := I.bf hT.tidy hl hb
        rw [hu] at this; cases this)
      rw [hT.tmp (i := 0) (by omega) (by omega) (fun l _ h1 hlt => by have := hT.tidy.dst i l t hi hlt; omega)]
      exact hv
    have hij := bf_lt hT.tidy.up hjl hb
    have hv := I.done i t (hd i hb) hi
    rw [hT.tmp (i := i + 1) (by omega) (Nat.le_refl _) (fun l h1 _ => uniq l h1)] at hv
    rw [hT.tmp (i := i + 1) (by omega) (by omega) (fun l h1 _ => uniq l h1)]
    exact hv
  · have hv := I.rest t (fun i _ hi => h ⟨i, hi⟩)
    rw [hT.tmp (i := 0) (by omega) (by omega) (fun l _ _ hl => h ⟨l, hl⟩)]
    exact hv
theorem Inv.ev (I : Inv n ops st kd m0 W0 listed a W m e) (hT : Trace P rec n ops st dr kd) (hj : ops[j]? = some o) (hu : doneB listed j = false) (hd : ∀ i, Bf ops i j → doneB listed i = true) : Ev m (st j).tmps a.eval o.op.operands := fun x hx v hv =>
  evalO_ok (fun t ht => I.look hT hj hu hd (by
    subst ht
    exact List.mem_append_left _ (List.mem_filterMap.2 ⟨.tmp t, by simpa using hx, rfl⟩))) hv
theorem Inv.want (I : Inv n ops st kd m0 W0 listed a W m e) (hT : Trace P rec n ops st dr kd) (hj : ops[j]? = some o) (hu : doneB listed j = false) (hd : ∀ i, Bf ops i j → doneB listed i = true) : wantedA ops (st j).tmps o = Region.wanted o (yielded ops a.tmps) :=
  wanted_ok fun g w t hg ht => I.look hT hj hu hd (List.mem_append_right _ (by simp [hg, ht]))
theorem Inv.sum (I : Inv n ops st kd m0 W0 listed a W m e) (hT : Trace P rec n ops st dr kd) (hj : ops[j]? = some o) (hu : doneB listed j = false) (hpre : ∀ ed ∈ o.after, Region.binds .any ed = true → doneB listed ed.on = true)
    {v : AV} {v' : Value} {m' : NM} {W' : World} {e' : Nat} (hp : putA n o.dst v (st j).tmps = some (st (j + 1)).tmps) (hm : Le m m') (hv : VR m' v v') (h1 : e' ≤ ops.size) (h2 : ∀ i, i < e' → (kd i).writes = true → doneB (listed.setIfInBounds j true) i = true)
    (h3 : e' = ops.size ∨ ((kd e').writes = true ∧ doneB (listed.setIfInBounds j true) e' = false))
    (h4 : ∀ x b, m' x = some b → m0 x = some b ∨ ∃ i, i < ops.size ∧ doneB (listed.setIfInBounds j true) i = true ∧ (st i).next ≤ x ∧ x < (st (i + 1)).next)
    (h5 : Rel m' (HD st ops.size (doneB (listed.setIfInBounds j true)) e') W') (h6 : PW m0 (st 0).heap (st 0).next W0 m' (st ops.size).heap.wr (st ops.size).next W') :
    Inv n ops st kd m0 W0 (listed.setIfInBounds j true) (a.put o.dst v') W' m' e' := by
  obtain ⟨t1, t2, t3⟩ := I.tmps hT hj hu hp hm hv
  exact ⟨by simp [I.size], I.closed' hj hpre, t1, t2, t3, by
    have : (a.put o.dst v').defers = a.defers := by cases h : o.dst <;> simp [Act.put]
    rw [this]; exact I.dfr.mono hm, h1, h2, h3, h4, h5, h6⟩
/-- No write is due before e changes: what is done stays, and e. -/
theorem Inv.keepE (I : Inv n ops st kd m0 W0 listed a W m e) (hj : j < ops.size) (hk : (kd j).writes = false) :
    (∀ i, i < e → (kd i).writes = true → doneB (listed.setIfInBounds j true) i = true) ∧ (e = ops.size ∨ ((kd e).writes = true ∧ doneB (listed.setIfInBounds j true) e = false)) := by
  have hjs : j < listed.size := by rw [I.size]; exact hj
  refine ⟨fun i hi hw => by rw [doneB_set hjs]; split; rfl; exact I.before i hi hw, ?_⟩
  rcases I.now with h | ⟨h1, h2⟩
  · exact .inl h
  · refine .inr ⟨h1, ?_⟩
    rw [doneB_set hjs, if_neg (fun h => by rw [h] at h1; rw [hk] at h1; cases h1)]; exact h2
theorem Inv.same (I : Inv n ops st kd m0 W0 listed a W m e) (hT : Trace P rec n ops st dr kd) (hj : ops[j]? = some o) (hu : doneB listed j = false) (hpre : ∀ ed ∈ o.after, Region.binds .any ed = true → doneB listed ed.on = true)
    {v : AV} {v' : Value} {m' : NM} {W' : World} (hp : putA n o.dst v (st j).tmps = some (st (j + 1)).tmps) (hk : (kd j).writes = false) (hn : (st (j + 1)).next = (st j).next) (hm : Le m m') (hm' : ∀ x b, m' x = some b → m x = some b) (hv : VR m' v v')
    (hR : Rel m' (HD st ops.size (doneB listed) e) W') (hfr : ∀ b, b < W.heap.size → W'.heap[b]? = W.heap[b]?) (g1 : W'.os = W.os) (g2 : W'.tape = W.tape) (g3 : W'.output = W.output) (g4 : W.heap.size ≤ W'.heap.size) :
    Inv n ops st kd m0 W0 (listed.setIfInBounds j true) (a.put o.dst v') W' m' e := by
  have hjl := (Array.getElem?_eq_some_iff.1 hj).1
  have hjs : j < listed.size := by rw [I.size]; exact hjl
  obtain ⟨k1, k2⟩ := I.keepE hjl hk
  refine I.sum hT hj hu hpre hp hm hv I.ele k1 k2 (fun x b h => ?_) (rel_same hR hn (fun i hi => ?_)) ⟨I.pw.le.trans hm, fun x b h => I.pw.new x b (hm' x b h), fun b hb hno => ?_, g1.trans I.pw.os, g2.trans I.pw.tape, g3.trans I.pw.output, Nat.le_trans I.pw.size g4⟩
  · rcases I.dom x b (hm' x b h) with h | ⟨i, h1, h2, h3⟩
    · exact .inl h
    · exact .inr ⟨i, h1, by rw [doneB_set hjs]; split; rfl; exact h2, h3⟩
  · by_cases h : i = j
    · exact .inl h
    · exact .inr (by rw [doneB_set hjs, if_neg h]; exact hi)
  · rw [hfr b (Nat.lt_of_lt_of_le hb I.pw.size)]; exact I.pw.frame b hb hno
theorem loadT_congr {H H' : Hp} {t : TypeId} {x off : Nat} (h : ∀ w cs, H.get x = some (.cells w cs) → H'.get x = some (.cells w cs)) {v : AV} (hl : loadT P H t x off = some v) : loadT P H' t x off = some v := by
  unfold loadT at hl ⊢
  cases hc : cellsAt H x with
  | none => simp [hc] at hl
  | some cs =>
    obtain ⟨w, hg⟩ := cellsAt_inv hc
    have : cellsAt H' x = some cs := by simp [cellsAt, h w cs hg]
    rw [this]; rw [hc] at hl; exact hl

theorem exists_next (ops : Array Oper) (kd : Nat → K) : ∀ (r e : Nat), e + r = ops.size → ∃ e', e ≤ e' ∧ e' ≤ ops.size ∧ (∀ i, e ≤ i → i < e' → (kd i).writes = false) ∧ (e' = ops.size ∨ (kd e').writes = true) := by
  intro r
  induction r with
  | zero => intro e h; exact ⟨e, Nat.le_refl _, by omega, fun i h1 h2 => by omega, .inl (by omega)⟩
  | succ r ih =>
    intro e h
    cases hw : (kd e).writes with
    | true => exact ⟨e, Nat.le_refl _, by omega, fun i h1 h2 => by omega, .inr hw⟩
    | false =>
      obtain ⟨e', h1, h2, h3, h4⟩ := ih (e + 1) (by omega)
      refine ⟨e', by omega, h2, fun i a b => ?_, h4⟩
      by_cases he : i = e
      · rw [he]; exact hw
      · exact h3 i (by omega) b
end Abs
end Go.Proofs.Ythiifonejoejpaa
