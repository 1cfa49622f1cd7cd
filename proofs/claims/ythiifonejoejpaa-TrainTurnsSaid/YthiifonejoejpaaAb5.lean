/- The evaluator: operations on what there is. -/
import Derived.Test.YthiifonejoejpaaAb4
namespace Go.Proofs.Ythiifonejoejpaa
namespace Abs
open Go.RowKit
variable {P : Program} {m : NM}

def upd (m : NM) (n : Nat) (k : Blk) : NM := fun i => if i = n then some k else m i
theorem le_upd {n : Nat} {k : Blk} (h : m n = none) : Le m (upd m n k) := fun i x e => by
  simp only [upd]; rw [if_neg (by rintro rfl; rw [h] at e; cases e)]; exact e
theorem upd_same {n : Nat} {k : Blk} : upd m n k n = some k := by simp [upd]
theorem upd_other {n i : Nat} {k : Blk} (h : i ≠ n) : upd m n k i = m i := by simp [upd, h]

section prims
variable {H : Hp} {nx : Nat} {W W' : World}
theorem lay_get (hW : Wf H nx) (ob : AObj) (i : Nat) : (H.lay nx ob).get i = if i = nx then some ob else H.get i := by
  rw [Hp.get_eq, Hp.get_eq]
  simp only [Hp.lay, Tr.get_set]
  by_cases h : i = nx
  · subst h; simp [hW.seen (Nat.le_refl i)]
  · simp [h]
theorem lay_ap (hW : Wf H nx) (ob : AObj) (hob : ObOk ob := by trivial) : AP H nx (H.lay nx ob) (nx + 1) := by
  refine ⟨by omega, rfl, Nat.le_refl _, ?_, ?_, ?_, ?_, ?_⟩
  · intro n h _; simp only [Hp.lay, Tr.get_set]; rw [if_neg (by omega)]
  · intro n o h e; simp only [Hp.lay, Tr.get_set] at e; rw [if_neg (by omega)] at e; exact ⟨o, e, rfl⟩
  · intro n h; simp only [Hp.lay, Tr.get_set]; rw [if_neg (by omega)]; exact hW.none n (by omega)
  · intro p hp; have := hW.bad p hp; omega
  · intro n o e; simp only [Hp.lay, Tr.get_set] at e; split at e
    · cases e; exact hob
    · exact hW.ok n o e
theorem lay_ok {o : Obj} {ob : AObj} (hR : Rel m H W) (hW : Wf H nx) (hn : m nx = none) (hh : W'.heap = W.heap.push o) (h1 : W'.os = W.os) (h2 : W'.tape = W.tape) (h3 : W'.output = W.output) {C : Nat}
    (hO : OR (upd m nx ⟨W.heap.size, 0, C⟩) ⟨W.heap.size, 0, C⟩ ob o) (hob : ObOk ob := by trivial) : AP H nx (H.lay nx ob) (nx + 1) ∧ Post m H nx W (upd m nx ⟨W.heap.size, 0, C⟩) (H.lay nx ob) (nx + 1) W' := by
  have old : ∀ b, b < W.heap.size → W'.heap[b]? = W.heap[b]? := fun b hb => by rw [hh, Array.getElem?_push, if_neg (by omega)]
  refine ⟨lay_ap hW ob hob, ⟨le_upd hn, ?_, ⟨?_, ?_⟩, fun b hb _ => old b hb, h1, h2, h3, by rw [hh]; simp⟩⟩
  · intro n k h
    simp only [upd] at h
    split at h
    · cases h; exact .inr ⟨by omega, by omega, .inl (Nat.le_refl _)⟩
    · exact .inl h
  · intro n ob' h
    rw [lay_get hW] at h
    split at h
    · rename_i e; subst e; cases h
      exact ⟨_, o, upd_same, by rw [hh]; simp, hO⟩
    · rename_i e
      obtain ⟨k, o', g1, g2, g3⟩ := hR.obj n ob' h
      exact ⟨k, o', by rw [upd_other e]; exact g1, by rw [old _ (hR.lt h g1)]; exact g2, g3.mono (le_upd hn)⟩
  · intro i j oi oj ki kj hi hj mi mj hw hb
    rw [lay_get hW] at hi hj
    by_cases ei : i = nx
    · by_cases ej : j = nx
      · omega
      · rw [if_neg ej] at hj
        rw [upd_other ej] at mj
        have := hR.lt hj mj
        subst ei; rw [upd_same] at mi; cases mi; simp at hb; omega
    · rw [if_neg ei] at hi
      rw [upd_other ei] at mi
      have := hR.lt hi mi
      by_cases ej : j = nx
      · subst ej; rw [upd_same] at mj; cases mj; simp at hb; omega
      · rw [if_neg ej] at hj
        rw [upd_other ej] at mj
        exact hR.inj i j oi oj ki kj hi hj mi mj hw hb

theorem put_get {n : Nat} {ob : AObj} (hn : H.get n = some ob) (ob' : AObj) (i : Nat) : (H.put n ob').get i = if i = n then some ob' else H.get i := by
  rw [Hp.get_eq, Hp.get_eq]
  simp only [Hp.put, Tr.get_set]
  by_cases h : i = n
  · subst h; simp [(Hp.get_some.1 hn).1]
  · simp [h]
theorem put_ap {n : Nat} {ob ob' : AObj} (hW : Wf H nx) (hn : H.get n = some ob) (hw : ob.writable = ob'.writable) (hob : ObOk ob' := by trivial) : AP H nx (H.put n ob') nx := by
  have hlt := hW.lt hn
  refine ⟨Nat.le_refl _, rfl, lower_le_right _ _, ?_, ?_, ?_, hW.bad, ?_⟩
  · intro i h1 h2
    have := lower_le_left n H.wr
    simp only [Hp.put] at h2 ⊢
    rw [Tr.get_set, if_neg (by omega)]
  · intro i o h1 h2
    simp only [Hp.put, Tr.get_set] at h2
    split at h2
    · rename_i e; subst e; cases h2; exact ⟨ob, (Hp.get_some.1 hn).2, hw⟩
    · exact ⟨o, h2, rfl⟩
  · intro i h
    simp only [Hp.put, Tr.get_set]; rw [if_neg (by omega)]; exact hW.none i h
  · intro i o e; simp only [Hp.put, Tr.get_set] at e; split at e
    · cases e; exact hob
    · exact hW.ok i o e
theorem put_ok {n : Nat} {ob ob' : AObj} {k : Blk} {o' : Obj} (hR : Rel m H W) (hW : Wf H nx) (hn : H.get n = some ob) (hw : ob.writable = true) (hw' : ob'.writable = true) (hk : m n = some k)
    (g1 : W'.heap[k.b]? = some o') (g2 : ∀ b, b ≠ k.b → W'.heap[b]? = W.heap[b]?) (hs : W'.heap.size = W.heap.size) (h1 : W'.os = W.os) (h2 : W'.tape = W.tape) (h3 : W'.output = W.output)
    (hO : OR m k ob' o') (hob : ObOk ob' := by trivial) : AP H nx (H.put n ob') nx ∧ Post m H nx W m (H.put n ob') nx W' := by
  refine ⟨put_ap hW hn (hw.trans hw'.symm) hob, ⟨Le.refl m, fun _ _ h => .inl h, ⟨?_, ?_⟩, ?_, h1, h2, h3, by omega⟩⟩
  · intro i oi h
    rw [put_get hn] at h
    split at h
    · rename_i e; subst e; cases h; exact ⟨k, o', hk, g1, hO⟩
    · rename_i e
      obtain ⟨ki, o, e1, e2, e3⟩ := hR.obj i oi h
      exact ⟨ki, o, e1, by rw [g2 _ (fun hb => e (hR.inj n i ob oi k ki hn h hk e1 hw hb.symm).symm)]; exact e2, e3⟩
  · have back : ∀ i oi, (H.put n ob').get i = some oi → ∃ o0, H.get i = some o0 ∧ o0.writable = oi.writable := fun i oi h => by
      rw [put_get hn] at h
      split at h
      · rename_i e; subst e; cases h; exact ⟨ob, hn, hw.trans hw'.symm⟩
      · exact ⟨oi, h, rfl⟩
    intro i j oi oj ki kj hi hj mi mj hwi hb
    obtain ⟨a, ha, hwa⟩ := back i oi hi
    obtain ⟨b, hb', _⟩ := back j oj hj
    exact hR.inj i j a b ki kj ha hb' mi mj (hwa.trans hwi) hb
  · intro b hb hno
    refine g2 b (fun e => hno ⟨n, ob, k, ?_, hn, hw, hk, e.symm⟩)
    exact lower_le_left _ _

theorem del_get {n : Nat} (i : Nat) : (H.del n).get i = if i = n then none else H.get i := by
  rw [Hp.get_eq, Hp.get_eq]
  simp only [Hp.del, Tr.get_del]
  by_cases h : i = n
  · subst h; simp
  · simp [h]
theorem del_ap {n : Nat} (hW : Wf H nx) : AP H nx (H.del n) nx := by
  refine ⟨Nat.le_refl _, rfl, lower_le_right _ _, ?_, ?_, ?_, hW.bad, ?_⟩
  · intro i h1 h2
    have := lower_le_left n H.wr
    simp only [Hp.del] at h2 ⊢
    rw [Tr.get_del, if_neg (by omega)]
  · intro i o h1 h2
    simp only [Hp.del, Tr.get_del] at h2
    split at h2
    · cases h2
    · exact ⟨o, h2, rfl⟩
  · intro i h
    simp only [Hp.del, Tr.get_del]; split
    · rfl
    · exact hW.none i h
  · intro i o e; simp only [Hp.del, Tr.get_del] at e; split at e
    · cases e
    · exact hW.ok i o e
theorem del_ok {n : Nat} (hR : Rel m H W) (hW : Wf H nx) : AP H nx (H.del n) nx ∧ Post m H nx W m (H.del n) nx W := by
  refine ⟨del_ap hW, ⟨Le.refl m, fun _ _ h => .inl h, ⟨?_, ?_⟩, fun _ _ _ => rfl, rfl, rfl, rfl, Nat.le_refl _⟩⟩
  · intro i oi h
    rw [del_get] at h
    split at h
    · cases h
    · exact hR.obj i oi h
  · intro i j oi oj ki kj hi hj
    rw [del_get] at hi hj
    split at hi
    · cases hi
    · split at hj
      · cases hj
      · exact hR.inj i j oi oj ki kj hi hj
/-- Appended to in place: the row goes on under a new name. -/
theorem move_ok {n : Nat} {ob ob' : AObj} {k : Blk} {o' : Obj} (hR : Rel m H W) (hW : Wf H nx) (hn : H.get n = some ob) (hw : ob.writable = true) (hw' : ob'.writable = true) (hk : m n = some k) (hx : m nx = none)
    (g1 : W'.heap[k.b]? = some o') (g2 : ∀ b, b ≠ k.b → W'.heap[b]? = W.heap[b]?) (hs : W'.heap.size = W.heap.size) (h1 : W'.os = W.os) (h2 : W'.tape = W.tape) (h3 : W'.output = W.output)
    (hO : OR m k ob' o') (hob : ObOk ob' := by trivial) : AP H nx ((H.del n).lay nx ob') (nx + 1) ∧ Post m H nx W (upd m nx k) ((H.del n).lay nx ob') (nx + 1) W' := by
  have hd := del_ap (n := n) hW
  have hW2 := hd.wf
  have hlt := hW.lt hn
  have own : Owns m H (H.del n).wr k.b := ⟨n, ob, k, lower_le_left _ _, hn, hw, hk, rfl⟩
  refine ⟨?_, ⟨le_upd hx, ?_, ⟨?_, ?_⟩, ?_, h1, h2, h3, by omega⟩⟩
  · exact hd.trans (lay_ap hW2 ob' hob)
  · intro i ki h
    simp only [upd] at h
    split at h
    · cases h; exact .inr ⟨by omega, by omega, .inr own⟩
    · exact .inl h
  · intro i oi h
    rw [lay_get hW2, del_get] at h
    split at h
    · rename_i e; subst e; cases h; exact ⟨k, o', upd_same, g1, hO.mono (le_upd hx)⟩
    · rename_i e
      split at h
      · cases h
      · rename_i e'
        obtain ⟨ki, o, e1, e2, e3⟩ := hR.obj i oi h
        exact ⟨ki, o, by rw [upd_other e]; exact e1, by rw [g2 _ (fun hb => e' (hR.inj n i ob oi k ki hn h hk e1 hw hb.symm).symm)]; exact e2, e3.mono (le_upd hx)⟩
  · have back : ∀ i oi ki, ((H.del n).lay nx ob').get i = some oi → upd m nx k i = some ki → ∃ j o0, H.get j = some o0 ∧ m j = some ki ∧ o0.writable = oi.writable ∧ (i = nx ∧ j = n ∨ i ≠ nx ∧ j = i ∧ i ≠ n) := fun i oi ki h e => by
      rw [lay_get hW2, del_get] at h
      split at h
      · rename_i e'; subst e'; cases h; rw [upd_same] at e; cases e; exact ⟨n, ob, hn, hk, hw.trans hw'.symm, .inl ⟨rfl, rfl⟩⟩
      · rename_i e'
        split at h
        · cases h
        · rename_i e2; rw [upd_other e'] at e; exact ⟨i, oi, h, e, rfl, .inr ⟨e', rfl, e2⟩⟩
    intro i j oi oj ki kj hi hj mi mj hwi hb
    obtain ⟨i0, a, ha1, ha2, ha3, ha4⟩ := back i oi ki hi mi
    obtain ⟨j0, b, hb1, hb2, _, hb4⟩ := back j oj kj hj mj
    have := hR.inj i0 j0 a b ki kj ha1 hb1 ha2 hb2 (ha3.trans hwi) hb
    omega
  · intro b hb hno
    exact g2 b (fun e => hno (e ▸ own))
end prims

/-! Cells. -/
theorem cellsAt_inv {H : Hp} {n : Nat} {cs : List AV} (h : cellsAt H n = some cs) : ∃ w, H.get n = some (.cells w cs) := by
  unfold cellsAt at h
  split at h
  · rename_i w cs' e; cases h; exact ⟨w, e⟩
  · cases h
theorem cellsW_inv {H : Hp} {n : Nat} {cs : List AV} (h : cellsW H n = some cs) : H.get n = some (.cells true cs) := by
  unfold cellsW at h
  split at h
  · rename_i cs' e; cases h; exact e
  · cases h
/-- What the cells in sight hold. -/
theorem cells_ok {H : Hp} {W : World} {n : Nat} {cs : List AV} {k : Blk} (hR : Rel m H W) (h : cellsAt H n = some cs) (hk : m n = some k) :
    ∃ vs, VRs m cs vs ∧ ∀ i v, vs[i]? = some v → W.cell? ⟨k.b, k.o + i, none⟩ = some v := by
  obtain ⟨w, hg⟩ := cellsAt_inv h
  obtain ⟨k', o, h1, h2, h3⟩ := hR.obj n _ hg
  rw [hk] at h1; cases h1
  obtain ⟨c, e, fz, pre, vs, rest, rfl, hc, hp, hv, _⟩ := h3
  refine ⟨vs, hv, fun i v hi => ?_⟩
  have hlt : i < vs.length := (List.getElem?_eq_some_iff.1 hi).1
  simp only [World.cell?, h2, Option.isSome_none, Bool.false_eq_true, if_false]
  rw [← Array.getElem?_toList, hc, List.getElem?_append_right (by omega), List.getElem?_append_left (by omega), ← hi]
  congr 1; omega
theorem add_none (b o i : Nat) : (⟨b, o, none⟩ : Addr).add i = ⟨b, o + i, none⟩ := by simp only [Addr.add]; split <;> simp_all
theorem loadCells_ok {W : World} {b o : Nat} {vs : List Value} (off n : Nat) (h : ∀ i v, vs[i]? = some v → W.cell? ⟨b, o + i, none⟩ = some v) (hl : ((vs.drop off).take n).length = n) :
    (loadCells ⟨b, o + off, none⟩ n).run P W = .ok ((vs.drop off).take n).toArray W := by
  have := run_loadCells_list (P := P) W ⟨b, o + off, none⟩ ((vs.drop off).take n) (fun j v hj => by
    rw [add_none]
    rw [List.getElem?_take] at hj
    split at hj
    · rw [List.getElem?_drop] at hj
      have := h _ _ hj
      rwa [show o + off + j = o + (off + j) by omega]
    · cases hj)
  rwa [hl] at this
theorem loadT_ok {H : Hp} {W : World} {t : TypeId} {n off : Nat} {k : Blk} {a : AV} (hR : Rel m H W) (h : loadT P H t n off = some a) (hk : m n = some k) :
    ∃ v, VR m a v ∧ (loadVar t ⟨k.b, k.o + off, none⟩).run P W = .ok v W := by
  unfold loadT at h
  cases hc : cellsAt H n with
  | none => simp [hc] at h
  | some cs =>
    simp only [hc] at h
    obtain ⟨vs, hv, hcell⟩ := cells_ok hR hc hk
    unfold partT at h
    cases e : isAggT P t with
    | none => simp [e] at h
    | some b =>
      cases b with
      | false =>
        simp [e] at h
        obtain ⟨v, h1, h2⟩ := hv.get h
        exact ⟨v, h2, by simp [loadVar, run_isAgg e, hcell _ _ h1]⟩
      | true =>
        cases e2 : sz P t with
        | none => simp [e, e2] at h
        | some q =>
          simp [e, e2] at h
          obtain ⟨l, hl, rfl⟩ := h
          obtain ⟨h1, h2⟩ := takeN_vrs hl hv
          refine ⟨.agg ((vs.drop off).take q).toArray, by simp only [VR]; exact ⟨_, rfl, by simpa using h1⟩, ?_⟩
          simp only [loadVar, Sem.run_bind, run_isAgg e, Result.andThen_ok, if_true, run_size e2, loadCells_ok off q hcell h2]
          rfl

/-- Some cells in a row are written. -/
theorem setCells_ok (b : Nat) : ∀ (vs : List Value) (o : Nat) (W : World) (c : Array Value) (e : TypeId) (fz : Nat × Nat), W.heap[b]? = some (.cells c e fz) → o + vs.length ≤ c.size →
    (W.setCells b o vs).heap[b]? = some (.cells (c.toList.take o ++ vs ++ c.toList.drop (o + vs.length)).toArray e fz) ∧ (∀ b', b' ≠ b → (W.setCells b o vs).heap[b']? = W.heap[b']?) ∧
    (W.setCells b o vs).heap.size = W.heap.size ∧ (W.setCells b o vs).os = W.os ∧ (W.setCells b o vs).tape = W.tape ∧ (W.setCells b o vs).output = W.output := by
  intro vs
  induction vs with
  | nil => intro o W c e fz h hl; simp [World.setCells, h]
  | cons v vs ih =>
    intro o W c e fz h hl
    simp at hl
    have h1 : (W.setCell ⟨b, o, none⟩ v).heap[b]? = some (.cells (c.setIfInBounds o v) e fz) := by simp [World.setCell, Array.getElem?_modify, h]
    obtain ⟨g1, g2, g3, g4⟩ := ih (o + 1) (W.setCell ⟨b, o, none⟩ v) _ e fz h1 (by simp; omega)
    refine ⟨?_, fun b' hb => ?_, ?_, g4⟩
    · rw [World.setCells, g1]
      congr 2
      apply Array.ext'
      simp only [Array.toList_setIfInBounds]
      rw [show o + 1 + vs.length = o + (v :: vs).length by simp; omega, List.drop_set_of_lt (by simp)]
      have : (c.toList.set o v).take (o + 1) = c.toList.take o ++ [v] := by
        rw [List.take_set, List.take_succ_eq_append_getElem (by simp; omega), List.set_append_right _ _ (by simp; omega)]
        simp [show min o c.size = o by omega]
      rw [this]; simp
    · rw [World.setCells, g2 b' hb]
      exact Below.heap_setCell W ⟨b, o, none⟩ v b' hb
    · rw [World.setCells, g3]; simp [World.setCell]
theorem store_ok {H : Hp} {nx : Nat} {W : World} {n off : Nat} {cs cs' new : List AV} {nv : List Value} {k : Blk} (hR : Rel m H W) (hW : Wf H nx) (hc : cellsW H n = some cs) (hk : m n = some k)
    (hs : setAt cs off new = some cs') (hn : VRs m new nv) (h1 : new.all AV.oneCell = true) (hne : new ≠ []) :
    ∃ W', (storeCells ⟨k.b, k.o + off, none⟩ nv).run P W = .ok () W' ∧ AP H nx (H.put n (.cells true cs')) nx ∧ Post m H nx W m (H.put n (.cells true cs')) nx W' := by
  have hg := cellsW_inv hc
  obtain ⟨k', o, e1, e2, e3⟩ := hR.obj n _ hg
  rw [hk] at e1; cases e1
  obtain ⟨c, e, fz, pre, vs, rest, rfl, hcl, hp, hv, hw⟩ := e3
  obtain ⟨hw1, hw2, hw3⟩ := hw rfl
  subst hw3
  have hpre : pre = [] := List.eq_nil_of_length_eq_zero (by omega)
  subst hpre
  simp only [List.nil_append] at hcl
  obtain ⟨s1, s2, s3⟩ := setAt_ok hv hs hn
  have hnv : nv ≠ [] := fun h => hne (List.eq_nil_of_length_eq_zero (by rw [← hn.length, h]; rfl))
  have hle : off + nv.length ≤ vs.length := s1.resolve_left hnv
  have hsz : vs.length ≤ c.size := by rw [← Array.length_toList, hcl]; simp
  have hcell : ∀ i, i < c.size → (W.cell? ⟨k.b, i, none⟩).isSome = true ∧ W.frozen? ⟨k.b, i, none⟩ = false := fun i hi => by
    simp [World.cell?, World.frozen?, e2, hi]
  have hrun := run_storeCells_cells (P := P) k.b (k.o + off) nv 0 W (fun j hj => (hcell _ (by omega)).1) (fun j hj => (hcell _ (by omega)).2) (hn.oneCells h1)
  have hst := setCells_ok k.b nv (k.o + off) W c e (0, 0) e2 (by omega)
  refine ⟨_, by simpa using hrun, put_ok hR hW hg rfl rfl hk hst.1 hst.2.1 hst.2.2.1 hst.2.2.2.1 hst.2.2.2.2.1 hst.2.2.2.2.2 ?_⟩
  refine ⟨_, e, (0, 0), [], vs.take off ++ nv ++ vs.drop (off + nv.length), rest, rfl, ?_, by simp [hw1], s3, fun _ => ⟨hw1, ?_, rfl⟩⟩
  · simp only [hw1, Nat.zero_add, hcl, List.nil_append]
    rw [List.take_append_of_le_length (by omega), List.drop_append_of_le_length (by omega)]
    simp
  · rw [← hw2]; simp; omega
end Abs
end Go.Proofs.Ythiifonejoejpaa
