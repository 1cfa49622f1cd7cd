/- The evaluator: operations on what there is. -/
import Derived.Test.YtekmmeikkafpmaaGreatA2
import Derived.IntWalk
import Derived.MapKept
set_option linter.unusedSimpArgs false
set_option linter.unusedVariables false
namespace Go.Proofs.YtekmmeikkafpmaaGreat
namespace Abs
open Go.RowKit
variable {P : Program} {m : NM}

def upd (m : NM) (n : Nat) (k : Blk) : NM := fun i => if i = n then some k else m i
theorem le_upd {n : Nat} {k : Blk} (h : m n = none) : Le m (upd m n k) := fun i x e => by
  simp only [upd]; rw [if_neg (by rintro rfl; rw [h] at e; cases e)]; exact e
theorem upd_same {n : Nat} {k : Blk} : upd m n k n = some k := by simp [upd]
theorem upd_other {n i : Nat} {k : Blk} (h : i ≠ n) : upd m n k i = m i := by simp [upd, h]

section prims
variable {H : Hp} {nx : Nat} {W W' : World}
theorem lay_get (hW : Wf H nx) (ob : AObj) (i : Nat) : (H.lay nx ob).get i = if i = nx then some ob else H.get i := by
  rw [Hp.get_eq, Hp.get_eq]
  simp only [Hp.lay, Tr.get_set]
  by_cases h : i = nx
  · subst h; simp [hW.seen (Nat.le_refl i)]
  · simp [h]
theorem lay_ap (hW : Wf H nx) (ob : AObj) (hob : ObOk ob := by trivial) : AP H nx (H.lay nx ob) (nx + 1) := by
  refine ⟨by omega, rfl, Nat.le_refl _, ?_, ?_, ?_, ?_, ?_⟩
  · intro n h _; simp only [Hp.lay, Tr.get_set]; rw [if_neg (by omega)]
  · intro n o h e; simp only [Hp.lay, Tr.get_set] at e; rw [if_neg (by omega)] at e; exact ⟨o, e, Kin.refl o⟩
  · intro n h; simp only [Hp.lay, Tr.get_set]; rw [if_neg (by omega)]; exact hW.none n (by omega)
  · intro p hp; have := hW.bad p hp; omega
  · intro n o e; simp only [Hp.lay, Tr.get_set] at e; split at e
    · cases e; exact hob
    · exact hW.ok n o e
theorem lay_ok {o : Obj} {ob : AObj} (hR : Rel m H W) (hW : Wf H nx) (hn : m nx = none) (hh : W'.heap = W.heap.push o) (h1 : W'.os = W.os) (h2 : W'.tape = W.tape) (h3 : W'.output = W.output) {C : Nat}
    (hO : OR (upd m nx ⟨W.heap.size, 0, C⟩) ⟨W.heap.size, 0, C⟩ ob o) (hob : ObOk ob := by trivial) : AP H nx (H.lay nx ob) (nx + 1) ∧ Post m H nx W (upd m nx ⟨W.heap.size, 0, C⟩) (H.lay nx ob) (nx + 1) W' := by
  have old : ∀ b, b < W.heap.size → W'.heap[b]? = W.heap[b]? := fun b hb => by rw [hh, Array.getElem?_push, if_neg (by omega)]
  refine ⟨lay_ap hW ob hob, ⟨le_upd hn, ?_, ⟨?_, ?_⟩, fun b hb _ => old b hb, h1, h2, h3, by rw [hh]; simp⟩⟩
  · intro n k h
    simp only [upd] at h
    split at h
    · cases h; exact .inr ⟨by omega, by omega, .inl (Nat.le_refl _)⟩
    · exact .inl h
  · intro n ob' h
    rw [lay_get hW] at h
    split at h
    · rename_i e; subst e; cases h
      exact ⟨_, o, upd_same, by rw [hh]; simp, hO⟩
    · rename_i e
      obtain ⟨k, o', g1, g2, g3⟩ := hR.obj n ob' h
      exact ⟨k, o', by rw [upd_other e]; exact g1, by rw [old _ (hR.lt h g1)]; exact g2, g3.mono (le_upd hn)⟩
  · intro i j oi oj ki kj hi hj mi mj hw hb
    rw [lay_get hW] at hi hj
    by_cases ei : i = nx
    · by_cases ej : j = nx
      · exact .inl (by omega)
      · rw [if_neg ej] at hj
        rw [upd_other ej] at mj
        have := hR.lt hj mj
        subst ei; rw [upd_same] at mi; cases mi; simp at hb; omega
    · rw [if_neg ei] at hi
      rw [upd_other ei] at mi
      have := hR.lt hi mi
      by_cases ej : j = nx
      · subst ej; rw [upd_same] at mj; cases mj; simp at hb; omega
      · rw [if_neg ej] at hj
        rw [upd_other ej] at mj
        exact hR.inj i j oi oj ki kj hi hj mi mj hw hb

theorem put_get {n : Nat} {ob : AObj} (hn : H.get n = some ob) (ob' : AObj) (i : Nat) : (H.put n ob').get i = if i = n then some ob' else H.get i := by
  rw [Hp.get_eq, Hp.get_eq]
  simp only [Hp.put, Tr.get_set]
  by_cases h : i = n
  · subst h; simp [(Hp.get_some.1 hn).1]
  · simp [h]
theorem put_ap {n : Nat} {ob ob' : AObj} (hW : Wf H nx) (hn : H.get n = some ob) (hw : ob.writable = ob'.writable) (hob : ObOk ob' := by trivial)
    (hk : ∀ L0, ob = .loop L0 → ∃ L, ob' = .loop L ∧ L.assign = L0.assign ∧ L.body = L0.body := by (intro _ h; first | (cases h; done) | (cases h; exact ⟨_, rfl, rfl, rfl⟩))) : AP H nx (H.put n ob') nx := by
  have hlt := hW.lt hn
  refine ⟨Nat.le_refl _, rfl, lower_le_right _ _, ?_, ?_, ?_, hW.bad, ?_⟩
  · intro i h1 h2
    have := lower_le_left n H.wr
    simp only [Hp.put] at h2 ⊢
    rw [Tr.get_set, if_neg (by omega)]
  · intro i o h1 h2
    simp only [Hp.put, Tr.get_set] at h2
    split at h2
    · rename_i e; subst e; cases h2; exact ⟨ob, (Hp.get_some.1 hn).2, hw, hk⟩
    · exact ⟨o, h2, Kin.refl o⟩
  · intro i h
    simp only [Hp.put, Tr.get_set]; rw [if_neg (by omega)]; exact hW.none i h
  · intro i o e; simp only [Hp.put, Tr.get_set] at e; split at e
    · cases e; exact hob
    · exact hW.ok i o e
theorem put_ok {n : Nat} {ob ob' : AObj} {k : Blk} {o' : Obj} (hR : Rel m H W) (hW : Wf H nx) (hn : H.get n = some ob) (hw : ob.writable = true) (hw' : ob'.writable = true) (hk : m n = some k)
    (g1 : W'.heap[k.b]? = some o') (g2 : ∀ b, b ≠ k.b → W'.heap[b]? = W.heap[b]?) (hs : W'.heap.size = W.heap.size) (h1 : W'.os = W.os) (h2 : W'.tape = W.tape) (h3 : W'.output = W.output)
    (hO : OR m k ob' o') (hob : ObOk ob' := by trivial) (hs1 : ob.solo = true := by rfl)
    (hkn : ∀ L0, ob = .loop L0 → ∃ L, ob' = .loop L ∧ L.assign = L0.assign ∧ L.body = L0.body := by (intro _ h; first | (cases h; done) | (cases h; exact ⟨_, rfl, rfl, rfl⟩))) : AP H nx (H.put n ob') nx ∧ Post m H nx W m (H.put n ob') nx W' := by
  refine ⟨put_ap hW hn (hw.trans hw'.symm) hob hkn, ⟨Le.refl m, fun _ _ h => .inl h, ⟨?_, ?_⟩, ?_, h1, h2, h3, by omega⟩⟩
  · intro i oi h
    rw [put_get hn] at h
    split at h
    · rename_i e; subst e; cases h; exact ⟨k, o', hk, g1, hO⟩
    · rename_i e
      obtain ⟨ki, o, e1, e2, e3⟩ := hR.obj i oi h
      exact ⟨ki, o, e1, by rw [g2 _ (fun hb => e ((hR.inj n i ob oi k ki hn h hk e1 hw hb.symm).eq hs1).symm)]; exact e2, e3⟩
  · intro i j oi oj ki kj hi hj mi mj hwi hb
    rw [put_get hn] at hi hj
    by_cases ei : i = n
    · by_cases ej : j = n
      · exact .inl (by omega)
      · rw [if_neg ej] at hj
        subst ei
        rw [hk] at mi; cases mi
        exact absurd ((hR.inj i j ob oj k kj hn hj hk mj hw hb).eq hs1).symm ej
    · rw [if_neg ei] at hi
      by_cases ej : j = n
      · subst ej
        rw [hk] at mj; cases mj
        exact absurd ((hR.inj i j oi ob ki k hi hn mi hk hwi hb).eq_right hs1) ei
      · rw [if_neg ej] at hj
        exact hR.inj i j oi oj ki kj hi hj mi mj hwi hb
  · intro b hb hno
    refine g2 b (fun e => hno ⟨n, ob, k, ?_, hn, hw, hk, e.symm⟩)
    exact lower_le_left _ _

theorem del_get {n : Nat} (i : Nat) : (H.del n).get i = if i = n then none else H.get i := by
  rw [Hp.get_eq, Hp.get_eq]
  simp only [Hp.del, Tr.get_del]
  by_cases h : i = n
  · subst h; simp
  · simp [h]
theorem del_ap {n : Nat} (hW : Wf H nx) : AP H nx (H.del n) nx := by
  refine ⟨Nat.le_refl _, rfl, lower_le_right _ _, ?_, ?_, ?_, hW.bad, ?_⟩
  · intro i h1 h2
    have := lower_le_left n H.wr
    simp only [Hp.del] at h2 ⊢
    rw [Tr.get_del, if_neg (by omega)]
  · intro i o h1 h2
    simp only [Hp.del, Tr.get_del] at h2
    split at h2
    · cases h2
    · exact ⟨o, h2, Kin.refl o⟩
  · intro i h
    simp only [Hp.del, Tr.get_del]; split
    · rfl
    · exact hW.none i h
  · intro i o e; simp only [Hp.del, Tr.get_del] at e; split at e
    · cases e
    · exact hW.ok i o e
theorem del_ok {n : Nat} (hR : Rel m H W) (hW : Wf H nx) : AP H nx (H.del n) nx ∧ Post m H nx W m (H.del n) nx W := by
  refine ⟨del_ap hW, ⟨Le.refl m, fun _ _ h => .inl h, ⟨?_, ?_⟩, fun _ _ _ => rfl, rfl, rfl, rfl, Nat.le_refl _⟩⟩
  · intro i oi h
    rw [del_get] at h
    split at h
    · cases h
    · exact hR.obj i oi h
  · intro i j oi oj ki kj hi hj
    rw [del_get] at hi hj
    split at hi
    · cases hi
    · split at hj
      · cases hj
      · exact hR.inj i j oi oj ki kj hi hj
theorem move_ok {n : Nat} {ob ob' : AObj} {k : Blk} {o' : Obj} (hR : Rel m H W) (hW : Wf H nx) (hn : H.get n = some ob) (hw : ob.writable = true) (hw' : ob'.writable = true) (hk : m n = some k) (hx : m nx = none)
    (g1 : W'.heap[k.b]? = some o') (g2 : ∀ b, b ≠ k.b → W'.heap[b]? = W.heap[b]?) (hs : W'.heap.size = W.heap.size) (h1 : W'.os = W.os) (h2 : W'.tape = W.tape) (h3 : W'.output = W.output)
    (hO : OR m k ob' o') (hob : ObOk ob' := by trivial) (hs1 : ob.solo = true := by rfl) : AP H nx ((H.del n).lay nx ob') (nx + 1) ∧ Post m H nx W (upd m nx k) ((H.del n).lay nx ob') (nx + 1) W' := by
  have hd := del_ap (n := n) hW
  have hW2 := hd.wf
  have hlt := hW.lt hn
  have own : Owns m H (H.del n).wr k.b := ⟨n, ob, k, lower_le_left _ _, hn, hw, hk, rfl⟩
  refine ⟨?_, ⟨le_upd hx, ?_, ⟨?_, ?_⟩, ?_, h1, h2, h3, by omega⟩⟩
  · exact hd.trans (lay_ap hW2 ob' hob)
  · intro i ki h
    simp only [upd] at h
    split at h
    · cases h; exact .inr ⟨by omega, by omega, .inr own⟩
    · exact .inl h
  · intro i oi h
    rw [lay_get hW2, del_get] at h
    split at h
    · rename_i e; subst e; cases h; exact ⟨k, o', upd_same, g1, hO.mono (le_upd hx)⟩
    · rename_i e
      split at h
      · cases h
      · rename_i e'
        obtain ⟨ki, o, e1, e2, e3⟩ := hR.obj i oi h
        exact ⟨ki, o, by rw [upd_other e]; exact e1, by rw [g2 _ (fun hb => e' ((hR.inj n i ob oi k ki hn h hk e1 hw hb.symm).eq hs1).symm)]; exact e2, e3.mono (le_upd hx)⟩
  · intro i j oi oj ki kj hi hj mi mj hwi hb
    rw [lay_get hW2, del_get] at hi hj
    by_cases ei : i = nx
    · by_cases ej : j = nx
      · exact .inl (by omega)
      · rw [if_neg ej] at hj
        split at hj
        · cases hj
        · rename_i e3
          rw [upd_other ej] at mj
          subst ei
          rw [upd_same] at mi; cases mi
          exact absurd ((hR.inj n j ob oj k kj hn hj hk mj hw hb).eq hs1).symm e3
    · rw [if_neg ei] at hi
      rw [upd_other ei] at mi
      split at hi
      · cases hi
      · rename_i e3
        by_cases ej : j = nx
        · subst ej
          rw [upd_same] at mj; cases mj
          exact absurd ((hR.inj i n oi ob ki k hi hn mi hk hwi hb).eq_right hs1) e3
        · rw [if_neg ej] at hj
          rw [upd_other ej] at mj
          split at hj
          · cases hj
          · exact hR.inj i j oi oj ki kj hi hj mi mj hwi hb
  · intro b hb hno
    exact g2 b (fun e => hno (e ▸ own))
end prims


section lend
variable {H : Hp} {nx : Nat} {W W' : World}
theorem dropO_ap (hW : Wf H nx) (r i : Nat) (x : Option AObj) : AP H nx (dropO r i H x) nx := by
  unfold dropO
  split
  · rw [Bool.cond_eq_ite]; split
    · exact del_ap hW
    · exact .refl hW
  · exact .refl hW
theorem dropO_get (r i j : Nat) (ob : AObj) (h : (dropO r i H (H.get i)).get j = some ob) : H.get j = some ob ∧ (j = i → ∀ cs, ob ≠ .lent r cs) := by
  unfold dropO at h
  split at h
  · rename_i r' cs' e
    rw [Bool.cond_eq_ite] at h
    split at h
    · rw [del_get] at h
      split at h
      · cases h
      · rename_i hne; exact ⟨h, fun e => absurd e hne⟩
    · rename_i hb
      refine ⟨h, fun ej cs ec => ?_⟩
      subst ej ec
      rw [e] at h; cases h
      simp at hb
  · rename_i hn
    refine ⟨h, fun ej cs ec => ?_⟩
    subst ej ec
    exact hn _ _ h
theorem dropO_low (r i j : Nat) (h : j < i) : (dropO r i H (H.get i)).get j = H.get j := by
  unfold dropO
  split
  · rw [Bool.cond_eq_ite]; split
    · rw [del_get, if_neg (by omega)]
    · rfl
  · rfl
theorem dropL_ap (r : Nat) : ∀ (k i : Nat) (H : Hp), Wf H nx → AP H nx (dropL r k i H) nx
  | 0, _, _, hW => .refl hW
  | k + 1, i, H, hW => (dropO_ap hW r i (H.get i)).trans (dropL_ap r k (i + 1) _ (dropO_ap hW r i (H.get i)).wf)
theorem dropL_get (r j : Nat) (ob : AObj) : ∀ (k i : Nat) (H : Hp), (dropL r k i H).get j = some ob → H.get j = some ob ∧ (i ≤ j → j < i + k → ∀ cs, ob ≠ .lent r cs)
  | 0, i, H, h => ⟨h, fun a b => by omega⟩
  | k + 1, i, H, h => by
    obtain ⟨h1, h2⟩ := dropL_get r j ob k (i + 1) _ h
    obtain ⟨g1, g2⟩ := dropO_get r i j ob h1
    refine ⟨g1, fun a b => ?_⟩
    by_cases e : j = i
    · exact g2 e
    · exact h2 (by omega) (by omega)
theorem dropL_low (r j : Nat) : ∀ (k i : Nat) (H : Hp), j < i → (dropL r k i H).get j = H.get j
  | 0, _, _, _ => rfl
  | k + 1, i, H, h => by
    show (dropL r k (i + 1) _).get j = _
    rw [dropL_low r j k (i + 1) _ (by omega), dropO_low r i j h]
theorem dropO_t (r i j : Nat) (H : Hp) (o : Option AObj) : (dropO r i H o).t.get j = H.t.get j ∨ (dropO r i H o).t.get j = none := by
  unfold dropO
  split
  · rw [Bool.cond_eq_ite]; split
    · simp only [Hp.del, Tr.get_del]
      split
      · exact .inr rfl
      · exact .inl rfl
    · exact .inl rfl
  · exact .inl rfl
theorem dropL_t (r j : Nat) : ∀ (k i : Nat) (H : Hp), (dropL r k i H).t.get j = H.t.get j ∨ (dropL r k i H).t.get j = none
  | 0, _, _ => .inl rfl
  | k + 1, i, H => by
    rcases dropL_t r j k (i + 1) (dropO r i H (H.get i)) with h | h
    · rcases dropO_t r i j H (H.get i) with g | g
      · exact .inl (h.trans g)
      · exact .inr (h.trans g)
    · exact .inr h
theorem lend_gen {n r : Nat} {ob : AObj} {cs new : List AV} {k k' : Blk} (hR : Rel m H W) (hW : Wf H nx) (hn : H.get n = some ob) (hob : ob = .cells true cs ∧ r = n ∨ ob = .lent r cs) (hk : m n = some k) (hx : m nx = none)
    (hnew : W.heap.size ≤ k'.b ∨ k'.b = k.b) (hnx : ∃ o, W'.heap[k'.b]? = some o ∧ OR (upd m nx k') k' (.lent r (cs ++ new)) o)
    (hold : ∀ ki oi o, W.heap[ki.b]? = some o → OR m ki oi o → (ki.b = k.b → ∃ ci, oi = .lent r ci ∧ ci.length ≤ cs.length) → ∃ o', W'.heap[ki.b]? = some o' ∧ OR m ki oi o')
    (hfr : ∀ b, b < W.heap.size → b ≠ k.b → W'.heap[b]? = W.heap[b]?) (h1 : W'.os = W.os) (h2 : W'.tape = W.tape) (h3 : W'.output = W.output) (h4 : W.heap.size ≤ W'.heap.size) :
    AP H nx (((dropL r (nx - (n + 1)) (n + 1) H).put n (.lent r cs)).lay nx (.lent r (cs ++ new))) (nx + 1) ∧
      Post m H nx W (upd m nx k') (((dropL r (nx - (n + 1)) (n + 1) H).put n (.lent r cs)).lay nx (.lent r (cs ++ new))) (nx + 1) W' := by
  have hlt := hW.lt hn
  have hw : ob.writable = true := by rcases hob with ⟨rfl, _⟩ | rfl <;> rfl
  have dA := dropL_ap r (nx - (n + 1)) (n + 1) H hW
  have dG := fun j oj => dropL_get r j oj (nx - (n + 1)) (n + 1) H
  have dn : (dropL r (nx - (n + 1)) (n + 1) H).get n = some ob := by rw [dropL_low r n _ _ _ (by omega)]; exact hn
  generalize hD : dropL r (nx - (n + 1)) (n + 1) H = D at dA dG dn
  have pA : AP D nx (D.put n (.lent r cs)) nx := put_ap dA.wf dn (by rw [hw]; rfl) trivial (fun L0 e => by rcases hob with ⟨rfl, _⟩ | rfl <;> cases e)
  have lA : AP (D.put n (.lent r cs)) nx ((D.put n (.lent r cs)).lay nx (.lent r (cs ++ new))) (nx + 1) := lay_ap pA.wf _
  have own : Owns m H ((D.put n (.lent r cs)).lay nx (.lent r (cs ++ new))).wr k.b := ⟨n, ob, k, lower_le_left _ _, hn, hw, hk, rfl⟩
  have src : ∀ j oj, ((D.put n (.lent r cs)).lay nx (.lent r (cs ++ new))).get j = some oj → (j = nx ∧ oj = .lent r (cs ++ new)) ∨ (j = n ∧ oj = .lent r cs) ∨ (j ≠ nx ∧ j ≠ n ∧ H.get j = some oj ∧ ∀ ci, oj = .lent r ci → j < n) := by
    intro j oj h
    rw [lay_get pA.wf, put_get dn] at h
    split at h
    · rename_i e; cases h; exact .inl ⟨e, rfl⟩
    · rename_i e
      split at h
      · rename_i e2; cases h; exact .inr (.inl ⟨e2, rfl⟩)
      · rename_i e2
        obtain ⟨a1, a2⟩ := dG j oj h
        refine .inr (.inr ⟨e, e2, a1, fun ci ec => ?_⟩)
        have := hW.lt a1
        by_cases hj : j < n
        · exact hj
        · exact absurd ec (a2 (by omega) (by omega) ci)
  have sh : ∀ j oj kj, j ≠ n → H.get j = some oj → (∀ ci, oj = .lent r ci → j < n) → m j = some kj → kj.b = k.b → ∃ ci, oj = .lent r ci ∧ j < n ∧ ci.length ≤ cs.length := by
    intro j oj kj e g l mj hb
    rcases hR.inj n j ob oj k kj hn g hk mj hw hb.symm with h | ⟨r', cn, cj, e1, e2, l1, l2⟩
    · exact absurd h.symm e
    · rcases hob with ⟨rfl, _⟩ | rfl
      · cases e1
      · cases e1
        exact ⟨cj, e2, l cj e2, l2 (l cj e2)⟩
  refine ⟨(dA.trans pA).trans lA, ⟨le_upd hx, ?_, ⟨?_, ?_⟩, ?_, h1, h2, h3, h4⟩⟩
  · intro i ki h
    simp only [upd] at h
    split at h
    · cases h
      refine .inr ⟨by omega, by omega, ?_⟩
      rcases hnew with h | h
      · exact .inl h
      · exact .inr (h ▸ own)
    · exact .inl h
  · intro i oi h
    rcases src i oi h with ⟨rfl, rfl⟩ | ⟨rfl, rfl⟩ | ⟨e1, e2, g, l⟩
    · obtain ⟨o, a, b⟩ := hnx
      exact ⟨k', o, upd_same, a, b⟩
    · obtain ⟨ki, o, a1, a2, a3⟩ := hR.obj i ob hn
      rw [hk] at a1; cases a1
      obtain ⟨o', b1, b2⟩ := hold k (.lent r cs) o a2 (by rcases hob with ⟨rfl, _⟩ | rfl <;> exact a3) (fun _ => ⟨cs, rfl, Nat.le_refl _⟩)
      exact ⟨k, o', by rw [upd_other (by omega)]; exact hk, b1, b2.mono (le_upd hx)⟩
    · obtain ⟨ki, o, a1, a2, a3⟩ := hR.obj i oi g
      obtain ⟨o', b1, b2⟩ := hold ki oi o a2 a3 (fun hb => by
        obtain ⟨ci, c1, _, c3⟩ := sh i oi ki e2 g l a1 hb
        exact ⟨ci, c1, c3⟩)
      exact ⟨ki, o', by rw [upd_other e1]; exact a1, b1, b2.mono (le_upd hx)⟩
  · intro i j oi oj ki kj hi hj mi mj hwi hb
    have lt' : ∀ {x ox kx}, H.get x = some ox → m x = some kx → kx.b < W.heap.size := fun g h => hR.lt g h
    rcases src i oi hi with ⟨rfl, rfl⟩ | ⟨rfl, rfl⟩ | ⟨ei1, ei2, gi, li⟩
    · rw [upd_same] at mi; cases mi
      rcases src j oj hj with ⟨rfl, rfl⟩ | ⟨rfl, rfl⟩ | ⟨ej1, ej2, gj, lj⟩
      · exact .inl rfl
      · refine .inr ⟨r, _, _, rfl, rfl, fun a => by omega, fun _ => by simp⟩
      · rw [upd_other ej1] at mj
        have := lt' gj mj
        have hk' : k'.b = k.b := hnew.resolve_left (by omega)
        obtain ⟨ci, rfl, c2, c3⟩ := sh j oj kj ej2 gj lj mj (by rw [← hb, hk'])
        exact .inr ⟨r, _, _, rfl, rfl, fun a => by omega, fun _ => by rw [List.length_append]; omega⟩
    · rw [upd_other (by omega), hk] at mi; cases mi
      rcases src j oj hj with ⟨rfl, rfl⟩ | ⟨rfl, rfl⟩ | ⟨ej1, ej2, gj, lj⟩
      · refine .inr ⟨r, _, _, rfl, rfl, fun _ => by simp, fun a => by omega⟩
      · exact .inl rfl
      · rw [upd_other ej1] at mj
        obtain ⟨ci, rfl, c2, c3⟩ := sh j oj kj ej2 gj lj mj hb.symm
        exact .inr ⟨r, _, _, rfl, rfl, fun a => by omega, fun _ => c3⟩
    · rw [upd_other ei1] at mi
      rcases src j oj hj with ⟨rfl, rfl⟩ | ⟨rfl, rfl⟩ | ⟨ej1, ej2, gj, lj⟩
      · rw [upd_same] at mj; cases mj
        have := lt' gi mi
        have hk' : k'.b = k.b := hnew.resolve_left (by omega)
        obtain ⟨ci, rfl, c2, c3⟩ := sh i oi ki ei2 gi li mi (by rw [hb, hk'])
        exact .inr ⟨r, _, _, rfl, rfl, fun _ => by rw [List.length_append]; omega, fun a => by omega⟩
      · rw [upd_other (by omega), hk] at mj; cases mj
        obtain ⟨ci, rfl, c2, c3⟩ := sh i oi ki ei2 gi li mi hb
        exact .inr ⟨r, _, _, rfl, rfl, fun _ => c3, fun a => by omega⟩
      · rw [upd_other ej1] at mj
        exact hR.inj i j oi oj ki kj gi gj mi mj hwi hb
  · intro b hb hno
    exact hfr b hb (fun e => hno (e ▸ own))
end lend

theorem cellsAt_inv {H : Hp} {n : Nat} {cs : List AV} (h : cellsAt H n = some cs) : (∃ w, H.get n = some (.cells w cs)) ∨ ∃ r, H.get n = some (.lent r cs) := by
  unfold cellsAt at h
  split at h
  · rename_i w cs' e; cases h; exact .inl ⟨w, e⟩
  · rename_i r cs' e; cases h; exact .inr ⟨r, e⟩
  · cases h
theorem lentAt_inv {H : Hp} {n r : Nat} {cs : List AV} (h : lentAt H n = some (r, cs)) : H.get n = some (.cells true cs) ∧ r = n ∨ H.get n = some (.lent r cs) := by
  unfold lentAt at h
  split at h
  · rename_i r cs' e; cases h; exact .inr e
  · rename_i cs' e; cases h; exact .inl ⟨e, rfl⟩
  · cases h
theorem cellsW_inv {H : Hp} {n : Nat} {cs : List AV} (h : cellsW H n = some cs) : H.get n = some (.cells true cs) := by
  unfold cellsW at h
  split at h
  · rename_i cs' e; cases h; exact e
  · cases h
theorem cells_ok {H : Hp} {W : World} {n : Nat} {cs : List AV} {k : Blk} (hR : Rel m H W) (h : cellsAt H n = some cs) (hk : m n = some k) :
    ∃ vs, VRs m cs vs ∧ ∀ i v, vs[i]? = some v → W.cell? ⟨k.b, k.o + i, none⟩ = some v := by
  obtain ⟨ob, hg, hOR⟩ : ∃ ob, H.get n = some ob ∧ ∀ k o, OR m k ob o → ∃ w, OR m k (.cells w cs) o := by
    rcases cellsAt_inv h with ⟨w, hg⟩ | ⟨r, hg⟩
    · exact ⟨_, hg, fun k o h => ⟨w, h⟩⟩
    · exact ⟨_, hg, fun k o h => ⟨true, h⟩⟩
  obtain ⟨k', o, h1, h2, h3⟩ := hR.obj n _ hg
  rw [hk] at h1; cases h1
  obtain ⟨w, c, e, fz, pre, vs, rest, rfl, hc, hp, hv, _⟩ := hOR _ _ h3
  refine ⟨vs, hv, fun i v hi => ?_⟩
  have hlt : i < vs.length := (List.getElem?_eq_some_iff.1 hi).1
  simp only [World.cell?, h2, Option.isSome_none, Bool.false_eq_true, if_false]
  rw [← Array.getElem?_toList, hc, List.getElem?_append_right (by omega), List.getElem?_append_left (by omega), ← hi]
  congr 1; omega
theorem add_none (b o i : Nat) : (⟨b, o, none⟩ : Addr).add i = ⟨b, o + i, none⟩ := by simp only [Addr.add]; split <;> simp_all
theorem loadCells_ok {W : World} {b o : Nat} {vs : List Value} (off n : Nat) (h : ∀ i v, vs[i]? = some v → W.cell? ⟨b, o + i, none⟩ = some v) (hl : ((vs.drop off).take n).length = n) :
    (loadCells ⟨b, o + off, none⟩ n).run P W = .ok ((vs.drop off).take n).toArray W := by
  have := run_loadCells_list (P := P) W ⟨b, o + off, none⟩ ((vs.drop off).take n) (fun j v hj => by
    rw [add_none]
    rw [List.getElem?_take] at hj
    split at hj
    · rw [List.getElem?_drop] at hj
      have := h _ _ hj
      rwa [show o + off + j = o + (off + j) by omega]
    · cases hj)
  rwa [hl] at this
theorem loadT_ok {H : Hp} {W : World} {t : TypeId} {n off : Nat} {k : Blk} {a : AV} (hR : Rel m H W) (h : loadT P H t n off = some a) (hk : m n = some k) :
    ∃ v, VR m a v ∧ (loadVar t ⟨k.b, k.o + off, none⟩).run P W = .ok v W := by
  unfold loadT at h
  cases hc : cellsAt H n with
  | none => simp [hc] at h
  | some cs =>
    simp only [hc] at h
    obtain ⟨vs, hv, hcell⟩ := cells_ok hR hc hk
    unfold partT at h
    cases e : isAggT P t with
    | none => simp [e] at h
    | some b =>
      cases b with
      | false =>
        simp [e] at h
        obtain ⟨v, h1, h2⟩ := hv.get h
        exact ⟨v, h2, by simp [loadVar, run_isAgg e, hcell _ _ h1]⟩
      | true =>
        cases e2 : sz P t with
        | none => simp [e, e2] at h
        | some q =>
          simp [e, e2] at h
          obtain ⟨l, hl, rfl⟩ := h
          obtain ⟨h1, h2⟩ := takeN_vrs hl hv
          refine ⟨.agg ((vs.drop off).take q).toArray, by simp only [VR]; exact ⟨_, rfl, by simpa using h1⟩, ?_⟩
          simp only [loadVar, Sem.run_bind, run_isAgg e, Result.andThen_ok, if_true, run_size e2, loadCells_ok off q hcell h2]
          rfl

theorem setCells_ok (b : Nat) : ∀ (vs : List Value) (o : Nat) (W : World) (c : Array Value) (e : TypeId) (fz : Nat × Nat), W.heap[b]? = some (.cells c e fz) → o + vs.length ≤ c.size →
    (W.setCells b o vs).heap[b]? = some (.cells (c.toList.take o ++ vs ++ c.toList.drop (o + vs.length)).toArray e fz) ∧ (∀ b', b' ≠ b → (W.setCells b o vs).heap[b']? = W.heap[b']?) ∧
    (W.setCells b o vs).heap.size = W.heap.size ∧ (W.setCells b o vs).os = W.os ∧ (W.setCells b o vs).tape = W.tape ∧ (W.setCells b o vs).output = W.output := by
  intro vs
  induction vs with
  | nil => intro o W c e fz h hl; simp [World.setCells, h]
  | cons v vs ih =>
    intro o W c e fz h hl
    simp at hl
    have h1 : (W.setCell ⟨b, o, none⟩ v).heap[b]? = some (.cells (c.setIfInBounds o v) e fz) := by simp [World.setCell, Array.getElem?_modify, h]
    obtain ⟨g1, g2, g3, g4⟩ := ih (o + 1) (W.setCell ⟨b, o, none⟩ v) _ e fz h1 (by simp; omega)
    refine ⟨?_, fun b' hb => ?_, ?_, g4⟩
    · rw [World.setCells, g1]
      congr 2
      apply Array.ext'
      simp only [Array.toList_setIfInBounds]
      rw [show o + 1 + vs.length = o + (v :: vs).length by simp; omega, List.drop_set_of_lt (by simp)]
      have : (c.toList.set o v).take (o + 1) = c.toList.take o ++ [v] := by
        rw [List.take_set, List.take_succ_eq_append_getElem (by simp; omega), List.set_append_right _ _ (by simp; omega)]
        simp [show min o c.size = o by omega]
      rw [this]; simp
    · rw [World.setCells, g2 b' hb]
      exact Below.heap_setCell W ⟨b, o, none⟩ v b' hb
    · rw [World.setCells, g3]; simp [World.setCell]
theorem store_ok {H : Hp} {nx : Nat} {W : World} {n off : Nat} {cs cs' new : List AV} {nv : List Value} {k : Blk} (hR : Rel m H W) (hW : Wf H nx) (hc : cellsW H n = some cs) (hk : m n = some k)
    (hs : setAt cs off new = some cs') (hn : VRs m new nv) (h1 : new.all AV.oneCell = true) (hne : new ≠ []) :
    ∃ W', (storeCells ⟨k.b, k.o + off, none⟩ nv).run P W = .ok () W' ∧ AP H nx (H.put n (.cells true cs')) nx ∧ Post m H nx W m (H.put n (.cells true cs')) nx W' := by
  have hg := cellsW_inv hc
  obtain ⟨k', o, e1, e2, e3⟩ := hR.obj n _ hg
  rw [hk] at e1; cases e1
  obtain ⟨c, e, fz, pre, vs, rest, rfl, hcl, hp, hv, hw⟩ := e3
  obtain ⟨hw1, hw2, hw3⟩ := hw rfl
  subst hw3
  have hpre : pre = [] := List.eq_nil_of_length_eq_zero (by omega)
  subst hpre
  simp only [List.nil_append] at hcl
  obtain ⟨s1, s2, s3⟩ := setAt_ok hv hs hn
  have hnv : nv ≠ [] := fun h => hne (List.eq_nil_of_length_eq_zero (by rw [← hn.length, h]; rfl))
  have hle : off + nv.length ≤ vs.length := s1.resolve_left hnv
  have hsz : vs.length ≤ c.size := by rw [← Array.length_toList, hcl]; simp
  have hcell : ∀ i, i < c.size → (W.cell? ⟨k.b, i, none⟩).isSome = true ∧ W.frozen? ⟨k.b, i, none⟩ = false := fun i hi => by
    simp [World.cell?, World.frozen?, e2, hi]
  have hrun := run_storeCells_cells (P := P) k.b (k.o + off) nv 0 W (fun j hj => (hcell _ (by omega)).1) (fun j hj => (hcell _ (by omega)).2) (hn.oneCells h1)
  have hst := setCells_ok k.b nv (k.o + off) W c e (0, 0) e2 (by omega)
  refine ⟨_, by simpa using hrun, put_ok hR hW hg rfl rfl hk hst.1 hst.2.1 hst.2.2.1 hst.2.2.2.1 hst.2.2.2.2.1 hst.2.2.2.2.2 ?_⟩
  refine ⟨_, e, (0, 0), [], vs.take off ++ nv ++ vs.drop (off + nv.length), rest, rfl, ?_, by simp [hw1], s3, fun _ => ⟨hw1, ?_, rfl⟩⟩
  · simp only [hw1, Nat.zero_add, hcl, List.nil_append]
    rw [List.take_append_of_le_length (by omega), List.drop_append_of_le_length (by omega)]
    simp
  · rw [← hw2]; simp; omega
end Abs
end Go.Proofs.YtekmmeikkafpmaaGreat

namespace Go.Proofs.YtekmmeikkafpmaaGreat
namespace Abs
open Go.RowKit
variable {P : Program} {m : NM}

theorem Rel.heap {H : Hp} {W W' : World} (h : Rel m H W) (e : W'.heap = W.heap) : Rel m H W' := ⟨fun n ob g => by rw [e]; exact h.obj n ob g, h.inj⟩
theorem repL_ok {z : List AV} {zv : List Value} (h : VRs m z zv) : ∀ n, VRs m (repL z n) ((List.replicate n zv).flatten) := by
  intro n
  induction n with
  | zero => exact .nil
  | succ n ih => simp only [repL, List.replicate_succ, List.flatten_cons]; exact h.append ih
theorem range_mod (zv : Array Value) (hz : 0 < zv.size) : ∀ n, ((Array.range (n * zv.size)).map fun i => zv[i % zv.size]!).toList = (List.replicate n zv.toList).flatten := by
  intro n
  rw [Array.toList_map, Array.toList_range]
  induction n with
  | zero => simp
  | succ n ih =>
    rw [Nat.succ_mul, List.range_add, List.map_append, ih, List.replicate_succ', List.flatten_append]
    simp only [List.flatten_cons, List.flatten_nil, List.append_nil, List.map_map]
    congr 1
    apply List.ext_getElem (by simp)
    intro j h1 h2
    simp at h1 h2
    simp [Nat.add_mod, Nat.mul_mod_left, Nat.mod_eq_of_lt h1, h1]
theorem zeroCells_list (zv : Array Value) (n : Nat) : (Builtin.zeroCells zv n).toList = (List.replicate n zv.toList).flatten := by
  unfold Builtin.zeroCells
  rcases Nat.eq_zero_or_pos zv.size with h | h
  · have : zv = #[] := Array.eq_empty_of_size_eq_zero h
    subst this; simp
  · exact range_mod zv h n
theorem flat_length {α : Type} (l : List α) (n : Nat) : ((List.replicate n l).flatten).length = n * l.length := by simp

theorem grow_bound (N : Nat) : ∀ (r c : Nat), Builtin.growBy N r c ≤ max c (2 * N + 200) := by
  intro r
  induction r with
  | zero => intro c; simp only [Builtin.growBy]; omega
  | succ r ih =>
    intro c
    simp only [Builtin.growBy]
    split
    · omega
    · have := ih (c + (c + 768) / 4); omega
theorem next_bound {need old : Nat} (h : old < need) : Builtin.nextslicecap need old ≤ 2 * need + 200 := by
  unfold Builtin.nextslicecap
  split
  · omega
  · split
    · omega
    · have := grow_bound need 4 old; omega

theorem row_at {n off len cap esz c : Nat} {ex : Bool} {A : Addr} (c1 : len ≤ cap) (c2 : cap ≤ c) (cc : (len = 0 ∧ cap = 0 ∧ ex = true) ∨ ∃ k off' sp, m n = some k ∧ A = ⟨k.b, off', sp⟩ ∧ (c = 0 ∨ off' = k.o + off) ∧ (ex = false → off' + c * esz ≤ k.o + k.C) ∧ (c = 0 ∨ sp = none)) :
    len = 0 ∨ ∃ k, m n = some k ∧ A = ⟨k.b, k.o + off, none⟩ := by
  rcases cc with h | ⟨k, off', sp, hk, rfl, c4, _, c7⟩
  · exact .inl h.1
  · rcases Nat.eq_zero_or_pos len with h | h
    · exact .inl h
    · have e1 : off' = k.o + off := c4.resolve_left (by omega)
      have e2 : sp = none := c7.resolve_left (by omega)
      subst e1 e2; exact .inr ⟨k, hk, rfl⟩
theorem row_ok {H : Hp} {W : World} {n off len size : Nat} {l : List AV} {A : Addr} (hR : Rel m H W) (h : rowA H n off len size = some l) (ho : len = 0 ∨ ∃ k, m n = some k ∧ A = ⟨k.b, k.o + off, none⟩) :
    ∃ nv, VRs m l nv ∧ nv.length = len * size ∧ ∀ W', W'.heap = W.heap → (loadCells A (len * size)).run P W' = .ok nv.toArray W' := by
  unfold rowA at h
  rw [Bool.cond_eq_ite] at h
  split at h
  · rename_i hl
    rw [Nat.beq_eq] at hl; subst hl; cases h
    exact ⟨[], .nil, by simp, fun W' _ => by simp [loadCells, loadCellsFrom]⟩
  · rename_i hl
    rw [Nat.beq_eq] at hl
    cases hc : cellsAt H n with
    | none => simp [hc] at h
    | some cs =>
      simp only [hc] at h
      obtain ⟨k, hk, rfl⟩ := ho.resolve_left hl
      obtain ⟨vs, hv, _⟩ := cells_ok hR hc hk
      obtain ⟨h1, h2⟩ := takeN_vrs h hv
      obtain ⟨vs', hv', hcell⟩ := cells_ok hR hc hk
      obtain ⟨h3, h4⟩ := takeN_vrs h hv'
      refine ⟨_, h3, h4, fun W' hW' => ?_⟩
      have := loadCells_ok (P := P) (W := W') (b := k.b) (o := k.o) off (len * size) (vs := vs') (fun i v hi => by rw [World.cell?_of_block (w := W) (by rw [hW'])]; exact hcell i v hi) h4
      exact this

def SrcOk (P : Program) (e xt : TypeId) (size k : Nat) (vx : Value) (nv : List Value) (W : World) : Prop :=
  nv.length = k * size ∧
  ((∃ d, P.underlying xt = some d ∧ (∀ q, d ≠ .int q) ∧ ∀ W', W'.heap = W.heap → (Builtin.lenOf vx).run P W' = .ok k W' ∧ (Builtin.firstCells size k vx).run P W' = .ok nv.toArray W') ∨
   (∃ q, P.underlying xt = some (.int q) ∧ vx = .int .i64 k ∧ k ≤ 100000 ∧ ∃ i z, P.info? e = some i ∧ i.zero = some z ∧ z.cells.size = size ∧ nv = (Builtin.zeroCells z.cells k).toList))
theorem src_ok {H : Hp} {W : World} {e xt : TypeId} {size k : Nat} {x : AV} {new : List AV} {vx : Value} (hR : Rel m H W) (h : srcN P H e size xt x = some (k, new)) (hx : VR m x vx) :
    ∃ nv, VRs m new nv ∧ SrcOk P e xt size k vx nv W := by
  unfold srcN at h
  split at h
  · rename_i q k' hu
    cases hz : zero P e with
    | none => simp [hz] at h
    | some z =>
      simp only [hz, Bool.cond_eq_ite, Nat.beq_eq, Nat.ble_eq] at h
      split at h
      · rename_i hs
        split at h
        · rename_i hk
          simp only [Option.some.injEq, Prod.mk.injEq] at h
          obtain ⟨rfl, rfl⟩ := h
          obtain ⟨zv, hzv, i, hi, hiz⟩ := zero_ok (m := m) hz
          simp only [VR] at hx; subst hx
          have hc := hzv.cells
          have hsz : zv.cells.size = size := by rw [← Array.length_toList, hc.length, hs]
          refine ⟨(Builtin.zeroCells zv.cells k').toList, by rw [zeroCells_list]; exact repL_ok hc k', ?_, .inr ⟨q, hu, rfl, hk, i, zv, hi, hiz, hsz, rfl⟩⟩
          rw [zeroCells_list, flat_length]; simp [hsz]
        · cases h
      · cases h
  · rename_i e' hu
    simp only [Option.some.injEq, Prod.mk.injEq] at h
    obtain ⟨rfl, rfl⟩ := h
    simp only [VR] at hx; subst hx
    exact ⟨[], .nil, by simp, .inl ⟨_, hu, by simp, fun W' _ => by simp [Builtin.lenOf, Builtin.firstCells]⟩⟩
  · rename_i e' n off len cap esz ex hu
    cases hr : rowA H n off len size with
    | none => simp [hr] at h
    | some l =>
      simp only [hr, Option.some.injEq, Prod.mk.injEq] at h
      obtain ⟨rfl, rfl⟩ := h
      obtain ⟨A, c, rfl, c1, c2, c3, cc⟩ := hx.slice_some
      obtain ⟨nv, h1, h2, h3⟩ := row_ok (P := P) (A := A) hR hr (row_at c1 c2 cc)
      exact ⟨nv, h1, h2, .inl ⟨_, hu, by simp, fun W' hW' => ⟨by simp [Builtin.lenOf], by simp only [Builtin.firstCells]; exact h3 W' hW'⟩⟩⟩
  · rename_i s hu
    rw [Bool.cond_eq_ite] at h
    split at h
    · rename_i hs
      rw [Nat.beq_eq] at hs; subst hs
      simp only [Option.some.injEq, Prod.mk.injEq] at h
      obtain ⟨rfl, rfl⟩ := h
      simp only [VR] at hx; subst hx
      refine ⟨s.data.toList.map fun b => .int .u8 b.toNat, ?_, by simp, .inl ⟨_, hu, by simp, fun W' _ => ⟨by simp [Builtin.lenOf], ?_⟩⟩⟩
      · generalize s.data.toList = l
        induction l with
        | nil => exact .nil
        | cons b l ih => exact .cons (by simp only [VR]) ih
      · simp only [Builtin.firstCells]
        have : s.extract 0 s.size = s := by simp
        rw [this]
        simp [← Array.toList_map]
    · cases h
  · cases h
theorem run_room {ts : Array TypeId} {ty t xt e : TypeId} {i : TypeInfo} {vx : Value} {nv : List Value} {k : Nat} {W W' : World} (h0 : ts[0]? = some t) (h1 : ts[1]? = some xt) (ht : P.underlying t = some (.slice e)) (hi : P.info? e = some i)
    (hS : SrcOk P e xt i.size k vx nv W) {base : Option Addr} {sLen sCap : Nat} (hroom : sLen + k ≤ sCap) (hb : k * i.bytes ≤ 281474976710656)
    (hst : match base with | some a => (storeCells (a.add (sLen * i.size)) nv).run P W = .ok () W' | none => W' = W) :
    (Builtin.append_ ts ty #[.slice base sLen sCap, vx]).run P W = .ok (.slice base (sLen + k) sCap) W' := by
  obtain ⟨hl, hS⟩ := hS
  have e0 : (#[Value.slice base sLen sCap, vx] : Array Value)[0]? = some (.slice base sLen sCap) := rfl
  have e1 : (#[Value.slice base sLen sCap, vx] : Array Value)[1]? = some vx := rfl
  have esz : ∀ w, (sizeOf e).run P w = .ok i.size w := fun w => by simp [sizeOf, run_info hi]
  rcases hS with ⟨d, hd, hq, hrun⟩ | ⟨q, hq, rfl, hk, i', z, hi', hz, hzs, rfl⟩
  · obtain ⟨g1, g2⟩ := hrun W rfl
    cases d with
    | int q => exact absurd rfl (hq q)
    | _ =>
      unfold Builtin.append_
      rw [h0, e0, e1]
      simp only [Sem.run_bind, run_underlying ht, Result.andThen_ok, esz, h1, run_underlying hd, Sem.run_pure, Bool.false_eq_true, if_false, g1]
      rw [Sem.run_ite, if_pos hroom]
      simp only [Bool.not_false, if_true, Sem.run_bind, g2, Result.andThen_ok]
      cases base with
      | none => simp only at hst; subst hst; rfl
      | some a => simp only at hst; simp only [Sem.run_bind, hst, Result.andThen_ok, Sem.run_pure]
  · rw [hi] at hi'; cases hi'
    have hw : IntKind.i64.wrap (k : Int) = k := IntWalk.i64_in _ (by omega)
    have hb' : ¬ (((k : Int) * (i.bytes : Int)) > 2 ^ 48) := by
      have : ((k * i.bytes : Nat) : Int) ≤ 281474976710656 := by omega
      simp only [Int.natCast_mul] at this; omega
    have hk0 : ¬ ((k : Int) < 0) := by omega
    have happ : ∀ w, (if k * i.size = 0 then pure #[] else do pure (Builtin.zeroCells (← zeroValue e).cells k) : Sem (Array Value)).run P w = .ok (Builtin.zeroCells z.cells k) w := fun w => by
      split
      · rename_i hz0
        have : (Builtin.zeroCells z.cells k) = #[] := by
          apply Array.eq_empty_of_size_eq_zero; rw [← Array.length_toList, hl]; exact hz0
        rw [this]; rfl
      · simp [run_zero hi hz]
    have hai : ∀ w, (asInt (.int .i64 (k : Int))).run P w = .ok (k : Int) w := fun w => rfl
    unfold Builtin.append_
    rw [h0, e0, e1]
    simp only [Sem.run_bind, run_underlying ht, Result.andThen_ok, esz, h1, run_underlying hq, Sem.run_pure, if_true, hai, hw]
    rw [Sem.run_ite, if_neg hk0]
    simp only [Sem.run_bind, run_info hi, Result.andThen_ok]
    rw [Sem.run_ite, if_neg hb']
    simp only [Sem.run_bind, Sem.run_pure, Result.andThen_ok, Int.toNat_natCast]
    rw [Sem.run_ite, if_pos hroom]
    simp only [Bool.not_true, Bool.false_eq_true, if_false, Sem.run_bind, happ, Result.andThen_ok]
    cases base with
    | none => simp only at hst; subst hst; rfl
    | some a => simp only at hst; simp only [Sem.run_bind, hst, Result.andThen_ok, Sem.run_pure]
theorem run_grow {ts : Array TypeId} {ty t xt e : TypeId} {i : TypeInfo} {z vx : Value} {nv old : List Value} {k : Nat} {W : World} (h0 : ts[0]? = some t) (h1 : ts[1]? = some xt) (ht : P.underlying t = some (.slice e)) (hi : P.info? e = some i) (hz : i.zero = some z)
    (hS : SrcOk P e xt i.size k vx nv W) {base : Option Addr} {sLen sCap : Nat} (hroom : sCap < sLen + k) (hsm : sLen + k ≤ 1000000) (hby : i.bytes ≤ 1000)
    (hold : ∀ W', W'.heap = W.heap → (Builtin.firstCells i.size sLen (.slice base sLen sCap)).run P W' = .ok old.toArray W') :
    ∃ c W', sLen + k ≤ c ∧ (Builtin.append_ ts ty #[.slice base sLen sCap, vx]).run P W = .ok (.slice (some ⟨W.heap.size, 0, none⟩) (sLen + k) c) W' ∧
      W'.heap = W.heap.push (.cells (old ++ nv ++ (List.replicate (c - (sLen + k)) z.cells.toList).flatten).toArray e) ∧ W'.os = W.os ∧ W'.tape = W.tape ∧ W'.output = W.output := by
  obtain ⟨hl, hS⟩ := hS
  have e0 : (#[Value.slice base sLen sCap, vx] : Array Value)[0]? = some (.slice base sLen sCap) := rfl
  have e1 : (#[Value.slice base sLen sCap, vx] : Array Value)[1]? = some vx := rfl
  have esz : ∀ w, (sizeOf e).run P w = .ok i.size w := fun w => by simp [sizeOf, run_info hi]
  have hno : ¬ (sLen + k ≤ sCap) := by omega
  have hbig : ∀ (b : Prop), ¬ (((sLen + k : Nat) : Int) > IntKind.i64.max ∧ b) := fun b h => by
    have := h.1; simp [IntKind.max, IntKind.bits, IntKind.signed] at this; omega
  have hnx : ¬ (Builtin.nextslicecap (sLen + k) sCap * i.bytes > 2 ^ 48) := by
    have h2 := next_bound hroom
    have : Builtin.nextslicecap (sLen + k) sCap * i.bytes ≤ (2 * (sLen + k) + 200) * 1000 := Nat.mul_le_mul h2 hby
    omega
  obtain ⟨c, hc⟩ : ∃ c, c = (Question.appendCap (sLen + k) sCap e).cut (W.tape W.drawn (.appendCap (sLen + k) sCap e)) := ⟨_, rfl⟩
  have hcl : sLen + k ≤ c := by rw [hc]; simp [Question.cut]
  have hch : (choose (.appendCap (sLen + k) sCap e)).run P W = .ok c { W with drawn := W.drawn + 1 } := by simp [run_choose, Question.forced, hc]
  refine ⟨c, { W with drawn := W.drawn + 1, heap := W.heap.push (.cells (old ++ nv ++ (List.replicate (c - (sLen + k)) z.cells.toList).flatten).toArray e) }, hcl, ?_, rfl, rfl, rfl, rfl⟩
  have hrest : Builtin.zeroCells z.cells (c - (sLen + k)) = ((List.replicate (c - (sLen + k)) z.cells.toList).flatten).toArray := by apply Array.ext'; rw [zeroCells_list]
  have hrow : old.toArray ++ nv.toArray ++ Builtin.zeroCells z.cells (c - (sLen + k)) = (old ++ nv ++ (List.replicate (c - (sLen + k)) z.cells.toList).flatten).toArray := by
    rw [hrest]; simp
  have holdW := hold { W with drawn := W.drawn + 1 } rfl
  rcases hS with ⟨d, hd, hq, hrun⟩ | ⟨q, hq, rfl, hk, i', z', hi', hz', hzs, rfl⟩
  · obtain ⟨g1, _⟩ := hrun W rfl
    obtain ⟨_, g2⟩ := hrun { W with drawn := W.drawn + 1 } rfl
    cases d with
    | int q => exact absurd rfl (hq q)
    | _ =>
      unfold Builtin.append_
      rw [h0, e0, e1]
      simp only [Sem.run_bind, run_underlying ht, Result.andThen_ok, esz, h1, run_underlying hd, Sem.run_pure, Bool.false_eq_true, if_false, g1]
      rw [Sem.run_ite, if_neg hno]
      simp only [Sem.run_bind, run_info hi, Result.andThen_ok]
      rw [Sem.run_ite, if_neg (hbig _)]
      simp only [Sem.run_bind, run_info hi, Result.andThen_ok]
      rw [Sem.run_ite, if_neg hnx]
      simp only [Sem.run_bind, hch, Result.andThen_ok, run_info hi, run_askRoom, holdW, Bool.not_false, if_true, g2, run_zero hi hz, newRow, run_newObj, Sem.run_pure, hrow]
  · rw [hi] at hi'; cases hi'
    rw [hz] at hz'; cases hz'
    have hw : IntKind.i64.wrap (k : Int) = k := IntWalk.i64_in _ (by omega)
    have hb' : ¬ (((k : Int) * (i.bytes : Int)) > 2 ^ 48) := by
      have : k * i.bytes ≤ 100000 * 1000 := Nat.mul_le_mul hk hby
      have : ((k * i.bytes : Nat) : Int) ≤ 281474976710656 := by omega
      simp only [Int.natCast_mul] at this; omega
    have hk0 : ¬ ((k : Int) < 0) := by omega
    have happ : ∀ w, (if k * i.size = 0 then pure #[] else do pure (Builtin.zeroCells (← zeroValue e).cells k) : Sem (Array Value)).run P w = .ok (Builtin.zeroCells z.cells k) w := fun w => by
      split
      · rename_i hz0
        have : (Builtin.zeroCells z.cells k) = #[] := by
          apply Array.eq_empty_of_size_eq_zero; rw [← Array.length_toList, hl]; exact hz0
        rw [this]; rfl
      · simp [run_zero hi hz]
    have hai : ∀ w, (asInt (.int .i64 (k : Int))).run P w = .ok (k : Int) w := fun w => rfl
    unfold Builtin.append_
    rw [h0, e0, e1]
    simp only [Sem.run_bind, run_underlying ht, Result.andThen_ok, esz, h1, run_underlying hq, Sem.run_pure, if_true, hai, hw]
    rw [Sem.run_ite, if_neg hk0]
    simp only [Sem.run_bind, run_info hi, Result.andThen_ok]
    rw [Sem.run_ite, if_neg hb']
    simp only [Sem.run_bind, Sem.run_pure, Result.andThen_ok, Int.toNat_natCast]
    rw [Sem.run_ite, if_neg hno]
    simp only [Sem.run_bind, run_info hi, Result.andThen_ok]
    rw [Sem.run_ite, if_neg (hbig _)]
    simp only [Sem.run_bind, run_info hi, Result.andThen_ok]
    rw [Sem.run_ite, if_neg hnx]
    have hrow' : old.toArray ++ Builtin.zeroCells z.cells k ++ Builtin.zeroCells z.cells (c - (sLen + k)) = (old ++ (Builtin.zeroCells z.cells k).toList ++ (List.replicate (c - (sLen + k)) z.cells.toList).flatten).toArray := by
      rw [← hrow]
    simp only [Sem.run_bind, hch, Result.andThen_ok, run_info hi, run_askRoom, holdW, Bool.not_true, Bool.false_eq_true, if_false, happ, run_zero hi hz, newRow, run_newObj, Sem.run_pure, hrow']
end Abs
end Go.Proofs.YtekmmeikkafpmaaGreat

namespace Go.Proofs.YtekmmeikkafpmaaGreat
namespace Abs
open Go.RowKit
variable {P : Program} {m : NM}

def Runs {α : Type} (P : Program) (m : NM) (H : Hp) (nx : Nat) (W : World) (s : Sem α) (f : α → Value → Prop) (v : AV) (H' : Hp) (nx' : Nat) : Prop :=
  ∃ r v' m' W', s.run P W = .ok r W' ∧ f r v' ∧ AP H nx H' nx' ∧ Post m H nx W m' H' nx' W' ∧ VR m' v v'


theorem row_lay {H : Hp} {nx : Nat} {W W' : World} {cs : List AV} {vs rest : List Value} {e : TypeId} (hR : Rel m H W) (hW : Wf H nx) (hn : m nx = none) (hv : VRs m cs vs)
    (hh : W'.heap = W.heap.push (.cells (vs ++ rest).toArray e)) (h1 : W'.os = W.os) (h2 : W'.tape = W.tape) (h3 : W'.output = W.output) :
    AP H nx (H.lay nx (.cells true cs)) (nx + 1) ∧ Post m H nx W (upd m nx ⟨W.heap.size, 0, (vs ++ rest).length⟩) (H.lay nx (.cells true cs)) (nx + 1) W' :=
  lay_ok hR hW hn hh h1 h2 h3 ⟨(vs ++ rest).toArray, e, (0, 0), [], vs, rest, rfl, by simp, rfl, hv.mono (le_upd hn), fun _ => ⟨rfl, by simp, rfl⟩⟩

theorem append_ok {ts : Array TypeId} {ty t xt : TypeId} {s x v : AV} {vs vx : Value} {H H' : Hp} {nx nx' : Nat} {W : World} (h0 : ts[0]? = some t) (h1 : ts[1]? = some xt) (hR : Rel m H W) (hW : Wf H nx) (hF : Fresh m nx nx')
    (h : appendA P t xt s x H nx = some (v, H', nx')) (hs : VR m s vs) (hx : VR m x vx) : Runs P m H nx W (Builtin.append_ ts ty #[vs, vx]) (fun r v' => r = v') v H' nx' := by
  unfold appendA at h
  cases ht : P.underlying t with
  | none => simp [ht] at h
  | some d =>
    cases d <;> simp only [ht] at h <;> try (cases h; done)
    rename_i e
    cases hi : P.info? e with
    | none => simp [hi] at h
    | some i =>
      cases hz : zero P e with
      | none => simp [hi, hz] at h
      | some z =>
        obtain ⟨zv, hzv, i', hi', hiz⟩ := zero_ok (m := m) hz
        rw [hi] at hi'; cases hi'
        simp only [hi, hz, Bool.cond_eq_ite, Nat.beq_eq] at h
        split at h
        · rename_i hzl
          have hzc := hzv.cells
          have hzs : zv.cells.size = i.size := by rw [← Array.length_toList, hzc.length, hzl]
          cases hsr : srcN P H e i.size xt x with
          | none => simp [hsr] at h
          | some p =>
            obtain ⟨k, new⟩ := p
            obtain ⟨nv, hnv, hS⟩ := src_ok hR hsr hx
            have hnl := hS.1
            cases k with
            | zero =>
              simp only [hsr] at h
              have hnv0 : nv = [] := List.eq_nil_of_length_eq_zero (by simpa using hnl)
              cases s <;> simp only at h <;> try (cases h; done)
              · simp only [Option.some.injEq, Prod.mk.injEq] at h
                obtain ⟨rfl, rfl, rfl⟩ := h
                simp only [VR] at hs; subst hs
                exact ⟨_, _, m, W, run_room h0 h1 ht hi hS (base := none) (sLen := 0) (sCap := 0) (by omega) (by omega) rfl, rfl, .refl hW, .refl hR, by simp only [VR]⟩
              · rename_i n off len cap esz ex
                simp only [Option.some.injEq, Prod.mk.injEq] at h
                obtain ⟨rfl, rfl, rfl⟩ := h
                have hs' := hs
                obtain ⟨A, c, rfl, c1, c2, c3, _⟩ := hs.slice_some
                refine ⟨_, _, m, W, run_room h0 h1 ht hi hS (base := some A) (sLen := len) (sCap := c) (by omega) (by omega) (by subst hnv0; simp [storeCells]), rfl, .refl hW, .refl hR, ?_⟩
                simpa using hs'
            | succ k =>
              simp only [hsr, small, Bool.and_eq_true, Nat.ble_eq] at h
              split at h
              · rename_i hsm
                split at h
                · cases h
                · rename_i hnz
                  have hbk : (k + 1) * i.bytes ≤ 281474976710656 := by
                    have : (k + 1) * i.bytes ≤ 1000000 * 1000 := Nat.mul_le_mul hsm.1 hsm.2
                    omega
                  have hnpos : nv ≠ [] := fun e => by
                    have h3 : 0 < (k + 1) * i.size := Nat.mul_pos (by omega) (by omega)
                    rw [e] at hnl; rw [← hnl] at h3; simp at h3
                  have hnewne : new ≠ [] := fun e => hnpos (List.eq_nil_of_length_eq_zero (by rw [hnv.length, e]; rfl))
                  unfold growA at h
                  cases s <;> simp only at h <;> try (cases h; done)
                  · -- nil
                    simp only [Option.some.injEq, Prod.mk.injEq] at h
                    obtain ⟨rfl, rfl, rfl⟩ := h
                    simp only [VR] at hs; subst hs
                    have hm : m nx = none := hF nx (Nat.le_refl _) (by omega)
                    obtain ⟨c, W', g1, g2, g3, g4, g5, g6⟩ := run_grow (ty := ty) (W := W) (old := []) h0 h1 ht hi hiz hS (base := none) (sLen := 0) (sCap := 0) (by omega) (by omega) hsm.2 (fun W' _ => by simp [Builtin.firstCells])
                    obtain ⟨a1, a2⟩ := row_lay (cs := new) (vs := nv) hR hW hm hnv (by simpa using g3) g4 g5 g6
                    refine ⟨_, _, _, W', g2, rfl, a1, a2, ?_⟩
                    simp only [VR]
                    refine .inr ⟨_, 0, c, none, upd_same, by simp, Nat.le_refl _, by omega, (fun e => by cases e), .inr rfl, fun _ => ?_, .inr rfl⟩
                    simp [hnl, hzs]
                    rw [← Nat.add_mul]; apply Nat.le_of_eq; congr 1; omega
                  · rename_i n off len cap esz ex
                    simp only [Bool.cond_eq_ite, Nat.beq_eq, small, Bool.and_eq_true, Nat.ble_eq] at h
                    split at h
                    · rename_i hes; subst hes
                      split at h
                      · rename_i hsm2
                        obtain ⟨A, c, rfl, c1, c2, c3, qq⟩ := hs.slice_some
                        split at h
                        · -- in place, room known
                          rename_i hroom
                          cases hcw : cellsW H n with
                          | none => simp [hcw] at h
                          | some cs =>
                            cases hsa : setAt cs (off + len * i.size) new with
                            | none => simp [hcw, hsa] at h
                            | some cs' =>
                              simp only [hcw, hsa] at h
                              split at h
                              · rename_i hone
                                simp only [Option.some.injEq, Prod.mk.injEq] at h
                                obtain ⟨rfl, rfl, rfl⟩ := h
                                obtain ⟨kb, off', sp, hk, rfl, c4, c5, c7⟩ := qq.resolve_left (fun z => by omega)
                                have hoff : off' = kb.o + off := c4.resolve_left (by omega)
                                have hsp : sp = none := c7.resolve_left (by omega)
                                subst hoff hsp
                                obtain ⟨W', r1, r2, r3⟩ := store_ok (P := P) hR hW hcw hk hsa hnv hone hnewne
                                refine ⟨_, _, m, W', run_room h0 h1 ht hi hS (base := some ⟨kb.b, kb.o + off, none⟩) (sLen := len) (sCap := c) (by omega) hbk ?_, rfl, r2, r3, ?_⟩
                                · simp only [add_none]
                                  rw [← r1, Nat.add_assoc]
                                · simp only [VR]
                                  exact .inr ⟨kb, _, c, none, hk, rfl, by omega, c2, c3, .inr rfl, c5, .inr rfl⟩
                              · cases h
                        · rename_i hroom
                          cases hro : rowA H n off len i.size with
                          | none => simp [hro] at h
                          | some old =>
                            simp only [hro] at h
                            obtain ⟨ov, hov, hol, hold⟩ := row_ok (P := P) (A := A) hR hro (row_at c1 c2 qq)
                            have hsmm : len + (k + 1) ≤ 1000000 := by omega
                            have grow : ∀ (hc : c < len + (k + 1)) (hm : m nx = none) (H0 : Hp), (Rel m H0 W ∧ Wf H0 nx) → ∃ r m' W', (Builtin.append_ ts ty #[.slice (some A) len c, vx]).run P W = .ok r W' ∧
                                AP H0 nx (H0.lay nx (.cells true (old ++ new))) (nx + 1) ∧ Post m H0 nx W m' (H0.lay nx (.cells true (old ++ new))) (nx + 1) W' ∧ VR m' (.slice nx 0 (len + (k + 1)) (len + (k + 1)) i.size false) r := by
                              intro hc hm H0 hR0
                              obtain ⟨c', W', g1, g2, g3, g4, g5, g6⟩ := run_grow (ty := ty) (W := W) (old := ov) h0 h1 ht hi hiz hS (base := some A) (sLen := len) (sCap := c) hc hsmm hsm.2 (fun W' hW' => by simp only [Builtin.firstCells]; exact hold W' hW')
                              obtain ⟨a1, a2⟩ := row_lay (cs := old ++ new) (vs := ov ++ nv) hR0.1 hR0.2 hm (hov.append hnv) g3 g4 g5 g6
                              refine ⟨_, _, W', g2, a1, a2, ?_⟩
                              simp only [VR]
                              refine .inr ⟨_, 0, c', none, upd_same, rfl, Nat.le_refl _, g1, (fun e => by cases e), .inr rfl, fun _ => ?_, .inr rfl⟩
                              simp [hol, hnl, hzs]
                              rw [← Nat.add_mul, ← Nat.add_mul]; apply Nat.le_of_eq; congr 1; omega
                            split at h
                            · rename_i hex
                              simp only [Option.some.injEq, Prod.mk.injEq] at h
                              obtain ⟨rfl, rfl, rfl⟩ := h
                              obtain ⟨r, m', W', q1, q2, q3, q4⟩ := grow (by have := c3 hex; omega) (hF nx (Nat.le_refl _) (by omega)) H ⟨hR, hW⟩
                              exact ⟨r, r, m', W', q1, rfl, q2, q3, q4⟩
                            · rename_i hex
                              have hex' : ex = false := by simpa using hex
                              obtain ⟨kb, off', sp, hk, rfl, c4, c5, c7⟩ := qq.resolve_left (fun z => by rw [z.2.2] at hex'; cases hex')
                              split at h
                              · cases hla : lentAt H n with
                                | none => simp [hla] at h
                                | some q =>
                                  obtain ⟨r, cs⟩ := q
                                  simp only [hla] at h
                                  split at h
                                  · rename_i hoff0
                                    split at h
                                    · rename_i hcl
                                      split at h
                                      · rename_i hone
                                        simp only [Option.some.injEq, Prod.mk.injEq] at h
                                        obtain ⟨rfl, rfl, rfl⟩ := h
                                        have hm : m nx = none := hF nx (Nat.le_refl _) (by omega)
                                        obtain ⟨ob, hg, hob⟩ : ∃ ob, H.get n = some ob ∧ (ob = .cells true cs ∧ r = n ∨ ob = .lent r cs) := by
                                          rcases lentAt_inv hla with ⟨a, b⟩ | a
                                          · exact ⟨_, a, .inl ⟨rfl, b⟩⟩
                                          · exact ⟨_, a, .inr rfl⟩
                                        have hca : cellsAt H n = some cs := by rcases hob with ⟨rfl, _⟩ | rfl <;> simp [cellsAt, hg]
                                        obtain ⟨k', o, e1, e2, e3⟩ := hR.obj n _ hg
                                        rw [hk] at e1; cases e1
                                        have e3' : OR m kb (.cells true cs) o := by rcases hob with ⟨rfl, _⟩ | rfl <;> exact e3
                                        obtain ⟨cc, ee, fz, pre, vs, rest, rfl, hcc, hp, hv, hw⟩ := e3'
                                        obtain ⟨hw1, hw2, hw3⟩ := hw rfl
                                        subst hw3
                                        have hpre : pre = [] := List.eq_nil_of_length_eq_zero (by omega)
                                        subst hpre
                                        simp only [List.nil_append] at hcc
                                        have hoc : old = cs := by
                                          unfold rowA at hro
                                          simp only [Bool.cond_eq_ite, Nat.beq_eq] at hro
                                          split at hro
                                          · rename_i hl0
                                            cases hro
                                            exact (List.eq_nil_of_length_eq_zero (by rw [hcl, hl0]; simp)).symm
                                          · simp only [hca, takeN, Bool.cond_eq_ite, Nat.beq_eq] at hro
                                            split at hro
                                            · cases hro
                                              rw [hoff0]; simp; rw [← hcl]; simp
                                            · cases hro
                                        have hvl : vs.length = len * i.size := by rw [hv.length]; exact hcl
                                        by_cases hc : c < len + (k + 1)
                                        · obtain ⟨c', W', g1, g2, g3, g4, g5, g6⟩ := run_grow (ty := ty) (W := W) (old := ov) h0 h1 ht hi hiz hS (base := some ⟨kb.b, off', sp⟩) (sLen := len) (sCap := c) hc hsmm hsm.2 (fun W' hW' => by simp only [Builtin.firstCells]; exact hold W' hW')
                                          generalize hrsd : (List.replicate (c' - (len + (k + 1))) zv.cells.toList).flatten = rs at g3
                                          have hrs : rs.length = (c' - (len + (k + 1))) * i.size := by rw [← hrsd]; simp [hzs]
                                          have hx := lend_gen (W' := W') (new := new) (k' := ⟨W.heap.size, 0, (ov ++ nv ++ rs).length⟩) hR hW hg hob hk hm (.inl (Nat.le_refl _))
                                            ⟨.cells (ov ++ nv ++ rs).toArray e, by rw [g3]; simp, ⟨(ov ++ nv ++ rs).toArray, e, (0, 0), [], ov ++ nv, rs, rfl, by simp, rfl, (by rw [← hoc]; exact (hov.append hnv).mono (le_upd hm)), fun _ => ⟨rfl, by simp, rfl⟩⟩⟩
                                            (fun ki oi o a b _ => ⟨o, by rw [g3, Array.getElem?_push, if_neg (Nat.ne_of_lt (Array.getElem?_eq_some_iff.1 a).1)]; exact a, b⟩)
                                            (fun b hb _ => by rw [g3, Array.getElem?_push, if_neg (Nat.ne_of_lt hb)]) g4 g5 g6 (by rw [g3]; simp)
                                          refine ⟨_, _, _, W', g2, rfl, hx.1, hx.2, ?_⟩
                                          simp only [VR]
                                          refine .inr ⟨_, 0, c', none, upd_same, rfl, Nat.le_refl _, g1, (fun e => by cases e), .inr rfl, fun _ => ?_, .inr rfl⟩
                                          show 0 + c' * i.size ≤ 0 + (ov ++ nv ++ rs).length
                                          rw [List.length_append, List.length_append, hol, hnl, hrs, ← Nat.add_mul, ← Nat.add_mul, show len + (k + 1) + (c' - (len + (k + 1))) = c' by omega]
                                          exact Nat.le_refl _
                                        · have hoff : off' = kb.o + off := c4.resolve_left (by omega)
                                          have hoff0' : off' = 0 := by omega
                                          have hsp : sp = none := c7.resolve_left (by omega)
                                          subst hsp
                                          have hc5 := c5 hex'
                                          rw [hw1, ← hw2, hoff0'] at hc5
                                          have hmul : (len + (k + 1)) * i.size ≤ c * i.size := Nat.mul_le_mul_right _ (by omega)
                                          rw [Nat.add_mul] at hmul
                                          have hcell : ∀ j, j < cc.size → (W.cell? ⟨kb.b, j, none⟩).isSome = true ∧ W.frozen? ⟨kb.b, j, none⟩ = false := fun j hj => by
                                            simp [World.cell?, World.frozen?, e2, hj]
                                          have hrun := run_storeCells_cells (P := P) kb.b (len * i.size) nv 0 W (fun j hj => (hcell _ (by omega)).1) (fun j hj => (hcell _ (by omega)).2) (hnv.oneCells hone)
                                          have hst := setCells_ok kb.b nv (len * i.size) W cc ee (0, 0) e2 (by omega)
                                          rw [Nat.add_zero] at hrun
                                          have hx := lend_gen (W' := W.setCells kb.b (len * i.size) nv) (new := new) (k' := kb) hR hW hg hob hk hm (.inr rfl)
                                            ⟨_, hst.1, OR.mono (le_upd hm) (show OR m kb (.lent r (cs ++ new)) _ from ⟨_, ee, (0, 0), [], vs ++ nv, rest.drop nv.length, rfl, (by
                                              rw [hcc, ← hvl]
                                              simp [List.take_append_of_le_length, List.drop_append]), by simp [hw1], hv.append hnv, fun _ => ⟨hw1, (by rw [← hw2]; simp; omega), rfl⟩⟩)⟩
                                            (fun ki oi o a b cd => by
                                              by_cases hb : ki.b = kb.b
                                              · obtain ⟨ci, rfl, hl⟩ := cd hb
                                                rw [hb, e2] at a; cases a
                                                obtain ⟨c1, f1, z1, pre1, vs1, rest1, heq, hc1, hp1, hv1, hw1'⟩ := b
                                                cases heq
                                                obtain ⟨x1, x2, x3⟩ := hw1' rfl
                                                have hpre1 : pre1 = [] := List.eq_nil_of_length_eq_zero (by omega)
                                                subst hpre1
                                                simp only [List.nil_append] at hc1
                                                have hl1 : vs1.length ≤ len * i.size := by rw [hv1.length, ← hcl]; exact hl
                                                have t : (cc.toList.take (len * i.size)).take vs1.length = vs1 := by rw [List.take_take, Nat.min_eq_left hl1, hc1, List.take_left' rfl]
                                                have t2 : cc.toList.take (len * i.size) = vs1 ++ (cc.toList.take (len * i.size)).drop vs1.length := by
                                                  conv => lhs; rw [← List.take_append_drop vs1.length (cc.toList.take (len * i.size)), t]
                                                refine ⟨_, by rw [hb]; exact hst.1, _, ee, (0, 0), [], vs1, (cc.toList.take (len * i.size)).drop vs1.length ++ nv ++ cc.toList.drop (len * i.size + nv.length), rfl, ?_, by simp [x1], hv1, fun _ => ⟨x1, ?_, rfl⟩⟩
                                                · show cc.toList.take (len * i.size) ++ nv ++ cc.toList.drop (len * i.size + nv.length) = _
                                                  conv => lhs; rw [t2]
                                                  simp only [List.nil_append, List.append_assoc]
                                                · rw [← x2]; simp; omega
                                              · exact ⟨o, by rw [hst.2.1 _ hb]; exact a, b⟩)
                                            (fun b _ hb => hst.2.1 b hb) hst.2.2.2.1 hst.2.2.2.2.1 hst.2.2.2.2.2 (Nat.le_of_eq hst.2.2.1.symm)
                                          refine ⟨_, _, _, _, run_room h0 h1 ht hi hS (base := some ⟨kb.b, off', none⟩) (sLen := len) (sCap := c) (by omega) hbk (by simp only [add_none, hoff0', Nat.zero_add]; exact hrun), rfl, hx.1, hx.2, ?_⟩
                                          simp only [VR]
                                          refine .inr ⟨kb, 0, c, none, upd_same, by rw [hoff0'], Nat.le_refl _, by omega, (fun e => by cases e), .inr (by omega), fun _ => ?_, .inr rfl⟩
                                          rw [hw1, ← hw2]; omega
                                      · cases h
                                    · cases h
                                  · cases h
                              · cases hcw : cellsW H n with
                                | none => simp [hcw] at h
                                | some cs =>
                                  simp only [hcw] at h
                                  split at h
                                  · rename_i hoff0
                                    split at h
                                    · rename_i hcl
                                      split at h
                                      · rename_i hone
                                        simp only [Option.some.injEq, Prod.mk.injEq] at h
                                        obtain ⟨rfl, rfl, rfl⟩ := h
                                        have hm : m nx = none := hF nx (Nat.le_refl _) (by omega)
                                        have hg := cellsW_inv hcw
                                        by_cases hc : c < len + (k + 1)
                                        · obtain ⟨d1, d2⟩ := del_ok (n := n) hR hW
                                          obtain ⟨r, m', W', q1, q2, q3, q4⟩ := grow hc hm (H.del n) ⟨d2.rel, d1.wf⟩
                                          exact ⟨r, r, m', W', q1, rfl, d1.trans q2, d2.trans d1 q2 (fun i a b => by omega) q3, q4⟩
                                        · -- in place
                                          obtain ⟨k', o, e1, e2, e3⟩ := hR.obj n _ hg
                                          rw [hk] at e1; cases e1
                                          obtain ⟨cc, ee, fz, pre, vs, rest, rfl, hcc, hp, hv, hw⟩ := e3
                                          obtain ⟨hw1, hw2, hw3⟩ := hw rfl
                                          subst hw3
                                          have hpre : pre = [] := List.eq_nil_of_length_eq_zero (by omega)
                                          subst hpre
                                          simp only [List.nil_append] at hcc
                                          have hoff : off' = kb.o + off := c4.resolve_left (by omega)
                                          have hoff0' : off' = 0 := by omega
                                          have hsp : sp = none := c7.resolve_left (by omega)
                                          subst hsp
                                          have hc5 := c5 hex'
                                          rw [hw1, ← hw2, hoff0'] at hc5
                                          have hmul : (len + (k + 1)) * i.size ≤ c * i.size := Nat.mul_le_mul_right _ (by omega)
                                          rw [Nat.add_mul] at hmul
                                          have hvl : vs.length = len * i.size := by rw [hv.length]; exact hcl
                                          have hcell : ∀ j, j < cc.size → (W.cell? ⟨kb.b, j, none⟩).isSome = true ∧ W.frozen? ⟨kb.b, j, none⟩ = false := fun j hj => by
                                            simp [World.cell?, World.frozen?, e2, hj]
                                          have hrun := run_storeCells_cells (P := P) kb.b (len * i.size) nv 0 W (fun j hj => (hcell _ (by omega)).1) (fun j hj => (hcell _ (by omega)).2) (hnv.oneCells hone)
                                          have hst := setCells_ok kb.b nv (len * i.size) W cc ee (0, 0) e2 (by omega)
                                          rw [Nat.add_zero] at hrun
                                          have hmv := move_ok (ob' := .cells true (old ++ new)) hR hW hg rfl rfl hk hm hst.1 hst.2.1 hst.2.2.1 hst.2.2.2.1 hst.2.2.2.2.1 hst.2.2.2.2.2 (by
                                            refine ⟨_, ee, (0, 0), [], vs ++ nv, rest.drop nv.length, rfl, ?_, by simp [hw1], ?_, fun _ => ⟨hw1, ?_, rfl⟩⟩
                                            · rw [hcc, ← hvl]
                                              simp [List.take_append_of_le_length, List.drop_append]
                                            · have hoc : old = cs := by
                                                unfold rowA at hro
                                                simp only [Bool.cond_eq_ite, Nat.beq_eq] at hro
                                                split at hro
                                                · rename_i hl0
                                                  cases hro
                                                  exact (List.eq_nil_of_length_eq_zero (by rw [hcl, hl0]; simp)).symm
                                                · have hca : cellsAt H n = some cs := by simp [cellsAt, hg]
                                                  simp only [hca, takeN, Bool.cond_eq_ite, Nat.beq_eq] at hro
                                                  split at hro
                                                  · cases hro
                                                    rw [hoff0]; simp; rw [← hcl]; simp
                                                  · cases hro
                                              rw [hoc]; exact hv.append hnv
                                            · rw [← hw2]; simp; omega)
                                          refine ⟨_, _, _, _, run_room h0 h1 ht hi hS (base := some ⟨kb.b, off', none⟩) (sLen := len) (sCap := c) (by omega) hbk (by simp only [add_none, hoff0', Nat.zero_add]; exact hrun), rfl, hmv.1, hmv.2, ?_⟩
                                          simp only [VR]
                                          refine .inr ⟨kb, 0, c, none, upd_same, by rw [hoff0'], Nat.le_refl _, by omega, (fun e => by cases e), .inr (by omega), fun _ => ?_, .inr rfl⟩
                                          rw [hw1, ← hw2]; omega
                                      · cases h
                                    · cases h
                                  · cases h
                      · cases h
                    · cases h
              · cases h
        · cases h
end Abs
end Go.Proofs.YtekmmeikkafpmaaGreat

namespace Go.Proofs.YtekmmeikkafpmaaGreat
namespace Abs
open Go.RowKit
variable {P : Program} {m : NM}

theorem copy_ok {ts : Array TypeId} {ty t : TypeId} {s x v : AV} {vs vx : Value} {H H' : Hp} {nx : Nat} {W : World} (h0 : ts[0]? = some t) (hR : Rel m H W) (hW : Wf H nx)
    (h : copyA P t s x H = some (v, H')) (hs : VR m s vs) (hx : VR m x vx) : Runs P m H nx W (Builtin.copy_ ts ty #[vs, vx]) (fun r v' => r = v') v H' nx := by
  have e0 : (#[vs, vx] : Array Value)[0]? = some vs := rfl
  have e1 : (#[vs, vx] : Array Value)[1]? = some vx := rfl
  unfold copyA at h
  cases ht : P.underlying t with
  | none => simp [ht] at h
  | some d =>
    cases d <;> simp only [ht] at h <;> try (cases h; done)
    rename_i e
    split at h
    · rename_i q hsz
      simp only [Option.some.injEq, Prod.mk.injEq] at h
      obtain ⟨rfl, rfl⟩ := h
      simp only [VR] at hs hx; subst hs hx
      refine ⟨_, _, m, W, ?_, rfl, .refl hW, .refl hR, by simp only [VR]; rfl⟩
      unfold Builtin.copy_
      rw [h0, e0, e1]
      simp [run_underlying ht, run_size hsz, Builtin.lenOf, Builtin.firstCells, goInt]
    · rename_i q n off len cap esz ex hsz
      simp only [Option.some.injEq, Prod.mk.injEq] at h
      obtain ⟨rfl, rfl⟩ := h
      obtain ⟨A, c, rfl, _⟩ := hx.slice_some
      simp only [VR] at hs; subst hs
      refine ⟨_, _, m, W, ?_, rfl, .refl hW, .refl hR, by simp only [VR]; rfl⟩
      unfold Builtin.copy_
      rw [h0, e0, e1]
      simp [run_underlying ht, run_size hsz, Builtin.lenOf, Builtin.firstCells, goInt, loadCells, loadCellsFrom]
    · rename_i q n off len cap esz ex hsz
      simp only [Option.some.injEq, Prod.mk.injEq] at h
      obtain ⟨rfl, rfl⟩ := h
      obtain ⟨A, c, rfl, _⟩ := hs.slice_some
      simp only [VR] at hx; subst hx
      refine ⟨_, _, m, W, ?_, rfl, .refl hW, .refl hR, by simp only [VR]; rfl⟩
      unfold Builtin.copy_
      rw [h0, e0, e1]
      simp [run_underlying ht, run_size hsz, Builtin.lenOf, Builtin.firstCells, goInt, storeCells]
    · rename_i size n off len cap esz ex n2 off2 len2 cap2 esz2 ex2 hsz
      obtain ⟨A, c, rfl, c1, c2, c3, cc⟩ := hs.slice_some
      obtain ⟨A2, d, rfl, d1, d2, d3, dd⟩ := hx.slice_some
      simp only [Bool.cond_eq_ite, Nat.beq_eq] at h
      split at h
      · rename_i hz
        simp only [Option.some.injEq, Prod.mk.injEq] at h
        obtain ⟨rfl, rfl⟩ := h
        refine ⟨_, _, m, W, ?_, rfl, .refl hW, .refl hR, by simp only [VR]; rfl⟩
        unfold Builtin.copy_
        rw [h0, e0, e1]
        have hz' : Nat.min len2 len = 0 := hz
        simp [run_underlying ht, run_size hsz, Builtin.lenOf, Builtin.firstCells, goInt, storeCells, hz', loadCells, loadCellsFrom]
      · rename_i hz
        cases hro : rowA H n2 off2 (min len2 len) size with
        | none => simp [hro] at h
        | some src =>
          cases hcw : cellsW H n with
          | none => simp [hro, hcw] at h
          | some cs =>
            cases hsa : setAt cs off src with
            | none => simp [hro, hcw, hsa] at h
            | some cs' =>
              simp only [hro, hcw, hsa, Bool.cond_eq_ite, Nat.beq_eq] at h
              split at h
              · rename_i hone
                split at h
                · cases h
                · rename_i hsz0
                  simp only [Option.some.injEq, Prod.mk.injEq] at h
                  obtain ⟨rfl, rfl⟩ := h
                  obtain ⟨nv, g1, g2, g3⟩ := row_ok (P := P) (A := A2) hR hro ((row_at d1 d2 dd).imp_left (by omega))
                  have hpos : 0 < min len2 len * size := Nat.mul_pos (by omega) (by omega)
                  have hne : src ≠ [] := fun e => by
                    have := g1.length; rw [e, g2] at this; simp at this; omega
                  clear dd
                  obtain ⟨kb, off', sp, hk, rfl, c4, c5, c7⟩ := cc.resolve_left (fun z => by have := z.1; clear cc; omega)
                  clear cc
                  have hoff : off' = kb.o + off := by omega
                  have hsp : sp = none := c7.resolve_left (by omega)
                  subst hoff hsp
                  obtain ⟨W', r1, r2, r3⟩ := store_ok (P := P) hR hW hcw hk hsa g1 hone hne
                  refine ⟨_, _, m, W', ?_, rfl, r2, r3, by simp only [VR]; rfl⟩
                  unfold Builtin.copy_
                  rw [h0, e0, e1]
                  have := g3 W rfl
                  simp only [Sem.run_bind, run_underlying ht, Result.andThen_ok, Builtin.lenOf, Sem.run_pure, run_size hsz, Builtin.firstCells]
                  rw [show Nat.min len2 len = min len2 len from rfl, this]
                  simp only [Result.andThen_ok, Sem.run_bind, r1, Sem.run_pure, goInt]
              · cases h
    · cases h

theorem repL_all {z : List AV} {p : AV → Bool} (h : z.all p = true) : ∀ n, (repL z n).all p = true
  | 0 => rfl
  | n + 1 => by simp only [repL, List.all_append, h, repL_all h n, Bool.and_self]
theorem clear_ok {ts : Array TypeId} {ty t : TypeId} {x : AV} {vx : Value} {H H' : Hp} {nx : Nat} {W : World} (h0 : ts[0]? = some t) (hR : Rel m H W) (hW : Wf H nx)
    (h : clearA P t x H = some H') (hx : VR m x vx) : Runs P m H nx W (Builtin.clear_ ts ty #[vx]) (fun r v' => r = v') (.tuple []) H' nx := by
  have e0 : (#[vx] : Array Value)[0]? = some vx := rfl
  have fin : ∀ W', (Builtin.clear_ ts ty #[vx]).run P W = .ok (.tuple #[]) W' → AP H nx H' nx → Post m H nx W m H' nx W' → Runs P m H nx W (Builtin.clear_ ts ty #[vx]) (fun r v' => r = v') (.tuple []) H' nx :=
    fun W' h1 h2 h3 => ⟨_, _, m, W', h1, rfl, h2, h3, by simp only [VR]; exact ⟨_, rfl, .nil⟩⟩
  unfold clearA at h
  cases ht : P.underlying t with
  | none => simp [ht] at h
  | some d =>
    cases d <;> simp only [ht] at h <;> try (cases h; done)
    rename_i e
    cases x <;> simp only at h <;> try (cases h; done)
    · cases h
      simp only [VR] at hx; subst hx
      refine fin W ?_ (.refl hW) (.refl hR)
      unfold Builtin.clear_
      rw [h0, e0]
      simp [run_underlying ht]
    · rename_i n off len cap esz ex
      obtain ⟨A, c, rfl, c1, c2, c3, cc⟩ := hx.slice_some
      simp only [Bool.cond_eq_ite, Nat.beq_eq] at h
      split at h
      · rename_i hz
        cases h
        subst hz
        refine fin W ?_ (.refl hW) (.refl hR)
        unfold Builtin.clear_
        rw [h0, e0]
        simp [run_underlying ht]
      · rename_i hz
        split at h <;> try (cases h; done)
        rename_i z cs hzz hcw
        split at h <;> try (cases h; done)
        rename_i hlen
        split at h <;> try (cases h; done)
        rename_i hone
        split at h <;> try (cases h; done)
        rename_i hs0
        split at h <;> cases h
        rename_i cs' hsa
        obtain ⟨zv, hzv, i, hi, hiz⟩ := zero_ok (m := m) hzz
        obtain ⟨kb, off', sp, hk, rfl, c4, c5, c7⟩ := cc.resolve_left (fun z => by have := z.1; clear cc; omega)
        clear cc
        have hoff : off' = kb.o + off := by omega
        have hsp : sp = none := c7.resolve_left (by omega)
        subst hoff hsp
        have hnv : VRs m (repL z.cells len) (Builtin.zeroCells zv.cells len).toList := by
          rw [zeroCells_list]; exact repL_ok hzv.cells len
        have hall : (repL z.cells len).all AV.oneCell = true := repL_all hone len
        have hne : repL z.cells len ≠ [] := fun e => by
          have h1 := hnv.length
          rw [e, zeroCells_list, flat_length] at h1
          have h2 := hzv.cells.length
          simp only [List.length_nil, Array.length_toList] at h1 h2
          have := Nat.mul_pos (show 0 < len by omega) (show 0 < zv.cells.size by omega)
          omega
        obtain ⟨W', r1, r2, r3⟩ := store_ok (P := P) hR hW hcw hk hsa hnv hall hne
        refine fin W' ?_ r2 r3
        unfold Builtin.clear_
        rw [h0, e0]
        have hl : ∃ k, len = k + 1 := ⟨len - 1, by omega⟩
        obtain ⟨k, rfl⟩ := hl
        simp only [Sem.run_bind, run_underlying ht, Result.andThen_ok, run_zero hi hiz, r1, Sem.run_pure]
def kindOk (d : TypeDesc) (k : AV) : Bool := match d, k with | .int _, .int _ _ => true | .string, .str _ => true | .bool, .bool _ => true | _, _ => false
theorem key_eq {k k' : AV} {v v' : Value} {d : TypeDesc} {b : Bool} (h : keyEq k k' = some b) (hk : VR m k v) (hk' : VR m k' v') (hd : kindOk d k = true) :
    Instr.sameNow d v v' = some b ∧ (b = true → v = v') := by
  cases k <;> cases k' <;> simp only [keyEq] at h <;> try (cases h; done)
  · split at h
    · rename_i e; subst e; cases h
      simp only [VR] at hk hk'; subst hk hk'
      cases d <;> simp [kindOk] at hd
      exact ⟨by simp [Instr.sameNow], fun e => by simp at e; rw [e]⟩
    · cases h
  · cases h
    simp only [VR] at hk hk'; subst hk hk'
    cases d <;> simp [kindOk] at hd
    exact ⟨by simp [Instr.sameNow], fun e => by simp at e; rw [e]⟩
  · cases h
    simp only [VR] at hk hk'; subst hk hk'
    cases d <;> simp [kindOk] at hd
    rename_i a b
    refine ⟨by simp [Instr.sameNow], fun e => ?_⟩
    rw [beq_toListBytes, ByteArray.toList_eq, ByteArray.toList_eq] at e
    obtain ⟨⟨a⟩⟩ := a; obtain ⟨⟨b⟩⟩ := b
    simp at e; rw [e]
theorem kind_of {t : TypeId} {k : AV} (h : keyKind P t k = true) : ∃ d, P.underlying t = some d ∧ kindOk d k = true := by
  unfold keyKind at h
  split at h <;> first
    | (rename_i e; exact ⟨_, e, rfl⟩)
    | (cases h; done)
theorem findK_ok {k : AV} {kv : Value} {d : TypeDesc} (hk : VR m k kv) (hd : kindOk d k = true) : ∀ {es : List (AV × AV × Nat)} {l : List MapEntry} {j : Nat} {r : Option (Nat × AV)}, findK k es j = some r → ERs m es l →
    match r with
    | none => Instr.findNow d kv l j = some none
    | some (i, a) => ∃ v e, Instr.findNow d kv l j = some (some (i, v)) ∧ VR m a v ∧ j ≤ i ∧ l[i - j]? = some e ∧ e.key = kv := by
  intro es
  induction es with
  | nil => intro l j r h hl; cases hl; simp [findK] at h; subst h; rfl
  | cons e es ih =>
    rintro _ j r h ⟨x, t, rfl, h1, h2, h3, h4⟩
    unfold findK at h
    cases hq : keyEq k e.1 with
    | none => simp [hq] at h
    | some b =>
      obtain ⟨g1, g2⟩ := key_eq (d := d) hq hk h1 hd
      cases b with
      | true =>
        simp [hq] at h; subst h
        exact ⟨x.val, x, by simp [Instr.findNow, g1], h2, Nat.le_refl _, by simp, (g2 rfl).symm⟩
      | false =>
        simp only [hq] at h
        have := ih h h4
        cases r with
        | none => simpa [Instr.findNow, g1] using this
        | some p =>
          obtain ⟨i, a⟩ := p
          obtain ⟨v, e', q1, q2, q3, q4, q5⟩ := this
          refine ⟨v, e', by simp [Instr.findNow, g1, q1], q2, by omega, ?_, q5⟩
          rw [show i - j = (i - (j + 1)) + 1 by omega]; simpa using q4
theorem run_checkKey {t : TypeId} {d : TypeDesc} {k : AV} {kv : Value} (hu : P.underlying t = some d) (hd : kindOk d k = true) (hk : VR m k kv) (b : Bool) (w : World) : (Instr.checkKey b 10000 t kv).run P w = .ok () w := by
  suffices h : ∀ n, (Instr.checkKey b (n + 1) t kv).run P w = .ok () w from h 9999
  intro n
  cases d <;> cases k <;> simp [kindOk] at hd <;> simp only [VR] at hk <;> subst hk <;> simp [Instr.checkKey, run_underlying hu]
theorem run_findKey {t : TypeId} {d : TypeDesc} {kv : Value} {l : List MapEntry} {r : Option (Nat × Value)} (hu : P.underlying t = some d) (h : Instr.findNow d kv l 0 = some r) (w : World) : (Instr.findKey t kv l).run P w = .ok r w := by
  simp [Instr.findKey, run_underlying hu, h]
theorem eqC_ok : ∀ {a b : List AV} {va vb : List Value}, eqC a b = true → VRs m a va → VRs m b vb → va = vb
  | [], [], va, vb, _, h1, h2 => by rw [h1.nil_inv, h2.nil_inv]
  | [], _ :: _, _, _, h, _, _ => by simp [eqC] at h
  | x :: l, [], _, _, h, _, _ => by cases x <;> simp [eqC] at h
  | x :: l, y :: l', va, vb, h, h1, h2 => by
    obtain ⟨v1, t1, rfl, g1, g2⟩ := h1.cons_inv
    obtain ⟨v2, t2, rfl, g3, g4⟩ := h2.cons_inv
    cases x <;> cases y <;> simp only [eqC, Bool.cond_eq_ite] at h <;> try (cases h; done)
    · split at h
      · rename_i e; split at h
        · rename_i e2
          simp only [decide_eq_true_eq] at e
          simp only [VR] at g1 g3
          rw [g1, g3, eqC_ok h g2 g4, e, eq_of_beq e2]
        · cases h
      · cases h
    · split at h
      · rename_i e2
        simp only [VR] at g1 g3
        rw [g1, g3, eqC_ok h g2 g4, eq_of_beq e2]
      · cases h
theorem flat_bits (n : Nat) : ∀ {a : List AV} {va : List Value}, flatC a = true → VRs m a va → (va.zip va).all (fun p => Instr.sameBits n p.1 p.2) = true
  | [], va, _, h => by rw [h.nil_inv]; rfl
  | x :: l, va, h, h1 => by
    obtain ⟨v1, t1, rfl, g1, g2⟩ := h1.cons_inv
    cases x <;> simp only [flatC] at h <;> try (cases h; done)
    all_goals
      simp only [VR] at g1; subst g1
      simp only [List.zip_cons_cons, List.all_cons, flat_bits n h g2, Bool.and_true]
      simp [Instr.sameBits]
theorem flatT_check {t : TypeId} {a : Option AV} (h : flatT P t a = true) {x : AV} {v : Value} (ha : a = some x) (hv : VR m x v) (b : Bool) (n : Nat) (w : World) : (Instr.checkKey b (n + 1) t v).run P w = .ok () w := by
  subst ha
  unfold flatT at h
  split at h <;> try (cases h; done)
  · rename_i hu e; cases e
    simp only [VR] at hv; subst hv; simp [Instr.checkKey, run_underlying hu]
  · rename_i hu e; cases e
    simp only [VR] at hv; subst hv; simp [Instr.checkKey, run_underlying hu]
theorem str_check {t : TypeId} {fs : Array Field} {cs : List AV} {vs : Array Value} (hu : P.underlying t = some (.struct fs)) (hall : (fs.toList.all fun f => flatT P f.type (partT P f.type cs f.offset)) = true) (hv : VRs m cs vs.toList) (b : Bool) (w : World) :
    (Instr.checkKey b 10000 t (.agg vs)).run P w = .ok () w := by
  suffices h : ∀ n, (Instr.checkKey b (n + 2) t (.agg vs)).run P w = .ok () w from h 9998
  intro n
  rw [Instr.checkKey]
  simp only [Sem.run_bind, run_underlying hu, Result.andThen_ok]
  rw [← Array.forIn_toList]
  clear hu
  generalize fs.toList = l at hall
  induction l with
  | nil => simp
  | cons f l ih =>
    simp only [List.all_cons, Bool.and_eq_true] at hall
    obtain ⟨x, hx⟩ : ∃ x, partT P f.type cs f.offset = some x := by
      cases hp : partT P f.type cs f.offset with
      | some x => exact ⟨x, rfl⟩
      | none =>
        exfalso
        have h := hall.1
        rw [hp] at h
        unfold flatT at h
        split at h
        · rename_i e; cases e
        · rename_i e; cases e
        · cases h
    obtain ⟨v, hvx, hrun⟩ := part_ok (m := m) hx hv
    have hc := fun w => flatT_check (m := m) hall.1 hx hvx b n w
    simp only [List.forIn_cons, Sem.run_bind, Sem.run_ite]
    split
    · simp only [hrun, Result.andThen_ok, hc, Sem.run_pure]
      exact ih hall.2
    · simp only [Sem.run_pure, Result.andThen_ok]
      exact ih hall.2
theorem findQ_ok {t : TypeId} {k : AV} {kv : Value} (hk : VR m k kv) : ∀ {es : List (AV × AV × Nat)} {l : List MapEntry} {j : Nat} {r : Option (Nat × AV)}, findQ P t k es j = some r → ERs m es l →
    match r with
    | none => ∀ w, (Instr.findAsking t kv l j).run P w = .ok none w
    | some (i, a) => ∃ v e, (∀ w, (Instr.findAsking t kv l j).run P w = .ok (some (i, v)) w) ∧ VR m a v ∧ j ≤ i ∧ l[i - j]? = some e ∧ e.key = kv := by
  intro es
  induction es with
  | nil => intro l j r h hl; cases hl; simp [findQ] at h; subst h; intro w; simp [Instr.findAsking]
  | cons e es ih =>
    rintro _ j r h ⟨x, t', rfl, h1, h2, h3, h4⟩
    unfold findQ at h
    cases hq : eqv P 8 t k e.1 with
    | none => simp [hq] at h
    | some b =>
      have hrun := fun w => eqv_ok 8 t k e.1 b hq kv x.key hk h1 w Op.maxDepth (by decide)
      cases b with
      | true =>
        simp only [hq, Bool.cond_eq_ite] at h
        split at h
        · rename_i he
          cases h
          have hkey : x.key = kv := by
            cases k <;> simp only [eqAgg] at he <;> try (cases he; done)
            rename_i ka
            generalize e.1 = e1 at he h1
            cases e1 <;> simp only [eqAgg] at he <;> try (cases he; done)
            simp only [VR] at hk h1
            obtain ⟨va, rfl, g1⟩ := hk
            obtain ⟨vb, hvb, g2⟩ := h1
            rw [hvb, Array.ext' (eqC_ok he g1 g2)]
          exact ⟨x.val, x, fun w => by simp [Instr.findAsking, Op.equal, hrun], h2, Nat.le_refl _, by simp, hkey⟩
        · cases h
      | false =>
        simp only [hq] at h
        have := ih h h4
        cases r with
        | none => intro w; simpa [Instr.findAsking, Op.equal, hrun] using this w
        | some p =>
          obtain ⟨i, a⟩ := p
          obtain ⟨v, e', q1, q2, q3, q4, q5⟩ := this
          refine ⟨v, e', fun w => by simp [Instr.findAsking, Op.equal, hrun, q1], q2, by omega, ?_, q5⟩
          rw [show i - j = (i - (j + 1)) + 1 by omega]; simpa using q4
theorem findKey_str {t : TypeId} {fs : Array Field} (hu : P.underlying t = some (.struct fs)) (kv : Value) (l : List MapEntry) (w : World) : (Instr.findKey t kv l).run P w = (Instr.findAsking t kv l 0).run P w := by
  cases l with
  | nil => simp [Instr.findKey, run_underlying hu, Instr.findNow, Instr.findAsking]
  | cons e l => simp [Instr.findKey, run_underlying hu, Instr.findNow, Instr.sameNow]
theorem keyStr_inv {t : TypeId} {k : AV} (h : keyStr P t k = true) : ∃ fs cs, P.underlying t = some (.struct fs) ∧ k = .agg cs ∧ flatC cs = true ∧ (fs.toList.all fun f => flatT P f.type (partT P f.type cs f.offset)) = true := by
  unfold keyStr at h
  split at h <;> try (cases h; done)
  rename_i fs cs hu
  cases hf : flatC cs with
  | false => rw [hf] at h; cases h
  | true => rw [hf] at h; exact ⟨fs, cs, hu, rfl, hf, h⟩
theorem fndA_ok {t : TypeId} {k : AV} {kv : Value} (hk : VR m k kv) {es : List (AV × AV × Nat)} {l : List MapEntry} {r : Option (Nat × AV)} (h : fndA P t k es = some r) (hl : ERs m es l) :
    (∀ b w, (Instr.checkKey b 10000 t kv).run P w = .ok () w) ∧ Instr.sameBits 10000 kv kv = true ∧
    match r with
    | none => ∀ w, (Instr.findKey t kv l).run P w = .ok none w
    | some (i, a) => ∃ v e, (∀ w, (Instr.findKey t kv l).run P w = .ok (some (i, v)) w) ∧ VR m a v ∧ l[i]? = some e ∧ e.key = kv := by
  unfold fndA at h
  simp only [Bool.cond_eq_ite] at h
  split at h
  · rename_i hkk
    obtain ⟨d, hu, hd⟩ := kind_of hkk
    refine ⟨fun b w => run_checkKey hu hd hk b w, ?_, ?_⟩
    · cases k <;> cases d <;> simp [kindOk] at hd <;> simp only [VR] at hk <;> rw [hk] <;> simp [Instr.sameBits, beq_toListBytes]
    · have hq := findK_ok hk hd h hl
      cases r with
      | none => exact fun w => run_findKey hu hq w
      | some p =>
        obtain ⟨i, a⟩ := p
        obtain ⟨v, e, q1, q2, q3, q4, q5⟩ := hq
        exact ⟨v, e, fun w => run_findKey hu q1 w, q2, by simpa using q4, q5⟩
  · split at h
    · rename_i hks
      obtain ⟨fs, cs, hu, rfl, hfl, hks⟩ := keyStr_inv hks
      have hk0 := hk
      simp only [VR] at hk
      obtain ⟨vs, rfl, hv⟩ := hk
      refine ⟨fun b w => str_check hu hks hv b w, ?_, ?_⟩
      · have := flat_bits 9999 hfl hv
        simp only [Instr.sameBits, beq_self_eq_true, Bool.true_and]
        exact this
      · have hq := findQ_ok hk0 h hl
        cases r with
        | none => exact fun w => by rw [findKey_str hu]; exact hq w
        | some p =>
          obtain ⟨i, a⟩ := p
          obtain ⟨v, e, q1, q2, q3, q4, q5⟩ := hq
          exact ⟨v, e, fun w => by rw [findKey_str hu]; exact q1 w, q2, by simpa using q4, q5⟩
    · cases h
theorem map_at {H : Hp} {W : World} {r : Nat} {es : List (AV × AV × Nat)} {c : Nat} {k : Blk} (hR : Rel m H W) (h : mapAt H r = some (es, c)) (hk : m r = some k) : H.get r = some (.map es c) ∧ ∃ l, W.heap[k.b]? = some (.map l c) ∧ ERs m es l.toList := by
  unfold mapAt at h
  split at h
  · rename_i es' c' e
    cases h
    obtain ⟨k', o, h1, h2, h3⟩ := hR.obj r _ e
    rw [hk] at h1; cases h1
    obtain ⟨l, rfl, hl⟩ := h3
    exact ⟨e, l, h2, hl⟩
  · cases h
theorem getObj_map {W : World} {b : Nat} {l : Array MapEntry} {c : Nat} (h : W.heap[b]? = some (.map l c)) : (getObj b).run P W = .ok (.map l c) W := by simp [getObj, Sem.run, h]
theorem setObj_map {W : World} {b : Nat} {l : Array MapEntry} {c : Nat} (h : W.heap[b]? = some (.map l c)) (o : Obj) : (setObj b o).run P W = .ok () { W with heap := W.heap.setIfInBounds b o } := by simp [setObj, Sem.run, h]
theorem ERs.modify {es : List (AV × AV × Nat)} : ∀ {l : List MapEntry} {i : Nat} {f : AV × AV × Nat → AV × AV × Nat} {g : MapEntry → MapEntry}, ERs m es l → (∀ e x, VR m e.1 x.key → VR m e.2.1 x.val → x.born = e.2.2 → es[i]? = some e → l[i]? = some x → VR m (f e).1 (g x).key ∧ VR m (f e).2.1 (g x).val ∧ (g x).born = (f e).2.2) →
    ERs m (es.modify i f) (l.modify i g) := by
  induction es with
  | nil => intro l i f g h _; cases h; simp [ERs]
  | cons e es ih =>
    rintro _ i f g ⟨x, t, rfl, h1, h2, h3, h4⟩ hf
    cases i with
    | zero =>
      obtain ⟨a, b, c⟩ := hf e x h1 h2 h3 rfl rfl
      simp only [List.modify_zero_cons]
      exact ⟨g x, t, rfl, a, b, c, h4⟩
    | succ i =>
      simp only [List.modify_succ_cons]
      exact ⟨x, _, rfl, h1, h2, h3, ih h4 (fun e' x' a b c d1 d2 => hf e' x' a b c (by simpa using d1) (by simpa using d2))⟩
theorem ERs.push {es : List (AV × AV × Nat)} : ∀ {l : List MapEntry} {e : AV × AV × Nat} {x : MapEntry}, ERs m es l → VR m e.1 x.key → VR m e.2.1 x.val → x.born = e.2.2 → ERs m (es ++ [e]) (l ++ [x]) := by
  induction es with
  | nil => intro l e x h h1 h2 h3; cases h; exact ⟨x, [], rfl, h1, h2, h3, rfl⟩
  | cons e es ih =>
    rintro _ e' x' ⟨x, t, rfl, h1, h2, h3, h4⟩ g1 g2 g3
    exact ⟨x, _, rfl, h1, h2, h3, ih h4 g1 g2 g3⟩
theorem ERs.erase {es : List (AV × AV × Nat)} : ∀ {l : List MapEntry} (i : Nat), ERs m es l → ERs m (es.eraseIdx i) (l.eraseIdx i) := by
  induction es with
  | nil => intro l i h; cases h; simp [ERs]
  | cons e es ih =>
    rintro _ i ⟨x, t, rfl, h1, h2, h3, h4⟩
    cases i with
    | zero => simpa using h4
    | succ i => simp only [List.eraseIdx_cons_succ]; exact ⟨x, _, rfl, h1, h2, h3, ih i h4⟩
theorem map_put {H : Hp} {nx : Nat} {W : World} {r : Nat} {es es' : List (AV × AV × Nat)} {c c' : Nat} {k : Blk} {l l' : Array MapEntry} (hR : Rel m H W) (hW : Wf H nx) (hg : H.get r = some (.map es c)) (hk : m r = some k) (hb : W.heap[k.b]? = some (.map l c))
    (hl : ERs m es' l'.toList) : (setObj k.b (.map l' c')).run P W = .ok () { W with heap := W.heap.setIfInBounds k.b (.map l' c') } ∧ AP H nx (H.put r (.map es' c')) nx ∧ Post m H nx W m (H.put r (.map es' c')) nx { W with heap := W.heap.setIfInBounds k.b (.map l' c') } := by
  have hlt := (Array.getElem?_eq_some_iff.1 hb).1
  exact ⟨setObj_map hb _, put_ok hR hW hg rfl rfl hk (by simp [Array.getElem?_setIfInBounds, hlt]) (fun b hb' => by rw [Array.getElem?_setIfInBounds, if_neg (Ne.symm hb')]) (by simp) rfl rfl rfl ⟨l', rfl, hl⟩⟩
end Abs
end Go.Proofs.YtekmmeikkafpmaaGreat

namespace Go.Proofs.YtekmmeikkafpmaaGreat
namespace Abs
open Go.RowKit
variable {P : Program} {m : NM}

def Ends (r : Next) (v : Value) : Prop := r = .value v ∨ (r = .skip ∧ v = undef)
section
variable {H H' : Hp} {nx nx' : Nat} {W : World} {T : Tr AV} {ρ : Operand → Value}
theorem runs_value {s : Sem Value} {v : AV} (h : Runs P m H nx W s (fun r v' => r = v') v H' nx') : Runs P m H nx W (do pure (Next.value (← s))) Ends v H' nx' := by
  obtain ⟨r, v', m', W', h1, rfl, h2⟩ := h
  exact ⟨_, r, m', W', by simp [h1], .inl rfl, h2⟩
theorem runs_same {s : Sem Value} {v : AV} {v' : Value} (hR : Rel m H W) (hW : Wf H nx) (h : s.run P W = .ok v' W) (hv : VR m v v') : Runs P m H nx W s (fun r v' => r = v') v H nx := ⟨v', v', m, W, h, rfl, .refl hW, .refl hR, hv⟩
theorem row_run {cs : List AV} {cells : Array Value} {t : TypeId} {k : Addr → Value} {v : AV} (hR : Rel m H W) (hW : Wf H nx) (hm : m nx = none) (hc : VRs m cs cells.toList)
    (hv : ∀ m', m' nx = some ⟨W.heap.size, 0, cells.size⟩ → VR m' v (k ⟨W.heap.size, 0, none⟩)) : Runs P m H nx W (do pure (k (← newRow t cells))) (fun r v' => r = v') v (H.lay nx (.cells true cs)) (nx + 1) := by
  obtain ⟨a1, a2⟩ := row_lay (W' := { W with heap := W.heap.push (.cells cells t) }) (rest := []) (e := t) hR hW hm hc (by simp) rfl rfl rfl
  refine ⟨_, _, _, _, ?_, rfl, a1, a2, hv _ (by rw [upd_same]; simp)⟩
  simp [newRow, run_newObj]
theorem ptr_row (m' : NM) (n : Nat) (k : Blk) (h : m' n = some k) (h0 : k.o = 0) : VR m' (.ptr n 0) (.pointer (some ⟨k.b, 0, none⟩)) := by
  simp only [VR]; exact ⟨k, h, by rw [h0]⟩
theorem repl_range {z : AV} {zv : Value} {size : Nat} (hz : VR m z zv) (hl : z.cells.length = size) (n : Nat) (zero : Array Value) (hzero : n * size = 0 ∨ zero = zv.cells) : VRs m (repL z.cells n) ((Array.range (n * size)).map (zero[· % zero.size]!)).toList := by
  have hc := hz.cells
  have hs : zv.cells.size = size := by rw [← Array.length_toList, hc.length, hl]
  rcases Nat.eq_zero_or_pos (n * size) with h0 | h0
  · have h1 : repL z.cells n = [] := by
      have := (repL_ok hc n).length
      rw [flat_length] at this
      simp [hs, h0] at this
      exact List.eq_nil_of_length_eq_zero this.symm
    rw [h1, h0]; simp [VRs]
  · obtain rfl := hzero.resolve_left (by omega)
    have hpos : 0 < zv.cells.size := by rw [hs]; exact Nat.pos_of_mul_pos_left h0
    have := range_mod zv.cells hpos n
    rw [hs] at this
    rw [show (fun x => zv.cells[x % zv.cells.size]!) = (fun i => zv.cells[i % size]!) from by rw [hs]]
    rw [this]
    exact repL_ok hc n

theorem two_args {args : Array Operand} {a b : AV} {T : Tr AV} {ρ : Operand → Value} (hρ : ∀ x ∈ args, ∀ v, evalO T x = some v → VR m v (ρ x)) (h : evalL T args.toList = some [a, b]) : ∃ u v, args.map ρ = #[u, v] ∧ VR m a u ∧ VR m b v := by
  have h1 := evalL_ok (fun y hy v hv => hρ y (by simpa using hy) v hv) h
  obtain ⟨v1, t1, e1, g1, g2⟩ := h1.cons_inv
  obtain ⟨v2, t2, rfl, g3, g4⟩ := g2.cons_inv
  rw [g4.nil_inv] at e1
  exact ⟨v1, v2, by apply Array.ext'; simpa using e1, g1, g3⟩
theorem one_arg {args : Array Operand} {a : AV} {T : Tr AV} {ρ : Operand → Value} (hρ : ∀ x ∈ args, ∀ v, evalO T x = some v → VR m v (ρ x)) (h : evalL T args.toList = some [a]) : ∃ u, args.map ρ = #[u] ∧ VR m a u := by
  have h1 := evalL_ok (fun y hy v hv => hρ y (by simpa using hy) v hv) h
  obtain ⟨v1, t1, e1, g1, g2⟩ := h1.cons_inv
  rw [g2.nil_inv] at e1
  exact ⟨v1, by apply Array.ext'; simpa using e1, g1⟩
theorem blt_lt {a b : Nat} (h : Nat.blt a b = true) : a < b := Nat.le_of_ble_eq_true h
theorem iter_at {n : Nat} {o : Option Nat} {s last : Nat} {seen : List Nat} {k : Blk} (hR : Rel m H W) (h : H.get n = some (.iter o s seen last)) (hk : m n = some k) :
    k.o = 0 ∧ ∃ o', W.heap[k.b]? = some (.mapIter o' s seen.toArray last) ∧ (match o with | none => o' = none | some r => ∃ kr, m r = some kr ∧ o' = some kr.b) := by
  obtain ⟨k', ob, h1, h2, h3⟩ := hR.obj n _ h
  rw [hk] at h1; cases h1
  obtain ⟨h0, h3⟩ := h3
  refine ⟨h0, ?_⟩
  cases o with
  | none => exact ⟨none, by rw [h2, h3], rfl⟩
  | some r =>
    obtain ⟨kr, g1, g2⟩ := h3
    exact ⟨some kr.b, by rw [h2, g2], kr, g1, rfl⟩
theorem ERs.filter {p : AV × AV × Nat → Bool} {q : MapEntry → Bool} (hpq : ∀ e x, x.born = e.2.2 → p e = q x) : ∀ {es : List (AV × AV × Nat)} {l : List MapEntry}, ERs m es l → ERs m (es.filter p) (l.filter q)
  | [], _, h => by cases h; rfl
  | e :: es, _, ⟨x, t, rfl, h1, h2, h3, h4⟩ => by
    have ih := ERs.filter hpq h4
    rw [List.filter_cons, List.filter_cons, hpq e x h3]
    split
    · exact ⟨x, _, rfl, h1, h2, h3, ih⟩
    · exact ih
theorem ERs.any {p : AV × AV × Nat → Bool} {q : MapEntry → Bool} (hpq : ∀ e x, x.born = e.2.2 → p e = q x) : ∀ {es : List (AV × AV × Nat)} {l : List MapEntry}, ERs m es l → es.any p = l.any q
  | [], _, h => by cases h; rfl
  | e :: es, _, ⟨x, t, rfl, h1, h2, h3, h4⟩ => by rw [List.any_cons, List.any_cons, hpq e x h3, ERs.any hpq h4]
theorem ERs.find {p : AV × AV × Nat → Bool} {q : MapEntry → Bool} (hpq : ∀ e x, x.born = e.2.2 → p e = q x) : ∀ {es : List (AV × AV × Nat)} {l : List MapEntry} {e : AV × AV × Nat}, ERs m es l → es.find? p = some e → ∃ x, l.find? q = some x ∧ VR m e.1 x.key ∧ VR m e.2.1 x.val
  | [], _, _, _, h => by cases h
  | e :: es, _, e', ⟨x, t, rfl, h1, h2, h3, h4⟩, h => by
    rw [List.find?_cons, hpq e x h3] at h
    rw [List.find?_cons]
    cases hq : q x with
    | true => rw [hq] at h; cases h; exact ⟨x, rfl, h1, h2⟩
    | false => rw [hq] at h; exact ERs.find hpq h4 h
theorem next_one {es : List (AV × AV × Nat)} {since last : Nat} {seen : List Nat} {r : Option (AV × AV × Nat)} {l : Array MapEntry} (hl : ERs m es l.toList) (h : nextA es since seen last = some r) :
    (!seen.toArray.isEmpty && !l.isEmpty && l.all (fun x => decide (x.born ≥ last))) = false ∧
    match r with
    | none => l.filter (fun e => !seen.toArray.contains e.born) = #[]
    | some e => ∃ x, l.filter (fun e => !seen.toArray.contains e.born) = #[x] ∧ x.born < since ∧ VR m e.1 x.key ∧ VR m e.2.1 x.val ∧ x.born = e.2.2 := by
  unfold nextA at h
  cases hc : ((seen.isEmpty || es.isEmpty) || es.any (fun e => Nat.blt e.2.2 last)) with
  | false => rw [hc] at h; cases h
  | true =>
    rw [hc, cond_true] at h
    constructor
    · simp only [Bool.or_eq_true] at hc
      rcases hc with (hc | hc) | hc
      · have : seen = [] := by simpa using hc
        subst this; rfl
      · have : es = [] := by simpa using hc
        subst this
        have : l.toList = [] := hl
        have : l = #[] := by apply Array.ext'; simpa using this
        subst this; simp
      · rw [ERs.any (q := fun x => Nat.blt x.born last) (fun e x hx => by rw [hx]) hl] at hc
        rw [List.any_eq_true] at hc
        obtain ⟨x, hx, hb⟩ := hc
        simp only [Bool.and_eq_false_iff]
        right
        rw [Array.all_eq_false]
        obtain ⟨i, hi, e⟩ := List.getElem_of_mem hx
        refine ⟨i, by simpa using hi, ?_⟩
        have : l[i]'(by simpa using hi) = x := by rw [← e]; simp
        rw [this]
        have := blt_lt hb
        simp; omega
    · have hf := ERs.filter (q := fun x => !seen.toArray.contains x.born) (p := fun e => !(seen.any (Nat.beq e.2.2))) (fun e x hx => by
        rw [hx]
        congr 1
        rw [Bool.eq_iff_iff]
        simp [List.any_eq_true]) hl
      have hto : (l.filter (fun e => !seen.toArray.contains e.born)).toList = l.toList.filter (fun x => !seen.toArray.contains x.born) := by simp
      split at h <;> try (cases h; done)
      · rename_i e
        cases h
        rw [e] at hf
        apply Array.ext'
        rw [hto]; exact hf
      · rename_i e' e
        rw [e] at hf
        cases hb : Nat.blt e'.2.2 since with
        | false => rw [hb] at h; cases h
        | true =>
          rw [hb] at h; cases h
          obtain ⟨x, t, e1, g1, g2, g3, g4⟩ := hf
          cases g4
          refine ⟨x, ?_, by rw [g3]; exact blt_lt hb, g1, g2, g3⟩
          apply Array.ext'
          rw [hto, e1]
theorem run_next0 {b bm since last c : Nat} {seen : Array Nat} {l : Array MapEntry} (ty : TypeId) (hr : W.heap[b]? = some (.mapIter (some bm) since seen last)) (hb : W.heap[bm]? = some (.map l c))
    (ht : (!seen.isEmpty && !l.isEmpty && l.all (fun x => decide (x.born ≥ last))) = false) (hx : l.filter (fun e => !seen.contains e.born) = #[]) :
    (Instr.next (.pointer (some ⟨b, 0, none⟩)) false ty).run P W = .ok (.tuple #[.bool false]) W := by
  simp only [Instr.next, getObj, Sem.run_bind, Sem.run, hr, hb, Result.andThen, ht, Bool.false_eq_true, if_false, hx]
  simp [choose, Sem.run, Question.forced]
theorem run_next1 {b bm since last c : Nat} {seen : Array Nat} {l : Array MapEntry} {x : MapEntry} (ty : TypeId) (hr : W.heap[b]? = some (.mapIter (some bm) since seen last)) (hb : W.heap[bm]? = some (.map l c))
    (ht : (!seen.isEmpty && !l.isEmpty && l.all (fun x => decide (x.born ≥ last))) = false) (hx : l.filter (fun e => !seen.contains e.born) = #[x]) (hs : x.born < since) :
    (Instr.next (.pointer (some ⟨b, 0, none⟩)) false ty).run P W = .ok (.tuple #[.bool true, x.key, x.val]) { W with heap := W.heap.setIfInBounds b (.mapIter (some bm) since (seen.push x.born) c) } := by
  have h1 : (#[x] : Array MapEntry).filter (fun e => decide (e.born < since)) = #[x] := by simp [hs]
  have h2 : (#[x] : Array MapEntry).filter (fun e => decide (e.born ≥ since)) = #[] := by simp; omega
  simp only [Instr.next, getObj, Sem.run_bind, Sem.run, hr, hb, Result.andThen, ht, Bool.false_eq_true, if_false, hx, h1, h2]
  simp [choose, Sem.run, Question.forced, setObj, hr]
theorem update_ok {t : TypeId} {mo ko vo : Operand} {v : AV} {f : Sem Next} (hR : Rel m H W) (hW : Wf H nx) (hρ : ∀ x, x = mo ∨ x = ko ∨ x = vo → ∀ v, evalO T x = some v → VR m v (ρ x))
    (h : (match P.underlying t, evalO T mo, evalO T ko, evalO T vo with
      | some (.map kt _), some (.map r), some k, some v =>
          match mapAt H r with
          | some (es, c) => match fndA P kt k es with
            | some (some (i, _)) => some (AV.undef, H.put r (.map (es.modify i fun e => (k, v, e.2.2)) c), nx)
            | some none => some (AV.undef, H.put r (.map (es ++ [(k, v, c)]) (c + 1)), nx)
            | none => none
          | none => none
      | _, _, _, _ => none) = some (v, H', nx'))
    (hf : ∀ W', ((do Instr.mapUpdate t (ρ mo) (ρ ko) (ρ vo); pure Next.skip : Sem Next).run P W = .ok .skip W') → f.run P W = .ok .skip W') : Runs P m H nx W f Ends v H' nx' := by
  split at h
  · rename_i kt et r ka va ht hm hk hv
    have hvm := hρ mo (by simp) _ hm
    have hvk := hρ ko (by simp) _ hk
    have hvv := hρ vo (by simp) _ hv
    simp only [VR] at hvm
    obtain ⟨kb, hkb, hvm⟩ := hvm
    cases hmm : mapAt H r with
    | none => simp [hmm] at h
    | some p =>
      obtain ⟨es, c⟩ := p
      obtain ⟨hg, l, hb, hl⟩ := map_at hR hmm hkb
      simp only [hmm] at h
      cases hfk : fndA P kt ka es with
      | none => simp [hfk] at h
      | some q =>
        obtain ⟨hck, hbits, hq⟩ := fndA_ok hvk hfk hl
        cases q with
        | none =>
          simp only [hfk, Option.some.injEq, Prod.mk.injEq] at h
          obtain ⟨rfl, rfl, rfl⟩ := h
          obtain ⟨a1, a2, a3⟩ := map_put (P := P) (c' := c + 1) (l' := l.push { key := ρ ko, val := ρ vo, born := c }) (es' := es ++ [(ka, va, c)]) hR hW hg hkb hb (by rw [Array.toList_push]; exact hl.push hvk hvv rfl)
          refine ⟨.skip, undef, m, _, hf _ ?_, .inr ⟨rfl, rfl⟩, a2, a3, VR.undef_iff.2 rfl⟩
          simp only [Instr.mapUpdate, Sem.run_bind, run_underlying ht, Result.andThen_ok, hvm, getObj_map hb, hck, hq, a1, Sem.run_pure]
        | some p =>
          obtain ⟨i, a⟩ := p
          simp only [hfk, Option.some.injEq, Prod.mk.injEq] at h
          obtain ⟨rfl, rfl, rfl⟩ := h
          obtain ⟨v', e', q1, q2, q4, q5⟩ := hq
          obtain ⟨a1, a2, a3⟩ := map_put (P := P) (c' := c) (l' := l.modify i fun e => { e with key := ρ ko, val := ρ vo }) (es' := es.modify i fun e => (ka, va, e.2.2)) hR hW hg hkb hb (by
            rw [Array.toList_modify]
            exact hl.modify (fun e x _ _ h3 _ _ => ⟨hvk, hvv, h3⟩))
          have hstay : (Instr.keyThatStays (((l[i]?).map (·.key)).getD (ρ ko)) (ρ ko)).run P W = .ok (ρ ko) W := by
            rw [Array.getElem?_toList] at q4
            rw [q4]
            simp only [Option.map_some, Option.getD_some, q5, Instr.keyThatStays, hbits]
            simp
          refine ⟨.skip, undef, m, _, hf _ ?_, .inr ⟨rfl, rfl⟩, a2, a3, VR.undef_iff.2 rfl⟩
          simp only [Instr.mapUpdate, Sem.run_bind, run_underlying ht, Result.andThen_ok, hvm, getObj_map hb, hck, q1, hstay, a1, Sem.run_pure]
  · cases h
theorem heap_ok {rec : Task → Option Res} {o : Oper} {v : AV} (hρ : Ev m T ρ o.op.operands) (hR : Rel m H W) (hW : Wf H nx) (hF : Fresh m nx nx') (h : heapA P rec T H nx o.op = some (v, H', nx'))
    (hnc : ∀ f args ts, o.op ≠ .call { callee := .value f, args := args, argTypes := ts }) : Runs P m H nx W (execOp ρ o) Ends v H' nx' := by
  obtain ⟨dst, op, type, pos, after, guard⟩ := o
  simp only at h hρ hnc
  have hF0 : nx' = nx + 1 → m nx = none := fun e => hF nx (Nat.le_refl _) (by omega)
  unfold heapA at h
  split at h
  · -- alloc
    rename_i t
    cases hz : zero P t with
    | none => simp [hz] at h
    | some z =>
      simp only [hz, Option.some.injEq, Prod.mk.injEq] at h
      obtain ⟨rfl, rfl, rfl⟩ := h
      obtain ⟨zv, hzv, i, hi, hiz⟩ := zero_ok (m := m) hz
      obtain ⟨r, v', m', W', h1, h2, h3⟩ := row_run (P := P) (t := t) (k := fun a => .pointer (some a)) (v := .ptr nx 0) hR hW (hF0 rfl) hzv.cells (fun m' e => ptr_row m' nx _ e rfl)
      refine ⟨.value r, v', m', W', ?_, .inl (by rw [h2]), h3⟩
      simp only [execOp, Instr.alloc, newVar, Sem.run_bind, run_zero hi hiz, Result.andThen_ok] at h1 ⊢
      rw [h1]; rfl
  · -- box
    rename_i t x
    cases hx : evalO T x with
    | none => simp [hx] at h
    | some a =>
      simp only [hx, Option.some.injEq, Prod.mk.injEq] at h
      obtain ⟨rfl, rfl, rfl⟩ := h
      have hv := hρ x (by simp [Op.operands]) _ hx
      exact runs_value (row_run (P := P) (t := t) (k := fun a => .pointer (some a)) (v := .ptr nx 0) hR hW (hF0 rfl) hv.cells (fun m' e => ptr_row m' nx _ e rfl))
  · -- buildSlice
    rename_i t len parts
    cases ht : P.underlying t with
    | none => simp [ht] at h
    | some d =>
      cases d <;> simp only [ht] at h <;> try (cases h; done)
      rename_i e
      split at h
      · rename_i size z ps hs hz hp
        simp only [Bool.cond_eq_ite, Nat.beq_eq, Nat.ble_eq] at h
        split at h
        · rename_i hzl
          split at h
          · rename_i hle
            cases hf : fillL (fun i => some (i * size, size)) (repL z.cells len) ps with
            | none => simp [hf] at h
            | some cs =>
              simp only [hf, Option.some.injEq, Prod.mk.injEq] at h
              obtain ⟨rfl, rfl, rfl⟩ := h
              obtain ⟨zv, hzv, i, hi, hiz⟩ := zero_ok (m := m) hz
              have hps : PRs m ps (parts.map fun p => (p.1, ρ p.2)).toList := by
                rw [Array.toList_map]
                exact evalP_ok (fun p hp v hv => hρ p.2 (by simp only [Op.operands, List.mem_toArray, List.mem_map]; exact ⟨p, hp, rfl⟩) v hv) hp
              have hnot : ¬ (len * size > 2 ^ 24) := by omega
              have fin : ∀ zr : Array Value, (len * size = 0 ∨ zr = zv.cells) → (∀ (k : Array Value → Sem Value), ((if len * size = 0 then do let zero ← pure #[]; k zero else do let z ← zeroValue e; let zero ← pure z.cells; k zero : Sem Value).run P W) = (k zr).run P W) →
                  Runs P m H nx W (Instr.buildSlice t len (parts.map fun p => (p.1, ρ p.2))) (fun r v' => r = v') (.slice nx 0 len len size true) (H.lay nx (.cells true cs)) (nx + 1) := by
                intro zr hzr hzrun
                have hrr := repl_range (m := m) hzv hzl len zr hzr
                obtain ⟨vs', g1, g2⟩ := fill_ok (place' := fun i => some (i * size, size)) (fun i x hx => hx) hf hps hrr
                obtain ⟨r, v', m', W', h1, h2, h3⟩ := row_run (P := P) (t := e) (cells := vs') (k := fun a => .slice (some a) len len) (v := .slice nx 0 len len size true) hR hW (hF0 rfl) g2
                  (fun m' em => by simp only [VR]; exact .inr ⟨_, 0, len, none, em, rfl, Nat.le_refl _, Nat.le_refl _, fun _ => rfl, .inr rfl, (fun e => by cases e), .inr rfl⟩)
                refine ⟨r, v', m', W', ?_, h2, h3⟩
                simp only [Instr.buildSlice, Sem.run_bind, run_underlying ht, Result.andThen_ok, run_size hs]
                rw [Sem.run_ite, if_neg hnot]
                rw [hzrun]
                simp only [g1]
                exact h1
              refine runs_value ?_
              by_cases h0 : len * size = 0
              · exact fin #[] (.inl h0) (fun k => by rw [if_pos h0]; rfl)
              · exact fin zv.cells (.inr rfl) (fun k => by rw [if_neg h0]; simp [run_zero hi hiz])
          · cases h
        · cases h
      · cases h
  · -- load
    rename_i t x
    split at h
    · rename_i n off hx
      cases hl : loadT P H t n off with
      | none => simp [hl] at h
      | some a =>
        simp only [hl, Option.some.injEq, Prod.mk.injEq] at h
        obtain ⟨rfl, rfl, rfl⟩ := h
        have hv := hρ x (by simp [Op.operands]) _ hx
        simp only [VR] at hv
        obtain ⟨k, hk, hv⟩ := hv
        obtain ⟨v', h1, h2⟩ := loadT_ok hR hl hk
        exact runs_value (runs_same hR hW (by simp [Instr.loadAt, hv, Instr.sureAddr, h2]) h1)
    · cases h
  · -- store
    rename_i t x y
    split at h
    · rename_i n off a size hx hy hs
      cases hc : cellsW H n with
      | none => simp [hc] at h
      | some cs =>
        cases hsa : setAt cs off a.cells with
        | none => simp [hc, hsa] at h
        | some cs' =>
          simp only [hc, hsa, Bool.cond_eq_ite, Nat.beq_eq] at h
          split at h
          · rename_i hlen
            split at h
            · rename_i hone
              split at h
              · cases h
              · rename_i hs0
                simp only [Option.some.injEq, Prod.mk.injEq] at h
                obtain ⟨rfl, rfl, rfl⟩ := h
                have hv := hρ x (by simp [Op.operands]) _ hx
                have hv2 := hρ y (by simp [Op.operands]) _ hy
                simp only [VR] at hv
                obtain ⟨k, hk, hv⟩ := hv
                have hne : a.cells ≠ [] := fun e => by rw [e] at hlen; simp at hlen; omega
                obtain ⟨W', r1, r2, r3⟩ := store_ok (P := P) hR hW hc hk hsa hv2.cells hone hne
                have hcs : (ρ y).cells.size = size := by rw [← Array.length_toList, hv2.cells.length, hlen]
                refine ⟨.skip, undef, m, W', ?_, .inr ⟨rfl, rfl⟩, r2, r3, VR.undef_iff.2 rfl⟩
                simp [execOp, Instr.storeAt, hv, Instr.sureAddr, storeVar, run_size hs, hcs, r1]
            · cases h
          · cases h
    · cases h
  · -- makeMap
    rename_i t
    simp only [Option.some.injEq, Prod.mk.injEq] at h
    obtain ⟨rfl, rfl, rfl⟩ := h
    obtain ⟨a1, a2⟩ := lay_ok (W' := { W with heap := W.heap.push (.map #[] 0) }) (o := .map #[] 0) (ob := .map [] 0) (C := 0) hR hW (hF0 rfl) rfl rfl rfl rfl ⟨#[], rfl, rfl⟩
    refine ⟨_, _, _, _, ?_, .inl rfl, a1, a2, by simp only [VR]; exact ⟨_, upd_same, rfl⟩⟩
    simp [execOp, Instr.makeMap, run_newObj]
  · -- makeSlice
    rename_i t l c
    split at h
    · rename_i e la ca ht hl hc
      split at h
      · rename_i i z l' c' hi hz hl' hc'
        simp only [Bool.cond_eq_ite, Nat.beq_eq, Nat.ble_eq, small, Bool.and_eq_true] at h
        split at h
        · rename_i hzl
          split at h
          · rename_i hlc
            split at h
            · rename_i hsm
              simp only [Option.some.injEq, Prod.mk.injEq] at h
              obtain ⟨rfl, rfl, rfl⟩ := h
              obtain ⟨zv, hzv, i', hi', hiz⟩ := zero_ok (m := m) hz
              rw [hi] at hi'; cases hi'
              obtain ⟨k1, hv1⟩ := natOf_ok hl' (hρ l (by simp [Op.operands]) _ hl)
              obtain ⟨k2, hv2⟩ := natOf_ok hc' (hρ c (by simp [Op.operands]) _ hc)
              have hs : sz P e = some i.size := by simp [sz, hi]
              have w1 : IntKind.i64.wrap (l' : Int) = l' := IntWalk.i64_in _ (by omega)
              have w2 : IntKind.i64.wrap (c' : Int) = c' := IntWalk.i64_in _ (by omega)
              have hbc : ¬ ((i.bytes : Int) * (c' : Int) > 2 ^ 48) := by
                have : i.bytes * c' ≤ 1000 * 1000000 := Nat.mul_le_mul hsm.2 hsm.1
                have : ((i.bytes * c' : Nat) : Int) ≤ 1000000000 := by omega
                simp only [Int.natCast_mul] at this; omega
              have fin : ∀ zr : Array Value, (c' * i.size = 0 ∨ zr = zv.cells) → (∀ (k : Array Value → Sem Value), ((if c' * i.size = 0 then do let zero ← pure #[]; k zero else do let z ← zeroValue e; let zero ← pure z.cells; k zero : Sem Value).run P W) = (k zr).run P W) →
                  Runs P m H nx W (Instr.makeSlice t (ρ l) (ρ c)) (fun r v' => r = v') (.slice nx 0 l' c' i.size true) (H.lay nx (.cells true (repL z.cells c'))) (nx + 1) := by
                intro zr hzr hzrun
                have hrr := repl_range (m := m) hzv hzl c' zr hzr
                obtain ⟨r, v', m', W', h1, h2, h3⟩ := row_run (P := P) (t := e) (k := fun a => .slice (some a) l' c') (v := .slice nx 0 l' c' i.size true) hR hW (hF0 rfl) hrr
                  (fun m' em => by simp only [VR]; exact .inr ⟨_, 0, c', none, em, rfl, by omega, Nat.le_refl _, fun _ => rfl, .inr rfl, (fun e => by cases e), .inr rfl⟩)
                refine ⟨r, v', m', W', ?_, h2, h3⟩
                simp only [Instr.makeSlice, Sem.run_bind, run_underlying ht, Result.andThen_ok, hv1, hv2, asInt, asIntOf, Sem.run_pure, run_info hi, w1, w2]
                rw [Sem.run_ite, if_neg (by simp [hbc]; omega)]
                simp only [Sem.run_bind, run_askRoom, Result.andThen_ok, run_size hs, Int.toNat_natCast]
                rw [hzrun]
                exact h1
              refine runs_value ?_
              by_cases h0 : c' * i.size = 0
              · exact fin #[] (.inl h0) (fun k => by rw [if_pos h0]; rfl)
              · exact fin zv.cells (.inr rfl) (fun k => by rw [if_neg h0]; simp [run_zero hi hiz])
            · cases h
          · cases h
        · cases h
      · cases h
    · cases h
  · -- lookup
    rename_i t x ix ok
    split at h
    · rename_i kt et xa ka ht hx hk
      have hvx := hρ x (by simp [Op.operands]) _ hx
      have hvk := hρ ix (by simp [Op.operands]) _ hk
      split at h
      · rename_i es hes
        obtain ⟨l, hl, hcase⟩ : ∃ l : Array MapEntry, ERs m es l.toList ∧ (ρ x = .map none ∧ l = #[] ∨ ∃ b c, ρ x = .map (some b) ∧ W.heap[b]? = some (.map l c)) := by
          cases xa <;> simp only at hes <;> try (cases hes; done)
          · cases hes
            simp only [VR] at hvx
            exact ⟨#[], rfl, .inl ⟨hvx, rfl⟩⟩
          · rename_i r
            cases hm : mapAt H r with
            | none => simp [hm] at hes
            | some p =>
              obtain ⟨es', c⟩ := p
              simp [hm] at hes; subst hes
              simp only [VR] at hvx
              obtain ⟨kb, hkb, hvx⟩ := hvx
              obtain ⟨hg, l, hb, hl⟩ := map_at hR hm hkb
              exact ⟨l, hl, .inr ⟨kb.b, c, hvx, hb⟩⟩
        cases hf : fndA P kt ka es with
        | none => simp [hf] at h
        | some r =>
          obtain ⟨hck, _, hfk⟩ := fndA_ok hvk hf hl
          cases r with
          | none =>
            cases hz : zero P et with
            | none => simp [hf, hz] at h
            | some z =>
              simp only [hf, hz, Option.some.injEq, Prod.mk.injEq] at h
              obtain ⟨rfl, rfl, rfl⟩ := h
              obtain ⟨zv, hzv, i, hi, hiz⟩ := zero_ok (m := m) hz
              refine runs_value (runs_same (v' := if ok then .tuple #[zv, .bool false] else zv) hR hW ?_ ?_)
              · rcases hcase with ⟨hv, rfl⟩ | ⟨b, c, hv, hb⟩
                · simp only [Instr.lookup, Sem.run_bind, run_underlying ht, Result.andThen_ok, hv, hck, hfk, run_zero hi hiz, Sem.run_pure]
                · simp only [Instr.lookup, Sem.run_bind, run_underlying ht, Result.andThen_ok, hv, getObj_map hb, hck, hfk, run_zero hi hiz, Sem.run_pure]
              · cases ok
                · exact hzv
                · simp only [cond_true, if_true, VR]; exact ⟨_, rfl, .cons hzv (.cons (by simp only [VR]) .nil)⟩
          | some p =>
            obtain ⟨i, a⟩ := p
            simp only [hf, Option.some.injEq, Prod.mk.injEq] at h
            obtain ⟨rfl, rfl, rfl⟩ := h
            obtain ⟨v', e', q1, q2, _⟩ := hfk
            refine runs_value (runs_same (v' := if ok then .tuple #[v', .bool true] else v') hR hW ?_ ?_)
            · rcases hcase with ⟨hv, rfl⟩ | ⟨b, c, hv, hb⟩
              · simp only [Instr.lookup, Sem.run_bind, run_underlying ht, Result.andThen_ok, hv, hck, q1, Sem.run_pure]
              · simp only [Instr.lookup, Sem.run_bind, run_underlying ht, Result.andThen_ok, hv, getObj_map hb, hck, q1, Sem.run_pure]
            · cases ok
              · exact q2
              · simp only [cond_true, if_true, VR]; exact ⟨_, rfl, .cons q2 (.cons (by simp only [VR]) .nil)⟩
      · cases h
    · cases h
  · exact update_ok hR hW (fun x hx => hρ x (by simpa [Op.operands] using hx)) h (fun s hs => by simp only [execOp]; exact hs)
  · exact update_ok hR hW (fun x hx => hρ x (by simpa [Op.operands] using hx)) h (fun s hs => by simp only [execOp]; exact hs)
  · -- range
    rename_i t x
    split at h
    · rename_i kt et ht hx
      have hv := hρ x (by simp [Op.operands]) _ hx
      simp only [VR] at hv
      simp only [Option.some.injEq, Prod.mk.injEq] at h
      obtain ⟨rfl, rfl, rfl⟩ := h
      obtain ⟨a1, a2⟩ := lay_ok (W' := { W with heap := W.heap.push (.mapIter none 0 #[] 0) }) (o := .mapIter none 0 #[] 0) (ob := .iter none 0 [] 0) (C := 0) hR hW (hF0 rfl) rfl rfl rfl rfl ⟨rfl, rfl⟩
      refine ⟨_, _, _, _, ?_, .inl rfl, a1, a2, by simp only [VR]; exact ⟨_, upd_same, rfl⟩⟩
      simp [execOp, Instr.range, run_underlying ht, hv, run_newObj]
    · rename_i kt et r ht hx
      have hv := hρ x (by simp [Op.operands]) _ hx
      simp only [VR] at hv
      obtain ⟨kb, hkb, hv⟩ := hv
      split at h
      · rename_i es c hmm
        obtain ⟨hg, l, hb, hl⟩ := map_at hR hmm hkb
        simp only [Option.some.injEq, Prod.mk.injEq] at h
        obtain ⟨rfl, rfl, rfl⟩ := h
        have hne : r ≠ nx := fun e => by subst e; rw [hF0 rfl] at hkb; cases hkb
        obtain ⟨a1, a2⟩ := lay_ok (W' := { W with heap := W.heap.push (.mapIter (some kb.b) c #[] c) }) (o := .mapIter (some kb.b) c #[] c) (ob := .iter (some r) c [] c) (C := 0) hR hW (hF0 rfl) rfl rfl rfl rfl ⟨rfl, kb, by rw [upd_other hne]; exact hkb, rfl⟩
        refine ⟨_, _, _, _, ?_, .inl rfl, a1, a2, by simp only [VR]; exact ⟨_, upd_same, rfl⟩⟩
        simp [execOp, Instr.range, run_underlying ht, hv, getObj_map hb, run_newObj]
      · cases h
    · cases h
  · -- next
    rename_i it
    split at h
    · rename_i n hx
      have hv := hρ it (by simp [Op.operands]) _ hx
      simp only [VR] at hv
      obtain ⟨kb, hkb, hv⟩ := hv
      split at h
      · rename_i since seen last hg
        simp only [Option.some.injEq, Prod.mk.injEq] at h
        obtain ⟨rfl, rfl, rfl⟩ := h
        obtain ⟨h0, o', hb, rfl⟩ := iter_at hR hg hkb
        rw [h0] at hv
        refine runs_value (runs_same (v' := .tuple #[.bool false]) hR hW ?_ (by simp only [VR]; exact ⟨_, rfl, .cons (by simp only [VR]) .nil⟩))
        simp [Instr.next, hv, getObj, Sem.run, hb]
      · rename_i r since seen last hg
        obtain ⟨h0, o', hb, kr, hkr, rfl⟩ := iter_at hR hg hkb
        rw [h0] at hv
        split at h <;> try (cases h; done)
        rename_i es c hmm
        obtain ⟨hgm, l, hbm, hl⟩ := map_at hR hmm hkr
        split at h <;> try (cases h; done)
        · rename_i hnx
          simp only [Option.some.injEq, Prod.mk.injEq] at h
          obtain ⟨rfl, rfl, rfl⟩ := h
          obtain ⟨ht, hf⟩ := next_one hl hnx
          refine runs_value (runs_same (v' := .tuple #[.bool false]) hR hW ?_ (by simp only [VR]; exact ⟨_, rfl, .cons (by simp only [VR]) .nil⟩))
          rw [hv]; exact run_next0 _ hb hbm ht hf
        · rename_i e hnx
          simp only [Option.some.injEq, Prod.mk.injEq] at h
          obtain ⟨rfl, rfl, rfl⟩ := h
          obtain ⟨ht, x, hf, hs, g1, g2, g3⟩ := next_one hl hnx
          have hlt := (Array.getElem?_eq_some_iff.1 hb).1
          obtain ⟨p1, p2⟩ := put_ok (ob' := .iter (some r) since (seen ++ [e.2.2]) c) (o' := .mapIter (some kr.b) since (seen.toArray.push x.born) c) (W' := { W with heap := W.heap.setIfInBounds kb.b (.mapIter (some kr.b) since (seen.toArray.push x.born) c) }) hR hW hg rfl rfl hkb
            (by simp [Array.getElem?_setIfInBounds, hlt]) (fun b hb' => by rw [Array.getElem?_setIfInBounds, if_neg (Ne.symm hb')]) (by simp) rfl rfl rfl ⟨h0, kr, hkr, by rw [g3]; simp⟩
          refine ⟨.value (.tuple #[.bool true, x.key, x.val]), .tuple #[.bool true, x.key, x.val], m, _, ?_, .inl rfl, p1, p2, by simp only [VR]; exact ⟨_, rfl, .cons (by simp only [VR]) (.cons g1 (.cons g2 .nil))⟩⟩
          simp only [execOp, Sem.run_bind, hv, run_next1 _ hb hbm ht hf hs, Result.andThen_ok, Sem.run_pure]
      · cases h
    · cases h
  · -- entry
    rename_i it
    split at h
    · rename_i n hx
      have hv := hρ it (by simp [Op.operands]) _ hx
      simp only [VR] at hv
      obtain ⟨kb, hkb, hv⟩ := hv
      split at h
      · rename_i r since seen last hg
        obtain ⟨h0, o', hb, kr, hkr, rfl⟩ := iter_at hR hg hkb
        rw [h0] at hv
        split at h <;> try (cases h; done)
        rename_i es c b hmm hlast
        obtain ⟨hgm, l, hbm, hl⟩ := map_at hR hmm hkr
        cases hc : c.beq last with
        | false => rw [hc] at h; cases h
        | true =>
          rw [hc, cond_true] at h
          have hc := Nat.eq_of_beq_eq_true hc
          subst hc
          split at h <;> try (cases h; done)
          rename_i e he
          simp only [Option.some.injEq, Prod.mk.injEq] at h
          obtain ⟨rfl, rfl, rfl⟩ := h
          obtain ⟨x, hfx, g1, g2⟩ := ERs.find (q := fun x => x.born == b) (fun e x hx => by rw [hx]; rw [Bool.eq_iff_iff]; simp) hl he
          refine runs_value (runs_same (v' := .tuple #[x.key, x.val]) hR hW ?_ (by simp only [VR]; exact ⟨_, rfl, .cons g1 (.cons g2 .nil)⟩))
          have hback : seen.toArray.back? = some b := by rw [← hlast]; simp [List.getLast?_eq_getElem?, Array.back?]
          have hfind : l.find? (fun x => x.born == b) = some x := by rw [← Array.find?_toList]; exact hfx
          simp only [Instr.entry, hv, getObj, Sem.run_bind, Sem.run, hb, Result.andThen, hbm, hback, bne_self_eq_false, Bool.false_eq_true, if_false, hfind, Nat.add_zero]
          rfl
      · cases h
    · cases h
  · rename_i f args ts
    exact absurd rfl (hnc f args ts)
  · -- len
    rename_i args ts
    split at h
    · rename_i x t hx ht
      cases hl : lenV P H t x with
      | none => simp [hl] at h
      | some n =>
        simp only [hl, Option.some.injEq, Prod.mk.injEq] at h
        obtain ⟨rfl, rfl, rfl⟩ := h
        obtain ⟨u, hu, hv⟩ := one_arg (fun y hy => hρ y (by simpa [Op.operands, Call.operands] using hy)) hx
        have hrun : (Builtin.len_ ts type #[u]).run P W = .ok (goInt n) W := by
          have e0 : (#[u] : Array Value)[0]? = some u := rfl
          unfold Builtin.len_
          rw [ht, e0]
          unfold lenV at hl
          split at hl <;> rename_i hut <;> (try simp only [VR] at hv)
          · cases hl; subst hv; simp [run_underlying hut]
          · cases hl; simp [run_underlying hut]
          · cases hl; subst hv; simp [run_underlying hut]
          · cases hl; obtain ⟨_, _, _, A, rfl⟩ | ⟨kb, off', c, sp, hk, rfl, _⟩ := hv <;> simp [run_underlying hut, *]
          · cases hl; subst hv; simp [run_underlying hut]
          · rename_i r
            cases hm : mapAt H r with
            | none => simp [hm] at hl
            | some p =>
              obtain ⟨es, c⟩ := p
              simp [hm] at hl; subst hl
              obtain ⟨kb, hkb, rfl⟩ := hv
              obtain ⟨hg, l, hb, hle⟩ := map_at hR hm hkb
              have := hle.length
              rw [Array.length_toList] at this
              simp [run_underlying hut, getObj_map hb, this]
          · cases hl
        exact ⟨.value (goInt n), goInt n, m, W, by simp [execOp, resolve, hu, invoke, builtin, hrun], .inl rfl, .refl hW, .refl hR, by simp only [VR, goInt]⟩
    · cases h
  · -- cap
    rename_i args ts
    split at h
    · rename_i x t hx ht
      cases hl : capV P t x with
      | none => simp [hl] at h
      | some n =>
        simp only [hl, Option.some.injEq, Prod.mk.injEq] at h
        obtain ⟨rfl, rfl, rfl⟩ := h
        obtain ⟨u, hu, hv⟩ := one_arg (fun y hy => hρ y (by simpa [Op.operands, Call.operands] using hy)) hx
        have hrun : (Builtin.cap_ ts type #[u]).run P W = .ok (goInt n) W := by
          have e0 : (#[u] : Array Value)[0]? = some u := rfl
          unfold Builtin.cap_
          rw [ht, e0]
          unfold capV at hl
          split at hl <;> rename_i hut <;> (try simp only [VR] at hv)
          · cases hl; subst hv; simp [run_underlying hut]
          · (cases hl; obtain ⟨_, h2, _, A, rfl⟩ | ⟨kb, off', c, sp, hk, rfl, _, _, h3, _⟩ := hv; (· subst h2; simp [run_underlying hut]); simp [run_underlying hut, h3 trivial])
          · cases hl
        exact ⟨.value (goInt n), goInt n, m, W, by simp [execOp, resolve, hu, invoke, builtin, hrun], .inl rfl, .refl hW, .refl hR, by simp only [VR, goInt]⟩
    · cases h
  · -- append
    rename_i args ts
    split at h
    · rename_i s x t xt hx ht hxt
      obtain ⟨u1, u2, hu, hv1, hv2⟩ := two_args (fun y hy => hρ y (by simpa [Op.operands, Call.operands] using hy)) hx
      obtain ⟨r, v', m', W', h1, h2, h3⟩ := append_ok (ty := type) ht hxt hR hW hF h hv1 hv2
      exact ⟨.value r, v', m', W', by simp [execOp, resolve, hu, invoke, builtin, h1], .inl (by rw [h2]), h3⟩
    · cases h
  · -- copy
    rename_i args ts
    split at h
    · rename_i s x t hx ht
      obtain ⟨u1, u2, hu, hv1, hv2⟩ := two_args (fun y hy => hρ y (by simpa [Op.operands, Call.operands] using hy)) hx
      cases hc : copyA P t s x H with
      | none => simp [hc] at h
      | some p =>
        obtain ⟨a, H1⟩ := p
        simp only [hc, Option.some.injEq, Prod.mk.injEq] at h
        obtain ⟨rfl, rfl, rfl⟩ := h
        obtain ⟨r, v', m', W', h1, h2, h3⟩ := copy_ok (ty := type) ht hR hW hc hv1 hv2
        exact ⟨.value r, v', m', W', by simp [execOp, resolve, hu, invoke, builtin, h1], .inl (by rw [h2]), h3⟩
    · cases h
  · -- clear
    rename_i args ts
    split at h
    · rename_i x t hx ht
      obtain ⟨u, hu, hv⟩ := one_arg (fun y hy => hρ y (by simpa [Op.operands, Call.operands] using hy)) hx
      cases hc : clearA P t x H with
      | none => simp [hc] at h
      | some H1 =>
        simp only [hc, Option.some.injEq, Prod.mk.injEq] at h
        obtain ⟨rfl, rfl, rfl⟩ := h
        obtain ⟨r, v', m', W', h1, h2, h3⟩ := clear_ok (ty := type) ht hR hW hc hv
        exact ⟨.value r, v', m', W', by simp [execOp, resolve, hu, invoke, builtin, h1], .inl (by rw [h2]), h3⟩
    · cases h
  · -- delete
    rename_i args ts
    split at h
    · rename_i r ka t hx ht
      obtain ⟨u1, u2, hu, hv1, hv2⟩ := two_args (fun y hy => hρ y (by simpa [Op.operands, Call.operands] using hy)) hx
      split at h
      · rename_i kt et htu
        rw [Bool.cond_eq_ite] at h
        split at h
        · rename_i hkk
          obtain ⟨d, hud, hd⟩ := kind_of hkk
          simp only [VR] at hv1
          obtain ⟨kb, hkb, rfl⟩ := hv1
          have hck := fun b => run_checkKey hud hd hv2 b W
          have e0 : (#[Value.map (some kb.b), u2] : Array Value)[0]? = some (.map (some kb.b)) := rfl
          have e1 : (#[Value.map (some kb.b), u2] : Array Value)[1]? = some u2 := rfl
          cases hmm : mapAt H r with
          | none => simp [hmm] at h
          | some p =>
            obtain ⟨es, c⟩ := p
            obtain ⟨hg, l, hb, hl⟩ := map_at hR hmm hkb
            simp only [hmm] at h
            cases hfk : findK ka es 0 with
            | none => simp [hfk] at h
            | some q =>
              have hq := findK_ok hv2 hd hfk hl
              cases q with
              | none =>
                simp only [hfk, Option.some.injEq, Prod.mk.injEq] at h
                obtain ⟨rfl, rfl, rfl⟩ := h
                have hset : ({ W with heap := W.heap.setIfInBounds kb.b (.map l c) } : World) = W := by
                  have hlt := (Array.getElem?_eq_some_iff.1 hb).1
                  have : W.heap.setIfInBounds kb.b (.map l c) = W.heap := by
                    apply Array.ext_getElem?
                    intro i
                    rw [Array.getElem?_setIfInBounds]
                    split
                    · rename_i e; subst e; simp [hlt]; rw [Array.getElem?_eq_getElem hlt] at hb; exact (Option.some.inj hb).symm
                    · rfl
                  rw [this]
                refine ⟨.value (.tuple #[]), .tuple #[], m, W, ?_, .inl rfl, .refl hW, .refl hR, by simp only [VR]; exact ⟨_, rfl, .nil⟩⟩
                simp only [execOp, resolve, hu, invoke, builtin, Sem.run_bind, Sem.run_pure, Result.andThen_ok, Builtin.delete_, ht, e0, e1, run_underlying htu, getObj_map hb, hck, run_findKey hud hq, setObj_map hb, hset]
              | some p =>
                obtain ⟨i, a⟩ := p
                simp only [hfk, Option.some.injEq, Prod.mk.injEq] at h
                obtain ⟨rfl, rfl, rfl⟩ := h
                obtain ⟨v', e', q1, q2, q3, q4, q5⟩ := hq
                simp only [Nat.sub_zero] at q4
                have hil : i < l.size := by rw [← Array.length_toList]; exact (List.getElem?_eq_some_iff.1 q4).1
                obtain ⟨a1, a2, a3⟩ := map_put (P := P) (c' := c) (l' := l.eraseIdxIfInBounds i) (es' := es.eraseIdx i) hR hW hg hkb hb (by
                  have : (l.eraseIdxIfInBounds i).toList = l.toList.eraseIdx i := by
                    simp [Array.eraseIdxIfInBounds, hil]
                  rw [this]; exact hl.erase i)
                refine ⟨.value (.tuple #[]), .tuple #[], m, _, ?_, .inl rfl, a2, a3, by simp only [VR]; exact ⟨_, rfl, .nil⟩⟩
                simp only [execOp, resolve, hu, invoke, builtin, Sem.run_bind, Sem.run_pure, Result.andThen_ok, Builtin.delete_, ht, e0, e1, run_underlying htu, getObj_map hb, hck, run_findKey hud q1, a1]
        · cases h
      · cases h
    · cases h
  · cases h
end
end Abs
end Go.Proofs.YtekmmeikkafpmaaGreat
