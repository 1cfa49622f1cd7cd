/- The evaluator: copy, maps. -/
import Derived.Test.YthiifonejoejpaaAb7
import Derived.MapKept
namespace Go.Proofs.Ythiifonejoejpaa
namespace Abs
open Go.RowKit
variable {P : Program} {m : NM}

theorem copy_ok {ts : Array TypeId} {ty t : TypeId} {s x v : AV} {vs vx : Value} {H H' : Hp} {nx : Nat} {W : World} (h0 : ts[0]? = some t) (hR : Rel m H W) (hW : Wf H nx)
    (h : copyA P t s x H = some (v, H')) (hs : VR m s vs) (hx : VR m x vx) : Runs P m H nx W (Builtin.copy_ ts ty #[vs, vx]) (fun r v' => r = v') v H' nx := by
  have e0 : (#[vs, vx] : Array Value)[0]? = some vs := rfl
  have e1 : (#[vs, vx] : Array Value)[1]? = some vx := rfl
  unfold copyA at h
  cases ht : P.underlying t with
  | none => simp [ht] at h
  | some d =>
    cases d <;> simp only [ht] at h <;> try (cases h; done)
    rename_i e
    split at h
    · rename_i q hsz
      simp only [Option.some.injEq, Prod.mk.injEq] at h
      obtain ⟨rfl, rfl⟩ := h
      simp only [VR] at hs hx; subst hs hx
      refine ⟨_, _, m, W, ?_, rfl, .refl hW, .refl hR, by simp only [VR]; rfl⟩
      unfold Builtin.copy_
      rw [h0, e0, e1]
      simp [run_underlying ht, run_size hsz, Builtin.lenOf, Builtin.firstCells, goInt]
    · rename_i q n off len cap esz ex hsz
      simp only [Option.some.injEq, Prod.mk.injEq] at h
      obtain ⟨rfl, rfl⟩ := h
      simp only [VR] at hs hx; subst hs
      obtain ⟨kb, off', c, hk, rfl, _⟩ := hx
      refine ⟨_, _, m, W, ?_, rfl, .refl hW, .refl hR, by simp only [VR]; rfl⟩
      unfold Builtin.copy_
      rw [h0, e0, e1]
      simp [run_underlying ht, run_size hsz, Builtin.lenOf, Builtin.firstCells, goInt, loadCells, loadCellsFrom]
    · rename_i q n off len cap esz ex hsz
      simp only [Option.some.injEq, Prod.mk.injEq] at h
      obtain ⟨rfl, rfl⟩ := h
      simp only [VR] at hs hx; subst hx
      obtain ⟨kb, off', c, hk, rfl, _⟩ := hs
      refine ⟨_, _, m, W, ?_, rfl, .refl hW, .refl hR, by simp only [VR]; rfl⟩
      unfold Builtin.copy_
      rw [h0, e0, e1]
      simp [run_underlying ht, run_size hsz, Builtin.lenOf, Builtin.firstCells, goInt, storeCells]
    · rename_i size n off len cap esz ex n2 off2 len2 cap2 esz2 ex2 hsz
      simp only [VR] at hs hx
      obtain ⟨kb, off', c, hk, rfl, c1, c2, c3, c4, c5⟩ := hs
      obtain ⟨kb2, off2', d, hk2, rfl, d1, d2, d3, d4, d5⟩ := hx
      simp only [Bool.cond_eq_ite, Nat.beq_eq] at h
      split at h
      · rename_i hz
        simp only [Option.some.injEq, Prod.mk.injEq] at h
        obtain ⟨rfl, rfl⟩ := h
        refine ⟨_, _, m, W, ?_, rfl, .refl hW, .refl hR, by simp only [VR]; rfl⟩
        unfold Builtin.copy_
        rw [h0, e0, e1]
        have hz' : Nat.min len2 len = 0 := hz
        simp [run_underlying ht, run_size hsz, Builtin.lenOf, Builtin.firstCells, goInt, storeCells, hz', loadCells, loadCellsFrom]
      · rename_i hz
        cases hro : rowA H n2 off2 (min len2 len) size with
        | none => simp [hro] at h
        | some src =>
          cases hcw : cellsW H n with
          | none => simp [hro, hcw] at h
          | some cs =>
            cases hsa : setAt cs off src with
            | none => simp [hro, hcw, hsa] at h
            | some cs' =>
              simp only [hro, hcw, hsa, Bool.cond_eq_ite, Nat.beq_eq] at h
              split at h
              · rename_i hone
                split at h
                · cases h
                · rename_i hsz0
                  simp only [Option.some.injEq, Prod.mk.injEq] at h
                  obtain ⟨rfl, rfl⟩ := h
                  obtain ⟨nv, g1, g2, g3⟩ := row_ok (P := P) (off' := off2') hR hro hk2 (by right; omega)
                  have hpos : 0 < min len2 len * size := Nat.mul_pos (by omega) (by omega)
                  have hne : src ≠ [] := fun e => by
                    have := g1.length; rw [e, g2] at this; simp at this; omega
                  have hoff : off' = kb.o + off := by omega
                  subst hoff
                  obtain ⟨W', r1, r2, r3⟩ := store_ok (P := P) hR hW hcw hk hsa g1 hone hne
                  refine ⟨_, _, m, W', ?_, rfl, r2, r3, by simp only [VR]; rfl⟩
                  unfold Builtin.copy_
                  rw [h0, e0, e1]
                  have := g3 W rfl
                  simp only [Sem.run_bind, run_underlying ht, Result.andThen_ok, Builtin.lenOf, Sem.run_pure, run_size hsz, Builtin.firstCells]
                  rw [show Nat.min len2 len = min len2 len from rfl, this]
                  simp only [Result.andThen_ok, Sem.run_bind, r1, Sem.run_pure, goInt]
              · cases h
    · cases h

/-! Maps. -/
def kindOk (d : TypeDesc) (k : AV) : Bool := match d, k with | .int _, .int _ _ => true | .string, .str _ => true | .bool, .bool _ => true | _, _ => false
theorem key_eq {k k' : AV} {v v' : Value} {d : TypeDesc} {b : Bool} (h : keyEq k k' = some b) (hk : VR m k v) (hk' : VR m k' v') (hd : kindOk d k = true) :
    Instr.sameNow d v v' = some b ∧ (b = true → v = v') := by
  cases k <;> cases k' <;> simp only [keyEq] at h <;> try (cases h; done)
  · split at h
    · rename_i e; subst e; cases h
      simp only [VR] at hk hk'; subst hk hk'
      cases d <;> simp [kindOk] at hd
      exact ⟨by simp [Instr.sameNow], fun e => by simp at e; rw [e]⟩
    · cases h
  · cases h
    simp only [VR] at hk hk'; subst hk hk'
    cases d <;> simp [kindOk] at hd
    exact ⟨by simp [Instr.sameNow], fun e => by simp at e; rw [e]⟩
  · cases h
    simp only [VR] at hk hk'; subst hk hk'
    cases d <;> simp [kindOk] at hd
    rename_i a b
    refine ⟨by simp [Instr.sameNow], fun e => ?_⟩
    rw [beq_toListBytes, ByteArray.toList_eq, ByteArray.toList_eq] at e
    obtain ⟨⟨a⟩⟩ := a; obtain ⟨⟨b⟩⟩ := b
    simp at e; rw [e]
theorem kind_of {t : TypeId} {k : AV} (h : keyKind P t k = true) : ∃ d, P.underlying t = some d ∧ kindOk d k = true := by
  unfold keyKind at h
  split at h <;> first
    | (rename_i e; exact ⟨_, e, rfl⟩)
    | (cases h; done)
theorem findK_ok {k : AV} {kv : Value} {d : TypeDesc} (hk : VR m k kv) (hd : kindOk d k = true) : ∀ {es : List (AV × AV × Nat)} {l : List MapEntry} {j : Nat} {r : Option (Nat × AV)}, findK k es j = some r → ERs m es l →
    match r with
    | none => Instr.findNow d kv l j = some none
    | some (i, a) => ∃ v e, Instr.findNow d kv l j = some (some (i, v)) ∧ VR m a v ∧ j ≤ i ∧ l[i - j]? = some e ∧ e.key = kv := by
  intro es
  induction es with
  | nil => intro l j r h hl; cases hl; simp [findK] at h; subst h; rfl
  | cons e es ih =>
    rintro _ j r h ⟨x, t, rfl, h1, h2, h3, h4⟩
    unfold findK at h
    cases hq : keyEq k e.1 with
    | none => simp [hq] at h
    | some b =>
      obtain ⟨g1, g2⟩ := key_eq (d := d) hq hk h1 hd
      cases b with
      | true =>
        simp [hq] at h; subst h
        exact ⟨x.val, x, by simp [Instr.findNow, g1], h2, Nat.le_refl _, by simp, (g2 rfl).symm⟩
      | false =>
        simp only [hq] at h
        have := ih h h4
        cases r with
        | none => simpa [Instr.findNow, g1] using this
        | some p =>
          obtain ⟨i, a⟩ := p
          obtain ⟨v, e', q1, q2, q3, q4, q5⟩ := this
          refine ⟨v, e', by simp [Instr.findNow, g1, q1], q2, by omega, ?_, q5⟩
          rw [show i - j = (i - (j + 1)) + 1 by omega]; simpa using q4
theorem run_checkKey {t : TypeId} {d : TypeDesc} {k : AV} {kv : Value} (hu : P.underlying t = some d) (hd : kindOk d k = true) (hk : VR m k kv) (b : Bool) (w : World) : (Instr.checkKey b 10000 t kv).run P w = .ok () w := by
  suffices h : ∀ n, (Instr.checkKey b (n + 1) t kv).run P w = .ok () w from h 9999
  intro n
  cases d <;> cases k <;> simp [kindOk] at hd <;> simp only [VR] at hk <;> subst hk <;> simp [Instr.checkKey, run_underlying hu]
theorem run_findKey {t : TypeId} {d : TypeDesc} {kv : Value} {l : List MapEntry} {r : Option (Nat × Value)} (hu : P.underlying t = some d) (h : Instr.findNow d kv l 0 = some r) (w : World) : (Instr.findKey t kv l).run P w = .ok r w := by
  simp [Instr.findKey, run_underlying hu, h]
theorem map_at {H : Hp} {W : World} {r : Nat} {es : List (AV × AV × Nat)} {c : Nat} {k : Blk} (hR : Rel m H W) (h : mapAt H r = some (es, c)) (hk : m r = some k) : H.get r = some (.map es c) ∧ ∃ l, W.heap[k.b]? = some (.map l c) ∧ ERs m es l.toList := by
  unfold mapAt at h
  split at h
  · rename_i es' c' e
    cases h
    obtain ⟨k', o, h1, h2, h3⟩ := hR.obj r _ e
    rw [hk] at h1; cases h1
    obtain ⟨l, rfl, hl⟩ := h3
    exact ⟨e, l, h2, hl⟩
  · cases h
theorem getObj_map {W : World} {b : Nat} {l : Array MapEntry} {c : Nat} (h : W.heap[b]? = some (.map l c)) : (getObj b).run P W = .ok (.map l c) W := by simp [getObj, Sem.run, h]
theorem setObj_map {W : World} {b : Nat} {l : Array MapEntry} {c : Nat} (h : W.heap[b]? = some (.map l c)) (o : Obj) : (setObj b o).run P W = .ok () { W with heap := W.heap.setIfInBounds b o } := by simp [setObj, Sem.run, h]
theorem ERs.modify {es : List (AV × AV × Nat)} : ∀ {l : List MapEntry} {i : Nat} {f : AV × AV × Nat → AV × AV × Nat} {g : MapEntry → MapEntry}, ERs m es l → (∀ e x, VR m e.1 x.key → VR m e.2.1 x.val → x.born = e.2.2 → es[i]? = some e → l[i]? = some x → VR m (f e).1 (g x).key ∧ VR m (f e).2.1 (g x).val ∧ (g x).born = (f e).2.2) →
    ERs m (es.modify i f) (l.modify i g) := by
  induction es with
  | nil => intro l i f g h _; cases h; simp [ERs]
  | cons e es ih =>
    rintro _ i f g ⟨x, t, rfl, h1, h2, h3, h4⟩ hf
    cases i with
    | zero =>
      obtain ⟨a, b, c⟩ := hf e x h1 h2 h3 rfl rfl
      simp only [List.modify_zero_cons]
      exact ⟨g x, t, rfl, a, b, c, h4⟩
    | succ i =>
      simp only [List.modify_succ_cons]
      exact ⟨x, _, rfl, h1, h2, h3, ih h4 (fun e' x' a b c d1 d2 => hf e' x' a b c (by simpa using d1) (by simpa using d2))⟩
theorem ERs.push {es : List (AV × AV × Nat)} : ∀ {l : List MapEntry} {e : AV × AV × Nat} {x : MapEntry}, ERs m es l → VR m e.1 x.key → VR m e.2.1 x.val → x.born = e.2.2 → ERs m (es ++ [e]) (l ++ [x]) := by
  induction es with
  | nil => intro l e x h h1 h2 h3; cases h; exact ⟨x, [], rfl, h1, h2, h3, rfl⟩
  | cons e es ih =>
    rintro _ e' x' ⟨x, t, rfl, h1, h2, h3, h4⟩ g1 g2 g3
    exact ⟨x, _, rfl, h1, h2, h3, ih h4 g1 g2 g3⟩
theorem ERs.erase {es : List (AV × AV × Nat)} : ∀ {l : List MapEntry} (i : Nat), ERs m es l → ERs m (es.eraseIdx i) (l.eraseIdx i) := by
  induction es with
  | nil => intro l i h; cases h; simp [ERs]
  | cons e es ih =>
    rintro _ i ⟨x, t, rfl, h1, h2, h3, h4⟩
    cases i with
    | zero => simpa using h4
    | succ i => simp only [List.eraseIdx_cons_succ]; exact ⟨x, _, rfl, h1, h2, h3, ih i h4⟩
/-- A map is turned. -/
theorem map_put {H : Hp} {nx : Nat} {W : World} {r : Nat} {es es' : List (AV × AV × Nat)} {c c' : Nat} {k : Blk} {l l' : Array MapEntry} (hR : Rel m H W) (hW : Wf H nx) (hg : H.get r = some (.map es c)) (hk : m r = some k) (hb : W.heap[k.b]? = some (.map l c))
    (hl : ERs m es' l'.toList) : (setObj k.b (.map l' c')).run P W = .ok () { W with heap := W.heap.setIfInBounds k.b (.map l' c') } ∧ AP H nx (H.put r (.map es' c')) nx ∧ Post m H nx W m (H.put r (.map es' c')) nx { W with heap := W.heap.setIfInBounds k.b (.map l' c') } := by
  have hlt := (Array.getElem?_eq_some_iff.1 hb).1
  exact ⟨setObj_map hb _, put_ok hR hW hg rfl rfl hk (by simp [Array.getElem?_setIfInBounds, hlt]) (fun b hb' => by rw [Array.getElem?_setIfInBounds, if_neg (Ne.symm hb')]) (by simp) rfl rfl rfl ⟨l', rfl, hl⟩⟩
end Abs
end Go.Proofs.Ythiifonejoejpaa
