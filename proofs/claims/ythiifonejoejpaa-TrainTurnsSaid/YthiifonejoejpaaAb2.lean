/- The evaluator's names and the machine's blocks: the relation, and what is known of it. -/
import Derived.Test.YthiifonejoejpaaAb1
import Derived.WalkKit
import Derived.RangeFuncLeaves
namespace Go.Proofs.Ythiifonejoejpaa
namespace Abs
open Go.RowKit

section tr
variable {α : Type}
theorem Tr.get_setF (a : Option α) : ∀ (f : Nat) (t : Tr α) (k k' : Nat), k < f → (Tr.setF a f t k).get k' = if k' = k then a else t.get k' := by
  intro f
  induction f with
  | zero => intro t k k' h; omega
  | succ f ih =>
    intro t k k' h
    cases t with
    | nil =>
      simp only [Tr.setF, Bool.cond_eq_ite, Nat.beq_eq]
      by_cases hk : k = 0
      · subst hk; simp only [if_pos, Tr.get, Bool.cond_eq_ite, Nat.beq_eq]; split <;> simp
      · simp only [if_neg hk]
        by_cases hp : k % 2 = 1
        · simp only [if_pos hp, Tr.get, Bool.cond_eq_ite, Nat.beq_eq, ih .nil (k / 2) _ (by omega)]
          by_cases h0 : k' = 0
          · rw [if_pos h0, if_neg (by omega)]
          · rw [if_neg h0]
            by_cases h1 : k' % 2 = 1
            · rw [if_pos h1]; by_cases e : k' = k
              · rw [if_pos e, if_pos (by omega)]
              · rw [if_neg e, if_neg (by omega)]
            · rw [if_neg h1, if_neg (by omega)]
        · simp only [if_neg hp, Tr.get, Bool.cond_eq_ite, Nat.beq_eq, ih .nil (k / 2 - 1) _ (by omega)]
          by_cases h0 : k' = 0
          · rw [if_pos h0, if_neg (by omega)]
          · rw [if_neg h0]
            by_cases h1 : k' % 2 = 1
            · rw [if_pos h1, if_neg (by omega)]
            · rw [if_neg h1]; by_cases e : k' = k
              · rw [if_pos e, if_pos (by omega)]
              · rw [if_neg e, if_neg (by omega)]
    | node v l r =>
      simp only [Tr.setF, Bool.cond_eq_ite, Nat.beq_eq]
      by_cases hk : k = 0
      · subst hk; simp only [if_pos, Tr.get, Bool.cond_eq_ite, Nat.beq_eq]; split <;> simp
      · simp only [if_neg hk]
        by_cases hp : k % 2 = 1
        · simp only [if_pos hp, Tr.get, Bool.cond_eq_ite, Nat.beq_eq, ih l (k / 2) _ (by omega)]
          by_cases h0 : k' = 0
          · rw [if_pos h0, if_neg (by omega), if_pos h0]
          · rw [if_neg h0, if_neg h0]
            by_cases h1 : k' % 2 = 1
            · rw [if_pos h1, if_pos h1]; by_cases e : k' = k
              · rw [if_pos e, if_pos (by omega)]
              · rw [if_neg e, if_neg (by omega)]
            · rw [if_neg h1, if_neg h1, if_neg (by omega)]
        · simp only [if_neg hp, Tr.get, Bool.cond_eq_ite, Nat.beq_eq, ih r (k / 2 - 1) _ (by omega)]
          by_cases h0 : k' = 0
          · rw [if_pos h0, if_neg (by omega), if_pos h0]
          · rw [if_neg h0, if_neg h0]
            by_cases h1 : k' % 2 = 1
            · rw [if_pos h1, if_pos h1, if_neg (by omega)]
            · rw [if_neg h1, if_neg h1]; by_cases e : k' = k
              · rw [if_pos e, if_pos (by omega)]
              · rw [if_neg e, if_neg (by omega)]
theorem Tr.get_set (t : Tr α) (k : Nat) (a : α) (k' : Nat) : (t.set k a).get k' = if k' = k then some a else t.get k' := Tr.get_setF _ _ _ _ _ (Nat.lt_succ_self k)
theorem Tr.get_del (t : Tr α) (k k' : Nat) : (t.del k).get k' = if k' = k then none else t.get k' := Tr.get_setF _ _ _ _ _ (Nat.lt_succ_self k)
end tr

/-- Where a name's block lies: the block, the place in it, its cells. -/
structure Blk where
  b : Nat
  o : Nat
  C : Nat
abbrev NM := Nat → Option Blk
def Le (m m' : NM) : Prop := ∀ n k, m n = some k → m' n = some k
theorem Le.refl (m : NM) : Le m m := fun _ _ h => h
theorem Le.trans {a b c : NM} (h : Le a b) (k : Le b c) : Le a c := fun n x e => k n x (h n x e)

mutual
def VR (m : NM) : AV → Value → Prop
  | .int k n, v => v = .int k n
  | .bool b, v => v = .bool b
  | .str s, v => v = .string s
  | .nilp, v => v = .pointer none
  | .ptr n off, v => ∃ k, m n = some k ∧ v = .pointer (some ⟨k.b, k.o + off, none⟩)
  | .nils, v => v = .slice none 0 0
  | .slice n off len cap esz ex, v => ∃ k off' c, m n = some k ∧ v = .slice (some ⟨k.b, off', none⟩) len c ∧ len ≤ cap ∧ cap ≤ c ∧ (ex = true → c = cap) ∧ (c = 0 ∨ off' = k.o + off) ∧ (ex = false → off' + c * esz ≤ k.o + k.C)
  | .nilm, v => v = .map none
  | .map r, v => ∃ k, m r = some k ∧ v = .map (some k.b)
  | .fn f a c, v => ∃ xs ys, v = .func (.func f) xs ys ∧ VRs m a xs.toList ∧ VRs m c ys.toList
  | .yield l, v => ∃ k, m l = some k ∧ v = .func (.yield k.b) #[] #[]
  | .nilf, v => v = .nilFunc
  | .nili, v => v = .nilIface
  | .agg cs, v => ∃ xs, v = .agg xs ∧ VRs m cs xs.toList
  | .tuple cs, v => ∃ xs, v = .tuple xs ∧ VRs m cs xs.toList
def VRs (m : NM) : List AV → List Value → Prop
  | [], vs => vs = []
  | a :: l, vs => ∃ v t, vs = v :: t ∧ VR m a v ∧ VRs m l t
end

mutual
theorem VR.mono {m m' : NM} (h : Le m m') : (a : AV) → (v : Value) → VR m a v → VR m' a v
  | .int .., _, e => by simpa only [VR] using e
  | .bool _, _, e => by simpa only [VR] using e
  | .str _, _, e => by simpa only [VR] using e
  | .nilp, _, e => by simpa only [VR] using e
  | .ptr .., _, e => by
    simp only [VR] at e ⊢
    obtain ⟨k, hk, e⟩ := e
    exact ⟨k, h _ _ hk, e⟩
  | .nils, _, e => by simpa only [VR] using e
  | .slice .., _, e => by
    simp only [VR] at e ⊢
    obtain ⟨k, o, c, hk, e⟩ := e
    exact ⟨k, o, c, h _ _ hk, e⟩
  | .nilm, _, e => by simpa only [VR] using e
  | .map _, _, e => by
    simp only [VR] at e ⊢
    obtain ⟨k, hk, e⟩ := e
    exact ⟨k, h _ _ hk, e⟩
  | .fn _ a c, _, e => by
    simp only [VR] at e ⊢
    obtain ⟨xs, ys, e, h1, h2⟩ := e
    exact ⟨xs, ys, e, VRs.mono h a _ h1, VRs.mono h c _ h2⟩
  | .yield _, _, e => by
    simp only [VR] at e ⊢
    obtain ⟨k, hk, e⟩ := e
    exact ⟨k, h _ _ hk, e⟩
  | .nilf, _, e => by simpa only [VR] using e
  | .nili, _, e => by simpa only [VR] using e
  | .agg cs, _, e => by
    simp only [VR] at e ⊢
    obtain ⟨xs, e, h1⟩ := e
    exact ⟨xs, e, VRs.mono h cs _ h1⟩
  | .tuple cs, _, e => by
    simp only [VR] at e ⊢
    obtain ⟨xs, e, h1⟩ := e
    exact ⟨xs, e, VRs.mono h cs _ h1⟩
theorem VRs.mono {m m' : NM} (h : Le m m') : (l : List AV) → (vs : List Value) → VRs m l vs → VRs m' l vs
  | [], _, e => by simpa only [VRs] using e
  | a :: l, _, e => by
    simp only [VRs] at e ⊢
    obtain ⟨v, t, e, h1, h2⟩ := e
    exact ⟨v, t, e, VR.mono h a _ h1, VRs.mono h l _ h2⟩
end

section vrs
variable {m : NM}
theorem VRs.nil : VRs m [] [] := by simp only [VRs]
theorem VRs.cons {a : AV} {v : Value} {l : List AV} {t : List Value} (h : VR m a v) (h' : VRs m l t) : VRs m (a :: l) (v :: t) := by
  simp only [VRs]; exact ⟨v, t, rfl, h, h'⟩
theorem VRs.cons_inv {a : AV} {l : List AV} {vs : List Value} (h : VRs m (a :: l) vs) : ∃ v t, vs = v :: t ∧ VR m a v ∧ VRs m l t := by simpa only [VRs] using h
theorem VRs.nil_inv {vs : List Value} (h : VRs m [] vs) : vs = [] := by simpa only [VRs] using h
theorem VRs.length : ∀ {l : List AV} {vs : List Value}, VRs m l vs → vs.length = l.length := by
  intro l
  induction l with
  | nil => intro vs h; rw [h.nil_inv]; rfl
  | cons a l ih =>
    intro vs h
    obtain ⟨v, t, rfl, _, h⟩ := h.cons_inv
    simp [ih h]
theorem VRs.get : ∀ {l : List AV} {vs : List Value} {i : Nat} {a : AV}, VRs m l vs → l[i]? = some a → ∃ v, vs[i]? = some v ∧ VR m a v := by
  intro l
  induction l with
  | nil => intro vs i a _ h; simp at h
  | cons x l ih =>
    intro vs i a h hi
    obtain ⟨v, t, rfl, h1, h2⟩ := h.cons_inv
    cases i with
    | zero => simp at hi; subst hi; exact ⟨v, rfl, h1⟩
    | succ i => simp at hi; simpa using ih h2 hi
theorem VRs.append : ∀ {l l' : List AV} {vs vs' : List Value}, VRs m l vs → VRs m l' vs' → VRs m (l ++ l') (vs ++ vs') := by
  intro l
  induction l with
  | nil => intro l' vs vs' h h'; rw [h.nil_inv]; exact h'
  | cons x l ih =>
    intro l' vs vs' h h'
    obtain ⟨v, t, rfl, h1, h2⟩ := h.cons_inv
    exact .cons h1 (ih h2 h')
theorem VRs.take : ∀ {l : List AV} {vs : List Value} (n : Nat), VRs m l vs → VRs m (l.take n) (vs.take n) := by
  intro l
  induction l with
  | nil => intro vs n h; rw [h.nil_inv]; simp [VRs]
  | cons x l ih =>
    intro vs n h
    obtain ⟨v, t, rfl, h1, h2⟩ := h.cons_inv
    cases n with
    | zero => exact .nil
    | succ n => simpa using VRs.cons h1 (ih n h2)
theorem VRs.drop : ∀ {l : List AV} {vs : List Value} (n : Nat), VRs m l vs → VRs m (l.drop n) (vs.drop n) := by
  intro l
  induction l with
  | nil => intro vs n h; rw [h.nil_inv]; simp [VRs]
  | cons x l ih =>
    intro vs n h
    obtain ⟨v, t, rfl, h1, h2⟩ := h.cons_inv
    cases n with
    | zero => simpa using VRs.cons h1 h2
    | succ n => simpa using ih n h2
theorem VR.cells {a : AV} {v : Value} (h : VR m a v) : VRs m a.cells v.cells.toList := by
  cases a <;> simp only [VR] at h
  case agg cs => obtain ⟨xs, rfl, h⟩ := h; exact h
  all_goals first
    | (subst h; refine .cons ?_ .nil; simp only [VR]; done)
    | (obtain ⟨k, hk, rfl⟩ := h; refine .cons ?_ .nil; simp only [VR]; exact ⟨k, hk, rfl⟩)
    | (obtain ⟨k, o, c, hk, rfl, h⟩ := h; refine .cons ?_ .nil; simp only [VR]; exact ⟨k, o, c, hk, rfl, h⟩)
    | (obtain ⟨x, y, rfl, h⟩ := h; refine .cons ?_ .nil; simp only [VR]; exact ⟨x, y, rfl, h⟩)
    | (obtain ⟨x, rfl, h⟩ := h; refine .cons ?_ .nil; simp only [VR]; exact ⟨x, rfl, h⟩)
theorem VR.oneCell {a : AV} {v : Value} (h : VR m a v) (ha : a.oneCell = true) : v.oneCell' = true := by
  cases a <;> simp only [VR] at h <;> simp only [AV.oneCell] at ha
  all_goals first
    | (cases ha; done)
    | (subst h; rfl)
    | (obtain ⟨k, hk, rfl⟩ := h; rfl)
    | (obtain ⟨k, o, c, hk, rfl, h⟩ := h; rfl)
    | (obtain ⟨x, y, rfl, h⟩ := h; rfl)
theorem VRs.oneCells : ∀ {l : List AV} {vs : List Value}, VRs m l vs → l.all AV.oneCell = true → ∀ v ∈ vs, v.oneCell' = true := by
  intro l
  induction l with
  | nil => intro vs h _ v hv; rw [h.nil_inv] at hv; simp at hv
  | cons x l ih =>
    intro vs h hl v hv
    obtain ⟨u, t, rfl, h1, h2⟩ := h.cons_inv
    simp only [List.all_cons, Bool.and_eq_true] at hl
    rcases List.mem_cons.1 hv with rfl | hv
    · exact h1.oneCell hl.1
    · exact ih h2 hl.2 v hv
theorem VR.undef_iff {v : Value} : VR m .undef v ↔ v = undef := by
  simp only [AV.undef, VR, VRs]
  constructor
  · rintro ⟨xs, rfl, h⟩
    have : xs = #[] := by cases xs; simp at h; subst h; rfl
    subst this; rfl
  · rintro rfl; exact ⟨#[], rfl, rfl⟩
end vrs

mutual
theorem ofV_ok {m : NM} : (f : Nat) → (v : Value) → (a : AV) → ofV f v = some a → VR m a v
  | 0, _, _, h => by simp [ofV] at h
  | f + 1, v, a, h => by
    unfold ofV at h
    split at h
    all_goals first
      | (cases h; simp only [VR]; done)
      | (cases h; done)
      | (rename_i cs
         cases hc : ofVs f cs.toList with
         | none => simp [hc] at h
         | some l => simp [hc] at h; subst h; simp only [VR]; exact ⟨cs, rfl, ofVs_ok f _ _ hc⟩)
theorem ofVs_ok {m : NM} : (f : Nat) → (vs : List Value) → (l : List AV) → ofVs f vs = some l → VRs m l vs
  | 0, _, _, h => by simp [ofVs] at h
  | _ + 1, [], _, h => by simp [ofVs] at h; subst h; exact .nil
  | f + 1, v :: vs, _, h => by
    unfold ofVs at h
    cases h1 : ofV f v with
    | none => simp [h1] at h
    | some a => cases h2 : ofVs f vs with
      | none => simp [h1, h2] at h
      | some l => simp [h1, h2] at h; subst h; exact .cons (ofV_ok f _ _ h1) (ofVs_ok f _ _ h2)
end

/-- Setting some cells. -/
theorem setAt_ok {m : NM} : ∀ {cs : List AV} {o : Nat} {new cs' : List AV} {vs nv : List Value}, VRs m cs vs → setAt cs o new = some cs' → VRs m new nv →
    (nv = [] ∨ o + nv.length ≤ vs.length) ∧ cs'.length = cs.length ∧ VRs m cs' (vs.take o ++ nv ++ vs.drop (o + nv.length)) := by
  intro cs
  induction cs with
  | nil =>
    intro o new cs' vs nv h hs hn
    rw [h.nil_inv]
    cases new with
    | nil => cases o <;> simp [setAt] at hs <;> subst hs <;> rw [hn.nil_inv] <;> simp [VRs]
    | cons a l => cases o <;> simp [setAt] at hs
  | cons c cs ih =>
    intro o new cs' vs nv h hs hn
    obtain ⟨v, t, rfl, h1, h2⟩ := h.cons_inv
    cases new with
    | nil =>
      rw [hn.nil_inv]
      have hs' : cs' = c :: cs := by cases o <;> simp [setAt] at hs <;> exact hs.symm
      subst hs'
      exact ⟨.inl rfl, rfl, by simpa using h⟩
    | cons a l =>
      obtain ⟨w, nt, rfl, g1, g2⟩ := hn.cons_inv
      cases o with
      | zero =>
        simp only [setAt] at hs
        cases hc : setAt cs 0 l with
        | none => simp [hc] at hs
        | some x =>
          simp [hc] at hs; subst hs
          obtain ⟨hl, hlen, hr⟩ := ih h2 hc g2
          simp at hl hr
          refine ⟨.inr ?_, by simp [hlen], ?_⟩
          · rcases hl with rfl | hl <;> simp; omega
          · simpa using VRs.cons g1 hr
      | succ o =>
        simp only [setAt] at hs
        cases hc : setAt cs o (a :: l) with
        | none => simp [hc] at hs
        | some x =>
          simp [hc] at hs; subst hs
          obtain ⟨hl, hlen, hr⟩ := ih h2 hc hn
          simp at hl hr
          refine ⟨.inr (by simp; omega), by simp [hlen], ?_⟩
          simp only [List.length_cons, List.take_succ_cons, List.cons_append]
          rw [show o + 1 + (nt.length + 1) = (o + (nt.length + 1)) + 1 by omega, List.drop_succ_cons]
          exact .cons h1 (by simpa using hr)

/-! The relation of what there is. -/
def TR (m : NM) (n : Nat) (T : Tr AV) (a : Array Value) : Prop := a.size = n ∧ ∀ t, VR m ((T.get t).getD .undef) (a.getD t undef)
def ERs (m : NM) : List (AV × AV × Nat) → List MapEntry → Prop
  | [], l => l = []
  | e :: es, l => ∃ x t, l = x :: t ∧ VR m e.1 x.key ∧ VR m e.2.1 x.val ∧ x.born = e.2.2 ∧ ERs m es t
theorem TR.mono {m m' : NM} {n : Nat} {T : Tr AV} {a : Array Value} (h : Le m m') (k : TR m n T a) : TR m' n T a := ⟨k.1, fun t => (k.2 t).mono h⟩
theorem ERs.mono {m m' : NM} (h : Le m m') : ∀ {es : List (AV × AV × Nat)} {l : List MapEntry}, ERs m es l → ERs m' es l := by
  intro es
  induction es with
  | nil => intro l k; exact k
  | cons e es ih =>
    rintro _ ⟨x, t, rfl, h1, h2, h3, h4⟩
    exact ⟨x, t, rfl, h1.mono h, h2.mono h, h3, ih h4⟩
theorem ERs.length {m : NM} : ∀ {es : List (AV × AV × Nat)} {l : List MapEntry}, ERs m es l → l.length = es.length := by
  intro es
  induction es with
  | nil => intro l k; cases k; rfl
  | cons e es ih => rintro _ ⟨x, t, rfl, _, _, _, h4⟩; simp [ih h4]

/-- What a region that draws its order must be, for the evaluator. -/
def dstOf (ops : Array Oper) (i : Nat) : Option Tmp := (ops[i]?).bind (·.dst)
def tmpsOf (ops : Array Oper) (o : Oper) : List Tmp := o.looksAt ops
def tidyOp (ops : Array Oper) (pre : Array Nat) (j : Nat) (o : Oper) : Bool :=
  (match o.op with | .defer _ | .select .. => false | _ => true) &&
  (o.after.all fun e => !Region.binds .any e || Nat.blt e.on j) &&
  ((o.looksAt ops).all fun t => (List.range ops.size).all fun i => dstOf ops i != some t || (pre.getD j 0).testBit i || (pre.getD i 0).testBit j) &&
  ((List.range ops.size).all fun i => i == j || o.dst == none || dstOf ops i != o.dst)
def tidyR (ops : Array Oper) : Bool := (List.range ops.size).all fun j => match ops[j]? with
  | some o => tidyOp ops (Region.before ops) j o
  | none => true
def codeOk : Code → Bool
  | .region _ ops draw => !draw || tidyR ops
  | .seq a b => codeOk a && codeOk b
  | .cond _ a b => codeOk a && codeOk b
  | .block _ c => codeOk c
  | .loop c => codeOk c
  | .rangeFunc _ _ a b => codeOk a && codeOk b
  | .scope c => codeOk c
  | _ => true

def OR (m : NM) (k : Blk) : AObj → Obj → Prop
  | .cells w cs, o => ∃ c e fz pre vs rest, o = .cells c e fz ∧ c.toList = pre ++ (vs ++ rest) ∧ pre.length = k.o ∧ VRs m cs vs ∧ (w = true → k.o = 0 ∧ c.size = k.C ∧ fz = (0, 0))
  | .map es cl, o => ∃ l, o = .map l cl ∧ ERs m es l.toList
  | .loop L, o => ∃ r : Loop, o = .loop r ∧ r.state = L.state ∧ r.pending = L.pending ∧ r.params.toList = L.params ∧ r.assign = L.assign ∧ r.body = L.body ∧ TR m L.n L.tmps r.tmps ∧
      (∃ kd, m L.defers = some kd ∧ r.defers = kd.b)
  | .dfr b, o => o = .deferred (if b then some [] else none)
theorem OR.mono {m m' : NM} (h : Le m m') {k : Blk} {a : AObj} {o : Obj} (r : OR m k a o) : OR m' k a o := by
  cases a with
  | cells w cs =>
    obtain ⟨c, e, fz, pre, vs, rest, ho, hc, hp, hv, hw⟩ := r
    exact ⟨c, e, fz, pre, vs, rest, ho, hc, hp, hv.mono h, hw⟩
  | map es cl =>
    obtain ⟨l, ho, hl⟩ := r
    exact ⟨l, ho, hl.mono h⟩
  | loop L =>
    obtain ⟨r, ho, h1, h2, h3, h4, h5, h6, ⟨kd, h7, h8⟩⟩ := r
    exact ⟨r, ho, h1, h2, h3, h4, h5, h6.mono h, ⟨kd, h _ _ h7, h8⟩⟩
  | dfr b => exact r

/-- The objects in sight lie in their blocks; no writable one shares its block. -/
structure Rel (m : NM) (H : Hp) (W : World) : Prop where
  obj : ∀ n ob, H.get n = some ob → ∃ k o, m n = some k ∧ W.heap[k.b]? = some o ∧ OR m k ob o
  inj : ∀ i j oi oj ki kj, H.get i = some oi → H.get j = some oj → m i = some ki → m j = some kj → oi.writable = true → ki.b = kj.b → i = j
/-- The block b is that of something in sight, writable, that was or may have been turned. -/
def Owns (m : NM) (H : Hp) (w b : Nat) : Prop := ∃ i oi ki, w ≤ i ∧ H.get i = some oi ∧ oi.writable = true ∧ m i = some ki ∧ ki.b = b
/-- The code of a loop is tidy. -/
def ObOk : AObj → Prop
  | .loop L => codeOk L.assign = true ∧ codeOk L.body = true ∧ ∀ c, L.pending = some c → codeOk c = true
  | _ => True
/-- No name from nx on is used. -/
structure Wf (H : Hp) (nx : Nat) : Prop where
  none : ∀ n, nx ≤ n → H.t.get n = none
  bad : ∀ p ∈ H.bad, p.2 ≤ nx
  ok : ∀ n ob, H.t.get n = some ob → ObOk ob
/-- What is said of the names behind a piece of a run. -/
structure AP (H : Hp) (nx : Nat) (H' : Hp) (nx' : Nat) : Prop where
  le : nx ≤ nx'
  bad : H'.bad = H.bad
  wr : H'.wr ≤ H.wr
  same : ∀ n, n < nx → n < H'.wr → H'.t.get n = H.t.get n
  old : ∀ n o, n < nx → H'.t.get n = some o → ∃ o0, H.t.get n = some o0 ∧ o0.writable = o.writable
  wf : Wf H' nx'
/-- What is said of the blocks behind it. -/
structure Post (m : NM) (H : Hp) (nx : Nat) (W : World) (m' : NM) (H' : Hp) (nx' : Nat) (W' : World) : Prop where
  le : Le m m'
  new : ∀ n k, m' n = some k → m n = some k ∨ (nx ≤ n ∧ n < nx' ∧ (W.heap.size ≤ k.b ∨ Owns m H H'.wr k.b))
  rel : Rel m' H' W'
  frame : ∀ b, b < W.heap.size → ¬ Owns m H H'.wr b → W'.heap[b]? = W.heap[b]?
  os : W'.os = W.os
  tape : W'.tape = W.tape
  output : W'.output = W.output
  size : W.heap.size ≤ W'.heap.size
def Fresh (m : NM) (nx nx' : Nat) : Prop := ∀ n, nx ≤ n → n < nx' → m n = none

theorem hid_iff {l : List (Nat × Nat)} {n : Nat} : hid l n = true ↔ ∃ p ∈ l, p.1 ≤ n ∧ n < p.2 := by
  induction l with
  | nil => simp [hid]
  | cons p l ih =>
    obtain ⟨a, b⟩ := p
    simp only [hid, Bool.cond_eq_ite, Nat.ble_eq, List.mem_cons, exists_eq_or_imp]
    by_cases h1 : a ≤ n
    · by_cases h2 : b ≤ n
      · simp only [h1, h2, if_true, ih]; constructor
        · exact .inr
        · rintro (h | h); omega; exact h
      · simp only [h1, h2, if_true, if_false, true_iff]; exact .inl ⟨trivial, by omega⟩
    · simp only [h1, if_false, ih]; constructor
      · exact .inr
      · rintro (h | h); exact h.1.elim; exact h
theorem Hp.get_eq (H : Hp) (n : Nat) : H.get n = if hid H.bad n = true then none else H.t.get n := by simp [Hp.get, Bool.cond_eq_ite]
theorem Hp.get_some {H : Hp} {n : Nat} {o : AObj} : H.get n = some o ↔ hid H.bad n = false ∧ H.t.get n = some o := by
  rw [Hp.get_eq]; cases hid H.bad n <;> simp
theorem Wf.gone {H : Hp} {nx n : Nat} (h : Wf H nx) (hn : nx ≤ n) : H.get n = Option.none := by rw [Hp.get_eq, h.none n hn]; simp
theorem Wf.lt {H : Hp} {nx n : Nat} {o : AObj} (h : Wf H nx) (hn : H.get n = some o) : n < nx := by
  rcases Nat.lt_or_ge n nx with h1 | h1
  · exact h1
  · rw [h.gone h1] at hn; cases hn
theorem Wf.seen {H : Hp} {nx n : Nat} (h : Wf H nx) (hn : nx ≤ n) : hid H.bad n = false := by
  cases e : hid H.bad n with
  | false => rfl
  | true => obtain ⟨p, hp, h1, h2⟩ := hid_iff.1 e; have := h.bad p hp; omega
theorem Rel.lt {m : NM} {H : Hp} {W : World} (h : Rel m H W) {n : Nat} {ob : AObj} {k : Blk} (hn : H.get n = some ob) (hk : m n = some k) : k.b < W.heap.size := by
  obtain ⟨k', o, h1, h2, _⟩ := h.obj n ob hn
  rw [hk] at h1; cases h1
  exact (Array.getElem?_eq_some_iff.1 h2).1
theorem lower_le_left (a b : Nat) : lower a b ≤ a := by simp only [lower, Bool.cond_eq_ite, Nat.ble_eq]; split <;> omega
theorem lower_le_right (a b : Nat) : lower a b ≤ b := by simp only [lower, Bool.cond_eq_ite, Nat.ble_eq]; split <;> omega
theorem lower_eq (a b : Nat) : lower a b = min a b := by simp only [lower, Bool.cond_eq_ite, Nat.ble_eq]; split <;> omega

theorem AP.refl {H : Hp} {nx : Nat} (h : Wf H nx) : AP H nx H nx := ⟨Nat.le_refl _, rfl, Nat.le_refl _, fun _ _ _ => rfl, fun _ o _ h => ⟨o, h, rfl⟩, h⟩
theorem AP.trans {H H1 H2 : Hp} {nx n1 n2 : Nat} (a : AP H nx H1 n1) (b : AP H1 n1 H2 n2) : AP H nx H2 n2 where
  le := Nat.le_trans a.le b.le
  bad := b.bad.trans a.bad
  wr := Nat.le_trans b.wr a.wr
  same := fun n h1 h2 => (b.same n (Nat.lt_of_lt_of_le h1 a.le) h2).trans (a.same n h1 (Nat.lt_of_lt_of_le h2 b.wr))
  old := fun n o h1 h2 => by
    obtain ⟨o1, e1, f1⟩ := b.old n o (Nat.lt_of_lt_of_le h1 a.le) h2
    obtain ⟨o0, e0, f0⟩ := a.old n o1 h1 e1
    exact ⟨o0, e0, f0.trans f1⟩
  wf := b.wf
theorem AP.get_old {H H' : Hp} {nx nx' : Nat} (a : AP H nx H' nx') {n : Nat} {o : AObj} (hn : n < nx) (h : H'.get n = some o) : ∃ o0, H.get n = some o0 ∧ o0.writable = o.writable := by
  obtain ⟨h1, h2⟩ := Hp.get_some.1 h
  obtain ⟨o0, e0, f0⟩ := a.old n o hn h2
  exact ⟨o0, Hp.get_some.2 ⟨by rw [← a.bad]; exact h1, e0⟩, f0⟩
theorem Post.refl {m : NM} {H : Hp} {nx : Nat} {W : World} (h : Rel m H W) : Post m H nx W m H nx W :=
  ⟨Le.refl m, fun _ _ h => .inl h, h, fun _ _ _ => rfl, rfl, rfl, rfl, Nat.le_refl _⟩
/-- What the second part turned, seen from the first part's beginning. -/
theorem Owns.back {m m1 : NM} {H H1 : Hp} {nx n1 : Nat} {W W1 : World} (a : AP H nx H1 n1) (hF : Fresh m nx n1) (p : Post m H nx W m1 H1 n1 W1) {w b : Nat} (hw : w ≤ H1.wr) (h : Owns m1 H1 w b) : W.heap.size ≤ b ∨ Owns m H w b := by
  obtain ⟨i, oi, ki, h1, h2, h3, h4, h5⟩ := h
  rcases p.new i ki h4 with h6 | ⟨_, _, h6 | h6⟩
  · rcases Nat.lt_or_ge i nx with h7 | h7
    · obtain ⟨o0, e0, f0⟩ := a.get_old h7 h2
      exact .inr ⟨i, o0, ki, h1, e0, f0.trans h3, h6, h5⟩
    · have := hF i h7 (a.wf.lt h2)
      rw [this] at h6; cases h6
  · exact .inl (h5 ▸ h6)
  · obtain ⟨j, oj, kj, g1, g2⟩ := h6
    exact .inr ⟨j, oj, kj, Nat.le_trans hw g1, by rw [← h5]; exact g2⟩
theorem Post.trans {m m1 m2 : NM} {H H1 H2 : Hp} {nx n1 n2 : Nat} {W W1 W2 : World} (a : AP H nx H1 n1) (b : AP H1 n1 H2 n2) (hF : Fresh m nx n1) (p : Post m H nx W m1 H1 n1 W1) (q : Post m1 H1 n1 W1 m2 H2 n2 W2) :
    Post m H nx W m2 H2 n2 W2 where
  le := p.le.trans q.le
  new := fun n k h => by
    rcases q.new n k h with h | ⟨h1, h2, h3⟩
    · rcases p.new n k h with h | ⟨h1, h2, h3⟩
      · exact .inl h
      · refine .inr ⟨h1, Nat.lt_of_lt_of_le h2 b.le, h3.imp id ?_⟩
        rintro ⟨i, oi, ki, g1, g2⟩
        exact ⟨i, oi, ki, Nat.le_trans b.wr g1, g2⟩
    · refine .inr ⟨Nat.le_trans a.le h1, h2, ?_⟩
      rcases h3 with h3 | h3
      · exact .inl (Nat.le_trans p.size h3)
      · exact h3.back a hF p b.wr
  rel := q.rel
  frame := fun k hk hn => by
    refine (q.frame k (Nat.lt_of_lt_of_le hk p.size) (fun h => ?_)).trans (p.frame k hk (fun h => hn ?_))
    · rcases h.back a hF p b.wr with h | h
      · omega
      · exact hn h
    · obtain ⟨i, oi, ki, g1, g2⟩ := h
      exact ⟨i, oi, ki, Nat.le_trans b.wr g1, g2⟩
  os := q.os.trans p.os
  tape := q.tape.trans p.tape
  output := q.output.trans p.output
  size := Nat.le_trans p.size q.size
theorem Fresh.left {m : NM} {nx n1 n2 : Nat} (h : Fresh m nx n2) (h2 : n1 ≤ n2) : Fresh m nx n1 := fun n a b => h n a (by omega)
theorem Post.fresh {m m1 : NM} {H H1 : Hp} {nx n1 n2 : Nat} {W W1 : World} (p : Post m H nx W m1 H1 n1 W1) (h : Fresh m nx n2) (h1 : nx ≤ n1) : Fresh m1 n1 n2 := fun n a b => by
  cases e : m1 n with
  | none => rfl
  | some k =>
    rcases p.new n k e with h2 | ⟨_, h2, _⟩
    · rw [h n (by omega) b] at h2; cases h2
    · omega
end Abs
end Go.Proofs.Ythiifonejoejpaa
