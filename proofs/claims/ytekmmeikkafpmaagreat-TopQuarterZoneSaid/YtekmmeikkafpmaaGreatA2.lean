/- The evaluator's names and the machine's blocks: the relation, and what is known of it. -/
import Derived.Test.YtekmmeikkafpmaaGreatA1
import Derived.WalkKit
import Derived.RangeFuncLeaves
import Derived.Laws.Tables
import Derived.Laws.StructEq
import Derived.Laws.IdiomCopy
import Derived.Laws.Slices
import Derived.Laws.Cover3
set_option linter.unusedSimpArgs false
set_option linter.unusedVariables false
namespace Go.Proofs.YtekmmeikkafpmaaGreat
namespace Abs
open Go.RowKit

section tr
variable {α : Type}
theorem Tr.get_setF (a : Option α) : ∀ (f : Nat) (t : Tr α) (k k' : Nat), k < f → (Tr.setF a f t k).get k' = if k' = k then a else t.get k' := by
  intro f
  induction f with
  | zero => intro t k k' h; omega
  | succ f ih =>
    intro t k k' h
    cases t with
    | nil =>
      simp only [Tr.setF, Bool.cond_eq_ite, Nat.beq_eq]
      by_cases hk : k = 0
      · subst hk; simp only [if_pos, Tr.get, Bool.cond_eq_ite, Nat.beq_eq]; split <;> simp
      · simp only [if_neg hk]
        by_cases hp : k % 2 = 1
        · simp only [if_pos hp, Tr.get, Bool.cond_eq_ite, Nat.beq_eq, ih .nil (k / 2) _ (by omega)]
          by_cases h0 : k' = 0
          · rw [if_pos h0, if_neg (by omega)]
          · rw [if_neg h0]
            by_cases h1 : k' % 2 = 1
            · rw [if_pos h1]; by_cases e : k' = k
              · rw [if_pos e, if_pos (by omega)]
              · rw [if_neg e, if_neg (by omega)]
            · rw [if_neg h1, if_neg (by omega)]
        · simp only [if_neg hp, Tr.get, Bool.cond_eq_ite, Nat.beq_eq, ih .nil (k / 2 - 1) _ (by omega)]
          by_cases h0 : k' = 0
          · rw [if_pos h0, if_neg (by omega)]
          · rw [if_neg h0]
            by_cases h1 : k' % 2 = 1
            · rw [if_pos h1, if_neg (by omega)]
            · rw [if_neg h1]; by_cases e : k' = k
              · rw [if_pos e, if_pos (by omega)]
              · rw [if_neg e, if_neg (by omega)]
    | node v l r =>
      simp only [Tr.setF, Bool.cond_eq_ite, Nat.beq_eq]
      by_cases hk : k = 0
      · subst hk; simp only [if_pos, Tr.get, Bool.cond_eq_ite, Nat.beq_eq]; split <;> simp
      · simp only [if_neg hk]
        by_cases hp : k % 2 = 1
        · simp only [if_pos hp, Tr.get, Bool.cond_eq_ite, Nat.beq_eq, ih l (k / 2) _ (by omega)]
          by_cases h0 : k' = 0
          · rw [if_pos h0, if_neg (by omega), if_pos h0]
          · rw [if_neg h0, if_neg h0]
            by_cases h1 : k' % 2 = 1
            · rw [if_pos h1, if_pos h1]; by_cases e : k' = k
              · rw [if_pos e, if_pos (by omega)]
              · rw [if_neg e, if_neg (by omega)]
            · rw [if_neg h1, if_neg h1, if_neg (by omega)]
        · simp only [if_neg hp, Tr.get, Bool.cond_eq_ite, Nat.beq_eq, ih r (k / 2 - 1) _ (by omega)]
          by_cases h0 : k' = 0
          · rw [if_pos h0, if_neg (by omega), if_pos h0]
          · rw [if_neg h0, if_neg h0]
            by_cases h1 : k' % 2 = 1
            · rw [if_pos h1, if_pos h1, if_neg (by omega)]
            · rw [if_neg h1, if_neg h1]; by_cases e : k' = k
              · rw [if_pos e, if_pos (by omega)]
              · rw [if_neg e, if_neg (by omega)]
theorem Tr.get_set (t : Tr α) (k : Nat) (a : α) (k' : Nat) : (t.set k a).get k' = if k' = k then some a else t.get k' := Tr.get_setF _ _ _ _ _ (Nat.lt_succ_self k)
theorem Tr.get_del (t : Tr α) (k k' : Nat) : (t.del k).get k' = if k' = k then none else t.get k' := Tr.get_setF _ _ _ _ _ (Nat.lt_succ_self k)
end tr

structure Blk where
  b : Nat
  o : Nat
  C : Nat
abbrev NM := Nat → Option Blk
def Le (m m' : NM) : Prop := ∀ n k, m n = some k → m' n = some k
theorem Le.refl (m : NM) : Le m m := fun _ _ h => h
theorem Le.trans {a b c : NM} (h : Le a b) (k : Le b c) : Le a c := fun n x e => k n x (h n x e)

mutual
def VR (m : NM) : AV → Value → Prop
  | .int k n, v => v = .int k n
  | .bool b, v => v = .bool b
  | .str s, v => v = .string s
  | .nilp, v => v = .pointer none
  | .ptr n off, v => ∃ k, m n = some k ∧ v = .pointer (some ⟨k.b, k.o + off, none⟩)
  | .nils, v => v = .slice none 0 0
  | .slice n off len cap esz ex, v => (len = 0 ∧ cap = 0 ∧ ex = true ∧ ∃ A, v = .slice (some A) 0 0) ∨ ∃ k off' c sp, m n = some k ∧ v = .slice (some ⟨k.b, off', sp⟩) len c ∧ len ≤ cap ∧ cap ≤ c ∧ (ex = true → c = cap) ∧ (c = 0 ∨ off' = k.o + off) ∧ (ex = false → off' + c * esz ≤ k.o + k.C) ∧ (c = 0 ∨ sp = none)
  | .nilm, v => v = .map none
  | .map r, v => ∃ k, m r = some k ∧ v = .map (some k.b)
  | .fn f a c, v => ∃ xs ys, v = .func (.func f) xs ys ∧ VRs m a xs.toList ∧ VRs m c ys.toList
  | .yield l, v => ∃ k, m l = some k ∧ v = .func (.yield k.b) #[] #[]
  | .nilf, v => v = .nilFunc
  | .nili, v => v = .nilIface
  | .agg cs, v => ∃ xs, v = .agg xs ∧ VRs m cs xs.toList
  | .tuple cs, v => ∃ xs, v = .tuple xs ∧ VRs m cs xs.toList
def VRs (m : NM) : List AV → List Value → Prop
  | [], vs => vs = []
  | a :: l, vs => ∃ v t, vs = v :: t ∧ VR m a v ∧ VRs m l t
end

mutual
theorem VR.mono {m m' : NM} (h : Le m m') : (a : AV) → (v : Value) → VR m a v → VR m' a v
  | .int .., _, e => by simpa only [VR] using e
  | .bool _, _, e => by simpa only [VR] using e
  | .str _, _, e => by simpa only [VR] using e
  | .nilp, _, e => by simpa only [VR] using e
  | .ptr .., _, e => by
    simp only [VR] at e ⊢
    obtain ⟨k, hk, e⟩ := e
    exact ⟨k, h _ _ hk, e⟩
  | .nils, _, e => by simpa only [VR] using e
  | .slice .., _, e => by
    simp only [VR] at e ⊢
    rcases e with e | ⟨k, o, c, sp, hk, e⟩
    · exact .inl e
    · exact .inr ⟨k, o, c, sp, h _ _ hk, e⟩
  | .nilm, _, e => by simpa only [VR] using e
  | .map _, _, e => by
    simp only [VR] at e ⊢
    obtain ⟨k, hk, e⟩ := e
    exact ⟨k, h _ _ hk, e⟩
  | .fn _ a c, _, e => by
    simp only [VR] at e ⊢
    obtain ⟨xs, ys, e, h1, h2⟩ := e
    exact ⟨xs, ys, e, VRs.mono h a _ h1, VRs.mono h c _ h2⟩
  | .yield _, _, e => by
    simp only [VR] at e ⊢
    obtain ⟨k, hk, e⟩ := e
    exact ⟨k, h _ _ hk, e⟩
  | .nilf, _, e => by simpa only [VR] using e
  | .nili, _, e => by simpa only [VR] using e
  | .agg cs, _, e => by
    simp only [VR] at e ⊢
    obtain ⟨xs, e, h1⟩ := e
    exact ⟨xs, e, VRs.mono h cs _ h1⟩
  | .tuple cs, _, e => by
    simp only [VR] at e ⊢
    obtain ⟨xs, e, h1⟩ := e
    exact ⟨xs, e, VRs.mono h cs _ h1⟩
theorem VRs.mono {m m' : NM} (h : Le m m') : (l : List AV) → (vs : List Value) → VRs m l vs → VRs m' l vs
  | [], _, e => by simpa only [VRs] using e
  | a :: l, _, e => by
    simp only [VRs] at e ⊢
    obtain ⟨v, t, e, h1, h2⟩ := e
    exact ⟨v, t, e, VR.mono h a _ h1, VRs.mono h l _ h2⟩
end

section vrs
variable {m : NM}
theorem VRs.nil : VRs m [] [] := by simp only [VRs]
theorem VRs.cons {a : AV} {v : Value} {l : List AV} {t : List Value} (h : VR m a v) (h' : VRs m l t) : VRs m (a :: l) (v :: t) := by
  simp only [VRs]; exact ⟨v, t, rfl, h, h'⟩
theorem VRs.cons_inv {a : AV} {l : List AV} {vs : List Value} (h : VRs m (a :: l) vs) : ∃ v t, vs = v :: t ∧ VR m a v ∧ VRs m l t := by simpa only [VRs] using h
theorem VRs.nil_inv {vs : List Value} (h : VRs m [] vs) : vs = [] := by simpa only [VRs] using h
theorem VRs.length : ∀ {l : List AV} {vs : List Value}, VRs m l vs → vs.length = l.length := by
  intro l
  induction l with
  | nil => intro vs h; rw [h.nil_inv]; rfl
  | cons a l ih =>
    intro vs h
    obtain ⟨v, t, rfl, _, h⟩ := h.cons_inv
    simp [ih h]
theorem VRs.get : ∀ {l : List AV} {vs : List Value} {i : Nat} {a : AV}, VRs m l vs → l[i]? = some a → ∃ v, vs[i]? = some v ∧ VR m a v := by
  intro l
  induction l with
  | nil => intro vs i a _ h; simp at h
  | cons x l ih =>
    intro vs i a h hi
    obtain ⟨v, t, rfl, h1, h2⟩ := h.cons_inv
    cases i with
    | zero => simp at hi; subst hi; exact ⟨v, rfl, h1⟩
    | succ i => simp at hi; simpa using ih h2 hi
theorem VRs.append : ∀ {l l' : List AV} {vs vs' : List Value}, VRs m l vs → VRs m l' vs' → VRs m (l ++ l') (vs ++ vs') := by
  intro l
  induction l with
  | nil => intro l' vs vs' h h'; rw [h.nil_inv]; exact h'
  | cons x l ih =>
    intro l' vs vs' h h'
    obtain ⟨v, t, rfl, h1, h2⟩ := h.cons_inv
    exact .cons h1 (ih h2 h')
theorem VRs.take : ∀ {l : List AV} {vs : List Value} (n : Nat), VRs m l vs → VRs m (l.take n) (vs.take n) := by
  intro l
  induction l with
  | nil => intro vs n h; rw [h.nil_inv]; simp [VRs]
  | cons x l ih =>
    intro vs n h
    obtain ⟨v, t, rfl, h1, h2⟩ := h.cons_inv
    cases n with
    | zero => exact .nil
    | succ n => simpa using VRs.cons h1 (ih n h2)
theorem VRs.drop : ∀ {l : List AV} {vs : List Value} (n : Nat), VRs m l vs → VRs m (l.drop n) (vs.drop n) := by
  intro l
  induction l with
  | nil => intro vs n h; rw [h.nil_inv]; simp [VRs]
  | cons x l ih =>
    intro vs n h
    obtain ⟨v, t, rfl, h1, h2⟩ := h.cons_inv
    cases n with
    | zero => simpa using VRs.cons h1 h2
    | succ n => simpa using ih n h2
theorem VR.slice_some {n off len cap esz : Nat} {ex : Bool} {v : Value} (h : VR m (.slice n off len cap esz ex) v) : ∃ A c, v = .slice (some A) len c ∧ len ≤ cap ∧ cap ≤ c ∧ (ex = true → c = cap) ∧
    ((len = 0 ∧ cap = 0 ∧ ex = true) ∨ ∃ k off' sp, m n = some k ∧ A = ⟨k.b, off', sp⟩ ∧ (c = 0 ∨ off' = k.o + off) ∧ (ex = false → off' + c * esz ≤ k.o + k.C) ∧ (c = 0 ∨ sp = none)) := by
  simp only [VR] at h
  rcases h with ⟨rfl, rfl, h3, A, rfl⟩ | ⟨k, off', c, sp, hk, rfl, c1, c2, c3, c4, c5, c6⟩
  · exact ⟨A, 0, rfl, Nat.le_refl _, Nat.le_refl _, fun _ => rfl, .inl ⟨rfl, rfl, h3⟩⟩
  · exact ⟨_, c, rfl, c1, c2, c3, .inr ⟨k, off', sp, hk, rfl, c4, c5, c6⟩⟩
theorem VR.cells {a : AV} {v : Value} (h : VR m a v) : VRs m a.cells v.cells.toList := by
  cases a <;> simp only [VR] at h
  case agg cs => obtain ⟨xs, rfl, h⟩ := h; exact h
  all_goals first
    | (subst h; refine .cons ?_ .nil; simp only [VR]; done)
    | (obtain ⟨k, hk, rfl⟩ := h; refine .cons ?_ .nil; simp only [VR]; exact ⟨k, hk, rfl⟩)
    | (rcases h with ⟨h1, h2, h3, a, rfl⟩ | ⟨k, o, c, sp, hk, rfl, h⟩
       · refine .cons ?_ .nil; simp only [VR]; exact .inl ⟨h1, h2, h3, a, rfl⟩
       · refine .cons ?_ .nil; simp only [VR]; exact .inr ⟨k, o, c, sp, hk, rfl, h⟩)
    | (obtain ⟨x, y, rfl, h⟩ := h; refine .cons ?_ .nil; simp only [VR]; exact ⟨x, y, rfl, h⟩)
    | (obtain ⟨x, rfl, h⟩ := h; refine .cons ?_ .nil; simp only [VR]; exact ⟨x, rfl, h⟩)
theorem VR.oneCell {a : AV} {v : Value} (h : VR m a v) (ha : a.oneCell = true) : v.oneCell' = true := by
  cases a <;> simp only [VR] at h <;> simp only [AV.oneCell] at ha
  all_goals first
    | (cases ha; done)
    | (subst h; rfl)
    | (obtain ⟨k, hk, rfl⟩ := h; rfl)
    | (rcases h with ⟨_, _, _, a, rfl⟩ | ⟨k, o, c, sp, hk, rfl, h⟩ <;> rfl)
    | (obtain ⟨x, y, rfl, h⟩ := h; rfl)
theorem VRs.oneCells : ∀ {l : List AV} {vs : List Value}, VRs m l vs → l.all AV.oneCell = true → ∀ v ∈ vs, v.oneCell' = true := by
  intro l
  induction l with
  | nil => intro vs h _ v hv; rw [h.nil_inv] at hv; simp at hv
  | cons x l ih =>
    intro vs h hl v hv
    obtain ⟨u, t, rfl, h1, h2⟩ := h.cons_inv
    simp only [List.all_cons, Bool.and_eq_true] at hl
    rcases List.mem_cons.1 hv with rfl | hv
    · exact h1.oneCell hl.1
    · exact ih h2 hl.2 v hv
theorem VR.undef_iff {v : Value} : VR m .undef v ↔ v = undef := by
  simp only [AV.undef, VR, VRs]
  constructor
  · rintro ⟨xs, rfl, h⟩
    have : xs = #[] := by cases xs; simp at h; subst h; rfl
    subst this; rfl
  · rintro rfl; exact ⟨#[], rfl, rfl⟩
end vrs

mutual
theorem ofV_ok {m : NM} : (f : Nat) → (v : Value) → (a : AV) → ofV f v = some a → VR m a v
  | 0, _, _, h => by simp [ofV] at h
  | f + 1, v, a, h => by
    unfold ofV at h
    split at h
    all_goals first
      | (cases h; simp only [VR]; done)
      | (cases h; done)
      | (rename_i cs
         cases hc : ofVs f cs.toList with
         | none => simp [hc] at h
         | some l => simp [hc] at h; subst h; simp only [VR]; exact ⟨cs, rfl, ofVs_ok f _ _ hc⟩)
theorem ofVs_ok {m : NM} : (f : Nat) → (vs : List Value) → (l : List AV) → ofVs f vs = some l → VRs m l vs
  | 0, _, _, h => by simp [ofVs] at h
  | _ + 1, [], _, h => by simp [ofVs] at h; subst h; exact .nil
  | f + 1, v :: vs, _, h => by
    unfold ofVs at h
    cases h1 : ofV f v with
    | none => simp [h1] at h
    | some a => cases h2 : ofVs f vs with
      | none => simp [h1, h2] at h
      | some l => simp [h1, h2] at h; subst h; exact .cons (ofV_ok f _ _ h1) (ofVs_ok f _ _ h2)
end

theorem setAt_ok {m : NM} : ∀ {cs : List AV} {o : Nat} {new cs' : List AV} {vs nv : List Value}, VRs m cs vs → setAt cs o new = some cs' → VRs m new nv →
    (nv = [] ∨ o + nv.length ≤ vs.length) ∧ cs'.length = cs.length ∧ VRs m cs' (vs.take o ++ nv ++ vs.drop (o + nv.length)) := by
  intro cs
  induction cs with
  | nil =>
    intro o new cs' vs nv h hs hn
    rw [h.nil_inv]
    cases new with
    | nil => cases o <;> simp [setAt] at hs <;> subst hs <;> rw [hn.nil_inv] <;> simp [VRs]
    | cons a l => cases o <;> simp [setAt] at hs
  | cons c cs ih =>
    intro o new cs' vs nv h hs hn
    obtain ⟨v, t, rfl, h1, h2⟩ := h.cons_inv
    cases new with
    | nil =>
      rw [hn.nil_inv]
      have hs' : cs' = c :: cs := by cases o <;> simp [setAt] at hs <;> exact hs.symm
      subst hs'
      exact ⟨.inl rfl, rfl, by simpa using h⟩
    | cons a l =>
      obtain ⟨w, nt, rfl, g1, g2⟩ := hn.cons_inv
      cases o with
      | zero =>
        simp only [setAt] at hs
        cases hc : setAt cs 0 l with
        | none => simp [hc] at hs
        | some x =>
          simp [hc] at hs; subst hs
          obtain ⟨hl, hlen, hr⟩ := ih h2 hc g2
          simp at hl hr
          refine ⟨.inr ?_, by simp [hlen], ?_⟩
          · rcases hl with rfl | hl <;> simp; omega
          · simpa using VRs.cons g1 hr
      | succ o =>
        simp only [setAt] at hs
        cases hc : setAt cs o (a :: l) with
        | none => simp [hc] at hs
        | some x =>
          simp [hc] at hs; subst hs
          obtain ⟨hl, hlen, hr⟩ := ih h2 hc hn
          simp at hl hr
          refine ⟨.inr (by simp; omega), by simp [hlen], ?_⟩
          simp only [List.length_cons, List.take_succ_cons, List.cons_append]
          rw [show o + 1 + (nt.length + 1) = (o + (nt.length + 1)) + 1 by omega, List.drop_succ_cons]
          exact .cons h1 (by simpa using hr)

def VU (m : NM) : Option AV → Value → Prop
  | none, _ => True
  | some v, x => VR m v x
theorem VU.mono {m m' : NM} (h : Le m m') {o : Option AV} {x : Value} (k : VU m o x) : VU m' o x := by
  cases o with
  | none => trivial
  | some v => exact VR.mono h v x k
theorem VU.of {m : NM} {o : Option AV} {x : Value} {v : AV} (k : VU m o x) (h : o = some v) : VR m v x := by subst h; exact k
def TR (m : NM) (n : Nat) (T : Tr AV) (a : Array Value) : Prop := a.size = n ∧ ∀ t, VU m (T.get t) (a.getD t undef)
def ERs (m : NM) : List (AV × AV × Nat) → List MapEntry → Prop
  | [], l => l = []
  | e :: es, l => ∃ x t, l = x :: t ∧ VR m e.1 x.key ∧ VR m e.2.1 x.val ∧ x.born = e.2.2 ∧ ERs m es t
theorem TR.mono {m m' : NM} {n : Nat} {T : Tr AV} {a : Array Value} (h : Le m m') (k : TR m n T a) : TR m' n T a := ⟨k.1, fun t => (k.2 t).mono h⟩
theorem ERs.mono {m m' : NM} (h : Le m m') : ∀ {es : List (AV × AV × Nat)} {l : List MapEntry}, ERs m es l → ERs m' es l := by
  intro es
  induction es with
  | nil => intro l k; exact k
  | cons e es ih =>
    rintro _ ⟨x, t, rfl, h1, h2, h3, h4⟩
    exact ⟨x, t, rfl, h1.mono h, h2.mono h, h3, ih h4⟩
theorem ERs.length {m : NM} : ∀ {es : List (AV × AV × Nat)} {l : List MapEntry}, ERs m es l → l.length = es.length := by
  intro es
  induction es with
  | nil => intro l k; cases k; rfl
  | cons e es ih => rintro _ ⟨x, t, rfl, _, _, _, h4⟩; simp [ih h4]

def dstOf (ops : Array Oper) (i : Nat) : Option Tmp := (ops[i]?).bind (·.dst)
def tidyOp (ops : Array Oper) (pre : Array Nat) (j : Nat) (o : Oper) : Bool :=
  (match o.op with | .defer _ | .select .. => false | _ => true) &&
  (o.after.all fun e => !Region.binds .any e || Nat.blt e.on j) &&
  ((o.looksAt ops).all fun t => (List.range ops.size).all fun i => dstOf ops i != some t || (pre.getD j 0).testBit i || (pre.getD i 0).testBit j) &&
  ((List.range ops.size).all fun i => i == j || o.dst == none || dstOf ops i != o.dst)
def tidyR (ops : Array Oper) : Bool := (List.range ops.size).all fun j => match ops[j]? with
  | some o => tidyOp ops (Region.before ops) j o
  | none => true
def codeOk : Code → Bool
  | .region _ ops draw => !draw || tidyR ops
  | .seq a b => codeOk a && codeOk b
  | .cond _ a b => codeOk a && codeOk b
  | .block _ c => codeOk c
  | .loop c => codeOk c
  | .rangeFunc _ _ a b => codeOk a && codeOk b
  | .scope c => codeOk c
  | _ => true

def OR (m : NM) (k : Blk) : AObj → Obj → Prop
  | .cells w cs, o => ∃ c e fz pre vs rest, o = .cells c e fz ∧ c.toList = pre ++ (vs ++ rest) ∧ pre.length = k.o ∧ VRs m cs vs ∧ (w = true → k.o = 0 ∧ c.size = k.C ∧ fz = (0, 0))
  | .map es cl, o => ∃ l, o = .map l cl ∧ ERs m es l.toList
  | .lent _ cs, o => ∃ c e fz pre vs rest, o = .cells c e fz ∧ c.toList = pre ++ (vs ++ rest) ∧ pre.length = k.o ∧ VRs m cs vs ∧ (true = true → k.o = 0 ∧ c.size = k.C ∧ fz = (0, 0))
  | .loop L, o => ∃ r : Loop, o = .loop r ∧ r.state = L.state ∧ r.pending = L.pending ∧ r.params.toList = L.params ∧ r.assign = L.assign ∧ r.body = L.body ∧ TR m L.n L.tmps r.tmps ∧
      (∃ kd, m L.defers = some kd ∧ r.defers = kd.b)
  | .dfr b, o => o = .deferred (if b then some [] else none)
  | .iter r since seen last, o => k.o = 0 ∧ (match r with
    | none => o = .mapIter none since seen.toArray last
    | some r => ∃ kr, m r = some kr ∧ o = .mapIter (some kr.b) since seen.toArray last)
theorem OR.mono {m m' : NM} (h : Le m m') {k : Blk} {a : AObj} {o : Obj} (r : OR m k a o) : OR m' k a o := by
  cases a with
  | cells w cs =>
    obtain ⟨c, e, fz, pre, vs, rest, ho, hc, hp, hv, hw⟩ := r
    exact ⟨c, e, fz, pre, vs, rest, ho, hc, hp, hv.mono h, hw⟩
  | map es cl =>
    obtain ⟨l, ho, hl⟩ := r
    exact ⟨l, ho, hl.mono h⟩
  | lent _ cs =>
    obtain ⟨c, e, fz, pre, vs, rest, ho, hc, hp, hv, hw⟩ := r
    exact ⟨c, e, fz, pre, vs, rest, ho, hc, hp, hv.mono h, hw⟩
  | loop L =>
    obtain ⟨r, ho, h1, h2, h3, h4, h5, h6, ⟨kd, h7, h8⟩⟩ := r
    exact ⟨r, ho, h1, h2, h3, h4, h5, h6.mono h, ⟨kd, h _ _ h7, h8⟩⟩
  | dfr b => exact r
  | iter r' since seen last =>
    cases r' with
    | none => exact r
    | some r' =>
      obtain ⟨h0, kr, h1, h2⟩ := r
      exact ⟨h0, kr, h _ _ h1, h2⟩

def Shares (i j : Nat) (a b : AObj) : Prop := i = j ∨ ∃ r ci cj, a = .lent r ci ∧ b = .lent r cj ∧ (i < j → ci.length ≤ cj.length) ∧ (j < i → cj.length ≤ ci.length)
def AObj.solo : AObj → Bool
  | .lent _ _ => false
  | _ => true
theorem Shares.eq {i j : Nat} {a b : AObj} (h : Shares i j a b) (ha : a.solo = true) : i = j := by
  rcases h with h | ⟨r, ci, cj, rfl, _⟩
  · exact h
  · cases ha
theorem Shares.eq_right {i j : Nat} {a b : AObj} (h : Shares i j a b) (hb : b.solo = true) : i = j := by
  rcases h with h | ⟨r, ci, cj, _, rfl, _⟩
  · exact h
  · cases hb
structure Rel (m : NM) (H : Hp) (W : World) : Prop where
  obj : ∀ n ob, H.get n = some ob → ∃ k o, m n = some k ∧ W.heap[k.b]? = some o ∧ OR m k ob o
  inj : ∀ i j oi oj ki kj, H.get i = some oi → H.get j = some oj → m i = some ki → m j = some kj → oi.writable = true → ki.b = kj.b → Shares i j oi oj
def Owns (m : NM) (H : Hp) (w b : Nat) : Prop := ∃ i oi ki, w ≤ i ∧ H.get i = some oi ∧ oi.writable = true ∧ m i = some ki ∧ ki.b = b
def ObOk : AObj → Prop
  | .loop L => codeOk L.assign = true ∧ codeOk L.body = true ∧ ∀ c, L.pending = some c → codeOk c = true
  | _ => True
structure Wf (H : Hp) (nx : Nat) : Prop where
  none : ∀ n, nx ≤ n → H.t.get n = none
  bad : ∀ p ∈ H.bad, p.2 ≤ nx
  ok : ∀ n ob, H.t.get n = some ob → ObOk ob
def Kin (a b : AObj) : Prop := a.writable = b.writable ∧ ∀ L0, a = .loop L0 → ∃ L, b = .loop L ∧ L.assign = L0.assign ∧ L.body = L0.body
theorem Kin.refl (a : AObj) : Kin a a := ⟨rfl, fun L0 h => ⟨L0, h, rfl, rfl⟩⟩
theorem Kin.trans {a b c : AObj} (h : Kin a b) (k : Kin b c) : Kin a c := ⟨h.1.trans k.1, fun L0 e => by
  obtain ⟨L, e1, h1, h2⟩ := h.2 L0 e
  obtain ⟨L', e2, k1, k2⟩ := k.2 L e1
  exact ⟨L', e2, k1.trans h1, k2.trans h2⟩⟩
structure AP (H : Hp) (nx : Nat) (H' : Hp) (nx' : Nat) : Prop where
  le : nx ≤ nx'
  bad : H'.bad = H.bad
  wr : H'.wr ≤ H.wr
  same : ∀ n, n < nx → n < H'.wr → H'.t.get n = H.t.get n
  old : ∀ n o, n < nx → H'.t.get n = some o → ∃ o0, H.t.get n = some o0 ∧ Kin o0 o
  wf : Wf H' nx'
structure Post (m : NM) (H : Hp) (nx : Nat) (W : World) (m' : NM) (H' : Hp) (nx' : Nat) (W' : World) : Prop where
  le : Le m m'
  new : ∀ n k, m' n = some k → m n = some k ∨ (nx ≤ n ∧ n < nx' ∧ (W.heap.size ≤ k.b ∨ Owns m H H'.wr k.b))
  rel : Rel m' H' W'
  frame : ∀ b, b < W.heap.size → ¬ Owns m H H'.wr b → W'.heap[b]? = W.heap[b]?
  os : W'.os = W.os
  tape : W'.tape = W.tape
  output : W'.output = W.output
  size : W.heap.size ≤ W'.heap.size
def Fresh (m : NM) (nx nx' : Nat) : Prop := ∀ n, nx ≤ n → n < nx' → m n = none

theorem hid_iff {l : List (Nat × Nat)} {n : Nat} : hid l n = true ↔ ∃ p ∈ l, p.1 ≤ n ∧ n < p.2 := by
  induction l with
  | nil => simp [hid]
  | cons p l ih =>
    obtain ⟨a, b⟩ := p
    simp only [hid, Bool.cond_eq_ite, Nat.ble_eq, List.mem_cons, exists_eq_or_imp]
    by_cases h1 : a ≤ n
    · by_cases h2 : b ≤ n
      · simp only [h1, h2, if_true, ih]; constructor
        · exact .inr
        · rintro (h | h); omega; exact h
      · simp only [h1, h2, if_true, if_false, true_iff]; exact .inl ⟨trivial, by omega⟩
    · simp only [h1, if_false, ih]; constructor
      · exact .inr
      · rintro (h | h); exact h.1.elim; exact h
theorem Hp.get_eq (H : Hp) (n : Nat) : H.get n = if hid H.bad n = true then none else H.t.get n := by simp [Hp.get, Bool.cond_eq_ite]
theorem Hp.get_some {H : Hp} {n : Nat} {o : AObj} : H.get n = some o ↔ hid H.bad n = false ∧ H.t.get n = some o := by
  rw [Hp.get_eq]; cases hid H.bad n <;> simp
theorem Wf.gone {H : Hp} {nx n : Nat} (h : Wf H nx) (hn : nx ≤ n) : H.get n = Option.none := by rw [Hp.get_eq, h.none n hn]; simp
theorem Wf.lt {H : Hp} {nx n : Nat} {o : AObj} (h : Wf H nx) (hn : H.get n = some o) : n < nx := by
  rcases Nat.lt_or_ge n nx with h1 | h1
  · exact h1
  · rw [h.gone h1] at hn; cases hn
theorem Wf.seen {H : Hp} {nx n : Nat} (h : Wf H nx) (hn : nx ≤ n) : hid H.bad n = false := by
  cases e : hid H.bad n with
  | false => rfl
  | true => obtain ⟨p, hp, h1, h2⟩ := hid_iff.1 e; have := h.bad p hp; omega
theorem Rel.lt {m : NM} {H : Hp} {W : World} (h : Rel m H W) {n : Nat} {ob : AObj} {k : Blk} (hn : H.get n = some ob) (hk : m n = some k) : k.b < W.heap.size := by
  obtain ⟨k', o, h1, h2, _⟩ := h.obj n ob hn
  rw [hk] at h1; cases h1
  exact (Array.getElem?_eq_some_iff.1 h2).1
theorem lower_le_left (a b : Nat) : lower a b ≤ a := by simp only [lower, Bool.cond_eq_ite, Nat.ble_eq]; split <;> omega
theorem lower_le_right (a b : Nat) : lower a b ≤ b := by simp only [lower, Bool.cond_eq_ite, Nat.ble_eq]; split <;> omega

theorem AP.refl {H : Hp} {nx : Nat} (h : Wf H nx) : AP H nx H nx := ⟨Nat.le_refl _, rfl, Nat.le_refl _, fun _ _ _ => rfl, fun _ o _ h => ⟨o, h, Kin.refl o⟩, h⟩
theorem AP.trans {H H1 H2 : Hp} {nx n1 n2 : Nat} (a : AP H nx H1 n1) (b : AP H1 n1 H2 n2) : AP H nx H2 n2 where
  le := Nat.le_trans a.le b.le
  bad := b.bad.trans a.bad
  wr := Nat.le_trans b.wr a.wr
  same := fun n h1 h2 => (b.same n (Nat.lt_of_lt_of_le h1 a.le) h2).trans (a.same n h1 (Nat.lt_of_lt_of_le h2 b.wr))
  old := fun n o h1 h2 => by
    obtain ⟨o1, e1, f1⟩ := b.old n o (Nat.lt_of_lt_of_le h1 a.le) h2
    obtain ⟨o0, e0, f0⟩ := a.old n o1 h1 e1
    exact ⟨o0, e0, f0.trans f1⟩
  wf := b.wf
theorem AP.get_old {H H' : Hp} {nx nx' : Nat} (a : AP H nx H' nx') {n : Nat} {o : AObj} (hn : n < nx) (h : H'.get n = some o) : ∃ o0, H.get n = some o0 ∧ Kin o0 o := by
  obtain ⟨h1, h2⟩ := Hp.get_some.1 h
  obtain ⟨o0, e0, f0⟩ := a.old n o hn h2
  exact ⟨o0, Hp.get_some.2 ⟨by rw [← a.bad]; exact h1, e0⟩, f0⟩
theorem Post.refl {m : NM} {H : Hp} {nx : Nat} {W : World} (h : Rel m H W) : Post m H nx W m H nx W :=
  ⟨Le.refl m, fun _ _ h => .inl h, h, fun _ _ _ => rfl, rfl, rfl, rfl, Nat.le_refl _⟩
theorem Owns.back {m m1 : NM} {H H1 : Hp} {nx n1 : Nat} {W W1 : World} (a : AP H nx H1 n1) (hF : Fresh m nx n1) (p : Post m H nx W m1 H1 n1 W1) {w b : Nat} (hw : w ≤ H1.wr) (h : Owns m1 H1 w b) : W.heap.size ≤ b ∨ Owns m H w b := by
  obtain ⟨i, oi, ki, h1, h2, h3, h4, h5⟩ := h
  rcases p.new i ki h4 with h6 | ⟨_, _, h6 | h6⟩
  · rcases Nat.lt_or_ge i nx with h7 | h7
    · obtain ⟨o0, e0, f0⟩ := a.get_old h7 h2
      exact .inr ⟨i, o0, ki, h1, e0, f0.1.trans h3, h6, h5⟩
    · have := hF i h7 (a.wf.lt h2)
      rw [this] at h6; cases h6
  · exact .inl (h5 ▸ h6)
  · obtain ⟨j, oj, kj, g1, g2⟩ := h6
    exact .inr ⟨j, oj, kj, Nat.le_trans hw g1, by rw [← h5]; exact g2⟩
theorem Post.trans {m m1 m2 : NM} {H H1 H2 : Hp} {nx n1 n2 : Nat} {W W1 W2 : World} (a : AP H nx H1 n1) (b : AP H1 n1 H2 n2) (hF : Fresh m nx n1) (p : Post m H nx W m1 H1 n1 W1) (q : Post m1 H1 n1 W1 m2 H2 n2 W2) :
    Post m H nx W m2 H2 n2 W2 where
  le := p.le.trans q.le
  new := fun n k h => by
    rcases q.new n k h with h | ⟨h1, h2, h3⟩
    · rcases p.new n k h with h | ⟨h1, h2, h3⟩
      · exact .inl h
      · refine .inr ⟨h1, Nat.lt_of_lt_of_le h2 b.le, h3.imp id ?_⟩
        rintro ⟨i, oi, ki, g1, g2⟩
        exact ⟨i, oi, ki, Nat.le_trans b.wr g1, g2⟩
    · refine .inr ⟨Nat.le_trans a.le h1, h2, ?_⟩
      rcases h3 with h3 | h3
      · exact .inl (Nat.le_trans p.size h3)
      · exact h3.back a hF p b.wr
  rel := q.rel
  frame := fun k hk hn => by
    refine (q.frame k (Nat.lt_of_lt_of_le hk p.size) (fun h => ?_)).trans (p.frame k hk (fun h => hn ?_))
    · rcases h.back a hF p b.wr with h | h
      · omega
      · exact hn h
    · obtain ⟨i, oi, ki, g1, g2⟩ := h
      exact ⟨i, oi, ki, Nat.le_trans b.wr g1, g2⟩
  os := q.os.trans p.os
  tape := q.tape.trans p.tape
  output := q.output.trans p.output
  size := Nat.le_trans p.size q.size
theorem Fresh.left {m : NM} {nx n1 n2 : Nat} (h : Fresh m nx n2) (h2 : n1 ≤ n2) : Fresh m nx n1 := fun n a b => h n a (by omega)
theorem Post.fresh {m m1 : NM} {H H1 : Hp} {nx n1 n2 : Nat} {W W1 : World} (p : Post m H nx W m1 H1 n1 W1) (h : Fresh m nx n2) (h1 : nx ≤ n1) : Fresh m1 n1 n2 := fun n a b => by
  cases e : m1 n with
  | none => rfl
  | some k =>
    rcases p.new n k e with h2 | ⟨_, h2, _⟩
    · rw [h n (by omega) b] at h2; cases h2
    · omega
end Abs
end Go.Proofs.YtekmmeikkafpmaaGreat

namespace Go.Proofs.YtekmmeikkafpmaaGreat
namespace Abs
open Go.RowKit
variable {P : Program} {m : NM}

theorem info_of {t : TypeId} {n : Nat} (h : sz P t = some n) : ∃ i, P.info? t = some i ∧ i.size = n := by
  unfold sz at h
  cases e : P.info? t with
  | none => simp [e] at h
  | some i => exact ⟨i, rfl, by simpa [e] using h⟩
theorem run_info {t : TypeId} {i : TypeInfo} (h : P.info? t = some i) (w : World) : (typeInfo t).run P w = .ok i w := by simp [typeInfo, h]
theorem run_size {t : TypeId} {n : Nat} (h : sz P t = some n) (w : World) : (sizeOf t).run P w = .ok n w := by
  obtain ⟨i, hi, rfl⟩ := info_of h
  simp [sizeOf, run_info hi]
theorem zero_ok {t : TypeId} {z : AV} (h : zero P t = some z) : ∃ v, VR m z v ∧ ∃ i, P.info? t = some i ∧ i.zero = some v := by
  unfold zero at h
  cases e : P.info? t with
  | none => simp [e] at h
  | some i => cases e2 : i.zero with
    | none => simp [e, e2] at h
    | some v => simp [e, e2] at h; exact ⟨v, ofV_ok _ _ _ h, i, rfl, e2⟩
theorem run_zero {t : TypeId} {i : TypeInfo} {v : Value} (h : P.info? t = some i) (hz : i.zero = some v) (w : World) : (zeroValue t).run P w = .ok v w := by
  simp [zeroValue, run_info h, hz]
theorem run_isAgg {t : TypeId} {b : Bool} (h : isAggT P t = some b) (w : World) : (isAgg t).run P w = .ok b w := by
  unfold isAggT at h
  cases e : P.underlying t with
  | none => simp [e] at h
  | some d => cases d <;> simp [e] at h <;> subst h <;> simp [isAgg, run_underlying e]

theorem takeN_ok {cs l : List AV} {vs : List Value} {off n : Nat} (h : takeN cs off n = some l) (hv : VRs m cs vs) : VRs m l ((vs.drop off).take n) ∧ ((vs.drop off).take n).length = n ∧ off + n ≤ vs.length ∨ n = 0 ∧ l = [] := by
  unfold takeN at h
  rw [Bool.cond_eq_ite] at h
  split at h
  · rename_i hl
    cases h
    have h1 := (hv.drop off).take n
    have h2 := h1.length
    rw [Nat.beq_eq] at hl
    rw [hl] at h2
    rcases Nat.eq_zero_or_pos n with rfl | hn
    · exact .inr ⟨rfl, by simp⟩
    · refine .inl ⟨h1, h2, ?_⟩
      simp at h2; omega
  · cases h
theorem takeN_vrs {cs l : List AV} {vs : List Value} {off n : Nat} (h : takeN cs off n = some l) (hv : VRs m cs vs) : VRs m l ((vs.drop off).take n) ∧ ((vs.drop off).take n).length = n := by
  rcases takeN_ok h hv with ⟨h1, h2, _⟩ | ⟨rfl, rfl⟩
  · exact ⟨h1, h2⟩
  · simp [VRs]
theorem extract_toList (vs : Array Value) (off n : Nat) : (vs.extract off (off + n)).toList = (vs.toList.drop off).take n := by
  simp [Array.toList_extract, List.extract_eq_take_drop]
theorem part_ok {t : TypeId} {cs : List AV} {vs : Array Value} {off : Nat} {a : AV} (h : partT P t cs off = some a) (hv : VRs m cs vs.toList) : ∃ v, VR m a v ∧ ∀ w, (part t vs off).run P w = .ok v w := by
  unfold partT at h
  cases e : isAggT P t with
  | none => simp [e] at h
  | some b =>
    cases b with
    | false =>
      simp [e] at h
      obtain ⟨v, h1, h2⟩ := hv.get h
      rw [Array.getElem?_toList] at h1
      exact ⟨v, h2, fun w => by simp [part, run_isAgg e, h1]⟩
    | true =>
      cases e2 : sz P t with
      | none => simp [e, e2] at h
      | some n =>
        simp [e, e2] at h
        obtain ⟨l, hl, rfl⟩ := h
        obtain ⟨h1, h2⟩ := takeN_vrs hl hv
        refine ⟨.agg (vs.extract off (off + n)), ?_, fun w => by simp [part, run_isAgg e, run_size e2]⟩
        simp only [VR]
        exact ⟨_, rfl, by rw [extract_toList]; exact h1⟩

theorem evalO_ok {T : Tr AV} {a : Act} {x : Operand} {v : AV} (ht : ∀ t, x = .tmp t → VU m (T.get t) (a.tmps.getD t undef)) (h : evalO T x = some v) : VR m v (a.eval x) := by
  cases x with
  | tmp t => exact (ht t rfl).of h
  | const c => exact ofV_ok _ _ _ h
  | global g => simp [evalO] at h
  | func f => simp [evalO] at h; subst h; simp only [VR, Act.eval]; exact ⟨#[], #[], rfl, .nil, .nil⟩

def Ev (m : NM) (T : Tr AV) (ρ : Operand → Value) (xs : Array Operand) : Prop := ∀ x ∈ xs, ∀ v, evalO T x = some v → VR m v (ρ x)
section ev
variable {T : Tr AV} {ρ : Operand → Value}
theorem evalL_ok : ∀ {xs : List Operand} {l : List AV}, (∀ x ∈ xs, ∀ v, evalO T x = some v → VR m v (ρ x)) → evalL T xs = some l → VRs m l (xs.map ρ) := by
  intro xs
  induction xs with
  | nil => intro l _ h; simp [evalL] at h; subst h; exact .nil
  | cons x xs ih =>
    intro l hx h
    unfold evalL at h
    cases h1 : evalO T x with
    | none => simp [h1] at h
    | some a => cases h2 : evalL T xs with
      | none => simp [h1, h2] at h
      | some l => simp [h1, h2] at h; subst h; exact .cons (hx x (by simp) _ h1) (ih (fun y hy => hx y (by simp [hy])) h2)
def PRs (m : NM) : List (Nat × AV) → List (Nat × Value) → Prop
  | [], l => l = []
  | p :: ps, l => ∃ v t, l = (p.1, v) :: t ∧ VR m p.2 v ∧ PRs m ps t
theorem evalP_ok : ∀ {xs : List (Nat × Operand)} {l : List (Nat × AV)}, (∀ p ∈ xs, ∀ v, evalO T p.2 = some v → VR m v (ρ p.2)) → evalP T xs = some l → PRs m l (xs.map fun p => (p.1, ρ p.2)) := by
  intro xs
  induction xs with
  | nil => intro l _ h; simp [evalP] at h; subst h; rfl
  | cons p xs ih =>
    obtain ⟨i, x⟩ := p
    intro l hx h
    unfold evalP at h
    cases h1 : evalO T x with
    | none => simp [h1] at h
    | some a => cases h2 : evalP T xs with
      | none => simp [h1, h2] at h
      | some l => simp [h1, h2] at h; subst h; exact ⟨ρ x, _, rfl, hx (i, x) (by simp) _ h1, ih (fun y hy => hx y (by simp [hy])) h2⟩
end ev

theorem foldl_set (cs : List Value) : ∀ (off j : Nat) (vs : Array Value), off + j + cs.length ≤ vs.size →
    ((cs.zipIdx j).foldl (fun (a : Array Value) (p : Value × Nat) => a.setIfInBounds (off + p.2) p.1) vs).toList = vs.toList.take (off + j) ++ cs ++ vs.toList.drop (off + j + cs.length) := by
  induction cs with
  | nil => intro off j vs h; simp
  | cons c cs ih =>
    intro off j vs h
    simp at h
    simp only [List.zipIdx_cons, List.foldl_cons]
    rw [show off + j + (c :: cs).length = off + (j + 1) + cs.length by simp; omega]
    rw [ih off (j + 1) _ (by simp; omega)]
    simp only [Array.toList_setIfInBounds]
    rw [show off + (j + 1) = (off + j) + 1 by omega, List.drop_set_of_lt (by omega)]
    have : (vs.toList.set (off + j) c).take (off + j + 1) = vs.toList.take (off + j) ++ [c] := by
      rw [List.take_set, List.take_succ_eq_append_getElem (by simp; omega)]
      rw [List.set_append_right _ _ (by simp; omega)]
      simp [show min (off + j) vs.size = off + j by omega]
    rw [this]; simp
theorem fill_ok {place place' : Nat → Option (Nat × Nat)} (hp : ∀ i x, place i = some x → place' i = some x) : ∀ {ps : List (Nat × AV)} {cs cs' : List AV} {pvs : List (Nat × Value)} {vs : Array Value}, fillL place cs ps = some cs' → PRs m ps pvs → VRs m cs vs.toList →
    ∃ vs', Instr.fill place' vs pvs = some vs' ∧ VRs m cs' vs'.toList := by
  intro ps
  induction ps with
  | nil => intro cs cs' pvs vs h hps hv; cases hps; simp [fillL] at h; subst h; exact ⟨vs, rfl, hv⟩
  | cons p ps ih =>
    obtain ⟨i, a⟩ := p
    intro cs cs' pvs vs h hps hv
    obtain ⟨v, t, rfl, h1, h2⟩ := hps
    simp only [fillL] at h
    cases hpl : place i with
    | none => simp [hpl] at h
    | some x =>
      obtain ⟨off, size⟩ := x
      simp only [hpl, Bool.cond_eq_ite, Nat.beq_eq, Nat.ble_eq] at h
      split at h
      · rename_i hs
        split at h
        · rename_i hb
          cases hc : setAt cs off a.cells with
          | none => simp [hc] at h
          | some c2 =>
            simp only [hc] at h
            have hcl := h1.cells
            have hlen : v.cells.size = size := by rw [← Array.length_toList, hcl.length, hs]
            have hvl := hv.length
            rw [Array.length_toList] at hvl
            obtain ⟨_, _, h4⟩ := setAt_ok hv hc hcl
            have hf := foldl_set v.cells.toList off 0 vs (by simp; omega)
            simp only [Nat.add_zero, Array.length_toList] at hf
            have hz : (v.cells.zipIdx.foldl (fun (cs : Array Value) (p : Value × Nat) => cs.setIfInBounds (off + p.2) p.1) vs).toList = vs.toList.take off ++ v.cells.toList ++ vs.toList.drop (off + v.cells.size) := by
              rw [← hf, ← Array.foldl_toList]; simp
            obtain ⟨vs', hv1, hv2⟩ := ih h h2 (vs := v.cells.zipIdx.foldl (fun (cs : Array Value) (p : Value × Nat) => cs.setIfInBounds (off + p.2) p.1) vs) (by rw [hz]; simpa using h4)
            refine ⟨vs', ?_, hv2⟩
            simp only [Instr.fill, hp i _ hpl]
            rw [if_neg (by simp [hlen]; omega)]
            exact hv1
        · cases h
      · cases h
theorem places_ok : ∀ {fs : List Field} {pl : List (Nat × Nat)}, placesA P fs = some pl → fs.mapM (fun f => (P.info? f.type).map fun i => (f.offset, i.size)) = some pl := by
  intro fs
  induction fs with
  | nil => intro pl h; simp [placesA] at h; subst h; rfl
  | cons f fs ih =>
    intro pl h
    unfold placesA at h
    cases h1 : sz P f.type with
    | none => simp [h1] at h
    | some n => cases h2 : placesA P fs with
      | none => simp [h1, h2] at h
      | some l =>
        simp [h1, h2] at h; subst h
        obtain ⟨i, hi, rfl⟩ := info_of h1
        simp [List.mapM_cons, hi, ih h2]
theorem build_ok {t : TypeId} {z a : AV} {ps : List (Nat × AV)} {parts : Array (Nat × Value)} (hz : zero P t = some z) (hp : PRs m ps parts.toList)
    (h : buildA P t z.cells ps = some a) : ∃ v, VR m a v ∧ ∀ w, (Instr.build t parts).run P w = .ok v w := by
  obtain ⟨zv, hzv, i, hi, hiz⟩ := zero_ok (m := m) hz
  unfold buildA at h
  cases hu : P.underlying t with
  | none => simp [hu] at h
  | some d =>
    cases d <;> simp [hu] at h
    case struct fs =>
      cases hpl : placesA P fs.toList with
      | none => simp [hpl] at h
      | some pl =>
        simp [hpl] at h
        obtain ⟨cs, hc, rfl⟩ := h
        obtain ⟨vs', h1, h2⟩ := fill_ok (place' := (pl.toArray[·]?)) (fun i x hx => by simpa using hx) hc hp hzv.cells
        refine ⟨.agg vs', by simp only [VR]; exact ⟨_, rfl, h2⟩, fun w => run_build w t parts vs' ?_⟩
        simp only [Program.built, hi, hu, hiz, places_ok hpl]
        exact h1
    case array n e =>
      cases hs : sz P e with
      | none => simp [hs] at h
      | some size =>
        simp [hs] at h
        obtain ⟨cs, hc, rfl⟩ := h
        obtain ⟨ie, hie, rfl⟩ := info_of hs
        obtain ⟨vs', h1, h2⟩ := fill_ok (fun i x hx => hx) hc hp hzv.cells
        refine ⟨.agg vs', by simp only [VR]; exact ⟨_, rfl, h2⟩, fun w => run_build w t parts vs' ?_⟩
        simp [Program.built, hi, hu, hiz, hie, h1]

theorem ext_beq (a b : ByteArray) : (a == b) = (a.toList == b.toList) := beq_toListBytes a b
def eqCellsL (d : Nat) (e : TypeId) (n : Nat) (xs ys : Array Value) : List Nat → Sem Bool
  | [] => pure true
  | i :: l => do
    if !(← Op.equalIn d e (← part e xs (i * n)) (← part e ys (i * n))) then return false
    eqCellsL d e n xs ys l
theorem run_equalIn_array (w : World) (d : Nat) (t e : TypeId) (len n : Nat) (xs ys : Array Value) (ht : P.underlying t = some (.array len e)) (hn : (sizeOf e).run P w = .ok n w) :
    (Op.equalIn (d + 1) t (.agg xs) (.agg ys)).run P w = (eqCellsL d e n xs ys (List.range' 0 len)).run P w := by
  simp only [Op.equalIn, Sem.run_bind, run_underlying ht, Result.andThen_ok, hn]
  rw [Std.Legacy.Range.forIn_eq_forIn_range']
  simp only [Std.Legacy.Range.size, Nat.sub_zero, Nat.add_sub_cancel, Nat.div_one]
  clear ht hn
  generalize List.range' 0 len = is
  induction is generalizing w with
  | nil => simp [eqCellsL]
  | cons i is ih =>
    simp only [List.forIn_cons, eqCellsL, Sem.run_bind, Sem.run_ite]
    generalize (part e xs (i * n)).run P w = r1
    cases r1 with
    | ok a w1 =>
      simp only [Result.andThen_ok]
      generalize (part e ys (i * n)).run P w1 = r2
      cases r2 with
      | ok b w2 =>
        simp only [Result.andThen_ok]
        generalize (Op.equalIn d e a b).run P w2 = r3
        cases r3 with
        | ok r w3 =>
          cases r
          · simp only [Result.andThen_ok, Bool.not_false, if_true, Sem.run_pure]
          · simp only [Result.andThen_ok, Bool.not_true, Bool.false_eq_true, if_false, Sem.run_pure]
            exact ih w3
        | halt x w3 => simp [Result.andThen]
      | halt x w2 => simp [Result.andThen]
    | halt x w1 => simp [Result.andThen]
mutual
theorem eqv_ok : (d : Nat) → (t : TypeId) → (x y : AV) → (r : Bool) → eqv P d t x y = some r → (vx vy : Value) → VR m x vx → VR m y vy → ∀ (w : World) (d' : Nat), d ≤ d' → (Op.equalIn d' t vx vy).run P w = .ok r w
  | 0, _, _, _, _, h, _, _, _, _, _, _, _ => by simp [eqv] at h
  | d + 1, t, x, y, r, h, vx, vy, hx, hy, w, d', hd => by
    obtain ⟨d', rfl⟩ : ∃ e, d' = e + 1 := ⟨d' - 1, by omega⟩
    unfold eqv at h
    split at h
    all_goals (try (cases h; done))
    · rename_i hu; simp only [VR] at hx hy; subst hx hy; cases h; simp [Op.equalIn, run_underlying hu]
    · rename_i hu; simp only [VR] at hx hy; subst hx hy
      split at h
      · rename_i e; subst e; cases h; simp [Op.equalIn, run_underlying hu]
      · cases h
    · rename_i hu; simp only [VR] at hx hy; subst hx hy; cases h; simp [Op.equalIn, run_underlying hu, ext_beq]
    · rename_i hu; simp only [VR] at hx hy; subst hx hy; cases h; simp [Op.equalIn, run_underlying hu]
    · rename_i hu; simp only [VR] at hx hy; obtain ⟨k, _, rfl⟩ := hy; subst hx; cases h; simp [Op.equalIn, run_underlying hu]
    · rename_i hu; simp only [VR] at hx hy; obtain ⟨k, _, rfl⟩ := hx; subst hy; cases h; simp [Op.equalIn, run_underlying hu]
    · rename_i hu; simp only [VR] at hx hy; subst hx hy; cases h; simp [Op.equalIn, run_underlying hu]
    · rename_i hu; obtain ⟨A, c, rfl, _⟩ := hy.slice_some; simp only [VR] at hx; subst hx; cases h; simp [Op.equalIn, run_underlying hu]
    · rename_i hu; obtain ⟨A, c, rfl, _⟩ := hx.slice_some; simp only [VR] at hy; subst hy; cases h; simp [Op.equalIn, run_underlying hu]
    · rename_i hu; simp only [VR] at hx hy; subst hx hy; cases h; simp [Op.equalIn, run_underlying hu]
    · rename_i hu; simp only [VR] at hx hy; obtain ⟨k, _, rfl⟩ := hy; subst hx; cases h; simp [Op.equalIn, run_underlying hu]
    · rename_i hu; simp only [VR] at hx hy; obtain ⟨k, _, rfl⟩ := hx; subst hy; cases h; simp [Op.equalIn, run_underlying hu]
    · rename_i hu; simp only [VR] at hx hy; subst hx hy; cases h; simp [Op.equalIn, run_underlying hu]
    · rename_i hu; simp only [VR] at hx hy; obtain ⟨a, b, rfl, _⟩ := hy; subst hx; cases h; simp [Op.equalIn, run_underlying hu]
    · rename_i hu; simp only [VR] at hx hy; obtain ⟨a, b, rfl, _⟩ := hx; subst hy; cases h; simp [Op.equalIn, run_underlying hu]
    · rename_i fs xs ys hu
      simp only [VR] at hx hy
      obtain ⟨ax, rfl, hx⟩ := hx
      obtain ⟨ay, rfl, hy⟩ := hy
      cases hs : P.stoodInHeld t with
      | true => simp [hs] at h
      | false =>
        simp [hs] at h
        have hf : P.fieldsOf t = fs := by simp [Program.fieldsOf, hu]
        rw [run_equalIn_struct w d' t ax ay (by rw [hf]; exact hu) hs, hf]
        exact eqvF_ok d fs.toList xs ys r h ax ay hx hy w d' (by omega)
    · rename_i len e xs ys hu
      simp only [VR] at hx hy
      obtain ⟨ax, rfl, hx⟩ := hx
      obtain ⟨ay, rfl, hy⟩ := hy
      cases hn : sz P e with
      | none => simp [hn] at h
      | some n =>
        simp only [hn] at h
        rw [run_equalIn_array w d' t e len n ax ay hu (run_size hn w)]
        exact eqvL_ok d e n (List.range' 0 len) xs ys r h ax ay hx hy w d' (by omega)
theorem eqvL_ok : (d : Nat) → (e : TypeId) → (n : Nat) → (is : List Nat) → (xs ys : List AV) → (r : Bool) → eqvL P d e n is xs ys = some r → (ax ay : Array Value) → VRs m xs ax.toList → VRs m ys ay.toList → ∀ (w : World) (d' : Nat), d ≤ d' → (eqCellsL d' e n ax ay is).run P w = .ok r w
  | 0, _, _, _, _, _, _, h, _, _, _, _, _, _, _ => by simp [eqvL] at h
  | d + 1, _, _, [], _, _, r, h, _, _, _, _, w, d', _ => by simp [eqvL] at h; subst h; simp [eqCellsL]
  | d + 1, e, n, i :: is, xs, ys, r, h, ax, ay, hx, hy, w, d', hd => by
    unfold eqvL at h
    simp only [eqCellsL]
    cases h1 : partT P e xs (i * n) with
    | none => simp [h1] at h
    | some x =>
      cases h2 : partT P e ys (i * n) with
      | none => simp [h1, h2] at h
      | some y =>
        simp only [h1, h2] at h
        obtain ⟨vx, hvx, hrx⟩ := part_ok h1 hx
        obtain ⟨vy, hvy, hry⟩ := part_ok h2 hy
        cases h3 : eqv P d e x y with
        | none => simp [h3] at h
        | some b =>
          have := eqv_ok d e x y b h3 vx vy hvx hvy w d' (by omega)
          cases b with
          | true =>
            simp [h3] at h
            simp [hrx, hry, this, eqvL_ok d e n is xs ys r h ax ay hx hy w d' (by omega)]
          | false =>
            simp [h3] at h; subst h
            simp [hrx, hry, this]
theorem eqvF_ok : (d : Nat) → (fs : List Field) → (xs ys : List AV) → (r : Bool) → eqvF P d fs xs ys = some r → (ax ay : Array Value) → VRs m xs ax.toList → VRs m ys ay.toList → ∀ (w : World) (d' : Nat), d ≤ d' → (Op.eqFields d' ax ay fs).run P w = .ok r w
  | 0, _, _, _, _, h, _, _, _, _, _, _, _ => by simp [eqvF] at h
  | d + 1, [], _, _, r, h, _, _, _, _, w, d', _ => by simp [eqvF] at h; subst h; simp [Op.eqFields]
  | d + 1, f :: fs, xs, ys, r, h, ax, ay, hx, hy, w, d', hd => by
    unfold eqvF at h
    simp only [Op.eqFields]
    split at h
    · rename_i hn
      rw [if_neg (by simp [hn])]
      exact eqvF_ok d fs xs ys r h ax ay hx hy w d' (by omega)
    · rename_i hn
      rw [if_pos hn]
      cases h1 : partT P f.type xs f.offset with
      | none => simp [h1] at h
      | some x =>
        cases h2 : partT P f.type ys f.offset with
        | none => simp [h1, h2] at h
        | some y =>
          simp only [h1, h2] at h
          obtain ⟨vx, hvx, hrx⟩ := part_ok h1 hx
          obtain ⟨vy, hvy, hry⟩ := part_ok h2 hy
          cases h3 : eqv P d f.type x y with
          | none => simp [h3] at h
          | some b =>
            have := eqv_ok d f.type x y b h3 vx vy hvx hvy w d' (by omega)
            cases b with
            | true =>
              simp [h3] at h
              simp [hrx, hry, this, eqvF_ok d fs xs ys r h ax ay hx hy w d' (by omega)]
            | false =>
              simp [h3] at h; subst h
              simp [hrx, hry, this]
end
end Abs
end Go.Proofs.YtekmmeikkafpmaaGreat

namespace Go.Proofs.YtekmmeikkafpmaaGreat
namespace Abs
open Go.RowKit
variable {P : Program} {m : NM}

theorem guard_ok {op : BinOp} {t : TypeId} {x y : Operand} {a b : AV} {va vb : Value} (h : guardOk P t a b = true) (ha : VR m a va) (hb : VR m b vb) (w : World) : (eqGuard op t x y va vb).run P w = .ok () w := by
  unfold guardOk at h
  split at h
  · simp only [VR] at ha hb
    obtain ⟨xs, rfl, _⟩ := ha
    obtain ⟨ys, rfl, _⟩ := hb
    exact run_eqGuard_agg w op t x y xs ys (by simpa using h)
  · cases h
  · cases h
  · rename_i h2 _ h1
    have key : ∀ (u v : Value), (∀ xs ys, u = .agg xs → v = .agg ys → False) → (u = .nilIface → v = .nilIface → False) → (eqGuard op t x y u v).run P w = .ok () w := by
      intro u v g1 g2
      cases op <;> first
        | (simp [eqGuard]; done)
        | (cases u <;> cases v <;> first
            | (simp [eqGuard]; done)
            | exact (g1 _ _ rfl rfl).elim
            | exact (g2 rfl rfl).elim)
    refine key va vb ?_ ?_
    · rintro xs ys rfl rfl
      cases a <;> simp only [VR] at ha <;> simp at ha
      cases b <;> simp only [VR] at hb <;> simp at hb
      exact h1 _ _ rfl rfl
    · rintro rfl rfl
      cases a <;> simp only [VR] at ha <;> first
        | (exact (h2 rfl).elim)
        | (simp at ha; done)

theorem arith_ok {op : BinOp} {k : IntKind} {x y : Int} {v : AV} (h : arith op k x y = some v) (hsh : op ≠ .shl ∧ op ≠ .shr) (t : TypeId) : ∃ v', VR m v v' ∧ ∀ w, (binOp op t (.int k x) (.int k y)).run P w = .ok v' w := by
  cases op <;> simp only [arith] at h
  all_goals first
    | (cases h; done)
    | (cases h; exact ⟨_, by simp only [VR]; rfl, fun w => by simp [binOp, Op.intArith, Op.intBits, Op.intCmp]⟩)
    | (split at h
       · cases h
       · rename_i hy; cases h; exact ⟨_, by simp only [VR]; rfl, fun w => by simp [binOp, Op.intDiv, hy]⟩)
    | (exact absurd rfl hsh.1)
    | (exact absurd rfl hsh.2)

theorem VR.not_float {a : AV} {k : FloatKind} {b : Nat} (h : VR m a (.float k b)) : False := by
  cases a <;> simp only [VR] at h <;> simp at h
theorem VR.not_complex {a : AV} {k : FloatKind} {b c : Nat} (h : VR m a (.complex k b c)) : False := by
  cases a <;> simp only [VR] at h <;> simp at h
theorem VR.int_inv {a : AV} {k : IntKind} {n : Int} (h : VR m a (.int k n)) : a = .int k n := by
  cases a <;> simp only [VR] at h <;> simp at h
  obtain ⟨rfl, rfl⟩ := h; rfl
theorem VR.str_inv {a : AV} {s : ByteArray} (h : VR m a (.string s)) : a = .str s := by
  cases a <;> simp only [VR] at h <;> simp at h
  subst h; rfl
theorem not_int {a b : AV} {va vb : Value} (ha : VR m a va) (hb : VR m b vb) (h : ∀ (k : IntKind) (x : Int) (k' : IntKind) (y : Int), a = .int k x → b = .int k' y → False) : ∀ k x k' y, va = .int k x → vb = .int k' y → False := by
  rintro k x k' y rfl rfl
  exact h _ _ _ _ ha.int_inv hb.int_inv
theorem not_str {a b : AV} {va vb : Value} (ha : VR m a va) (hb : VR m b vb) (h : ∀ (x y : ByteArray), a = .str x → b = .str y → False) : ∀ x y, va = .string x → vb = .string y → False := by
  rintro x y rfl rfl
  exact h _ _ ha.str_inv hb.str_inv
theorem eql_def {a b : AV} {va vb : Value} (t : TypeId) (h1 : ∀ k x k' y, va = .int k x → vb = .int k' y → False) (h2 : ∀ x y, va = .string x → vb = .string y → False) (ha : VR m a va) (hb : VR m b vb) :
    binOp .eql t va vb = (do pure (.bool (← Op.equal t va vb))) := by
  cases va <;> cases vb <;> first
    | rfl
    | exact (h1 _ _ _ _ rfl rfl).elim
    | exact (h2 _ _ rfl rfl).elim
    | exact ha.not_float.elim
    | exact ha.not_complex.elim
theorem neq_def {a b : AV} {va vb : Value} (t : TypeId) (h1 : ∀ k x k' y, va = .int k x → vb = .int k' y → False) (h2 : ∀ x y, va = .string x → vb = .string y → False) (ha : VR m a va) (hb : VR m b vb) :
    binOp .neq t va vb = (do pure (.bool (!(← Op.equal t va vb)))) := by
  cases va <;> cases vb <;> first
    | rfl
    | exact (h1 _ _ _ _ rfl rfl).elim
    | exact (h2 _ _ rfl rfl).elim
    | exact ha.not_float.elim
    | exact ha.not_complex.elim
theorem bin_ok {op : BinOp} {t : TypeId} {xo yo : Operand} {a b r : AV} {va vb : Value} (h : binV P op t a b = some r) (ha : VR m a va) (hb : VR m b vb) :
    ∃ v, VR m r v ∧ ∀ w, (do eqGuard op t xo yo va vb; binOp op t va vb : Sem Value).run P w = .ok v w := by
  have hint : ∀ (k k' : IntKind) (x y : Int) (w : World), (eqGuard op t xo yo (.int k x) (.int k' y)).run P w = .ok () w := fun k k' x y w => by cases op <;> simp [eqGuard]
  have hstr : ∀ (x y : ByteArray) (w : World), (eqGuard op t xo yo (.string x) (.string y)).run P w = .ok () w := fun x y w => by cases op <;> simp [eqGuard]
  unfold binV at h
  split at h
  · simp only [VR] at ha hb; subst ha hb
    split at h
    · cases h
    · rename_i hb; cases h
      refine ⟨_, by simp only [VR]; rfl, fun w => ?_⟩
      simp [hint, binOp, Op.shift, hb]
  · simp only [VR] at ha hb; subst ha hb
    split at h
    · cases h
    · rename_i hb; cases h
      refine ⟨_, by simp only [VR]; rfl, fun w => ?_⟩
      simp [hint, binOp, Op.shift, hb]
  · rename_i h1 h2
    simp only [VR] at ha hb; subst ha hb
    split at h
    · rename_i e; subst e
      obtain ⟨v, h3, h4⟩ := arith_ok (P := P) (m := m) h ⟨h1, h2⟩ t
      exact ⟨v, h3, fun w => by simp [hint, h4]⟩
    · cases h
  · simp only [VR] at ha hb; subst ha hb
    cases op <;> simp only [strOp] at h
    all_goals first
      | (cases h; done)
      | (cases h; refine ⟨_, by simp only [VR]; rfl, fun w => ?_⟩; simp [hstr, binOp, Op.stringOp])
  · rename_i h1 h2
    simp only [Bool.cond_eq_ite] at h
    split at h
    · rename_i hg
      cases he : eqv P Op.maxDepth t a b with
      | none => simp [he] at h
      | some x =>
        simp [he] at h; subst h
        have h3 := fun w => eqv_ok Op.maxDepth t a b x he va vb ha hb w Op.maxDepth (Nat.le_refl _)
        refine ⟨.bool x, by simp only [VR], fun w => ?_⟩
        rw [eql_def t (not_int ha hb (by assumption)) (not_str ha hb (by assumption)) ha hb]
        simp [guard_ok hg ha hb, Op.equal, h3]
    · cases h
  · rename_i h1 h2
    simp only [Bool.cond_eq_ite] at h
    split at h
    · rename_i hg
      cases he : eqv P Op.maxDepth t a b with
      | none => simp [he] at h
      | some x =>
        simp [he] at h; subst h
        have h3 := fun w => eqv_ok Op.maxDepth t a b x he va vb ha hb w Op.maxDepth (Nat.le_refl _)
        refine ⟨.bool !x, by simp only [VR], fun w => ?_⟩
        rw [neq_def t (not_int ha hb (by assumption)) (not_str ha hb (by assumption)) ha hb]
        simp [guard_ok hg ha hb, Op.equal, h3]
    · cases h
  · cases h

theorem natOf_ok {a : AV} {n : Nat} {v : Value} (h : natOf a = some n) (hv : VR m a v) : ∃ k, v = .int k n := by
  unfold natOf at h
  split at h
  · cases h; simp only [VR] at hv; exact ⟨_, hv⟩
  · cases h
theorem run_bound {k : IntKind} {n y : Nat} (h : n ≤ y) (code : BoundsCode) (w : World) : (Instr.sliceBound (.int k n) y code).run P w = .ok n w := by
  simp [Instr.sliceBound, asIntOf, h]
theorem bounds_ok {len cap l h c : Nat} {lo hi : Option AV} {vlo vhi : Option Value} (hb : bounds len cap lo hi = some (l, h)) (hlo : ∀ a, lo = some a → ∃ v, vlo = some v ∧ VR m a v) (hlo' : lo = none → vlo = none)
    (hhi : ∀ a, hi = some a → ∃ v, vhi = some v ∧ VR m a v) (hhi' : hi = none → vhi = none) (hc : cap ≤ c) (s : Bool) : l ≤ h ∧ h ≤ cap ∧ ∀ w, (Instr.sliceBounds s len c vlo vhi none).run P w = .ok (l, h, c) w := by
  unfold bounds at hb
  cases e1 : limA len hi with
  | none => simp [e1] at hb
  | some h0 =>
    cases e2 : limA 0 lo with
    | none => simp [e1, e2] at hb
    | some l0 =>
      simp only [e1, e2, Bool.cond_eq_ite, Nat.ble_eq] at hb
      split at hb
      · split at hb
        · rename_i g1 g2
          simp only [Option.some.injEq, Prod.mk.injEq] at hb
          obtain ⟨rfl, rfl⟩ := hb
          refine ⟨g1, g2, fun w => ?_⟩
          have eh : ∀ w, (match vhi with | some v => Instr.sliceBound v c (if s then .sliceAcap else .sliceAlen) | none => pure len : Sem Nat).run P w = .ok h0 w := fun w => by
            cases hi with
            | none => simp [limA] at e1; subst e1; rw [hhi' rfl]; rfl
            | some a =>
              obtain ⟨v, rfl, hv⟩ := hhi a rfl
              obtain ⟨k, rfl⟩ := natOf_ok e1 hv
              exact run_bound (by omega) _ w
          have el : ∀ w, (match vlo with | some v => Instr.sliceBound v h0 .sliceB | none => pure 0 : Sem Nat).run P w = .ok l0 w := fun w => by
            cases lo with
            | none => simp [limA] at e2; subst e2; rw [hlo' rfl]; rfl
            | some a =>
              obtain ⟨v, rfl, hv⟩ := hlo a rfl
              obtain ⟨k, rfl⟩ := natOf_ok e2 hv
              exact run_bound g1 _ w
          cases vhi <;> cases vlo <;> simp at eh el <;> simp [Instr.sliceBounds, eh, el]
        · cases hb
      · cases hb

section ops
variable {T : Tr AV} {ρ : Operand → Value}
theorem opt_ok {x : Option Operand} {r : Option AV} (h : optO T x = some r) (hx : ∀ y, x = some y → ∀ v, evalO T y = some v → VR m v (ρ y)) : (∀ a, r = some a → ∃ v, x.map ρ = some v ∧ VR m a v) ∧ (r = none → x.map ρ = none) := by
  unfold optO at h
  cases x with
  | none => simp at h; subst h; simp
  | some y =>
    cases e : evalO T y with
    | none => simp [e] at h
    | some a => simp [e] at h; subst h; simp; exact hx y rfl a e
theorem pure_ok {o : Oper} {v : AV} (hρ : Ev m T ρ o.op.operands) (h : pureA P T o.op = some v) : ∃ v', VR m v v' ∧ ∀ w, (execOp ρ o).run P w = .ok (.value v') w := by
  obtain ⟨dst, op, type, pos, after, guard⟩ := o
  simp only at h hρ
  unfold pureA at h
  split at h
  · rename_i x; exact ⟨ρ x, hρ x (by simp [Op.operands]) _ h, fun w => rfl⟩
  · rename_i x; exact ⟨ρ x, hρ x (by simp [Op.operands]) _ h, fun w => rfl⟩
  · rename_i c a b
    split at h
    · rename_i t hc
      have := hρ c (by simp [Op.operands]) _ hc
      simp only [VR] at this
      cases t
      · exact ⟨ρ b, hρ b (by simp [Op.operands]) _ h, fun w => by simp [execOp, this, asBool]⟩
      · exact ⟨ρ a, hρ a (by simp [Op.operands]) _ h, fun w => by simp [execOp, this, asBool]⟩
    · cases h
  · rename_i t parts
    split at h
    · rename_i z ps hz hp
      have hps : PRs m ps (parts.map fun p => (p.1, ρ p.2)).toList := by
        rw [Array.toList_map]
        exact evalP_ok (fun p hp v hv => hρ p.2 (by simp only [Op.operands, List.mem_toArray, List.mem_map]; exact ⟨p, hp, rfl⟩) v hv) hp
      obtain ⟨v', h1, h2⟩ := build_ok (parts := parts.map fun p => (p.1, ρ p.2)) hz hps h
      exact ⟨v', h1, fun w => by simp [execOp, h2]⟩
    · cases h
  · rename_i x
    split at h
    · rename_i e; cases h
      have := hρ x (by simp [Op.operands]) _ e
      simp only [VR] at this
      obtain ⟨k, hk, e2⟩ := this
      exact ⟨_, by simp only [VR]; exact ⟨k, hk, rfl⟩, fun w => by simp [execOp, e2]⟩
    · rename_i e; cases h
      have := hρ x (by simp [Op.operands]) _ e
      have h' := this
      simp only [VR] at this
      obtain ⟨xs, ys, e2, _⟩ := this
      exact ⟨ρ x, h', fun w => by simp [execOp, e2]⟩
    · rename_i e; cases h
      have := hρ x (by simp [Op.operands]) _ e
      have h' := this
      simp only [VR] at this
      obtain ⟨k, hk, e2⟩ := this
      exact ⟨ρ x, h', fun w => by simp [execOp, e2]⟩
    · cases h
  · rename_i op t x y yt
    split at h
    · rename_i a b ha hb
      obtain ⟨v', h1, h2⟩ := bin_ok (xo := x) (yo := y) h (hρ x (by simp [Op.operands]) _ ha) (hρ y (by simp [Op.operands]) _ hb)
      exact ⟨v', h1, fun w => by
        have := h2 w
        simp only [execOp, Sem.run_bind] at this ⊢
        rw [this]; rfl⟩
    · cases h
  · rename_i op xt x
    split at h
    · rename_i a ha
      have hv := hρ x (by simp [Op.operands]) _ ha
      cases op <;> cases a <;> simp only [unV] at h <;> simp only [VR] at hv <;> first
        | (cases h; done)
        | (cases h; exact ⟨_, by simp only [VR]; rfl, fun w => by simp [execOp, hv, Op.unary, Op.intArith]⟩)
    · cases h
  · rename_i src dst x
    split at h
    · rename_i hs hd he; cases h
      have hv := hρ x (by simp [Op.operands]) _ he
      simp only [VR] at hv
      exact ⟨_, by simp only [VR]; rfl, fun w => by simp [execOp, hv, convert, run_underlying hs, run_underlying hd, Conv.intToInt]⟩
    · rename_i hs hd he; cases h
      have hv := hρ x (by simp [Op.operands]) _ he
      simp only [VR] at hv
      exact ⟨_, by simp only [VR]; rfl, fun w => by simp [execOp, hv, convert, run_underlying hs, run_underlying hd]⟩
    · cases h
  · rename_i f first captured
    split at h
    · rename_i a b ha hb; cases h
      have h1 := evalL_ok (fun y hy v hv => hρ y (by simp [Op.operands]; left; simpa using hy) v hv) ha
      have h2 := evalL_ok (fun y hy v hv => hρ y (by simp [Op.operands]; right; simpa using hy) v hv) hb
      refine ⟨.func (.func f) (first.map ρ) (captured.map ρ), ?_, fun w => by simp [execOp, Instr.makeFunc]⟩
      simp only [VR]
      exact ⟨_, _, rfl, by simpa using h1, by simpa using h2⟩
    · cases h
  · rename_i t x lo hi
    split at h
    · rename_i e lo' hi' hu hx hl hh
      split at h
      · rename_i r q hb hs; cases h
        have hv := hρ x (by simp [Op.operands]) _ hx
        simp only [VR] at hv
        obtain ⟨l1, l2⟩ := opt_ok (m := m) (ρ := ρ) hl (fun y hy v hv => hρ y (by subst hy; simp [Op.operands]) v hv)
        obtain ⟨h1, h2⟩ := opt_ok (m := m) (ρ := ρ) hh (fun y hy v hv => hρ y (by subst hy; simp [Op.operands]) v hv)
        obtain ⟨rl, rh⟩ := r
        obtain ⟨g1, g2, g3⟩ := bounds_ok (P := P) hb l1 l2 h1 h2 (Nat.le_refl 0) true
        refine ⟨.slice none 0 0, by simp only [VR], fun w => ?_⟩
        obtain rfl : rh = 0 := by omega
        obtain rfl : rl = 0 := by omega
        simp [execOp, hv, Instr.sliceAt, Instr.slice, run_underlying hu, g3, run_size hs]
      · cases h
    · rename_i e n off len cap esz ex lo' hi' hu hx hl hh
      split at h
      · rename_i rl rh size hb hs
        simp only [Bool.cond_eq_ite, Nat.beq_eq] at h
        split at h
        · rename_i he; cases h; subst he
          have hv := hρ x (by simp [Op.operands]) _ hx
          obtain ⟨A, c, hv, c1, c2, c3, cc⟩ := hv.slice_some
          obtain ⟨l1, l2⟩ := opt_ok (m := m) (ρ := ρ) hl (fun y hy v hv => hρ y (by subst hy; simp [Op.operands]) v hv)
          obtain ⟨h1, h2⟩ := opt_ok (m := m) (ρ := ρ) hh (fun y hy v hv => hρ y (by subst hy; simp [Op.operands]) v hv)
          obtain ⟨g1, g2, g3⟩ := bounds_ok (P := P) hb l1 l2 h1 h2 c2 true
          have hmul : rl * size + (c - rl) * size = c * size := by rw [← Nat.add_mul]; congr 1; omega
          refine ⟨.slice (some (if c = rl then A else A.add (rl * size))) (rh - rl) (c - rl), ?_, fun w => ?_⟩
          · simp only [VR]
            rcases cc with ⟨z1, z2, z3⟩ | ⟨k, off', sp, hk, rfl, c4, c5, c7⟩
            · exact .inl ⟨by omega, by omega, z3, _, by rw [show rh - rl = 0 by omega, show c - rl = 0 by have := c3 z3; omega]⟩
            right
            by_cases hcl : c = rl
            · refine ⟨k, off', 0, sp, hk, ?_, by omega, by omega, fun e => by have := c3 e; omega, .inl rfl, fun e => by have := c5 e; omega, .inl rfl⟩
              simp [hcl]
            · have c7' : sp = none := c7.resolve_left (by omega)
              subst c7'
              refine ⟨k, off' + rl * size, c - rl, none, hk, ?_, by omega, by omega, fun e => by rw [c3 e], ?_, fun e => by have := c5 e; omega, .inr rfl⟩
              · simp only [if_neg hcl, Addr.add]; split <;> simp_all
              · right; rcases c4 with c4 | c4
                · omega
                · omega
          · simp [execOp, hv, Instr.sliceAt, Instr.slice, run_underlying hu, g3, run_size hs]
            split <;> rfl
        · cases h
      · cases h
    · rename_i len e n off lo' hi' hu hx hl hh
      split at h
      · rename_i rl rh size hb hs; cases h
        have hv := hρ x (by simp [Op.operands]) _ hx
        simp only [VR] at hv
        obtain ⟨k, hk, hv⟩ := hv
        obtain ⟨l1, l2⟩ := opt_ok (m := m) (ρ := ρ) hl (fun y hy v hv => hρ y (by subst hy; simp [Op.operands]) v hv)
        obtain ⟨h1, h2⟩ := opt_ok (m := m) (ρ := ρ) hh (fun y hy v hv => hρ y (by subst hy; simp [Op.operands]) v hv)
        obtain ⟨g1, g2, g3⟩ := bounds_ok (P := P) hb l1 l2 h1 h2 (Nat.le_refl len) false
        refine ⟨.slice (some (if len = rl then ⟨k.b, k.o + off, none⟩ else (⟨k.b, k.o + off, none⟩ : Addr).add (rl * size))) (rh - rl) (len - rl), ?_, fun w => ?_⟩
        · simp only [VR]
          right
          by_cases hcl : len = rl
          · refine ⟨k, k.o + off, 0, none, hk, ?_, by omega, by omega, fun _ => by omega, .inl rfl, (fun e => by cases e), .inl rfl⟩
            simp [hcl]
          · refine ⟨k, k.o + off + rl * size, len - rl, none, hk, ?_, by omega, by omega, fun _ => rfl, .inr (by omega), (fun e => by cases e), .inr rfl⟩
            simp only [if_neg hcl, Addr.add]; split <;> simp_all
        · simp [execOp, hv, Instr.sliceAt, Instr.sureAddr, run_underlying hu, g3, run_size hs]
      · cases h
    · rename_i s lo' hi' hu hx hl hh
      split at h
      · rename_i rl rh hb; cases h
        have hv := hρ x (by simp [Op.operands]) _ hx
        simp only [VR] at hv
        obtain ⟨l1, l2⟩ := opt_ok (m := m) (ρ := ρ) hl (fun y hy v hv => hρ y (by subst hy; simp [Op.operands]) v hv)
        obtain ⟨h1, h2⟩ := opt_ok (m := m) (ρ := ρ) hh (fun y hy v hv => hρ y (by subst hy; simp [Op.operands]) v hv)
        obtain ⟨g1, g2, g3⟩ := bounds_ok (P := P) hb l1 l2 h1 h2 (Nat.le_refl s.size) false
        exact ⟨_, by simp only [VR]; rfl, fun w => by simp [execOp, hv, Instr.sliceAt, Instr.slice, run_underlying hu, g3]⟩
      · cases h
    · cases h
  · rename_i s x f
    split at h
    · rename_i fs n off hu hx
      split at h
      · rename_i fd hf
        split at h
        · rename_i q hs; cases h
          have hv := hρ x (by simp [Op.operands]) _ hx
          simp only [VR] at hv
          obtain ⟨k, hk, hv⟩ := hv
          refine ⟨.pointer (some ⟨k.b, k.o + (off + fd.offset), none⟩), by simp only [VR]; exact ⟨k, hk, rfl⟩, fun w => ?_⟩
          have : (⟨k.b, k.o + off, none⟩ : Addr).add fd.offset = ⟨k.b, k.o + (off + fd.offset), none⟩ := by
            simp only [Addr.add]; split <;> simp_all <;> omega
          simp [execOp, hv, Instr.fieldAt, fieldPlace, Instr.sureAddr, run_underlying hu, hf, run_size hs, this]
        · cases h
      · cases h
    · cases h
  · rename_i t x f
    split at h
    · rename_i fs cs hu hx
      split at h
      · rename_i fd hf
        have hv := hρ x (by simp [Op.operands]) _ hx
        simp only [VR] at hv
        obtain ⟨xs, hv, hvs⟩ := hv
        obtain ⟨v', h1, h2⟩ := part_ok h hvs
        exact ⟨v', h1, fun w => by simp [execOp, hv, Instr.field, run_underlying hu, hf, asAgg, h2]⟩
      · cases h
    · cases h
  · rename_i t x ix
    split at h
    · rename_i len e n off iv hu hx hi
      split at h
      · rename_i i s hn hs
        simp only [Bool.cond_eq_ite, Nat.blt_eq] at h
        split at h
        · rename_i hlt; cases h
          have hv := hρ x (by simp [Op.operands]) _ hx
          have hiv := hρ ix (by simp [Op.operands]) _ hi
          simp only [VR] at hv
          obtain ⟨k, hk, hv⟩ := hv
          obtain ⟨kk, hiv⟩ := natOf_ok hn hiv
          refine ⟨.pointer (some ⟨k.b, k.o + (off + i * s), none⟩), by simp only [VR]; exact ⟨k, hk, rfl⟩, fun w => ?_⟩
          have : (⟨k.b, k.o + off, none⟩ : Addr).add (i * s) = ⟨k.b, k.o + (off + i * s), none⟩ := by
            simp only [Addr.add]; split <;> simp_all <;> omega
          simp [execOp, hv, hiv, Instr.indexAt, asIntOf, Instr.sureAddr, run_underlying hu, run_size hs, hlt, this]
        · cases h
      · cases h
    · rename_i e n off len cap esz ex iv hu hx hi
      split at h
      · rename_i i s hn hs
        simp only [Bool.cond_eq_ite, Nat.blt_eq] at h
        split at h
        · rename_i hlt; cases h
          have hv := hρ x (by simp [Op.operands]) _ hx
          have hiv := hρ ix (by simp [Op.operands]) _ hi
          obtain ⟨A, c, hv, c1, c2, c3, cc⟩ := hv.slice_some
          obtain ⟨k, off', sp, hk, rfl, c4, c5, c7⟩ := cc.resolve_left (fun z => by omega)
          obtain ⟨kk, hiv⟩ := natOf_ok hn hiv
          have c6 : off' = k.o + off := by omega
          have c8 : sp = none := c7.resolve_left (by omega)
          subst c6 c8
          refine ⟨.pointer (some ⟨k.b, k.o + (off + i * s), none⟩), by simp only [VR]; exact ⟨k, hk, rfl⟩, fun w => ?_⟩
          have : (⟨k.b, k.o + off, none⟩ : Addr).add (i * s) = ⟨k.b, k.o + (off + i * s), none⟩ := by
            simp only [Addr.add]; split <;> simp_all <;> omega
          simp [execOp, hv, hiv, Instr.indexAt, asIntOf, run_underlying hu, run_size hs, hlt, this]
        · cases h
      · cases h
    · cases h
  · rename_i t x ix
    split at h
    · rename_i len e cs iv hu hx hi
      split at h
      · rename_i i s hn hs
        simp only [Bool.cond_eq_ite, Nat.blt_eq] at h
        split at h
        · rename_i hlt
          have hv := hρ x (by simp [Op.operands]) _ hx
          have hiv := hρ ix (by simp [Op.operands]) _ hi
          simp only [VR] at hv
          obtain ⟨xs, hv, hvs⟩ := hv
          obtain ⟨kk, hiv⟩ := natOf_ok hn hiv
          obtain ⟨v', h1, h2⟩ := part_ok h hvs
          exact ⟨v', h1, fun w => by simp [execOp, hv, hiv, Instr.index, asIntOf, run_underlying hu, run_size hs, hlt, h2]⟩
        · cases h
      · cases h
    · rename_i s iv hu hx hi
      split at h
      · rename_i i hn
        have hv := hρ x (by simp [Op.operands]) _ hx
        have hiv := hρ ix (by simp [Op.operands]) _ hi
        simp only [VR] at hv
        obtain ⟨kk, hiv⟩ := natOf_ok hn hiv
        cases hb : s[i]? with
        | none => simp [hb] at h
        | some b =>
          simp [hb] at h; subst h
          exact ⟨_, by simp only [VR]; rfl, fun w => by simp [execOp, hv, hiv, Instr.index, asIntOf, run_underlying hu, hb]⟩
      · cases h
    · cases h
  · rename_i x i
    split at h
    · rename_i vs hx
      have hv := hρ x (by simp [Op.operands]) _ hx
      simp only [VR] at hv
      obtain ⟨xs, hv, hvs⟩ := hv
      obtain ⟨v', h1, h2⟩ := hvs.get h
      rw [Array.getElem?_toList] at h1
      exact ⟨v', h2, fun w => by simp [execOp, hv, Instr.extract, h1]⟩
    · cases h
  · rename_i args ats
    split at h
    · rename_i k a k' b he; cases h
      have h1 := evalL_ok (fun y hy v hv => hρ y (by simp [Op.operands, Call.operands]; simpa using hy) v hv) he
      obtain ⟨v1, t1, e1, g1, g2⟩ := h1.cons_inv
      obtain ⟨v2, t2, rfl, g3, g4⟩ := g2.cons_inv
      rw [g4.nil_inv] at e1
      simp only [VR] at g1 g3
      subst g1 g3
      have hm : args.map ρ = #[.int k a, .int k' b] := by apply Array.ext'; simpa using e1
      exact ⟨_, by simp only [VR]; rfl, fun w => by simp [execOp, resolve, hm, invoke, builtin, Builtin.max_, Builtin.max2]⟩
    · cases h
  · rename_i args ats
    split at h
    · rename_i k a k' b he; cases h
      have h1 := evalL_ok (fun y hy v hv => hρ y (by simp [Op.operands, Call.operands]; simpa using hy) v hv) he
      obtain ⟨v1, t1, e1, g1, g2⟩ := h1.cons_inv
      obtain ⟨v2, t2, rfl, g3, g4⟩ := g2.cons_inv
      rw [g4.nil_inv] at e1
      simp only [VR] at g1 g3
      subst g1 g3
      have hm : args.map ρ = #[.int k a, .int k' b] := by apply Array.ext'; simpa using e1
      exact ⟨_, by simp only [VR]; rfl, fun w => by simp [execOp, resolve, hm, invoke, builtin, Builtin.min_, Builtin.min2]⟩
    · cases h
  · cases h
end ops
end Abs
end Go.Proofs.YtekmmeikkafpmaaGreat
