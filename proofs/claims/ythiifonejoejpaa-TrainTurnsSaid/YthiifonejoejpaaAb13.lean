/- The evaluator: regions that draw their order: names. -/
import Derived.Test.YthiifonejoejpaaAb12
namespace Go.Proofs.Ythiifonejoejpaa
namespace Abs
open Go.RowKit
variable {P : Program}

/-! What stands before what. -/
section before
variable {ops : Array Oper}
def Bf (ops : Array Oper) (i j : Nat) : Prop := ((Region.before ops).getD j 0).testBit i = true
theorem fold_bits (acc : Array Nat) (i : Nat) : ∀ (es : List Edge) (z : Nat), (es.foldl (fun s e => if Region.binds .any e then s ||| 2 ^ e.on ||| acc.getD e.on 0 else s) z).testBit i = true ↔
    z.testBit i = true ∨ ∃ e ∈ es, Region.binds .any e = true ∧ (i = e.on ∨ (acc.getD e.on 0).testBit i = true) := by
  intro es
  induction es with
  | nil => intro z; simp
  | cons e es ih =>
    intro z
    rw [List.foldl_cons, ih]
    by_cases hb : Region.binds .any e = true
    · simp only [hb, if_true, Nat.testBit_or, Bool.or_eq_true, List.mem_cons, exists_eq_or_imp, true_and]
      have : (2 ^ e.on).testBit i = true ↔ i = e.on := by
        rw [Nat.testBit_two_pow]; simp; exact ⟨Eq.symm, Eq.symm⟩
      rw [this]
      constructor
      · rintro (((h | h) | h) | h)
        · exact .inl h
        · exact .inr (.inl (.inl h))
        · exact .inr (.inl (.inr h))
        · exact .inr (.inr h)
      · rintro (h | (h | h) | h)
        · exact .inl (.inl (.inl h))
        · exact .inl (.inl (.inr h))
        · exact .inl (.inr h)
        · exact .inr h
    · simp only [hb, if_false, List.mem_cons, exists_eq_or_imp]
      constructor
      · rintro (h | h)
        · exact .inl h
        · exact .inr (.inr h)
      · rintro (h | ⟨h, _⟩ | h)
        · exact .inl h
        · simp at h
        · exact .inr h
def befL (os : List Oper) : Array Nat := os.foldl (fun acc o => acc.push (o.after.foldl (fun s e => if Region.binds .any e then s ||| 2 ^ e.on ||| acc.getD e.on 0 else s) 0)) #[]
theorem befL_snoc (os : List Oper) (o : Oper) : befL (os ++ [o]) = (befL os).push (o.after.toList.foldl (fun s e => if Region.binds .any e then s ||| 2 ^ e.on ||| (befL os).getD e.on 0 else s) 0) := by
  simp [befL, List.foldl_append]
theorem snocInd {α : Type} {p : List α → Prop} (h0 : p []) (h1 : ∀ l a, p l → p (l ++ [a])) (l : List α) : p l := by
  rw [← List.reverse_reverse l]
  induction l.reverse with
  | nil => exact h0
  | cons a t ih => rw [List.reverse_cons]; exact h1 _ _ ih
theorem befL_size : ∀ os : List Oper, (befL os).size = os.length := by
  refine snocInd rfl fun os o ih => ?_
  rw [befL_snoc]; simp [ih]
theorem befL_take (os os' : List Oper) (j : Nat) (h : j < os.length) : (befL (os ++ os')).getD j 0 = (befL os).getD j 0 := by
  refine snocInd (p := fun os' => (befL (os ++ os')).getD j 0 = (befL os).getD j 0) (by simp) (fun os' o ih => ?_) os'
  · rw [← List.append_assoc, befL_snoc, Array.getD_eq_getD_getElem?, Array.getElem?_push, if_neg (by rw [befL_size]; simp; omega), ← Array.getD_eq_getD_getElem?, ih]
theorem before_eq (ops : Array Oper) : Region.before ops = befL ops.toList := by
  unfold Region.before befL
  rw [← Array.foldl_toList]
theorem bf_iff (hup : ∀ (j : Nat) (o : Oper), ops[j]? = some o → ∀ e ∈ o.after, Region.binds .any e = true → e.on < j) {i j : Nat} {o : Oper} (ho : ops[j]? = some o) :
    Bf ops i j ↔ ∃ e ∈ o.after, Region.binds .any e = true ∧ (i = e.on ∨ Bf ops i e.on) := by
  have hj : j < ops.toList.length := by rw [Array.length_toList]; exact (Array.getElem?_eq_some_iff.1 ho).1
  obtain ⟨A, B, hsp, hlen⟩ : ∃ A B, ops.toList = A ++ ([o] ++ B) ∧ A.length = j := by
    have h2 : ops.toList[j]? = some o := by rw [Array.getElem?_toList]; exact ho
    have : ops.toList.drop j = o :: ops.toList.drop (j + 1) := by
      rw [List.drop_eq_getElem_cons hj]
      rw [List.getElem?_eq_getElem hj] at h2; cases h2; rfl
    refine ⟨ops.toList.take j, ops.toList.drop (j + 1), ?_, by rw [List.length_take]; omega⟩
    conv => lhs; rw [← List.take_append_drop j ops.toList, this]
    simp
  have key : (Region.before ops).getD j 0 = o.after.toList.foldl (fun s e => if Region.binds .any e then s ||| 2 ^ e.on ||| (befL A).getD e.on 0 else s) 0 := by
    rw [before_eq, hsp, ← List.append_assoc, befL_take _ _ _ (by simp [hlen]), befL_snoc, Array.getD_eq_getD_getElem?, Array.getElem?_push, if_pos (by rw [befL_size, hlen])]
    rfl
  unfold Bf
  rw [key, fold_bits]
  simp only [Nat.zero_testBit, Bool.false_eq_true, false_or, Array.mem_toList_iff]
  constructor
  · rintro ⟨e, he, hb, h⟩
    refine ⟨e, he, hb, h.imp id fun h => ?_⟩
    rw [before_eq, hsp, befL_take _ _ _ (by rw [hlen]; exact hup j o ho e he hb)]; exact h
  · rintro ⟨e, he, hb, h⟩
    refine ⟨e, he, hb, h.imp id fun h => ?_⟩
    rw [before_eq, hsp, befL_take _ _ _ (by rw [hlen]; exact hup j o ho e he hb)] at h; exact h
theorem bf_lt (hup : ∀ (j : Nat) (o : Oper), ops[j]? = some o → ∀ e ∈ o.after, Region.binds .any e = true → e.on < j) : ∀ {j i : Nat}, j < ops.size → Bf ops i j → i < j := by
  intro j
  induction j using Nat.strongRecOn with
  | _ j ih =>
    intro i hj h
    have ho := Array.getElem?_eq_getElem hj
    obtain ⟨e, he, hb, h⟩ := (bf_iff hup ho).1 h
    have := hup j _ ho e he hb
    rcases h with h | h
    · omega
    · have := ih e.on this (by omega) h; omega
theorem bf_trans (hup : ∀ (j : Nat) (o : Oper), ops[j]? = some o → ∀ e ∈ o.after, Region.binds .any e = true → e.on < j) : ∀ {l j i : Nat}, l < ops.size → Bf ops i j → Bf ops j l → Bf ops i l := by
  intro l
  induction l using Nat.strongRecOn with
  | _ l ih =>
    intro j i hl h1 h2
    have ho := Array.getElem?_eq_getElem hl
    obtain ⟨e, he, hb, h⟩ := (bf_iff hup ho).1 h2
    have := hup l _ ho e he hb
    refine (bf_iff hup ho).2 ⟨e, he, hb, .inr ?_⟩
    rcases h with rfl | h
    · exact h1
    · exact ih e.on this (by omega) h1 h
/-- A set closed under what stands just before is closed under what stands before. -/
theorem bf_closed (hup : ∀ (j : Nat) (o : Oper), ops[j]? = some o → ∀ e ∈ o.after, Region.binds .any e = true → e.on < j) {D : Nat → Prop} (hD : ∀ (j : Nat) (o : Oper), ops[j]? = some o → D j → ∀ e ∈ o.after, Region.binds .any e = true → D e.on) : ∀ {j i : Nat}, j < ops.size → D j → Bf ops i j → D i := by
  intro j
  induction j using Nat.strongRecOn with
  | _ j ih =>
    intro i hj hd h
    have ho := Array.getElem?_eq_getElem hj
    obtain ⟨e, he, hb, h⟩ := (bf_iff hup ho).1 h
    have := hup j _ ho e he hb
    have hde := hD j _ ho hd e he hb
    rcases h with rfl | h
    · exact hde
    · exact ih e.on this (by omega) hde h
end before

/-- What is asked of a region. -/
structure Tidy (ops : Array Oper) : Prop where
  up : ∀ (j : Nat) (o : Oper), ops[j]? = some o → ∀ e ∈ o.after, Region.binds .any e = true → e.on < j
  plain : ∀ (j : Nat) (o : Oper), ops[j]? = some o → (∀ c, o.op ≠ .defer c)
  look : ∀ (j : Nat) (o : Oper), ops[j]? = some o → ∀ t ∈ o.looksAt ops, ∀ i, dstOf ops i = some t → Bf ops i j ∨ Bf ops j i
  dst : ∀ i j t, dstOf ops i = some t → dstOf ops j = some t → i = j
theorem tidy_of {ops : Array Oper} (h : tidyR ops = true) : Tidy ops := by
  have key : ∀ j o, ops[j]? = some o → tidyOp ops (Region.before ops) j o = true := fun j o ho => by
    have hj := (Array.getElem?_eq_some_iff.1 ho).1
    unfold tidyR at h
    rw [List.all_eq_true] at h
    have := h j (List.mem_range.2 hj)
    simpa [ho] using this
  have lt_of : ∀ i t, dstOf ops i = some t → i < ops.size := fun i t hi => by
    unfold dstOf at hi
    rcases Nat.lt_or_ge i ops.size with h1 | h1
    · exact h1
    · rw [Array.getElem?_eq_none h1] at hi; simp at hi
  refine ⟨fun j o ho e he hb => ?_, fun j o ho c hc => ?_, fun j o ho t ht i hi => ?_, fun i j t hi hj => ?_⟩
  · have := key j o ho
    simp only [tidyOp, Bool.and_eq_true, Array.all_eq_true_iff_forall_mem, Nat.blt_eq] at this
    simpa [hb] using this.1.1.2 e he
  · have := key j o ho
    simp [tidyOp, hc] at this
  · have := key j o ho
    simp only [tidyOp, Bool.and_eq_true, List.all_eq_true] at this
    have := this.1.2 t ht i (List.mem_range.2 (lt_of i t hi))
    unfold Bf
    simpa [hi] using this
  · have hio : ∃ o, ops[i]? = some o ∧ o.dst = some t := by
      unfold dstOf at hi
      cases e : ops[i]? with
      | none => simp [e] at hi
      | some o => exact ⟨o, rfl, by simpa [e] using hi⟩
    obtain ⟨o, ho, hd⟩ := hio
    have := key i o ho
    simp only [tidyOp, Bool.and_eq_true, List.all_eq_true] at this
    have := this.2 j (List.mem_range.2 (lt_of j t hj))
    simp [hd, hj] at this
    exact this.symm

/-! The run in the order of the text. -/
inductive K where
  | skip
  | pure
  | load (nm : Nat)
  | store (nm : Nat)
  | fresh
  | wrt
def K.writes : K → Bool
  | .store _ | .wrt => true
  | _ => false
def hpAt (ops : Array Oper) (j : Nat) (s : St) (d : Dr) : Hp := ⟨s.heap.t, unseen ((Region.before ops).getD j 0) d.ss s.heap.bad, s.next⟩
def StepOk (P : Program) (rec : Task → Option Res) (n : Nat) (ops : Array Oper) (j : Nat) (o : Oper) (s : St) (d : Dr) (s1 : St) (d1 : Dr) : K → Prop
  | .skip => wantedA ops s.tmps o = false ∧ ∃ T, putA n o.dst .undef s.tmps = some T ∧ s1 = ⟨T, s.defers, s.heap, s.next⟩ ∧ d1 = d
  | .pure => wantedA ops s.tmps o = true ∧ touch o.op = false ∧ ∃ v T, pureA P s.tmps o.op = some v ∧ putA n o.dst v s.tmps = some T ∧ s1 = ⟨T, s.defers, s.heap, s.next⟩ ∧ d1 = d
  | .load nm => wantedA ops s.tmps o = true ∧ touch o.op = true ∧ ∃ t x v T, o.op = .load t x ∧ heapA P rec s.tmps (hpAt ops j s d) s.next o.op = some (v, hpAt ops j s d, s.next) ∧ putA n o.dst v s.tmps = some T ∧ s1 = ⟨T, s.defers, s.heap, s.next⟩ ∧
      nm = nameO s.tmps x ∧ clear ((Region.before ops).getD j 0) nm d.ws = true ∧ d1 = ⟨d.ss, (j, nm) :: d.rs, d.ws⟩
  | .store nm => wantedA ops s.tmps o = true ∧ touch o.op = true ∧ ∃ t x y v T H, o.op = .store t x y ∧ heapA P rec s.tmps (hpAt ops j s d) s.next o.op = some (v, H, s.next) ∧ putA n o.dst v s.tmps = some T ∧
      s1 = ⟨T, s.defers, ⟨H.t, s.heap.bad, lower H.wr s.heap.wr⟩, s.next⟩ ∧ (∀ i, i ≠ nm → H.t.get i = s.heap.t.get i) ∧ nm = nameO s.tmps x ∧ clear ((Region.before ops).getD j 0) nm d.rs = true ∧ barAt ops (Region.before ops) false j ops.size = true ∧ d1 = ⟨d.ss, d.rs, (j, nm) :: d.ws⟩
  | .fresh => wantedA ops s.tmps o = true ∧ touch o.op = true ∧ isLoad o.op = false ∧ ∃ v T H nx, heapA P rec s.tmps (hpAt ops j s d) s.next o.op = some (v, H, nx) ∧ putA n o.dst v s.tmps = some T ∧ s.next ≤ H.wr ∧
      s1 = ⟨T, s.defers, ⟨H.t, s.heap.bad, lower H.wr s.heap.wr⟩, nx⟩ ∧ d1 = cond (nx.ble s.next) d ⟨(j, s.next, nx) :: d.ss, d.rs, d.ws⟩
  | .wrt => wantedA ops s.tmps o = true ∧ touch o.op = true ∧ isLoad o.op = false ∧ ∃ v T H nx, heapA P rec s.tmps (hpAt ops j s d) s.next o.op = some (v, H, nx) ∧ putA n o.dst v s.tmps = some T ∧ barAt ops (Region.before ops) true j ops.size = true ∧
      s1 = ⟨T, s.defers, ⟨H.t, s.heap.bad, lower H.wr s.heap.wr⟩, nx⟩ ∧ d1 = cond (nx.ble s.next) d ⟨(j, s.next, nx) :: d.ss, d.rs, d.ws⟩
theorem load_inv {rec : Task → Option Res} {T : Tr AV} {H H' : Hp} {nx nx' : Nat} {t : TypeId} {x : Operand} {v : AV} (h : heapA P rec T H nx (.load t x) = some (v, H', nx')) : H' = H ∧ nx' = nx ∧ ∃ n off, evalO T x = some (.ptr n off) ∧ loadT P H t n off = some v := by
  simp only [heapA] at h
  split at h
  · rename_i n off hx
    cases hl : loadT P H t n off with
    | none => simp [hl] at h
    | some a => simp [hl] at h; obtain ⟨rfl, rfl, rfl⟩ := h; exact ⟨rfl, rfl, n, off, hx, hl⟩
  · cases h
theorem store_inv {rec : Task → Option Res} {T : Tr AV} {H H' : Hp} {nx nx' : Nat} {t : TypeId} {x y : Operand} {v : AV} (h : heapA P rec T H nx (.store t x y) = some (v, H', nx')) : nx' = nx ∧ ∃ n off cs, evalO T x = some (.ptr n off) ∧ H' = H.put n (.cells true cs) := by
  simp only [heapA] at h
  split at h
  · rename_i n off a size hx hy hs
    simp only [Bool.cond_eq_ite] at h
    (repeat' split at h) <;> first
      | (cases h; done)
      | (simp only [Option.some.injEq, Prod.mk.injEq] at h; obtain ⟨_, rfl, rfl⟩ := h; exact ⟨rfl, n, off, _, hx, rfl⟩)
  · cases h
theorem opD_inv {rec : Task → Option Res} {n : Nat} {ops : Array Oper} {j : Nat} {o : Oper} {s s1 : St} {d d1 : Dr} (h : opD P rec n ops (Region.before ops) j o s d = some (s1, d1)) : ∃ kd, StepOk P rec n ops j o s d s1 d1 kd := by
  unfold opD at h
  rw [Bool.cond_eq_ite] at h
  split at h
  · rename_i hw
    rw [Bool.cond_eq_ite] at h
    split at h
    · rename_i ht
      cases hh : heapA P rec s.tmps ⟨s.heap.t, unseen ((Region.before ops).getD j 0) d.ss s.heap.bad, s.next⟩ s.next o.op with
      | none => rw [hh] at h; cases h
      | some p =>
        obtain ⟨v, H, nx⟩ := p
        simp only [hh] at h
        cases hp : putA n o.dst v s.tmps with
        | none => rw [hp] at h; cases h
        | some T =>
          simp only [hp] at h
          split at h
          · rename_i t x ho
            rw [Bool.cond_eq_ite] at h
            split at h
            · rename_i hc
              simp only [Option.some.injEq, Prod.mk.injEq] at h
              obtain ⟨rfl, rfl⟩ := h
              have hh' := hh
              rw [ho] at hh'
              obtain ⟨rfl, rfl, _⟩ := load_inv hh'
              exact ⟨.load (nameO s.tmps x), hw, ht, t, x, v, T, ho, hh, hp, rfl, rfl, hc, rfl⟩
            · cases h
          · rename_i t x y ho
            simp only [Bool.cond_eq_ite] at h
            split at h
            · rename_i hc
              split at h
              · rename_i hb
                simp only [Option.some.injEq, Prod.mk.injEq] at h
                obtain ⟨rfl, rfl⟩ := h
                have hh' := hh
                rw [ho] at hh'
                obtain ⟨rfl, nn, off, cs, hx, rfl⟩ := store_inv hh'
                refine ⟨.store (nameO s.tmps x), hw, ht, t, x, y, v, T, _, ho, hh, hp, rfl, ?_, rfl, hc, hb, rfl⟩
                intro i hi
                have : nameO s.tmps x = nn := by simp [nameO, hx]
                rw [this] at hi
                simp [Hp.put, Tr.get_set, hi]
              · cases h
            · cases h
          · rename_i hnl hns
            have hil : isLoad o.op = false := by
              cases ho : o.op <;> first | rfl | exact absurd ho (hnl _ _)
            simp only [Bool.cond_eq_ite, Nat.ble_eq] at h
            split at h
            · rename_i hle
              simp only [Option.some.injEq, Prod.mk.injEq] at h
              obtain ⟨rfl, rfl⟩ := h
              exact ⟨.fresh, hw, ht, hil, v, T, H, nx, hh, hp, hle, rfl, by simp [Bool.cond_eq_ite]⟩
            · split at h
              · rename_i hb
                simp only [Option.some.injEq, Prod.mk.injEq] at h
                obtain ⟨rfl, rfl⟩ := h
                exact ⟨.wrt, hw, ht, hil, v, T, H, nx, hh, hp, hb, rfl, by simp [Bool.cond_eq_ite]⟩
              · cases h
    · rename_i ht
      cases hh : pureA P s.tmps o.op with
      | none => simp [hh, stepSt] at h
      | some v =>
        simp only [hh, stepSt, Option.map_some] at h
        cases hp : putA n o.dst v s.tmps with
        | none => simp [hp] at h
        | some T =>
          simp [hp] at h
          obtain ⟨rfl, rfl⟩ := h
          exact ⟨.pure, hw, by simpa using ht, v, T, hh, hp, rfl, rfl⟩
  · rename_i hw
    simp only [stepSt] at h
    cases hp : putA n o.dst .undef s.tmps with
    | none => simp [hp] at h
    | some T =>
      simp [hp] at h
      obtain ⟨rfl, rfl⟩ := h
      exact ⟨.skip, by simpa using hw, T, hp, rfl, rfl⟩
/-- The states, one behind the other. -/
theorem opsD_trace {rec : Task → Option Res} {n : Nat} {ops : Array Oper} : ∀ (os : List Oper) (j : Nat) (s s' : St) (d : Dr), opsD P rec n ops (Region.before ops) os j s d = some s' →
    ∃ (st : Nat → St) (dr : Nat → Dr) (kd : Nat → K), st j = s ∧ dr j = d ∧ st (j + os.length) = s' ∧ ∀ i o, os[i]? = some o → StepOk P rec n ops (j + i) o (st (j + i)) (dr (j + i)) (st (j + i + 1)) (dr (j + i + 1)) (kd (j + i)) := by
  intro os
  induction os with
  | nil => intro j s s' d h; simp [opsD] at h; subst h; exact ⟨fun _ => s, fun _ => d, fun _ => .skip, rfl, rfl, rfl, fun i o h => by simp at h⟩
  | cons o os ih =>
    intro j s s' d h
    simp only [opsD] at h
    cases h1 : opD P rec n ops (Region.before ops) j o s d with
    | none => simp [h1] at h
    | some p =>
      obtain ⟨s1, d1⟩ := p
      simp only [h1] at h
      obtain ⟨k0, hk0⟩ := opD_inv h1
      obtain ⟨st, dr, kd, e1, e2, e3, e4⟩ := ih (j + 1) s1 s' d1 h
      refine ⟨fun i => if i = j then s else st i, fun i => if i = j then d else dr i, fun i => if i = j then k0 else kd i, by simp, by simp, ?_, ?_⟩
      · have : j + (o :: os).length ≠ j := by simp
        simp only [if_neg this]
        rw [← e3]; congr 1; simp; omega
      · intro i o' hi
        cases i with
        | zero =>
          simp at hi; subst hi
          simp only [Nat.add_zero, if_true]
          rw [if_neg (by omega), if_neg (by omega), e1, e2]; exact hk0
        | succ i =>
          simp at hi
          have := e4 i o' hi
          have q1 : j + (i + 1) ≠ j := by omega
          have q2 : j + (i + 1) + 1 ≠ j := by omega
          simp only [if_neg q1, if_neg q2]
          rw [show j + (i + 1) = j + 1 + i by omega]; exact this
end Abs
end Go.Proofs.Ythiifonejoejpaa
