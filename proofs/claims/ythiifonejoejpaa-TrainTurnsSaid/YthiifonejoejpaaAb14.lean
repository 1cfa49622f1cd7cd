/- The evaluator: regions that draw their order: what is known of the run in the order of the text. -/
import Derived.Test.YthiifonejoejpaaAb13
namespace Go.Proofs.Ythiifonejoejpaa
namespace Abs
open Go.RowKit
variable {P : Program}

theorem unseen_mem {pre : Nat} {p : Nat × Nat} : ∀ {ss : List (Nat × Nat × Nat)} {l : List (Nat × Nat)}, p ∈ unseen pre ss l ↔ p ∈ l ∨ ∃ x ∈ ss, pre.testBit x.1 = false ∧ p = x.2 := by
  intro ss
  induction ss with
  | nil => intro l; simp [unseen]
  | cons x ss ih =>
    obtain ⟨i, a, b⟩ := x
    intro l
    simp only [unseen, Bool.cond_eq_ite]
    split
    · rename_i h; rw [ih]; simp [h]
    · rename_i h
      rw [List.mem_cons, ih]
      simp only [List.mem_cons, exists_eq_or_imp]
      have h' : pre.testBit i = false := by simpa using h
      constructor
      · rintro (rfl | h1 | h1)
        · exact .inr (.inl ⟨h', rfl⟩)
        · exact .inl h1
        · exact .inr (.inr h1)
      · rintro (h1 | ⟨_, rfl⟩ | h1)
        · exact .inr (.inl h1)
        · exact .inl rfl
        · exact .inr (.inr h1)
theorem clear_spec {pre n : Nat} : ∀ {l : List (Nat × Nat)}, clear pre n l = true → ∀ x ∈ l, pre.testBit x.1 = true ∨ x.2 ≠ n := by
  intro l
  induction l with
  | nil => intro _ x hx; simp at hx
  | cons y l ih =>
    obtain ⟨i, k⟩ := y
    intro h x hx
    simp only [clear, Bool.cond_eq_ite, Nat.beq_eq] at h
    split at h
    · rename_i ht
      rcases List.mem_cons.1 hx with rfl | hx
      · exact .inl ht
      · exact ih h x hx
    · split at h
      · cases h
      · rename_i hne
        rcases List.mem_cons.1 hx with rfl | hx
        · exact .inr hne
        · exact ih h x hx
theorem cond_and {a b : Bool} (h : cond a b false = true) : a = true ∧ b = true := by cases a <;> cases b <;> simp at h ⊢
theorem barAt_spec {ops : Array Oper} {pre : Array Nat} {loads : Bool} {j : Nat} : ∀ {N : Nat}, barAt ops pre loads j N = true → ∀ i o, i < N → ops[i]? = some o → touch o.op = true → (isLoad o.op = true → loads = true) →
    (i < j → (pre.getD j 0).testBit i = true) ∧ (j < i → (pre.getD i 0).testBit j = true) := by
  intro N
  induction N with
  | zero => intro _ i o h; omega
  | succ N ih =>
    intro h i o hi ho ht hl
    rw [barAt] at h
    obtain ⟨hx, h⟩ := cond_and h
    rcases Nat.lt_succ_iff_lt_or_eq.1 hi with h1 | h1
    · exact ih h i o h1 ho ht hl
    · subst h1
      simp only [ho, ht, cond_true] at hx
      have hy : (cond (i.blt j) ((pre.getD j 0).testBit i) (cond (i.beq j) true ((pre.getD i 0).testBit j))) = true := by
        cases hil : isLoad o.op with
        | false => simpa only [hil, cond_false] using hx
        | true => simpa only [hil, hl hil, cond_true] using hx
      simp only [Bool.cond_eq_ite, Nat.blt_eq, Nat.beq_eq] at hy
      constructor
      · intro hlt; rw [if_pos hlt] at hy; exact hy
      · intro hlt; rw [if_neg (by omega), if_neg (by omega)] at hy; exact hy

structure Trace (P : Program) (rec : Task → Option Res) (n : Nat) (ops : Array Oper) (st : Nat → St) (dr : Nat → Dr) (kd : Nat → K) : Prop where
  sound : RecOk P rec
  tidy : Tidy ops
  step : ∀ j o, ops[j]? = some o → StepOk P rec n ops j o (st j) (dr j) (st (j + 1)) (dr (j + 1)) (kd j)
  dr0 : dr 0 = ⟨[], [], []⟩
  wf0 : Wf (st 0).heap (st 0).next
section trace
variable {rec : Task → Option Res} {n : Nat} {ops : Array Oper} {st : Nat → St} {dr : Nat → Dr} {kd : Nat → K}
/-- What is known when j operations have run. -/
structure At (ops : Array Oper) (st : Nat → St) (dr : Nat → Dr) (kd : Nat → K) (j : Nat) : Prop where
  defers : (st j).defers = (st 0).defers
  bad : (st j).heap.bad = (st 0).heap.bad
  wf : Wf (st j).heap (st j).next
  ss : ∀ x ∈ (dr j).ss, x.1 < j ∧ x.2 = ((st x.1).next, (st (x.1 + 1)).next) ∧ x.2.2 ≤ (st j).next
  all : ∀ i, i < j → (st i).next < (st (i + 1)).next → (i, (st i).next, (st (i + 1)).next) ∈ (dr j).ss
  rs : ∀ x, x ∈ (dr j).rs ↔ x.1 < j ∧ kd x.1 = .load x.2
  ws : ∀ x, x ∈ (dr j).ws ↔ x.1 < j ∧ kd x.1 = .store x.2
theorem At.hp {j : Nat} (h : At ops st dr kd j) : Wf (hpAt ops j (st j) (dr j)) (st j).next := by
  refine ⟨h.wf.none, fun p hp => ?_, h.wf.ok⟩
  rcases unseen_mem.1 hp with h1 | ⟨x, hx, _, rfl⟩
  · exact h.wf.bad p h1
  · exact (h.ss x hx).2.2
/-- A heap operation's names. -/
theorem touch_ap {j : Nat} {H : Hp} {nx : Nat} {s : St} {d : Dr} (hW : Wf s.heap s.next) (h : AP (hpAt ops j s d) s.next H nx) : AP s.heap s.next ⟨H.t, s.heap.bad, lower H.wr s.heap.wr⟩ nx where
  le := h.le
  bad := rfl
  wr := lower_le_right _ _
  same := fun i h1 h2 => h.same i h1 (Nat.lt_of_lt_of_le h2 (lower_le_left _ _))
  old := h.old
  wf := ⟨h.wf.none, fun p hp => Nat.le_trans (hW.bad p hp) h.le, h.wf.ok⟩
theorem Trace.nd (h : Trace P rec n ops st dr kd) {j : Nat} {o : Oper} (ho : ops[j]? = some o) : ∀ c, o.op ≠ .defer c := h.tidy.plain j o ho
theorem Trace.next (h : Trace P rec n ops st dr kd) {j : Nat} {o : Oper} (ho : ops[j]? = some o) (ha : At ops st dr kd j) : AP (st j).heap (st j).next (st (j + 1)).heap (st (j + 1)).next ∧ At ops st dr kd (j + 1) := by
  have hs := h.step j o ho
  have hnd := h.nd ho
  cases hk : kd j with
  | skip =>
    rw [hk] at hs
    obtain ⟨_, T, _, e, ed⟩ := hs
    have e1 : (st (j + 1)).heap = (st j).heap := by rw [e]
    have e2 : (st (j + 1)).next = (st j).next := by rw [e]
    have e3 : (st (j + 1)).defers = (st j).defers := by rw [e]
    rw [e1, e2]
    refine ⟨.refl ha.wf, ⟨e3.trans ha.defers, by rw [e1]; exact ha.bad, by rw [e1, e2]; exact ha.wf, ?_, ?_, ?_, ?_⟩⟩
    · intro x hx; rw [ed] at hx; obtain ⟨a, b, c⟩ := ha.ss x hx; exact ⟨by omega, b, by rw [e2]; exact c⟩
    · intro i hi hl
      rw [ed]
      rcases Nat.lt_succ_iff_lt_or_eq.1 hi with h1 | h1
      · exact ha.all i h1 hl
      · subst h1; omega
    · intro x; rw [ed, ha.rs]
      constructor
      · rintro ⟨a, b⟩; exact ⟨by omega, b⟩
      · rintro ⟨a, b⟩
        rcases Nat.lt_succ_iff_lt_or_eq.1 a with h1 | h1
        · exact ⟨h1, b⟩
        · rw [h1, hk] at b; cases b
    · intro x; rw [ed, ha.ws]
      constructor
      · rintro ⟨a, b⟩; exact ⟨by omega, b⟩
      · rintro ⟨a, b⟩
        rcases Nat.lt_succ_iff_lt_or_eq.1 a with h1 | h1
        · exact ⟨h1, b⟩
        · rw [h1, hk] at b; cases b
  | pure =>
    rw [hk] at hs
    obtain ⟨_, _, v, T, _, _, e, ed⟩ := hs
    have e1 : (st (j + 1)).heap = (st j).heap := by rw [e]
    have e2 : (st (j + 1)).next = (st j).next := by rw [e]
    have e3 : (st (j + 1)).defers = (st j).defers := by rw [e]
    rw [e1, e2]
    refine ⟨.refl ha.wf, ⟨e3.trans ha.defers, by rw [e1]; exact ha.bad, by rw [e1, e2]; exact ha.wf, ?_, ?_, ?_, ?_⟩⟩
    · intro x hx; rw [ed] at hx; obtain ⟨a, b, c⟩ := ha.ss x hx; exact ⟨by omega, b, by rw [e2]; exact c⟩
    · intro i hi hl
      rw [ed]
      rcases Nat.lt_succ_iff_lt_or_eq.1 hi with h1 | h1
      · exact ha.all i h1 hl
      · subst h1; omega
    · intro x; rw [ed, ha.rs]
      constructor
      · rintro ⟨a, b⟩; exact ⟨by omega, b⟩
      · rintro ⟨a, b⟩
        rcases Nat.lt_succ_iff_lt_or_eq.1 a with h1 | h1
        · exact ⟨h1, b⟩
        · rw [h1, hk] at b; cases b
    · intro x; rw [ed, ha.ws]
      constructor
      · rintro ⟨a, b⟩; exact ⟨by omega, b⟩
      · rintro ⟨a, b⟩
        rcases Nat.lt_succ_iff_lt_or_eq.1 a with h1 | h1
        · exact ⟨h1, b⟩
        · rw [h1, hk] at b; cases b
  | load nm =>
    rw [hk] at hs
    obtain ⟨_, _, t, x, v, T, _, _, _, e, _, _, ed⟩ := hs
    have e1 : (st (j + 1)).heap = (st j).heap := by rw [e]
    have e2 : (st (j + 1)).next = (st j).next := by rw [e]
    have e3 : (st (j + 1)).defers = (st j).defers := by rw [e]
    rw [e1, e2]
    refine ⟨.refl ha.wf, ⟨e3.trans ha.defers, by rw [e1]; exact ha.bad, by rw [e1, e2]; exact ha.wf, ?_, ?_, ?_, ?_⟩⟩
    · intro x hx; rw [ed] at hx; obtain ⟨a, b, c⟩ := ha.ss x hx; exact ⟨by omega, b, by rw [e2]; exact c⟩
    · intro i hi hl
      rw [ed]
      rcases Nat.lt_succ_iff_lt_or_eq.1 hi with h1 | h1
      · exact ha.all i h1 hl
      · subst h1; omega
    · intro x; rw [ed]
      simp only [List.mem_cons, ha.rs]
      constructor
      · rintro (rfl | ⟨a, b⟩)
        · exact ⟨by omega, hk⟩
        · exact ⟨by omega, b⟩
      · rintro ⟨a, b⟩
        rcases Nat.lt_succ_iff_lt_or_eq.1 a with h1 | h1
        · exact .inr ⟨h1, b⟩
        · rw [h1, hk] at b; cases b; left; rw [← h1]
    · intro x; rw [ed, ha.ws]
      constructor
      · rintro ⟨a, b⟩; exact ⟨by omega, b⟩
      · rintro ⟨a, b⟩
        rcases Nat.lt_succ_iff_lt_or_eq.1 a with h1 | h1
        · exact ⟨h1, b⟩
        · rw [h1, hk] at b; cases b
  | store nm =>
    rw [hk] at hs
    obtain ⟨_, _, t, x, y, v, T, H, _, hh, _, e, _, _, _, _, ed⟩ := hs
    have ap := touch_ap ha.wf (heapop_ok h.sound ha.hp hh hnd).1
    have e1 : (st (j + 1)).heap = ⟨H.t, (st j).heap.bad, lower H.wr (st j).heap.wr⟩ := by rw [e]
    have e2 : (st (j + 1)).next = (st j).next := by rw [e]
    have e3 : (st (j + 1)).defers = (st j).defers := by rw [e]
    rw [e1, e2]
    refine ⟨ap, ⟨e3.trans ha.defers, by rw [e1]; exact ha.bad, by rw [e1, e2]; exact ap.wf, ?_, ?_, ?_, ?_⟩⟩
    · intro x hx; rw [ed] at hx; obtain ⟨a, b, c⟩ := ha.ss x hx; exact ⟨by omega, b, by rw [e2]; exact c⟩
    · intro i hi hl
      rw [ed]
      rcases Nat.lt_succ_iff_lt_or_eq.1 hi with h1 | h1
      · exact ha.all i h1 hl
      · subst h1; omega
    · intro x; rw [ed, ha.rs]
      constructor
      · rintro ⟨a, b⟩; exact ⟨by omega, b⟩
      · rintro ⟨a, b⟩
        rcases Nat.lt_succ_iff_lt_or_eq.1 a with h1 | h1
        · exact ⟨h1, b⟩
        · rw [h1, hk] at b; cases b
    · intro x; rw [ed]
      simp only [List.mem_cons, ha.ws]
      constructor
      · rintro (rfl | ⟨a, b⟩)
        · exact ⟨by omega, hk⟩
        · exact ⟨by omega, b⟩
      · rintro ⟨a, b⟩
        rcases Nat.lt_succ_iff_lt_or_eq.1 a with h1 | h1
        · exact .inr ⟨h1, b⟩
        · rw [h1, hk] at b; cases b; left; rw [← h1]
  | fresh =>
    rw [hk] at hs
    obtain ⟨_, _, _, v, T, H, nx, hh, _, _, e, ed⟩ := hs
    exact laid ha hk (by simp) (by simp) (heapop_ok h.sound ha.hp hh hnd).1 e ed
  | wrt =>
    rw [hk] at hs
    obtain ⟨_, _, _, v, T, H, nx, hh, _, _, e, ed⟩ := hs
    exact laid ha hk (by simp) (by simp) (heapop_ok h.sound ha.hp hh hnd).1 e ed
  where
  laid {j : Nat} {T : Tr AV} {H : Hp} {nx : Nat} {c : K} (ha : At ops st dr kd j) (hk : kd j = c) (h1 : ∀ nm, c ≠ .load nm) (h2 : ∀ nm, c ≠ .store nm) (hap : AP (hpAt ops j (st j) (dr j)) (st j).next H nx)
      (e : st (j + 1) = ⟨T, (st j).defers, ⟨H.t, (st j).heap.bad, lower H.wr (st j).heap.wr⟩, nx⟩) (ed : dr (j + 1) = cond (nx.ble (st j).next) (dr j) ⟨(j, (st j).next, nx) :: (dr j).ss, (dr j).rs, (dr j).ws⟩) :
      AP (st j).heap (st j).next (st (j + 1)).heap (st (j + 1)).next ∧ At ops st dr kd (j + 1) := by
    have ap := touch_ap ha.wf hap
    have e1 : (st (j + 1)).heap = ⟨H.t, (st j).heap.bad, lower H.wr (st j).heap.wr⟩ := by rw [e]
    have e2 : (st (j + 1)).next = nx := by rw [e]
    have e3 : (st (j + 1)).defers = (st j).defers := by rw [e]
    have hrs : (dr (j + 1)).rs = (dr j).rs := by rw [ed, Bool.cond_eq_ite]; split <;> rfl
    have hws : (dr (j + 1)).ws = (dr j).ws := by rw [ed, Bool.cond_eq_ite]; split <;> rfl
    rw [e1, e2]
    refine ⟨ap, ⟨e3.trans ha.defers, by rw [e1]; exact ha.bad, by rw [e1, e2]; exact ap.wf, ?_, ?_, ?_, ?_⟩⟩
    · intro x hx
      have old : x ∈ (dr j).ss → x.1 < j + 1 ∧ x.2 = ((st x.1).next, (st (x.1 + 1)).next) ∧ x.2.2 ≤ (st (j + 1)).next := fun hx => by
        obtain ⟨a, b, c⟩ := ha.ss x hx; exact ⟨by omega, b, by rw [e2]; have := ap.le; omega⟩
      rw [ed, Bool.cond_eq_ite] at hx
      split at hx
      · exact old hx
      · rcases List.mem_cons.1 hx with rfl | hx
        · exact ⟨by simp, by simp [e2], by simp [e2]⟩
        · exact old hx
    · intro i hi hl
      rw [ed, Bool.cond_eq_ite]
      rcases Nat.lt_succ_iff_lt_or_eq.1 hi with q | q
      · have := ha.all i q hl
        split
        · exact this
        · exact List.mem_cons_of_mem _ this
      · subst q
        rw [e2] at hl
        rw [if_neg (by rw [Nat.ble_eq]; omega), e2]
        exact List.mem_cons_self
    · intro x; rw [hrs, ha.rs]
      constructor
      · rintro ⟨a, b⟩; exact ⟨by omega, b⟩
      · rintro ⟨a, b⟩
        rcases Nat.lt_succ_iff_lt_or_eq.1 a with q | q
        · exact ⟨q, b⟩
        · rw [q, hk] at b; exact absurd b (h1 _)
    · intro x; rw [hws, ha.ws]
      constructor
      · rintro ⟨a, b⟩; exact ⟨by omega, b⟩
      · rintro ⟨a, b⟩
        rcases Nat.lt_succ_iff_lt_or_eq.1 a with q | q
        · exact ⟨q, b⟩
        · rw [q, hk] at b; exact absurd b (h2 _)
theorem Trace.at (h : Trace P rec n ops st dr kd) : ∀ j, j ≤ ops.size → At ops st dr kd j := by
  intro j
  induction j with
  | zero =>
    intro _
    refine ⟨rfl, rfl, h.wf0, ?_, ?_, ?_, ?_⟩ <;> simp [h.dr0]
  | succ j ih =>
    intro hj
    exact (h.next (Array.getElem?_eq_getElem (show j < ops.size by omega)) (ih (by omega))).2
theorem Trace.ap (h : Trace P rec n ops st dr kd) {j : Nat} (hj : j < ops.size) : AP (st j).heap (st j).next (st (j + 1)).heap (st (j + 1)).next :=
  (h.next (Array.getElem?_eq_getElem hj) (h.at j (by omega))).1
theorem Trace.aps (h : Trace P rec n ops st dr kd) {i : Nat} : ∀ {j : Nat}, i ≤ j → j ≤ ops.size → AP (st i).heap (st i).next (st j).heap (st j).next := by
  intro j hij
  induction j with
  | zero => intro hj; obtain rfl : i = 0 := by omega
            exact .refl (h.at 0 hj).wf
  | succ j ih =>
    intro hj
    by_cases e : i = j + 1
    · subst e; exact .refl (h.at _ hj).wf
    · exact (ih (by omega) (by omega)).trans (h.ap (by omega))
theorem Trace.mono (h : Trace P rec n ops st dr kd) {i j : Nat} (hij : i ≤ j) (hj : j ≤ ops.size) : (st i).next ≤ (st j).next := (h.aps hij hj).le
/-- Nothing but a write turns a name. -/
theorem Trace.still (h : Trace P rec n ops st dr kd) {j x : Nat} (hj : j < ops.size) (hk : (kd j).writes = false ∨ ∃ nm, kd j = .store nm ∧ x ≠ nm) (hx : x < (st j).next) : (st (j + 1)).heap.t.get x = (st j).heap.t.get x := by
  have ho := Array.getElem?_eq_getElem hj
  have hs := h.step j _ ho
  cases hkd : kd j with
  | skip => rw [hkd] at hs; obtain ⟨_, T, _, e, _⟩ := hs; rw [e]
  | pure => rw [hkd] at hs; obtain ⟨_, _, v, T, _, _, e, _⟩ := hs; rw [e]
  | load nm => rw [hkd] at hs; obtain ⟨_, _, t, y, v, T, _, _, _, e, _⟩ := hs; rw [e]
  | store nm =>
    rw [hkd] at hs
    obtain ⟨_, _, t, y, z, v, T, H, _, _, _, e, hi, _⟩ := hs
    rcases hk with hk | ⟨nm', hk, hne⟩
    · rw [hkd] at hk; cases hk
    · rw [hkd] at hk; cases hk; rw [e]; exact hi x hne
  | fresh =>
    rw [hkd] at hs
    obtain ⟨_, _, _, v, T, H, nx, hh, _, hle, e, _⟩ := hs
    have ap := (heapop_ok h.sound (h.at j (by omega)).hp hh (h.nd ho)).1
    rw [e]
    exact ap.same x hx (by omega)
  | wrt =>
    rcases hk with hk | ⟨nm', hk, hne⟩
    · rw [hkd] at hk; cases hk
    · rw [hkd] at hk; cases hk
theorem Trace.stills (h : Trace P rec n ops st dr kd) {i x : Nat} (hx : x < (st i).next) : ∀ {j : Nat}, i ≤ j → j ≤ ops.size → (∀ l, i ≤ l → l < j → (kd l).writes = false ∨ ∃ nm, kd l = .store nm ∧ x ≠ nm) → (st j).heap.t.get x = (st i).heap.t.get x := by
  intro j hij
  induction j with
  | zero => intro _ _; obtain rfl : i = 0 := by omega
            rfl
  | succ j ih =>
    intro hj hk
    by_cases e : i = j + 1
    · subst e; rfl
    · rw [h.still (by omega) (hk j (by omega) (by omega)) (Nat.lt_of_lt_of_le hx (h.mono (by omega) (by omega)))]
      exact ih (by omega) (by omega) (fun l a b => hk l a (by omega))
/-- Who laid a name. -/
theorem Trace.who (h : Trace P rec n ops st dr kd) {i x : Nat} (hx : (st i).next ≤ x) : ∀ {j : Nat}, i ≤ j → j ≤ ops.size → x < (st j).next → ∃ l, i ≤ l ∧ l < j ∧ (st l).next ≤ x ∧ x < (st (l + 1)).next := by
  intro j hij
  induction j with
  | zero => intro _ h2; obtain rfl : i = 0 := by omega
            omega
  | succ j ih =>
    intro hj h2
    by_cases e : i = j + 1
    · subst e; omega
    · rcases Nat.lt_or_ge x (st j).next with h3 | h3
      · obtain ⟨l, a, b, c⟩ := ih (by omega) (by omega) h3
        exact ⟨l, a, by omega, c⟩
      · exact ⟨j, by omega, by omega, h3, h2⟩
/-- What lays is an operation on what there is, and no load. -/
theorem Trace.layer (h : Trace P rec n ops st dr kd) {j : Nat} {o : Oper} (ho : ops[j]? = some o) (hl : (st j).next < (st (j + 1)).next) : touch o.op = true ∧ isLoad o.op = false := by
  have hs := h.step j _ ho
  cases hkd : kd j with
  | skip => rw [hkd] at hs; obtain ⟨_, T, _, e, _⟩ := hs; rw [e] at hl; simp at hl
  | pure => rw [hkd] at hs; obtain ⟨_, _, v, T, _, _, e, _⟩ := hs; rw [e] at hl; simp at hl
  | load nm => rw [hkd] at hs; obtain ⟨_, _, t, y, v, T, _, _, _, e, _⟩ := hs; rw [e] at hl; simp at hl
  | store nm => rw [hkd] at hs; obtain ⟨_, _, t, y, z, v, T, H, _, _, _, e, _⟩ := hs; rw [e] at hl; simp at hl
  | fresh => rw [hkd] at hs; exact ⟨hs.2.1, hs.2.2.1⟩
  | wrt => rw [hkd] at hs; exact ⟨hs.2.1, hs.2.2.1⟩
/-- A write stands before or behind whatever looks at what there is, but for loads of other names. -/
theorem Trace.bar (h : Trace P rec n ops st dr kd) {j i : Nat} {o : Oper} (hj : j < ops.size) (hw : (kd j).writes = true) (ho : ops[i]? = some o) (ht : touch o.op = true) (hl : isLoad o.op = false ∨ kd j = .wrt) (hne : i ≠ j) :
    (i < j ∧ Bf ops i j) ∨ (j < i ∧ Bf ops j i) := by
  have hs := h.step j _ (Array.getElem?_eq_getElem hj)
  have hi := (Array.getElem?_eq_some_iff.1 ho).1
  have fin : (i < j → ((Region.before ops).getD j 0).testBit i = true) ∧ (j < i → ((Region.before ops).getD i 0).testBit j = true) → (i < j ∧ Bf ops i j) ∨ (j < i ∧ Bf ops j i) := fun hb => by
    rcases Nat.lt_or_ge i j with h1 | h1
    · exact .inl ⟨h1, hb.1 h1⟩
    · exact .inr ⟨by omega, hb.2 (by omega)⟩
  cases hkd : kd j with
  | store nm =>
    rw [hkd] at hs
    obtain ⟨_, _, t, y, z, v, T, H, _, _, _, e, _, _, _, hb, _⟩ := hs
    exact fin (barAt_spec hb i o hi ho ht (fun hx => by
      rcases hl with hl | hl
      · rw [hl] at hx; cases hx
      · rw [hkd] at hl; cases hl))
  | wrt =>
    rw [hkd] at hs
    obtain ⟨_, _, _, v, T, H, nx, _, _, hb, _⟩ := hs
    exact fin (barAt_spec hb i o hi ho ht (fun _ => rfl))
  | _ => rw [hkd] at hw; cases hw
theorem Trace.loadBar (h : Trace P rec n ops st dr kd) {j i a b : Nat} (hj : j < ops.size) (hi : i < ops.size) (hw : kd j = .store a) (hl : kd i = .load b) : Bf ops i j ∨ Bf ops j i ∨ a ≠ b := by
  have hne : i ≠ j := fun e => by rw [e, hw] at hl; cases hl
  rcases Nat.lt_or_ge i j with h1 | h1
  · have hs := h.step j _ (Array.getElem?_eq_getElem hj)
    rw [hw] at hs
    obtain ⟨_, _, t, y, z, v, T, H, _, _, _, e, _, _, hc, _⟩ := hs
    rcases clear_spec hc (i, b) (((h.at j (by omega)).rs (i, b)).2 ⟨h1, hl⟩) with h2 | h2
    · exact .inl h2
    · exact .inr (.inr (Ne.symm h2))
  · have hs := h.step i _ (Array.getElem?_eq_getElem hi)
    rw [hl] at hs
    obtain ⟨_, _, t, y, v, T, _, _, _, e, _, hc, _⟩ := hs
    rcases clear_spec hc (j, a) (((h.at i (by omega)).ws (j, a)).2 ⟨by omega, hw⟩) with h2 | h2
    · exact .inr (.inl h2)
    · exact .inr (.inr h2)
theorem putA_get {n : Nat} {dst : Option Tmp} {v : AV} {T T' : Tr AV} (h : putA n dst v T = some T') (t : Tmp) : (dst ≠ some t → T'.get t = T.get t) ∧ (dst = some t → T'.get t = some v) := by
  unfold putA at h
  cases dst with
  | none => cases h; exact ⟨fun _ => rfl, fun e => by cases e⟩
  | some d =>
    simp only [Bool.cond_eq_ite] at h
    split at h
    · cases h
      rw [Tr.get_set]
      constructor
      · intro hne; rw [if_neg (fun e => hne (by rw [e]))]
      · intro e; cases e; rw [if_pos rfl]
    · cases h
theorem Trace.put (h : Trace P rec n ops st dr kd) {j : Nat} {o : Oper} (ho : ops[j]? = some o) : ∃ v, putA n o.dst v (st j).tmps = some (st (j + 1)).tmps := by
  have hs := h.step j _ ho
  cases hkd : kd j with
  | skip => rw [hkd] at hs; obtain ⟨_, T, hp, e, _⟩ := hs; exact ⟨_, by rw [e]; exact hp⟩
  | pure => rw [hkd] at hs; obtain ⟨_, _, v, T, _, hp, e, _⟩ := hs; exact ⟨_, by rw [e]; exact hp⟩
  | load nm => rw [hkd] at hs; obtain ⟨_, _, t, y, v, T, _, _, hp, e, _⟩ := hs; exact ⟨_, by rw [e]; exact hp⟩
  | store nm => rw [hkd] at hs; obtain ⟨_, _, t, y, z, v, T, H, _, _, hp, e, _⟩ := hs; exact ⟨_, by rw [e]; exact hp⟩
  | fresh => rw [hkd] at hs; obtain ⟨_, _, _, v, T, H, nx, hh, hp, hle, e, _⟩ := hs; exact ⟨_, by rw [e]; exact hp⟩
  | wrt => rw [hkd] at hs; obtain ⟨_, _, _, v, T, H, nx, hh, hp, hle, e, _⟩ := hs; exact ⟨_, by rw [e]; exact hp⟩
theorem Trace.tmp (h : Trace P rec n ops st dr kd) {i t : Nat} : ∀ {j : Nat}, i ≤ j → j ≤ ops.size → (∀ l, i ≤ l → l < j → dstOf ops l ≠ some t) → (st j).tmps.get t = (st i).tmps.get t := by
  intro j hij
  induction j with
  | zero => intro _ _; obtain rfl : i = 0 := by omega
            rfl
  | succ j ih =>
    intro hj hk
    by_cases e : i = j + 1
    · subst e; rfl
    · obtain ⟨v, hp⟩ := h.put (Array.getElem?_eq_getElem (show j < ops.size by omega))
      rw [(putA_get hp t).1 (fun hd => hk j (by omega) (by omega) (by simp [dstOf, Array.getElem?_eq_getElem (show j < ops.size by omega), hd]))]
      exact ih (by omega) (by omega) (fun l a b => hk l a (by omega))
end trace
end Abs
end Go.Proofs.Ythiifonejoejpaa
