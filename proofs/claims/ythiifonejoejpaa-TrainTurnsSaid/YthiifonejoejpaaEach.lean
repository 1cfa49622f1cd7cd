/- A region that draws its order: each operation is met by itself, in whatever world the others may have left; over any program. -/
import Derived.Test.YthiifonejoejpaaKit
import Derived.OrdersIn
namespace Go.Proofs.Ythiifonejoejpaa
open Go.RowKit

section each
variable {F : Fence} {n : Nat} {P : Program}

/-- The operation of the first m that writes the slot s. -/
def whose (ops : Array Oper) (m s : Nat) : Option Nat := (List.range m).find? fun j => ((ops[j]?).bind (·.dst)) == some s
/-- The frame a0, with us in the slots of those of the first m operations that L names. -/
def fillL (ops : Array Oper) (m : Nat) (L : Nat → Bool) (us : Nat → Value) (a0 : Act) : Act :=
  { tmps := a0.tmps.mapIdx fun s v => match whose ops m s with | some j => if L j then us j else v | none => v, defers := a0.defers }
def got (a : Act) : Option Tmp → Value
  | none => undef
  | some d => a.tmps.getD d undef
def deps (o : Oper) : List Nat := (o.after.toList.filter (Region.binds .any)).map (·.on)
def plainOps (ops : Array Oper) : Bool := ops.all fun o => match o.op with | .defer _ => false | _ => true
def tidyFront (ops : Array Oper) (m sz i : Nat) : Bool :=
  match ops[i]? with
  | none => false
  | some o => (deps o).all (fun j => decide (j < i)) && (match o.dst with | none => true | some d => decide (d < sz) && whose ops m d == some i) &&
      (o.looksAt ops).all fun t => match whose ops m t with | none => true | some j => (deps o).contains j
/-- What S waits for, S with it, as far as operations below j go. -/
def grab (ops : Array Oper) : Nat → List Nat → List Nat
  | 0, S => S
  | j + 1, S => grab ops j (if S.contains j then S ++ (match ops[j]? with | none => [] | some o => deps o) else S)
theorem grab_all {ops : Array Oper} {p : Nat → Prop} : ∀ (j : Nat) (S : List Nat), (∀ i, i < j → p i → ∀ o, ops[i]? = some o → ∀ d, d ∈ deps o → p d) → (∀ i, i ∈ S → p i) → ∀ i, i ∈ grab ops j S → p i := by
  intro j
  induction j with
  | zero => intro S _ h; exact h
  | succ j ih =>
    intro S hc h
    refine ih _ (fun i hi => hc i (by omega)) ?_
    intro i hi
    split at hi
    · rename_i hS
      rcases List.mem_append.1 hi with hi | hi
      · exact h i hi
      · cases ho : ops[j]? with
        | none => simp [ho] at hi
        | some o =>
          simp only [ho] at hi
          exact hc j (by omega) (h j (by simpa using hS)) o ho i hi
    · exact h i hi
def tidyTail (ops : Array Oper) (m k : Nat) : Bool :=
  match ops[k]? with
  | none => false
  | some o => (deps o).all (fun j => decide (j < k)) && (if k = m then (List.range m).all (fun j => (grab ops m (deps o)).contains j) else (deps o).contains (k - 1))
def tidy (ops : Array Oper) (m sz : Nat) : Bool :=
  Region.noSelect ops && plainOps ops && decide (m ≤ ops.size) && (List.range m).all (tidyFront ops m sz) && (List.range ops.size).all fun k => decide (k < m) || tidyTail ops m k

/-- What a single operation must come to. -/
def give (df : List Deferred) (R : World → World → Prop) (Φ : Value → World → Prop) (d : Option Tmp) (W : World) : Exit → Act → World → Prop
  | .normal, a, w => a.defers = df ∧ R W w ∧ Φ (got a d) w
  | _, _, _ => False

theorem got_put {a : Act} {d : Option Tmp} (hd : ∀ t, d = some t → t < a.tmps.size) {Φ : Value → World → Prop} {v : Value} {w : World} (h : Φ (got (a.put d v) d) w) :
    ∃ u, a.put d u = a.put d v ∧ (∀ b : Act, b.put d u = b.put d v) ∧ Φ u w ∧ (∀ t, d = some t → u = v) := by
  cases d with
  | none => exact ⟨undef, rfl, fun _ => rfl, h, fun _ h => by cases h⟩
  | some t =>
    have ht := hd t rfl
    have : got (a.put (some t) v) (some t) = v := by simp [got, Act.put, ht]
    exact ⟨v, rfl, fun _ => rfl, by rw [← this]; exact h, fun _ _ => rfl⟩

theorem deps_mem {o : Oper} {j : Nat} : j ∈ deps o ↔ ∃ e ∈ o.after, Region.binds .any e = true ∧ e.on = j := by
  simp [deps, List.mem_map, List.mem_filter, and_assoc]

theorem mem_ready' {ops : Array Oper} {j : Nat} {listed : Array Bool} : j ∈ Region.ready .any ops listed ↔
    listed.getD j true = false ∧ ∃ o, ops[j]? = some o ∧ ∀ k, k ∈ deps o → listed.getD k false = true := by
  rw [mem_ready]
  constructor
  · rintro ⟨h0, o, ho, h⟩
    exact ⟨h0, o, ho, fun k hk => by obtain ⟨e, he, hb, rfl⟩ := deps_mem.1 hk; exact h e he hb⟩
  · rintro ⟨h0, o, ho, h⟩
    exact ⟨h0, o, ho, fun e he hb => h _ (deps_mem.2 ⟨e, he, hb, rfl⟩)⟩

/-- One operation: what it comes to in one frame it comes to in another in which it sees the same. -/
theorem step_over {ops : Array Oper} {i : Nat} {o : Oper} {a b : Act} {W : World} {R : World → World → Prop} {Φ : Value → World → Prop} {K : Act → World → Prop} {Q : Exit → Act → World → Prop}
    (ho : ops[i]? = some o) (hs : ∀ cs x, o.op ≠ .select cs x) (hd : ∀ c, o.op ≠ .defer c) (hsee : ∀ t, t ∈ o.looksAt ops → a.tmps[t]? = b.tmps[t]?)
    (hdst : ∀ t, o.dst = some t → t < b.tmps.size) (h : wpListIn F n P ops (give b.defers R Φ o.dst W) [o] b W)
    (hK : ∀ v w', R W w' → Φ v w' → K (a.put o.dst v) w') : wpOpIn F n P ops Q i K a W := by
  have hev : execOp a.eval o = execOp b.eval o := execOp_congr o hs fun x hx => by
    cases x with
    | tmp t =>
      have := hsee t (List.mem_append_left _ (List.mem_filterMap.2 ⟨.tmp t, by simpa using hx, rfl⟩))
      simp [Act.eval, this]
    | _ => rfl
  have hwa : Region.wanted o (yielded ops a.tmps) = Region.wanted o (yielded ops b.tmps) := by
    unfold Region.wanted
    cases hg : o.guard with
    | none => rfl
    | some gw =>
      obtain ⟨g, want⟩ := gw
      have hy : yielded ops a.tmps g = yielded ops b.tmps g := by
        unfold yielded
        cases ht : (ops[g]?).bind (·.dst) with
        | none => rfl
        | some t =>
          have := hsee t (by simp [Oper.looksAt, hg, ht])
          simp [this]
      simp only [hy]
  have hab : o.about P W a.eval = o.about P W b.eval := by
    unfold Oper.about
    cases hop : o.op <;> try rfl
    rename_i c
    have : resolve a.eval c o.type = resolve b.eval c o.type := resolve_congr c o.type fun x hx => by
      cases x with
      | tmp t =>
        have := hsee t (List.mem_append_left _ (List.mem_filterMap.2 ⟨.tmp t, by simpa [Op.operands, hop] using hx, rfl⟩))
        simp [Act.eval, this]
      | _ => rfl
    simp only [this]
  have close : ∀ v w', give b.defers R Φ o.dst W .normal (b.put o.dst v) w' → K (a.put o.dst v) w' := fun v w' hg => by
    obtain ⟨_, hR, hΦ⟩ := hg
    obtain ⟨u, _, hall, hu, _⟩ := got_put hdst hΦ
    rw [← hall a]
    exact hK u w' hR hu
  unfold wpOpIn
  simp only [ho, hwa]
  simp only [wpListIn] at h
  split
  · rename_i hw
    rw [if_pos hw] at h
    refine ⟨by rw [hab]; exact h.1, ?_⟩
    have h2 := h.2
    rw [Oper.semAt_eq _ _ _ hd] at h2 ⊢
    rw [hev]
    generalize (execOp b.eval o).run P W = r at h2
    cases r with
    | ok x w' =>
      cases x <;> simp only [Oper.uponIn] at h2 ⊢
      case value v => exact close v w' h2
      case skip => exact close undef w' h2
      case defer d =>
        have h3 := h2.1
        cases hdd : o.dst <;> simp [Act.put, hdd] at h3
      case enter f args =>
        refine ⟨h2.1, CallsIn.mono h2.2 fun e w'' he => ?_⟩
        cases e with
        | returned v => exact close v w'' he
        | panicked c => exact he.elim
        | outgrown => obtain ⟨_, _, hx⟩ := he; exact hx.elim
      case row row args => exact ⟨h2.1, RowsIn.mono h2.2 fun v w'' he => close v w'' he⟩
      case round l f tmps asg bd =>
        refine ⟨h2.1, RoundIn.mono h2.2 fun e w'' he => ?_⟩
        cases e with
        | returned v => exact close v w'' he
        | panicked c => exact he.elim
        | outgrown => obtain ⟨_, _, hx⟩ := he; exact hx.elim
    | halt x w' => cases x <;> simp only [Oper.uponIn] at h2 ⊢ <;> exact h2.elim
  · rename_i hw
    rw [if_neg hw] at h
    exact ⟨by rw [hab]; exact h.1, close undef W h.2⟩

theorem filt_less {l : List Nat} (hnd : l.Nodup) {i : Nat} (hi : i ∈ l) {f g : Nat → Bool} (hf : f i = true) (hg : g i = false) (hfg : ∀ j, j ≠ i → g j = f j) : (l.filter g).length + 1 = (l.filter f).length := by
  induction l with
  | nil => cases hi
  | cons x xs ih =>
    rw [List.nodup_cons] at hnd
    by_cases hx : x = i
    · subst hx
      have : xs.filter g = xs.filter f := List.filter_congr fun j hj => hfg j (fun e => hnd.1 (e ▸ hj))
      simp [hf, hg, this]
    · have hi' : i ∈ xs := by simpa [Ne.symm hx] using hi
      have := ih hnd.2 hi'
      by_cases hfx : f x = true
      · simp [hfx, hfg x hx]; omega
      · simp [hfx, hfg x hx]; omega

def unl (ops : Array Oper) (listed : Array Bool) : Nat := ((List.range ops.size).filter fun i => !listed.getD i true).length
theorem unl_set {ops : Array Oper} {listed : Array Bool} {i : Nat} (hi : i < ops.size) (hl : listed.size = ops.size) (h : listed.getD i true = false) : unl ops (listed.setIfInBounds i true) + 1 = unl ops listed := by
  refine filt_less List.nodup_range (List.mem_range.2 hi) (by simp [h]) (by simp [hl, hi]) fun j hj => ?_
  rw [getD_set_ne true (Ne.symm hj)]

theorem tidy_spec {ops : Array Oper} {m sz : Nat} (h : tidy ops m sz = true) : Region.noSelect ops = true ∧ (∀ (i : Nat) (o : Oper) (c : Call), ops[i]? = some o → o.op ≠ .defer c) ∧ m ≤ ops.size ∧
    (∀ i o, i < m → ops[i]? = some o → (∀ j, j ∈ deps o → j < i) ∧ (∀ d, o.dst = some d → d < sz ∧ whose ops m d = some i) ∧ (∀ t, t ∈ o.looksAt ops → ∀ j, whose ops m t = some j → j ∈ deps o)) ∧
    (∀ k o, m ≤ k → ops[k]? = some o → (∀ j, j ∈ deps o → j < k) ∧ (k = m → ∀ j, j < m → j ∈ grab ops m (deps o)) ∧ (m < k → k - 1 ∈ deps o)) := by
  simp only [tidy, Bool.and_eq_true, decide_eq_true_eq, List.all_eq_true, List.mem_range, Bool.or_eq_true] at h
  obtain ⟨⟨⟨⟨h1, h2⟩, h3⟩, h4⟩, h5⟩ := h
  refine ⟨h1, fun i o c ho heq => ?_, h3, fun i o hi ho => ?_, fun k o hk ho => ?_⟩
  · have := Array.all_eq_true_iff_forall_mem.1 h2 o (Array.mem_of_getElem? ho)
    simp [heq] at this
  · have := h4 i hi
    simp only [tidyFront, ho, Bool.and_eq_true, List.all_eq_true, decide_eq_true_eq] at this
    obtain ⟨⟨a, b⟩, c⟩ := this
    refine ⟨a, fun d hd => ?_, fun t ht j hj => ?_⟩
    · simp only [hd, Bool.and_eq_true, decide_eq_true_eq, beq_iff_eq] at b
      exact b
    · have := c t ht
      simp only [hj] at this
      simpa using this
  · have hlt : k < ops.size := (Array.getElem?_eq_some_iff.1 ho).1
    have := (h5 k hlt).resolve_left (by omega)
    simp only [tidyTail, ho, Bool.and_eq_true, List.all_eq_true, decide_eq_true_eq] at this
    refine ⟨this.1, fun e j hj => ?_, fun e => ?_⟩
    · have h := this.2
      rw [if_pos e] at h
      simp only [List.all_eq_true, List.mem_range] at h
      simpa using h j hj
    · have h := this.2
      rw [if_neg (by omega)] at h
      simpa using h

theorem whose_lt {ops : Array Oper} {m s j : Nat} (h : whose ops m s = some j) : j < m ∧ ∃ o, ops[j]? = some o ∧ o.dst = some s := by
  have h1 := List.mem_of_find?_eq_some h
  have h2 := List.find?_some h
  refine ⟨List.mem_range.1 h1, ?_⟩
  cases ho : ops[j]? with
  | none => simp [ho] at h2
  | some o => exact ⟨o, rfl, by simpa [ho] using h2⟩

/-- The operations behind the first m, one after another. -/
theorem tail_run {ops : Array Oper} {m sz : Nat} (ht : tidy ops m sz = true) {Q : Exit → Act → World → Prop} : ∀ (r k fuel : Nat) (listed : Array Bool) (a : Act) (W : World), m ≤ k → k + r = ops.size → unl ops listed ≤ fuel →
    listed.size = ops.size → (∀ i, i < ops.size → listed[i]? = some (decide (i < k))) → wpOpsIn F n P ops Q (List.range' k r) a W → wpAnyIn F n P .any ops Q fuel listed a W := by
  obtain ⟨_, _, _, _, h5⟩ := tidy_spec ht
  intro r
  induction r with
  | zero =>
    intro k fuel listed a W hk hkr hf hsz hl h
    have hnil : Region.ready .any ops listed = [] := by
      rw [List.eq_nil_iff_forall_not_mem]
      intro j hj
      obtain ⟨h0, o, ho, _⟩ := mem_ready'.1 hj
      have hj2 := (Array.getElem?_eq_some_iff.1 ho).1
      have := hl j hj2
      simp [this] at h0
      omega
    cases fuel with
    | zero => exact ⟨hnil, h⟩
    | succ f => exact ⟨fun _ => h, by rw [hnil]; simp⟩
  | succ r ih =>
    intro k fuel listed a W hk hkr hf hsz hl h
    have hkn : k < ops.size := by omega
    have hun := unl_set hkn hsz (by simp [hl k hkn])
    obtain ⟨f, rfl⟩ : ∃ f, fuel = f + 1 := ⟨fuel - 1, by omega⟩
    obtain ⟨o, ho⟩ : ∃ o, ops[k]? = some o := ⟨_, Array.getElem?_eq_getElem hkn⟩
    have hready : ∀ j, j ∈ Region.ready .any ops listed ↔ j = k := by
      intro j
      rw [mem_ready']
      constructor
      · rintro ⟨h0, o', ho', hd⟩
        have hj2 := (Array.getElem?_eq_some_iff.1 ho').1
        have hlj := hl j hj2
        simp [hlj] at h0
        rcases Nat.lt_or_ge k j with hlt | hge
        · have := hd (j - 1) ((h5 j o' (by omega) ho').2.2 (by omega))
          simp [hl (j - 1) (by omega)] at this
          omega
        · omega
      · rintro rfl
        refine ⟨by simp [hl j hkn], o, ho, fun i hi => ?_⟩
        have := (h5 j o hk ho).1 i hi
        simp [hl i (by omega), this]
    have hmem : k ∈ Region.ready .any ops listed := (hready k).2 rfl
    refine ⟨fun h0 => by rw [h0] at hmem; (cases hmem), fun j hj => ?_⟩
    obtain rfl := (hready j).1 hj
    rw [show List.range' j (r + 1) = j :: List.range' (j + 1) r from List.range'_succ, wpOpsIn_cons] at h
    refine wpOpIn_mono (fun a' w' h' => ih (j + 1) f _ a' w' (by omega) (by omega) (by omega) (by simp [hsz]) (fun i hi => ?_) h') h
    by_cases e : j = i
    · subst e; simp [hsz, hi]
    · rw [Array.getElem?_setIfInBounds_ne e, hl i hi]
      congr 1
      simp
      omega

theorem fill_put {ops : Array Oper} {m : Nat} {L : Nat → Bool} {us : Nat → Value} {a0 : Act} {i : Nat} {o : Oper} {v : Value} (him : i < m) (ho : ops[i]? = some o)
    (hd : ∀ d, o.dst = some d → whose ops m d = some i) :
    (fillL ops m L us a0).put o.dst v = fillL ops m (fun j => decide (j = i) || L j) (fun j => if j = i then v else us j) a0 := by
  have hnone : o.dst = none → ∀ s, whose ops m s ≠ some i := fun hn s hs => by
    obtain ⟨_, o', ho', hd'⟩ := whose_lt hs
    rw [ho] at ho'; cases ho'; rw [hn] at hd'; cases hd'
  have huniq : ∀ s, whose ops m s = some i → o.dst = some s := fun s hs => by
    obtain ⟨_, o', ho', hd'⟩ := whose_lt hs
    rw [ho] at ho'; cases ho'; exact hd'
  have key : ∀ s x, o.dst ≠ some s → (match whose ops m s with | some j => if (fun j => decide (j = i) || L j) j then (fun j => if j = i then v else us j) j else x | none => x) = (match whose ops m s with | some j => if L j then us j else x | none => x) := fun s x hs => by
    cases hw : whose ops m s with
    | none => rfl
    | some j =>
      have hji : j ≠ i := fun e => hs (huniq s (by rw [hw, e]))
      simp [hji]
  cases hdd : o.dst with
  | none =>
    simp only [Act.put, fillL]
    congr 1
    apply Array.ext_getElem?
    intro s
    simp only [Array.getElem?_mapIdx]
    congr 1
    funext x
    exact (key s x (by rw [hdd]; simp)).symm
  | some d =>
    simp only [Act.put, fillL]
    congr 1
    apply Array.ext_getElem?
    intro s
    by_cases e : d = s
    · subst e
      have hw := hd d hdd
      by_cases hlt : d < a0.tmps.size
      · simp [Array.getElem?_mapIdx, hw, hlt]
      · simp [Array.getElem?_mapIdx, hlt]
    · rw [Array.getElem?_setIfInBounds_ne e]
      simp only [Array.getElem?_mapIdx]
      congr 1
      funext x
      exact (key s x (by rw [hdd]; intro h; cases h; exact e rfl)).symm

/-- A region that draws its order: its first m operations each by itself, the others behind them. -/
theorem region_each {id : Nat} {ops : Array Oper} {Q : Exit → Act → World → Prop} {a0 : Act} {w : World} (m : Nat) (R : World → World → Prop) (Φ : Nat → Value → World → Prop)
    (hm : P.follows .mixedOrders = true) (ht : tidy ops m a0.tmps.size = true)
    (hrefl : ∀ A, R A A) (htrans : ∀ {A B C}, R A B → R B C → R A C) (hstab : ∀ i v A B, R A B → Φ i v A → Φ i v B)
    (hstep : ∀ us i o W, i < m → ops[i]? = some o → R w.drew W → (∀ j, j ∈ deps o → Φ j (us j) W) → wpListIn F n P ops (give a0.defers R (Φ i) o.dst W) [o] (fillL ops m (fun _ => true) us a0) W)
    (hfin : ∀ us W, R w.drew W → (∀ j, j < m → Φ j (us j) W) → wpOpsIn F n P ops Q (List.range' m (ops.size - m)) (fillL ops m (fun _ => true) us a0) W) :
    (Code.region id ops true).wpIn F n P Q a0 w := by
  obtain ⟨h1, h2, h3, h4, h5⟩ := tidy_spec ht
  have full : ∀ (fuel : Nat) (listed : Array Bool) (us : Nat → Value) (W : World), listed.size = ops.size → unl ops listed ≤ fuel → (∀ i, m ≤ i → i < ops.size → listed[i]? = some false) →
      R w.drew W → (∀ j, j < m → listed.getD j false = true → Φ j (us j) W) → (∀ j, j < m → listed.getD j false = true) → wpAnyIn F n P .any ops Q fuel listed (fillL ops m (fun j => listed.getD j false) us a0) W := by
    intro fuel listed us W hsz hu htl hR hΦ hall
    have hfr : fillL ops m (fun j => listed.getD j false) us a0 = fillL ops m (fun _ => true) us a0 := by
      simp only [fillL]
      congr 1
      apply Array.ext_getElem?
      intro s
      simp only [Array.getElem?_mapIdx]
      congr 1
      funext x
      cases hw : whose ops m s with
      | none => rfl
      | some j => simp only [hall j (whose_lt hw).1]
    rw [hfr]
    refine tail_run ht (ops.size - m) m fuel listed _ W (Nat.le_refl _) (by omega) hu hsz (fun i hi => ?_) (hfin us W hR fun j hj => hΦ j hj (hall j hj))
    by_cases him : i < m
    · have := hall i him
      have hlt : i < listed.size := by omega
      simp [hlt] at this ⊢
      rw [this]; simp [him]
    · rw [htl i (by omega) hi]; simp [him]
  have key : ∀ (fuel : Nat) (listed : Array Bool) (us : Nat → Value) (W : World), listed.size = ops.size → unl ops listed ≤ fuel → (∀ i, m ≤ i → i < ops.size → listed[i]? = some false) →
      R w.drew W → (∀ j, j < m → listed.getD j false = true → Φ j (us j) W) → (∀ j, j < m → listed.getD j false = true → ∀ o, ops[j]? = some o → ∀ d, d ∈ deps o → listed.getD d false = true) → wpAnyIn F n P .any ops Q fuel listed (fillL ops m (fun j => listed.getD j false) us a0) W := by
    intro fuel
    induction fuel with
    | zero =>
      intro listed us W hsz hu htl hR hΦ _
      refine full 0 listed us W hsz hu htl hR hΦ fun j hj => ?_
      cases hlj : listed.getD j false with
      | true => rfl
      | false =>
        have hlt : j < listed.size := by omega
        have := unl_set (ops := ops) (i := j) (by omega) hsz (by simp [hlt] at hlj ⊢; exact hlj)
        omega
    | succ fuel ih =>
      intro listed us W hsz hu htl hR hΦ hcl
      by_cases hall : ∀ j, j < m → listed.getD j false = true
      · exact full (fuel + 1) listed us W hsz hu htl hR hΦ hall
      have hsome : ∃ j, j < m ∧ listed.getD j false = false := by
        apply Classical.byContradiction
        intro hno
        exact hall fun j hj => by
          cases hlj : listed.getD j false with
          | true => rfl
          | false => exact (hno ⟨j, hj, hlj⟩).elim
      have two : ∀ j, j < ops.size → listed.getD j false = false → listed.getD j true = false := fun j hj h => by
        have hlt : j < listed.size := by omega
        simp [hlt] at h ⊢; exact h
      have hready : ∀ j, j < m → listed.getD j false = false → ∃ i, i ∈ Region.ready .any ops listed := by
        intro j
        induction j using Nat.strongRecOn with
        | _ j ihj =>
          intro hj hlj
          obtain ⟨o, ho⟩ : ∃ o, ops[j]? = some o := ⟨_, Array.getElem?_eq_getElem (by omega)⟩
          by_cases hd : ∀ k, k ∈ deps o → listed.getD k false = true
          · exact ⟨j, mem_ready'.2 ⟨two j (by omega) hlj, o, ho, hd⟩⟩
          · have : ∃ k, k ∈ deps o ∧ listed.getD k false = false := by
              apply Classical.byContradiction
              intro hno
              exact hd fun k hk => by
                cases hlk : listed.getD k false with
                | true => rfl
                | false => exact (hno ⟨k, hk, hlk⟩).elim
            obtain ⟨k, hk, hlk⟩ := this
            have hkj := (h4 j o hj ho).1 k hk
            exact ihj k hkj (by omega) hlk
      obtain ⟨j0, hj0, hlj0⟩ := hsome
      obtain ⟨i0, hi0⟩ := hready j0 hj0 hlj0
      refine ⟨fun h0 => by rw [h0] at hi0; (cases hi0), fun i hi => ?_⟩
      obtain ⟨hun, o, ho, hdl⟩ := mem_ready'.1 hi
      have hin : i < ops.size := (Array.getElem?_eq_some_iff.1 ho).1
      have him : i < m := by
        rcases Nat.lt_or_ge i m with h | h
        · exact h
        · rcases Nat.eq_or_lt_of_le h with e | e
          · have := grab_all (p := fun j => listed.getD j false = true) m (deps o) hcl hdl j0 ((h5 i o h ho).2.1 e.symm j0 hj0)
            simp only [hlj0] at this; cases this
          · have := hdl (i - 1) ((h5 i o h ho).2.2 e)
            have h2 := htl (i - 1) (by omega) (by omega)
            simp [Array.getD_eq_getD_getElem?, h2] at this
      obtain ⟨d1, d2, d3⟩ := h4 i o him ho
      have hst := hstep us i o W him ho hR fun j hj => hΦ j (by have := d1 j hj; omega) (hdl j hj)
      refine step_over (b := fillL ops m (fun _ => true) us a0) ho (fun cs x => Region.noSelect_spec h1 i o cs x ho) (fun c => h2 i o c ho) (fun t htt => ?_) (fun t htt => ?_) hst (fun v w' hRw hΦv => ?_)
      · simp only [fillL, Array.getElem?_mapIdx]
        congr 1
        funext x
        cases hw : whose ops m t with
        | none => rfl
        | some j => simp only [hdl j (d3 t htt j hw)]
      · simp only [fillL, Array.size_mapIdx]; exact (d2 t htt).1
      · rw [fill_put him ho (fun d hd => (d2 d hd).2)]
        have hL : (fun j => decide (j = i) || listed.getD j false) = fun j => (listed.setIfInBounds i true).getD j false := by
          funext j
          by_cases e : j = i
          · subst e; simp [hsz, hin]
          · rw [getD_set_ne false (Ne.symm e)]; simp [e]
        rw [hL]
        have hu2 := unl_set hin hsz hun
        refine ih _ _ w' (by simp [hsz]) (by omega) (fun k hk hkn => ?_) (htrans hR hRw) (fun j hj hlj => ?_) ?_
        · rw [Array.getElem?_setIfInBounds_ne (by omega)]; exact htl k hk hkn
        · by_cases e : j = i
          · subst e; simpa using hΦv
          · rw [getD_set_ne false (Ne.symm e)] at hlj
            simp only [e, if_false]
            exact hstab j _ _ _ hRw (hΦ j hj hlj)
        · intro j hj hlj o' ho' d hd
          by_cases e2 : d = i
          · subst e2; simp [hsz, hin]
          rw [getD_set_ne false (Ne.symm e2)]
          by_cases e : j = i
          · subst e
            rw [ho] at ho'
            cases ho'
            exact hdl d hd
          · rw [getD_set_ne false (Ne.symm e)] at hlj
            exact hcl j hj hlj o' ho' d hd
  have hno : ∀ j, (Array.replicate ops.size false).getD j false = false := fun j => by
    by_cases h : j < ops.size <;> simp [h]
  have hfill : fillL ops m (fun j => (Array.replicate ops.size false).getD j false) (fun _ => undef) a0 = a0 := by
    obtain ⟨tm, df⟩ := a0
    simp only [fillL, hno]
    congr 1
    apply Array.ext_getElem?
    intro s
    simp only [Array.getElem?_mapIdx]
    cases tm[s]? with
    | none => rfl
    | some x => cases hw : whose ops m s <;> rfl
  refine wpIn_region_any hm ?_
  have := key ops.size (Array.replicate ops.size false) (fun _ => undef) w.drew (by simp) (by unfold unl; have := List.length_filter_le (fun i => !(Array.replicate ops.size false).getD i true) (List.range ops.size); simpa using this) (fun i _ hi => by simp [hi]) (hrefl _) (fun j hj h => by rw [hno] at h; cases h) (fun j hj h => by rw [hno] at h; cases h)
  rw [hfill] at this
  exact this

/-! The same over a list that is written out: a conjunction, a limb for each operation. -/
/-- The frame with us in the slots of the list's operations. -/
def fillS (us : Nat → Value) : Nat → List Oper → Act → Act
  | _, [], a => a
  | i, o :: l, a => fillS us (i + 1) l (a.put o.dst (us i))
/-- What is known of the operations that o waits for. -/
def Waits (Φ : Nat → Value → World → Prop) (us : Nat → Value) (W : World) : List Nat → Prop
  | [] => True
  | j :: l => Φ j (us j) W ∧ Waits Φ us W l
def Steps1 (F : Fence) (n : Nat) (P : Program) (ops : Array Oper) (df : List Deferred) (R : World → World → Prop) (Φ : Nat → Value → World → Prop) (us : Nat → Value) (W : World) (a : Act) : Nat → List Oper → Prop
  | _, [] => True
  | i, o :: l => (Waits Φ us W (deps o) → wpListIn F n P ops (give df R (Φ i) o.dst W) [o] a W) ∧ Steps1 F n P ops df R Φ us W a (i + 1) l
def Facts (Φ : Nat → Value → World → Prop) (us : Nat → Value) (W : World) : Nat → List Oper → Prop
  | _, [] => True
  | i, _ :: l => Φ i (us i) W ∧ Facts Φ us W (i + 1) l

theorem waits_of {Φ : Nat → Value → World → Prop} {us : Nat → Value} {W : World} : ∀ {l : List Nat}, (∀ j, j ∈ l → Φ j (us j) W) → Waits Φ us W l
  | [], _ => trivial
  | _ :: _, h => ⟨h _ (by simp), waits_of fun j hj => h j (by simp [hj])⟩
theorem steps1_get {ops : Array Oper} {df : List Deferred} {R : World → World → Prop} {Φ : Nat → Value → World → Prop} {us : Nat → Value} {W : World} {a : Act} {o : Oper} (l : List Oper) :
    ∀ (i j : Nat), Steps1 F n P ops df R Φ us W a i l → l[j]? = some o → (∀ k, k ∈ deps o → Φ k (us k) W) → wpListIn F n P ops (give df R (Φ (i + j)) o.dst W) [o] a W := by
  induction l with
  | nil => intro i j _ ho _; simp at ho
  | cons o' l ih =>
    intro i j h ho hd
    cases j with
    | zero =>
      simp only [List.getElem?_cons_zero, Option.some.injEq] at ho
      subst ho
      exact h.1 (waits_of hd)
    | succ j =>
      have := ih (i + 1) j h.2 (by simpa using ho) hd
      rwa [show i + 1 + j = i + (j + 1) by omega] at this
theorem facts_of {Φ : Nat → Value → World → Prop} {us : Nat → Value} {W : World} : ∀ {l : List Oper} {i : Nat}, (∀ j, j < l.length → Φ (i + j) (us (i + j)) W) → Facts Φ us W i l
  | [], _, _ => trivial
  | _ :: l, i, h => ⟨h 0 (by simp), facts_of fun j hj => by have := h (j + 1) (by simpa using hj); rwa [show i + (j + 1) = i + 1 + j by omega] at this⟩

theorem fillS_append (us : Nat → Value) : ∀ (l l' : List Oper) (i : Nat) (a : Act), fillS us i (l ++ l') a = fillS us (i + l.length) l' (fillS us i l a)
  | [], _, _, _ => rfl
  | o :: l, l', i, a => by
    have := fillS_append us l l' (i + 1) (a.put o.dst (us i))
    simp only [List.cons_append, fillS, this, List.length_cons]
    rw [show i + 1 + l.length = i + (l.length + 1) by omega]

theorem fillL_eq {l : List Oper} {m sz : Nat} (ht : tidy l.toArray m sz = true) (us : Nat → Value) (a0 : Act) : fillL l.toArray m (fun _ => true) us a0 = fillS us 0 (l.take m) a0 := by
  obtain ⟨_, _, h3, h4, _⟩ := tidy_spec ht
  simp only [List.size_toArray] at h3
  have key : ∀ k, k ≤ m → fillL l.toArray m (fun j => decide (j < k)) us a0 = fillS us 0 (l.take k) a0 := by
    intro k
    induction k with
    | zero =>
      intro _
      obtain ⟨tm, df⟩ := a0
      simp only [fillL, List.take_zero, fillS]
      congr 1
      apply Array.ext_getElem?
      intro s
      simp only [Array.getElem?_mapIdx]
      cases tm[s]? with
      | none => rfl
      | some x => cases hw : whose l.toArray m s <;> simp [hw]
    | succ k ih =>
      intro hk
      have hlt : k < l.length := by omega
      have ho : l.toArray[k]? = some l[k] := by simp [hlt]
      obtain ⟨_, hd, _⟩ := h4 k l[k] (by omega) ho
      rw [List.take_succ_eq_append_getElem hlt, fillS_append, ← ih (by omega)]
      simp only [fillS, List.length_take, Nat.min_eq_left (Nat.le_of_lt hlt), Nat.zero_add]
      rw [fill_put (by omega) ho (fun d hdd => (hd d hdd).2)]
      simp only [fillL]
      congr 1
      apply Array.ext_getElem?
      intro s
      simp only [Array.getElem?_mapIdx]
      congr 1
      funext x
      cases hw : whose l.toArray m s with
      | none => rfl
      | some j =>
        by_cases e : j = k
        · subst e; simp
        · have : (j < k + 1) ↔ (j < k) := by omega
          simp [e, this]
  rw [← key m (Nat.le_refl _)]
  simp only [fillL]
  congr 1
  apply Array.ext_getElem?
  intro s
  simp only [Array.getElem?_mapIdx]
  congr 1
  funext x
  cases hw : whose l.toArray m s with
  | none => rfl
  | some j => simp [(whose_lt hw).1]

/-- A region that draws its order, written out: its first m operations each by itself, the others behind them. -/
theorem region_steps {id : Nat} {l : List Oper} {Q : Exit → Act → World → Prop} {a0 : Act} {w : World} (m : Nat) (R : World → World → Prop) (Φ : Nat → Value → World → Prop)
    (hm : P.follows .mixedOrders = true) (ht : tidy l.toArray m a0.tmps.size = true)
    (hrefl : ∀ A, R A A) (htrans : ∀ {A B C}, R A B → R B C → R A C) (hstab : ∀ i v A B, R A B → Φ i v A → Φ i v B)
    (hstep : ∀ us W, R w.drew W → Steps1 F n P l.toArray a0.defers R Φ us W (fillS us 0 (l.take m) a0) 0 (l.take m))
    (hfin : ∀ us W, R w.drew W → Facts Φ us W 0 (l.take m) → wpListIn F n P l.toArray Q (l.drop m) (fillS us 0 (l.take m) a0) W) :
    (Code.region id l.toArray true).wpIn F n P Q a0 w := by
  have h3 := (tidy_spec ht).2.2.1
  simp only [List.size_toArray] at h3
  refine region_each m R Φ hm ht hrefl (fun h k => htrans h k) hstab (fun us i o W hi ho hW hd => ?_) (fun us W hW hf => ?_)
  · rw [fillL_eq ht]
    have := steps1_get _ 0 i (o := o) (hstep us W hW) (by rw [List.getElem?_take]; simpa [hi] using ho) hd
    rwa [Nat.zero_add] at this
  · rw [fillL_eq ht]
    have h := hfin us W hW (facts_of fun j hj => by rw [Nat.zero_add]; exact hf j (by simp at hj; omega))
    rw [← wpOpsIn_eq_wpListIn (l.drop m) m (fun j => by simp)] at h
    simpa using h

/-- The worlds that only grow. -/
def Grow (A B : World) : Prop := Below A.heap.size A B
theorem Grow.refl (A : World) : Grow A A := Below.refl _ _
theorem Grow.trans {A B C : World} (h : Grow A B) (k : Grow B C) : Grow A C := Below.trans h (Below.mono k h.size)
theorem Grow.cell {A B : World} (h : Grow A B) {p : Addr} {v : Value} (hc : A.cell? p = some v) : B.cell? p = some v := (Kept.grow (w := A) (w' := B) h).cell (M := fun _ => False) hc (fun h => h)
theorem Grow.alloc {A B : World} (h : Grow A B) (o : Obj) : Grow A (B.alloc o) := h.trans (Below.alloc (Below.refl _ _) (Nat.le_refl _) o)
theorem Grow.drew {A B : World} (h : Grow A B) : Grow A B.drew := Below.drew h
theorem Grow.drewN {A B : World} (h : Grow A B) (n : Nat) : Grow A (B.drewN n) := below_drewN h n

end each

end Go.Proofs.Ythiifonejoejpaa
