/- The evaluator: operations that look at nothing but their operands. -/
import Derived.Test.YthiifonejoejpaaAb2
import Derived.Laws.Tables
import Derived.Laws.StructEq
import Derived.Laws.IdiomCopy
import Derived.Laws.Slices
import Derived.Laws.Cover3
namespace Go.Proofs.Ythiifonejoejpaa
namespace Abs
open Go.RowKit
variable {P : Program} {m : NM}

theorem info_of {t : TypeId} {n : Nat} (h : sz P t = some n) : ∃ i, P.info? t = some i ∧ i.size = n := by
  unfold sz at h
  cases e : P.info? t with
  | none => simp [e] at h
  | some i => exact ⟨i, rfl, by simpa [e] using h⟩
theorem run_info {t : TypeId} {i : TypeInfo} (h : P.info? t = some i) (w : World) : (typeInfo t).run P w = .ok i w := by simp [typeInfo, h]
theorem run_size {t : TypeId} {n : Nat} (h : sz P t = some n) (w : World) : (sizeOf t).run P w = .ok n w := by
  obtain ⟨i, hi, rfl⟩ := info_of h
  simp [sizeOf, run_info hi]
theorem zero_ok {t : TypeId} {z : AV} (h : zero P t = some z) : ∃ v, VR m z v ∧ ∃ i, P.info? t = some i ∧ i.zero = some v := by
  unfold zero at h
  cases e : P.info? t with
  | none => simp [e] at h
  | some i => cases e2 : i.zero with
    | none => simp [e, e2] at h
    | some v => simp [e, e2] at h; exact ⟨v, ofV_ok _ _ _ h, i, rfl, e2⟩
theorem run_zero {t : TypeId} {i : TypeInfo} {v : Value} (h : P.info? t = some i) (hz : i.zero = some v) (w : World) : (zeroValue t).run P w = .ok v w := by
  simp [zeroValue, run_info h, hz]
theorem run_isAgg {t : TypeId} {b : Bool} (h : isAggT P t = some b) (w : World) : (isAgg t).run P w = .ok b w := by
  unfold isAggT at h
  cases e : P.underlying t with
  | none => simp [e] at h
  | some d => cases d <;> simp [e] at h <;> subst h <;> simp [isAgg, run_underlying e]

theorem takeN_ok {cs l : List AV} {vs : List Value} {off n : Nat} (h : takeN cs off n = some l) (hv : VRs m cs vs) : VRs m l ((vs.drop off).take n) ∧ ((vs.drop off).take n).length = n ∧ off + n ≤ vs.length ∨ n = 0 ∧ l = [] := by
  unfold takeN at h
  rw [Bool.cond_eq_ite] at h
  split at h
  · rename_i hl
    cases h
    have h1 := (hv.drop off).take n
    have h2 := h1.length
    rw [Nat.beq_eq] at hl
    rw [hl] at h2
    rcases Nat.eq_zero_or_pos n with rfl | hn
    · exact .inr ⟨rfl, by simp⟩
    · refine .inl ⟨h1, h2, ?_⟩
      simp at h2; omega
  · cases h
theorem takeN_vrs {cs l : List AV} {vs : List Value} {off n : Nat} (h : takeN cs off n = some l) (hv : VRs m cs vs) : VRs m l ((vs.drop off).take n) ∧ ((vs.drop off).take n).length = n := by
  rcases takeN_ok h hv with ⟨h1, h2, _⟩ | ⟨rfl, rfl⟩
  · exact ⟨h1, h2⟩
  · simp [VRs]
theorem extract_toList (vs : Array Value) (off n : Nat) : (vs.extract off (off + n)).toList = (vs.toList.drop off).take n := by
  simp [Array.toList_extract, List.extract_eq_take_drop]
theorem part_ok {t : TypeId} {cs : List AV} {vs : Array Value} {off : Nat} {a : AV} (h : partT P t cs off = some a) (hv : VRs m cs vs.toList) : ∃ v, VR m a v ∧ ∀ w, (part t vs off).run P w = .ok v w := by
  unfold partT at h
  cases e : isAggT P t with
  | none => simp [e] at h
  | some b =>
    cases b with
    | false =>
      simp [e] at h
      obtain ⟨v, h1, h2⟩ := hv.get h
      rw [Array.getElem?_toList] at h1
      exact ⟨v, h2, fun w => by simp [part, run_isAgg e, h1]⟩
    | true =>
      cases e2 : sz P t with
      | none => simp [e, e2] at h
      | some n =>
        simp [e, e2] at h
        obtain ⟨l, hl, rfl⟩ := h
        obtain ⟨h1, h2⟩ := takeN_vrs hl hv
        refine ⟨.agg (vs.extract off (off + n)), ?_, fun w => by simp [part, run_isAgg e, run_size e2]⟩
        simp only [VR]
        exact ⟨_, rfl, by rw [extract_toList]; exact h1⟩

theorem evalO_ok {T : Tr AV} {a : Act} {x : Operand} {v : AV} (ht : ∀ t, x = .tmp t → VR m ((T.get t).getD .undef) (a.tmps.getD t undef)) (h : evalO T x = some v) : VR m v (a.eval x) := by
  cases x with
  | tmp t => simp [evalO] at h; subst h; exact ht t rfl
  | const c => exact ofV_ok _ _ _ h
  | global g => simp [evalO] at h
  | func f => simp [evalO] at h; subst h; simp only [VR, Act.eval]; exact ⟨#[], #[], rfl, .nil, .nil⟩

/-- What the evaluator knows of an operation's operands. -/
def Ev (m : NM) (T : Tr AV) (ρ : Operand → Value) (xs : Array Operand) : Prop := ∀ x ∈ xs, ∀ v, evalO T x = some v → VR m v (ρ x)
section ev
variable {T : Tr AV} {ρ : Operand → Value}
theorem evalL_ok : ∀ {xs : List Operand} {l : List AV}, (∀ x ∈ xs, ∀ v, evalO T x = some v → VR m v (ρ x)) → evalL T xs = some l → VRs m l (xs.map ρ) := by
  intro xs
  induction xs with
  | nil => intro l _ h; simp [evalL] at h; subst h; exact .nil
  | cons x xs ih =>
    intro l hx h
    unfold evalL at h
    cases h1 : evalO T x with
    | none => simp [h1] at h
    | some a => cases h2 : evalL T xs with
      | none => simp [h1, h2] at h
      | some l => simp [h1, h2] at h; subst h; exact .cons (hx x (by simp) _ h1) (ih (fun y hy => hx y (by simp [hy])) h2)
def PRs (m : NM) : List (Nat × AV) → List (Nat × Value) → Prop
  | [], l => l = []
  | p :: ps, l => ∃ v t, l = (p.1, v) :: t ∧ VR m p.2 v ∧ PRs m ps t
theorem evalP_ok : ∀ {xs : List (Nat × Operand)} {l : List (Nat × AV)}, (∀ p ∈ xs, ∀ v, evalO T p.2 = some v → VR m v (ρ p.2)) → evalP T xs = some l → PRs m l (xs.map fun p => (p.1, ρ p.2)) := by
  intro xs
  induction xs with
  | nil => intro l _ h; simp [evalP] at h; subst h; rfl
  | cons p xs ih =>
    obtain ⟨i, x⟩ := p
    intro l hx h
    unfold evalP at h
    cases h1 : evalO T x with
    | none => simp [h1] at h
    | some a => cases h2 : evalP T xs with
      | none => simp [h1, h2] at h
      | some l => simp [h1, h2] at h; subst h; exact ⟨ρ x, _, rfl, hx (i, x) (by simp) _ h1, ih (fun y hy => hx y (by simp [hy])) h2⟩
end ev

theorem foldl_set (cs : List Value) : ∀ (off j : Nat) (vs : Array Value), off + j + cs.length ≤ vs.size →
    ((cs.zipIdx j).foldl (fun (a : Array Value) (p : Value × Nat) => a.setIfInBounds (off + p.2) p.1) vs).toList = vs.toList.take (off + j) ++ cs ++ vs.toList.drop (off + j + cs.length) := by
  induction cs with
  | nil => intro off j vs h; simp
  | cons c cs ih =>
    intro off j vs h
    simp at h
    simp only [List.zipIdx_cons, List.foldl_cons]
    rw [show off + j + (c :: cs).length = off + (j + 1) + cs.length by simp; omega]
    rw [ih off (j + 1) _ (by simp; omega)]
    simp only [Array.toList_setIfInBounds]
    rw [show off + (j + 1) = (off + j) + 1 by omega, List.drop_set_of_lt (by omega)]
    have : (vs.toList.set (off + j) c).take (off + j + 1) = vs.toList.take (off + j) ++ [c] := by
      rw [List.take_set, List.take_succ_eq_append_getElem (by simp; omega)]
      rw [List.set_append_right _ _ (by simp; omega)]
      simp [show min (off + j) vs.size = off + j by omega]
    rw [this]; simp
theorem fill_ok {place place' : Nat → Option (Nat × Nat)} (hp : ∀ i x, place i = some x → place' i = some x) : ∀ {ps : List (Nat × AV)} {cs cs' : List AV} {pvs : List (Nat × Value)} {vs : Array Value}, fillL place cs ps = some cs' → PRs m ps pvs → VRs m cs vs.toList →
    ∃ vs', Instr.fill place' vs pvs = some vs' ∧ VRs m cs' vs'.toList := by
  intro ps
  induction ps with
  | nil => intro cs cs' pvs vs h hps hv; cases hps; simp [fillL] at h; subst h; exact ⟨vs, rfl, hv⟩
  | cons p ps ih =>
    obtain ⟨i, a⟩ := p
    intro cs cs' pvs vs h hps hv
    obtain ⟨v, t, rfl, h1, h2⟩ := hps
    simp only [fillL] at h
    cases hpl : place i with
    | none => simp [hpl] at h
    | some x =>
      obtain ⟨off, size⟩ := x
      simp only [hpl, Bool.cond_eq_ite, Nat.beq_eq, Nat.ble_eq] at h
      split at h
      · rename_i hs
        split at h
        · rename_i hb
          cases hc : setAt cs off a.cells with
          | none => simp [hc] at h
          | some c2 =>
            simp only [hc] at h
            have hcl := h1.cells
            have hlen : v.cells.size = size := by rw [← Array.length_toList, hcl.length, hs]
            have hvl := hv.length
            rw [Array.length_toList] at hvl
            obtain ⟨_, _, h4⟩ := setAt_ok hv hc hcl
            have hf := foldl_set v.cells.toList off 0 vs (by simp; omega)
            simp only [Nat.add_zero, Array.length_toList] at hf
            have hz : (v.cells.zipIdx.foldl (fun (cs : Array Value) (p : Value × Nat) => cs.setIfInBounds (off + p.2) p.1) vs).toList = vs.toList.take off ++ v.cells.toList ++ vs.toList.drop (off + v.cells.size) := by
              rw [← hf, ← Array.foldl_toList]; simp
            obtain ⟨vs', hv1, hv2⟩ := ih h h2 (vs := v.cells.zipIdx.foldl (fun (cs : Array Value) (p : Value × Nat) => cs.setIfInBounds (off + p.2) p.1) vs) (by rw [hz]; simpa using h4)
            refine ⟨vs', ?_, hv2⟩
            simp only [Instr.fill, hp i _ hpl]
            rw [if_neg (by simp [hlen]; omega)]
            exact hv1
        · cases h
      · cases h
theorem places_ok : ∀ {fs : List Field} {pl : List (Nat × Nat)}, placesA P fs = some pl → fs.mapM (fun f => (P.info? f.type).map fun i => (f.offset, i.size)) = some pl := by
  intro fs
  induction fs with
  | nil => intro pl h; simp [placesA] at h; subst h; rfl
  | cons f fs ih =>
    intro pl h
    unfold placesA at h
    cases h1 : sz P f.type with
    | none => simp [h1] at h
    | some n => cases h2 : placesA P fs with
      | none => simp [h1, h2] at h
      | some l =>
        simp [h1, h2] at h; subst h
        obtain ⟨i, hi, rfl⟩ := info_of h1
        simp [List.mapM_cons, hi, ih h2]
theorem build_ok {t : TypeId} {z a : AV} {ps : List (Nat × AV)} {parts : Array (Nat × Value)} (hz : zero P t = some z) (hp : PRs m ps parts.toList)
    (h : buildA P t z.cells ps = some a) : ∃ v, VR m a v ∧ ∀ w, (Instr.build t parts).run P w = .ok v w := by
  obtain ⟨zv, hzv, i, hi, hiz⟩ := zero_ok (m := m) hz
  unfold buildA at h
  cases hu : P.underlying t with
  | none => simp [hu] at h
  | some d =>
    cases d <;> simp [hu] at h
    case struct fs =>
      cases hpl : placesA P fs.toList with
      | none => simp [hpl] at h
      | some pl =>
        simp [hpl] at h
        obtain ⟨cs, hc, rfl⟩ := h
        obtain ⟨vs', h1, h2⟩ := fill_ok (place' := (pl.toArray[·]?)) (fun i x hx => by simpa using hx) hc hp hzv.cells
        refine ⟨.agg vs', by simp only [VR]; exact ⟨_, rfl, h2⟩, fun w => run_build w t parts vs' ?_⟩
        simp only [Program.built, hi, hu, hiz, places_ok hpl]
        exact h1
    case array n e =>
      cases hs : sz P e with
      | none => simp [hs] at h
      | some size =>
        simp [hs] at h
        obtain ⟨cs, hc, rfl⟩ := h
        obtain ⟨ie, hie, rfl⟩ := info_of hs
        obtain ⟨vs', h1, h2⟩ := fill_ok (fun i x hx => hx) hc hp hzv.cells
        refine ⟨.agg vs', by simp only [VR]; exact ⟨_, rfl, h2⟩, fun w => run_build w t parts vs' ?_⟩
        simp [Program.built, hi, hu, hiz, hie, h1]

/-! Equality. -/
theorem ext_beq (a b : ByteArray) : (a == b) = (a.toList == b.toList) := beq_toListBytes a b
mutual
theorem eqv_ok : (d : Nat) → (t : TypeId) → (x y : AV) → (r : Bool) → eqv P d t x y = some r → (vx vy : Value) → VR m x vx → VR m y vy → ∀ (w : World) (d' : Nat), d ≤ d' → (Op.equalIn d' t vx vy).run P w = .ok r w
  | 0, _, _, _, _, h, _, _, _, _, _, _, _ => by simp [eqv] at h
  | d + 1, t, x, y, r, h, vx, vy, hx, hy, w, d', hd => by
    obtain ⟨d', rfl⟩ : ∃ e, d' = e + 1 := ⟨d' - 1, by omega⟩
    unfold eqv at h
    split at h
    all_goals (try (cases h; done))
    · rename_i hu; simp only [VR] at hx hy; subst hx hy; cases h; simp [Op.equalIn, run_underlying hu]
    · rename_i hu; simp only [VR] at hx hy; subst hx hy
      split at h
      · rename_i e; subst e; cases h; simp [Op.equalIn, run_underlying hu]
      · cases h
    · rename_i hu; simp only [VR] at hx hy; subst hx hy; cases h; simp [Op.equalIn, run_underlying hu, ext_beq]
    · rename_i hu; simp only [VR] at hx hy; subst hx hy; cases h; simp [Op.equalIn, run_underlying hu]
    · rename_i hu; simp only [VR] at hx hy; obtain ⟨k, _, rfl⟩ := hy; subst hx; cases h; simp [Op.equalIn, run_underlying hu]
    · rename_i hu; simp only [VR] at hx hy; obtain ⟨k, _, rfl⟩ := hx; subst hy; cases h; simp [Op.equalIn, run_underlying hu]
    · rename_i hu; simp only [VR] at hx hy; subst hx hy; cases h; simp [Op.equalIn, run_underlying hu]
    · rename_i hu; simp only [VR] at hx hy; obtain ⟨k, o, c, _, rfl, _⟩ := hy; subst hx; cases h; simp [Op.equalIn, run_underlying hu]
    · rename_i hu; simp only [VR] at hx hy; obtain ⟨k, o, c, _, rfl, _⟩ := hx; subst hy; cases h; simp [Op.equalIn, run_underlying hu]
    · rename_i hu; simp only [VR] at hx hy; subst hx hy; cases h; simp [Op.equalIn, run_underlying hu]
    · rename_i hu; simp only [VR] at hx hy; obtain ⟨k, _, rfl⟩ := hy; subst hx; cases h; simp [Op.equalIn, run_underlying hu]
    · rename_i hu; simp only [VR] at hx hy; obtain ⟨k, _, rfl⟩ := hx; subst hy; cases h; simp [Op.equalIn, run_underlying hu]
    · rename_i hu; simp only [VR] at hx hy; subst hx hy; cases h; simp [Op.equalIn, run_underlying hu]
    · rename_i hu; simp only [VR] at hx hy; obtain ⟨a, b, rfl, _⟩ := hy; subst hx; cases h; simp [Op.equalIn, run_underlying hu]
    · rename_i hu; simp only [VR] at hx hy; obtain ⟨a, b, rfl, _⟩ := hx; subst hy; cases h; simp [Op.equalIn, run_underlying hu]
    · rename_i fs xs ys hu
      simp only [VR] at hx hy
      obtain ⟨ax, rfl, hx⟩ := hx
      obtain ⟨ay, rfl, hy⟩ := hy
      cases hs : P.stoodInHeld t with
      | true => simp [hs] at h
      | false =>
        simp [hs] at h
        have hf : P.fieldsOf t = fs := by simp [Program.fieldsOf, hu]
        rw [run_equalIn_struct w d' t ax ay (by rw [hf]; exact hu) hs, hf]
        exact eqvF_ok d fs.toList xs ys r h ax ay hx hy w d' (by omega)
theorem eqvF_ok : (d : Nat) → (fs : List Field) → (xs ys : List AV) → (r : Bool) → eqvF P d fs xs ys = some r → (ax ay : Array Value) → VRs m xs ax.toList → VRs m ys ay.toList → ∀ (w : World) (d' : Nat), d ≤ d' → (Op.eqFields d' ax ay fs).run P w = .ok r w
  | 0, _, _, _, _, h, _, _, _, _, _, _, _ => by simp [eqvF] at h
  | d + 1, [], _, _, r, h, _, _, _, _, w, d', _ => by simp [eqvF] at h; subst h; simp [Op.eqFields]
  | d + 1, f :: fs, xs, ys, r, h, ax, ay, hx, hy, w, d', hd => by
    unfold eqvF at h
    simp only [Op.eqFields]
    split at h
    · rename_i hn
      rw [if_neg (by simp [hn])]
      exact eqvF_ok d fs xs ys r h ax ay hx hy w d' (by omega)
    · rename_i hn
      rw [if_pos hn]
      cases h1 : partT P f.type xs f.offset with
      | none => simp [h1] at h
      | some x =>
        cases h2 : partT P f.type ys f.offset with
        | none => simp [h1, h2] at h
        | some y =>
          simp only [h1, h2] at h
          obtain ⟨vx, hvx, hrx⟩ := part_ok h1 hx
          obtain ⟨vy, hvy, hry⟩ := part_ok h2 hy
          cases h3 : eqv P d f.type x y with
          | none => simp [h3] at h
          | some b =>
            have := eqv_ok d f.type x y b h3 vx vy hvx hvy w d' (by omega)
            cases b with
            | true =>
              simp [h3] at h
              simp [hrx, hry, this, eqvF_ok d fs xs ys r h ax ay hx hy w d' (by omega)]
            | false =>
              simp [h3] at h; subst h
              simp [hrx, hry, this]
end
end Abs
end Go.Proofs.Ythiifonejoejpaa
