/- The evaluator: operations that look at nothing but their operands, each of them. -/
import Derived.Test.YthiifonejoejpaaAb3
namespace Go.Proofs.Ythiifonejoejpaa
namespace Abs
open Go.RowKit
variable {P : Program} {m : NM}

theorem guard_ok {op : BinOp} {t : TypeId} {x y : Operand} {a b : AV} {va vb : Value} (h : guardOk P t a b = true) (ha : VR m a va) (hb : VR m b vb) (w : World) : (eqGuard op t x y va vb).run P w = .ok () w := by
  unfold guardOk at h
  split at h
  · simp only [VR] at ha hb
    obtain ⟨xs, rfl, _⟩ := ha
    obtain ⟨ys, rfl, _⟩ := hb
    exact run_eqGuard_agg w op t x y xs ys (by simpa using h)
  · cases h
  · cases h
  · rename_i h2 _ h1
    have key : ∀ (u v : Value), (∀ xs ys, u = .agg xs → v = .agg ys → False) → (u = .nilIface → v = .nilIface → False) → (eqGuard op t x y u v).run P w = .ok () w := by
      intro u v g1 g2
      cases op <;> first
        | (simp [eqGuard]; done)
        | (cases u <;> cases v <;> first
            | (simp [eqGuard]; done)
            | exact (g1 _ _ rfl rfl).elim
            | exact (g2 rfl rfl).elim)
    refine key va vb ?_ ?_
    · rintro xs ys rfl rfl
      cases a <;> simp only [VR] at ha <;> simp at ha
      cases b <;> simp only [VR] at hb <;> simp at hb
      exact h1 _ _ rfl rfl
    · rintro rfl rfl
      cases a <;> simp only [VR] at ha <;> first
        | (exact (h2 rfl).elim)
        | (simp at ha; done)

theorem arith_ok {op : BinOp} {k : IntKind} {x y : Int} {v : AV} (h : arith op k x y = some v) (hsh : op ≠ .shl ∧ op ≠ .shr) (t : TypeId) : ∃ v', VR m v v' ∧ ∀ w, (binOp op t (.int k x) (.int k y)).run P w = .ok v' w := by
  cases op <;> simp only [arith] at h
  all_goals first
    | (cases h; done)
    | (cases h; exact ⟨_, by simp only [VR]; rfl, fun w => by simp [binOp, Op.intArith, Op.intBits, Op.intCmp]⟩)
    | (split at h
       · cases h
       · rename_i hy; cases h; exact ⟨_, by simp only [VR]; rfl, fun w => by simp [binOp, Op.intDiv, hy]⟩)
    | (exact absurd rfl hsh.1)
    | (exact absurd rfl hsh.2)

theorem VR.not_float {a : AV} {k : FloatKind} {b : Nat} (h : VR m a (.float k b)) : False := by
  cases a <;> simp only [VR] at h <;> simp at h
theorem VR.not_complex {a : AV} {k : FloatKind} {b c : Nat} (h : VR m a (.complex k b c)) : False := by
  cases a <;> simp only [VR] at h <;> simp at h
theorem VR.int_inv {a : AV} {k : IntKind} {n : Int} (h : VR m a (.int k n)) : a = .int k n := by
  cases a <;> simp only [VR] at h <;> simp at h
  obtain ⟨rfl, rfl⟩ := h; rfl
theorem VR.str_inv {a : AV} {s : ByteArray} (h : VR m a (.string s)) : a = .str s := by
  cases a <;> simp only [VR] at h <;> simp at h
  subst h; rfl
theorem not_int {a b : AV} {va vb : Value} (ha : VR m a va) (hb : VR m b vb) (h : ∀ (k : IntKind) (x : Int) (k' : IntKind) (y : Int), a = .int k x → b = .int k' y → False) : ∀ k x k' y, va = .int k x → vb = .int k' y → False := by
  rintro k x k' y rfl rfl
  exact h _ _ _ _ ha.int_inv hb.int_inv
theorem not_str {a b : AV} {va vb : Value} (ha : VR m a va) (hb : VR m b vb) (h : ∀ (x y : ByteArray), a = .str x → b = .str y → False) : ∀ x y, va = .string x → vb = .string y → False := by
  rintro x y rfl rfl
  exact h _ _ ha.str_inv hb.str_inv
theorem eql_def {a b : AV} {va vb : Value} (t : TypeId) (h1 : ∀ k x k' y, va = .int k x → vb = .int k' y → False) (h2 : ∀ x y, va = .string x → vb = .string y → False) (ha : VR m a va) (hb : VR m b vb) :
    binOp .eql t va vb = (do pure (.bool (← Op.equal t va vb))) := by
  cases va <;> cases vb <;> first
    | rfl
    | exact (h1 _ _ _ _ rfl rfl).elim
    | exact (h2 _ _ rfl rfl).elim
    | exact ha.not_float.elim
    | exact ha.not_complex.elim
theorem neq_def {a b : AV} {va vb : Value} (t : TypeId) (h1 : ∀ k x k' y, va = .int k x → vb = .int k' y → False) (h2 : ∀ x y, va = .string x → vb = .string y → False) (ha : VR m a va) (hb : VR m b vb) :
    binOp .neq t va vb = (do pure (.bool (!(← Op.equal t va vb)))) := by
  cases va <;> cases vb <;> first
    | rfl
    | exact (h1 _ _ _ _ rfl rfl).elim
    | exact (h2 _ _ rfl rfl).elim
    | exact ha.not_float.elim
    | exact ha.not_complex.elim
theorem bin_ok {op : BinOp} {t : TypeId} {xo yo : Operand} {a b r : AV} {va vb : Value} (h : binV P op t a b = some r) (ha : VR m a va) (hb : VR m b vb) :
    ∃ v, VR m r v ∧ ∀ w, (do eqGuard op t xo yo va vb; binOp op t va vb : Sem Value).run P w = .ok v w := by
  have hint : ∀ (k k' : IntKind) (x y : Int) (w : World), (eqGuard op t xo yo (.int k x) (.int k' y)).run P w = .ok () w := fun k k' x y w => by cases op <;> simp [eqGuard]
  have hstr : ∀ (x y : ByteArray) (w : World), (eqGuard op t xo yo (.string x) (.string y)).run P w = .ok () w := fun x y w => by cases op <;> simp [eqGuard]
  unfold binV at h
  split at h
  · simp only [VR] at ha hb; subst ha hb
    split at h
    · cases h
    · rename_i hb; cases h
      refine ⟨_, by simp only [VR]; rfl, fun w => ?_⟩
      simp [hint, binOp, Op.shift, hb]
  · simp only [VR] at ha hb; subst ha hb
    split at h
    · cases h
    · rename_i hb; cases h
      refine ⟨_, by simp only [VR]; rfl, fun w => ?_⟩
      simp [hint, binOp, Op.shift, hb]
  · rename_i h1 h2
    simp only [VR] at ha hb; subst ha hb
    split at h
    · rename_i e; subst e
      obtain ⟨v, h3, h4⟩ := arith_ok (P := P) (m := m) h ⟨h1, h2⟩ t
      exact ⟨v, h3, fun w => by simp [hint, h4]⟩
    · cases h
  · simp only [VR] at ha hb; subst ha hb
    cases op <;> simp only [strOp] at h
    all_goals first
      | (cases h; done)
      | (cases h; refine ⟨_, by simp only [VR]; rfl, fun w => ?_⟩; simp [hstr, binOp, Op.stringOp])
  · rename_i h1 h2
    simp only [Bool.cond_eq_ite] at h
    split at h
    · rename_i hg
      cases he : eqv P Op.maxDepth t a b with
      | none => simp [he] at h
      | some x =>
        simp [he] at h; subst h
        have h3 := fun w => eqv_ok Op.maxDepth t a b x he va vb ha hb w Op.maxDepth (Nat.le_refl _)
        refine ⟨.bool x, by simp only [VR], fun w => ?_⟩
        rw [eql_def t (not_int ha hb (by assumption)) (not_str ha hb (by assumption)) ha hb]
        simp [guard_ok hg ha hb, Op.equal, h3]
    · cases h
  · rename_i h1 h2
    simp only [Bool.cond_eq_ite] at h
    split at h
    · rename_i hg
      cases he : eqv P Op.maxDepth t a b with
      | none => simp [he] at h
      | some x =>
        simp [he] at h; subst h
        have h3 := fun w => eqv_ok Op.maxDepth t a b x he va vb ha hb w Op.maxDepth (Nat.le_refl _)
        refine ⟨.bool !x, by simp only [VR], fun w => ?_⟩
        rw [neq_def t (not_int ha hb (by assumption)) (not_str ha hb (by assumption)) ha hb]
        simp [guard_ok hg ha hb, Op.equal, h3]
    · cases h
  · cases h

theorem natOf_ok {a : AV} {n : Nat} {v : Value} (h : natOf a = some n) (hv : VR m a v) : ∃ k, v = .int k n := by
  unfold natOf at h
  split at h
  · cases h; simp only [VR] at hv; exact ⟨_, hv⟩
  · cases h
theorem run_bound {k : IntKind} {n y : Nat} (h : n ≤ y) (code : BoundsCode) (w : World) : (Instr.sliceBound (.int k n) y code).run P w = .ok n w := by
  simp [Instr.sliceBound, asIntOf, h]
/-- Both bounds of a slice expression. -/
theorem bounds_ok {len cap l h c : Nat} {lo hi : Option AV} {vlo vhi : Option Value} (hb : bounds len cap lo hi = some (l, h)) (hlo : ∀ a, lo = some a → ∃ v, vlo = some v ∧ VR m a v) (hlo' : lo = none → vlo = none)
    (hhi : ∀ a, hi = some a → ∃ v, vhi = some v ∧ VR m a v) (hhi' : hi = none → vhi = none) (hc : cap ≤ c) (s : Bool) : l ≤ h ∧ h ≤ cap ∧ ∀ w, (Instr.sliceBounds s len c vlo vhi none).run P w = .ok (l, h, c) w := by
  unfold bounds at hb
  cases e1 : limA len hi with
  | none => simp [e1] at hb
  | some h0 =>
    cases e2 : limA 0 lo with
    | none => simp [e1, e2] at hb
    | some l0 =>
      simp only [e1, e2, Bool.cond_eq_ite, Nat.ble_eq] at hb
      split at hb
      · split at hb
        · rename_i g1 g2
          simp only [Option.some.injEq, Prod.mk.injEq] at hb
          obtain ⟨rfl, rfl⟩ := hb
          refine ⟨g1, g2, fun w => ?_⟩
          have eh : ∀ w, (match vhi with | some v => Instr.sliceBound v c (if s then .sliceAcap else .sliceAlen) | none => pure len : Sem Nat).run P w = .ok h0 w := fun w => by
            cases hi with
            | none => simp [limA] at e1; subst e1; rw [hhi' rfl]; rfl
            | some a =>
              obtain ⟨v, rfl, hv⟩ := hhi a rfl
              obtain ⟨k, rfl⟩ := natOf_ok e1 hv
              exact run_bound (by omega) _ w
          have el : ∀ w, (match vlo with | some v => Instr.sliceBound v h0 .sliceB | none => pure 0 : Sem Nat).run P w = .ok l0 w := fun w => by
            cases lo with
            | none => simp [limA] at e2; subst e2; rw [hlo' rfl]; rfl
            | some a =>
              obtain ⟨v, rfl, hv⟩ := hlo a rfl
              obtain ⟨k, rfl⟩ := natOf_ok e2 hv
              exact run_bound g1 _ w
          cases vhi <;> cases vlo <;> simp at eh el <;> simp [Instr.sliceBounds, eh, el]
        · cases hb
      · cases hb

section ops
variable {T : Tr AV} {ρ : Operand → Value}
theorem opt_ok {x : Option Operand} {r : Option AV} (h : optO T x = some r) (hx : ∀ y, x = some y → ∀ v, evalO T y = some v → VR m v (ρ y)) : (∀ a, r = some a → ∃ v, x.map ρ = some v ∧ VR m a v) ∧ (r = none → x.map ρ = none) := by
  unfold optO at h
  cases x with
  | none => simp at h; subst h; simp
  | some y =>
    cases e : evalO T y with
    | none => simp [e] at h
    | some a => simp [e] at h; subst h; simp; exact hx y rfl a e
theorem pure_ok {o : Oper} {v : AV} (hρ : Ev m T ρ o.op.operands) (h : pureA P T o.op = some v) : ∃ v', VR m v v' ∧ ∀ w, (execOp ρ o).run P w = .ok (.value v') w := by
  obtain ⟨dst, op, type, pos, after, guard⟩ := o
  simp only at h hρ
  unfold pureA at h
  split at h
  · rename_i x; exact ⟨ρ x, hρ x (by simp [Op.operands]) _ h, fun w => rfl⟩
  · rename_i x; exact ⟨ρ x, hρ x (by simp [Op.operands]) _ h, fun w => rfl⟩
  · rename_i c a b
    split at h
    · rename_i t hc
      have := hρ c (by simp [Op.operands]) _ hc
      simp only [VR] at this
      cases t
      · exact ⟨ρ b, hρ b (by simp [Op.operands]) _ h, fun w => by simp [execOp, this, asBool]⟩
      · exact ⟨ρ a, hρ a (by simp [Op.operands]) _ h, fun w => by simp [execOp, this, asBool]⟩
    · cases h
  · rename_i t parts
    split at h
    · rename_i z ps hz hp
      have hps : PRs m ps (parts.map fun p => (p.1, ρ p.2)).toList := by
        rw [Array.toList_map]
        exact evalP_ok (fun p hp v hv => hρ p.2 (by simp only [Op.operands, List.mem_toArray, List.mem_map]; exact ⟨p, hp, rfl⟩) v hv) hp
      obtain ⟨v', h1, h2⟩ := build_ok (parts := parts.map fun p => (p.1, ρ p.2)) hz hps h
      exact ⟨v', h1, fun w => by simp [execOp, h2]⟩
    · cases h
  · rename_i x
    split at h
    · rename_i e; cases h
      have := hρ x (by simp [Op.operands]) _ e
      simp only [VR] at this
      obtain ⟨k, hk, e2⟩ := this
      exact ⟨_, by simp only [VR]; exact ⟨k, hk, rfl⟩, fun w => by simp [execOp, e2]⟩
    · rename_i e; cases h
      have := hρ x (by simp [Op.operands]) _ e
      have h' := this
      simp only [VR] at this
      obtain ⟨xs, ys, e2, _⟩ := this
      exact ⟨ρ x, h', fun w => by simp [execOp, e2]⟩
    · rename_i e; cases h
      have := hρ x (by simp [Op.operands]) _ e
      have h' := this
      simp only [VR] at this
      obtain ⟨k, hk, e2⟩ := this
      exact ⟨ρ x, h', fun w => by simp [execOp, e2]⟩
    · cases h
  · rename_i op t x y yt
    split at h
    · rename_i a b ha hb
      obtain ⟨v', h1, h2⟩ := bin_ok (xo := x) (yo := y) h (hρ x (by simp [Op.operands]) _ ha) (hρ y (by simp [Op.operands]) _ hb)
      exact ⟨v', h1, fun w => by
        have := h2 w
        simp only [execOp, Sem.run_bind] at this ⊢
        rw [this]; rfl⟩
    · cases h
  · rename_i op xt x
    split at h
    · rename_i a ha
      have hv := hρ x (by simp [Op.operands]) _ ha
      cases op <;> cases a <;> simp only [unV] at h <;> simp only [VR] at hv <;> first
        | (cases h; done)
        | (cases h; exact ⟨_, by simp only [VR]; rfl, fun w => by simp [execOp, hv, Op.unary, Op.intArith]⟩)
    · cases h
  · rename_i src dst x
    split at h
    · rename_i hs hd he; cases h
      have hv := hρ x (by simp [Op.operands]) _ he
      simp only [VR] at hv
      exact ⟨_, by simp only [VR]; rfl, fun w => by simp [execOp, hv, convert, run_underlying hs, run_underlying hd, Conv.intToInt]⟩
    · rename_i hs hd he; cases h
      have hv := hρ x (by simp [Op.operands]) _ he
      simp only [VR] at hv
      exact ⟨_, by simp only [VR]; rfl, fun w => by simp [execOp, hv, convert, run_underlying hs, run_underlying hd]⟩
    · cases h
  · rename_i f first captured
    split at h
    · rename_i a b ha hb; cases h
      have h1 := evalL_ok (fun y hy v hv => hρ y (by simp [Op.operands]; left; simpa using hy) v hv) ha
      have h2 := evalL_ok (fun y hy v hv => hρ y (by simp [Op.operands]; right; simpa using hy) v hv) hb
      refine ⟨.func (.func f) (first.map ρ) (captured.map ρ), ?_, fun w => by simp [execOp, Instr.makeFunc]⟩
      simp only [VR]
      exact ⟨_, _, rfl, by simpa using h1, by simpa using h2⟩
    · cases h
  · rename_i t x lo hi
    split at h
    · rename_i e lo' hi' hu hx hl hh
      split at h
      · rename_i r q hb hs; cases h
        have hv := hρ x (by simp [Op.operands]) _ hx
        simp only [VR] at hv
        obtain ⟨l1, l2⟩ := opt_ok (m := m) (ρ := ρ) hl (fun y hy v hv => hρ y (by subst hy; simp [Op.operands]) v hv)
        obtain ⟨h1, h2⟩ := opt_ok (m := m) (ρ := ρ) hh (fun y hy v hv => hρ y (by subst hy; simp [Op.operands]) v hv)
        obtain ⟨rl, rh⟩ := r
        obtain ⟨g1, g2, g3⟩ := bounds_ok (P := P) hb l1 l2 h1 h2 (Nat.le_refl 0) true
        refine ⟨.slice none 0 0, by simp only [VR], fun w => ?_⟩
        obtain rfl : rh = 0 := by omega
        obtain rfl : rl = 0 := by omega
        simp [execOp, hv, Instr.sliceAt, Instr.slice, run_underlying hu, g3, run_size hs]
      · cases h
    · rename_i e n off len cap esz ex lo' hi' hu hx hl hh
      split at h
      · rename_i rl rh size hb hs
        simp only [Bool.cond_eq_ite, Nat.beq_eq] at h
        split at h
        · rename_i he; cases h; subst he
          have hv := hρ x (by simp [Op.operands]) _ hx
          simp only [VR] at hv
          obtain ⟨k, off', c, hk, hv, c1, c2, c3, c4, c5⟩ := hv
          obtain ⟨l1, l2⟩ := opt_ok (m := m) (ρ := ρ) hl (fun y hy v hv => hρ y (by subst hy; simp [Op.operands]) v hv)
          obtain ⟨h1, h2⟩ := opt_ok (m := m) (ρ := ρ) hh (fun y hy v hv => hρ y (by subst hy; simp [Op.operands]) v hv)
          obtain ⟨g1, g2, g3⟩ := bounds_ok (P := P) hb l1 l2 h1 h2 c2 true
          have hmul : rl * size + (c - rl) * size = c * size := by rw [← Nat.add_mul]; congr 1; omega
          refine ⟨.slice (some (if c = rl then ⟨k.b, off', none⟩ else (⟨k.b, off', none⟩ : Addr).add (rl * size))) (rh - rl) (c - rl), ?_, fun w => ?_⟩
          · simp only [VR]
            by_cases hcl : c = rl
            · refine ⟨k, off', 0, hk, ?_, by omega, by omega, fun e => by have := c3 e; omega, .inl rfl, fun e => by have := c5 e; omega⟩
              simp [hcl]
            · refine ⟨k, off' + rl * size, c - rl, hk, ?_, by omega, by omega, fun e => by rw [c3 e], ?_, fun e => by have := c5 e; omega⟩
              · simp only [if_neg hcl, Addr.add]; split <;> simp_all
              · right; rcases c4 with c4 | c4
                · omega
                · omega
          · simp [execOp, hv, Instr.sliceAt, Instr.slice, run_underlying hu, g3, run_size hs]
            split <;> rfl
        · cases h
      · cases h
    · rename_i len e n off lo' hi' hu hx hl hh
      split at h
      · rename_i rl rh size hb hs; cases h
        have hv := hρ x (by simp [Op.operands]) _ hx
        simp only [VR] at hv
        obtain ⟨k, hk, hv⟩ := hv
        obtain ⟨l1, l2⟩ := opt_ok (m := m) (ρ := ρ) hl (fun y hy v hv => hρ y (by subst hy; simp [Op.operands]) v hv)
        obtain ⟨h1, h2⟩ := opt_ok (m := m) (ρ := ρ) hh (fun y hy v hv => hρ y (by subst hy; simp [Op.operands]) v hv)
        obtain ⟨g1, g2, g3⟩ := bounds_ok (P := P) hb l1 l2 h1 h2 (Nat.le_refl len) false
        refine ⟨.slice (some (if len = rl then ⟨k.b, k.o + off, none⟩ else (⟨k.b, k.o + off, none⟩ : Addr).add (rl * size))) (rh - rl) (len - rl), ?_, fun w => ?_⟩
        · simp only [VR]
          by_cases hcl : len = rl
          · refine ⟨k, k.o + off, 0, hk, ?_, by omega, by omega, fun _ => by omega, .inl rfl, fun e => by cases e⟩
            simp [hcl]
          · refine ⟨k, k.o + off + rl * size, len - rl, hk, ?_, by omega, by omega, fun _ => rfl, .inr (by omega), fun e => by cases e⟩
            simp only [if_neg hcl, Addr.add]; split <;> simp_all
        · simp [execOp, hv, Instr.sliceAt, Instr.sureAddr, run_underlying hu, g3, run_size hs]
      · cases h
    · rename_i s lo' hi' hu hx hl hh
      split at h
      · rename_i rl rh hb; cases h
        have hv := hρ x (by simp [Op.operands]) _ hx
        simp only [VR] at hv
        obtain ⟨l1, l2⟩ := opt_ok (m := m) (ρ := ρ) hl (fun y hy v hv => hρ y (by subst hy; simp [Op.operands]) v hv)
        obtain ⟨h1, h2⟩ := opt_ok (m := m) (ρ := ρ) hh (fun y hy v hv => hρ y (by subst hy; simp [Op.operands]) v hv)
        obtain ⟨g1, g2, g3⟩ := bounds_ok (P := P) hb l1 l2 h1 h2 (Nat.le_refl s.size) false
        exact ⟨_, by simp only [VR]; rfl, fun w => by simp [execOp, hv, Instr.sliceAt, Instr.slice, run_underlying hu, g3]⟩
      · cases h
    · cases h
  · rename_i s x f
    split at h
    · rename_i fs n off hu hx
      split at h
      · rename_i fd hf
        split at h
        · rename_i q hs; cases h
          have hv := hρ x (by simp [Op.operands]) _ hx
          simp only [VR] at hv
          obtain ⟨k, hk, hv⟩ := hv
          refine ⟨.pointer (some ⟨k.b, k.o + (off + fd.offset), none⟩), by simp only [VR]; exact ⟨k, hk, rfl⟩, fun w => ?_⟩
          have : (⟨k.b, k.o + off, none⟩ : Addr).add fd.offset = ⟨k.b, k.o + (off + fd.offset), none⟩ := by
            simp only [Addr.add]; split <;> simp_all <;> omega
          simp [execOp, hv, Instr.fieldAt, fieldPlace, Instr.sureAddr, run_underlying hu, hf, run_size hs, this]
        · cases h
      · cases h
    · cases h
  · rename_i t x f
    split at h
    · rename_i fs cs hu hx
      split at h
      · rename_i fd hf
        have hv := hρ x (by simp [Op.operands]) _ hx
        simp only [VR] at hv
        obtain ⟨xs, hv, hvs⟩ := hv
        obtain ⟨v', h1, h2⟩ := part_ok h hvs
        exact ⟨v', h1, fun w => by simp [execOp, hv, Instr.field, run_underlying hu, hf, asAgg, h2]⟩
      · cases h
    · cases h
  · rename_i t x ix
    split at h
    · rename_i len e n off iv hu hx hi
      split at h
      · rename_i i s hn hs
        simp only [Bool.cond_eq_ite, Nat.blt_eq] at h
        split at h
        · rename_i hlt; cases h
          have hv := hρ x (by simp [Op.operands]) _ hx
          have hiv := hρ ix (by simp [Op.operands]) _ hi
          simp only [VR] at hv
          obtain ⟨k, hk, hv⟩ := hv
          obtain ⟨kk, hiv⟩ := natOf_ok hn hiv
          refine ⟨.pointer (some ⟨k.b, k.o + (off + i * s), none⟩), by simp only [VR]; exact ⟨k, hk, rfl⟩, fun w => ?_⟩
          have : (⟨k.b, k.o + off, none⟩ : Addr).add (i * s) = ⟨k.b, k.o + (off + i * s), none⟩ := by
            simp only [Addr.add]; split <;> simp_all <;> omega
          simp [execOp, hv, hiv, Instr.indexAt, asIntOf, Instr.sureAddr, run_underlying hu, run_size hs, hlt, this]
        · cases h
      · cases h
    · rename_i e n off len cap esz ex iv hu hx hi
      split at h
      · rename_i i s hn hs
        simp only [Bool.cond_eq_ite, Nat.blt_eq] at h
        split at h
        · rename_i hlt; cases h
          have hv := hρ x (by simp [Op.operands]) _ hx
          have hiv := hρ ix (by simp [Op.operands]) _ hi
          simp only [VR] at hv
          obtain ⟨k, off', c, hk, hv, c1, c2, c3, c4, c5⟩ := hv
          obtain ⟨kk, hiv⟩ := natOf_ok hn hiv
          have c6 : off' = k.o + off := by omega
          subst c6
          refine ⟨.pointer (some ⟨k.b, k.o + (off + i * s), none⟩), by simp only [VR]; exact ⟨k, hk, rfl⟩, fun w => ?_⟩
          have : (⟨k.b, k.o + off, none⟩ : Addr).add (i * s) = ⟨k.b, k.o + (off + i * s), none⟩ := by
            simp only [Addr.add]; split <;> simp_all <;> omega
          simp [execOp, hv, hiv, Instr.indexAt, asIntOf, run_underlying hu, run_size hs, hlt, this]
        · cases h
      · cases h
    · cases h
  · rename_i t x ix
    split at h
    · rename_i len e cs iv hu hx hi
      split at h
      · rename_i i s hn hs
        simp only [Bool.cond_eq_ite, Nat.blt_eq] at h
        split at h
        · rename_i hlt
          have hv := hρ x (by simp [Op.operands]) _ hx
          have hiv := hρ ix (by simp [Op.operands]) _ hi
          simp only [VR] at hv
          obtain ⟨xs, hv, hvs⟩ := hv
          obtain ⟨kk, hiv⟩ := natOf_ok hn hiv
          obtain ⟨v', h1, h2⟩ := part_ok h hvs
          exact ⟨v', h1, fun w => by simp [execOp, hv, hiv, Instr.index, asIntOf, run_underlying hu, run_size hs, hlt, h2]⟩
        · cases h
      · cases h
    · rename_i s iv hu hx hi
      split at h
      · rename_i i hn
        have hv := hρ x (by simp [Op.operands]) _ hx
        have hiv := hρ ix (by simp [Op.operands]) _ hi
        simp only [VR] at hv
        obtain ⟨kk, hiv⟩ := natOf_ok hn hiv
        cases hb : s[i]? with
        | none => simp [hb] at h
        | some b =>
          simp [hb] at h; subst h
          exact ⟨_, by simp only [VR]; rfl, fun w => by simp [execOp, hv, hiv, Instr.index, asIntOf, run_underlying hu, hb]⟩
      · cases h
    · cases h
  · rename_i x i
    split at h
    · rename_i vs hx
      have hv := hρ x (by simp [Op.operands]) _ hx
      simp only [VR] at hv
      obtain ⟨xs, hv, hvs⟩ := hv
      obtain ⟨v', h1, h2⟩ := hvs.get h
      rw [Array.getElem?_toList] at h1
      exact ⟨v', h2, fun w => by simp [execOp, hv, Instr.extract, h1]⟩
    · cases h
  · rename_i args ats
    split at h
    · rename_i k a k' b he; cases h
      have h1 := evalL_ok (fun y hy v hv => hρ y (by simp [Op.operands, Call.operands]; simpa using hy) v hv) he
      obtain ⟨v1, t1, e1, g1, g2⟩ := h1.cons_inv
      obtain ⟨v2, t2, rfl, g3, g4⟩ := g2.cons_inv
      rw [g4.nil_inv] at e1
      simp only [VR] at g1 g3
      subst g1 g3
      have hm : args.map ρ = #[.int k a, .int k' b] := by apply Array.ext'; simpa using e1
      exact ⟨_, by simp only [VR]; rfl, fun w => by simp [execOp, resolve, hm, invoke, builtin, Builtin.max_, Builtin.max2]⟩
    · cases h
  · rename_i args ats
    split at h
    · rename_i k a k' b he; cases h
      have h1 := evalL_ok (fun y hy v hv => hρ y (by simp [Op.operands, Call.operands]; simpa using hy) v hv) he
      obtain ⟨v1, t1, e1, g1, g2⟩ := h1.cons_inv
      obtain ⟨v2, t2, rfl, g3, g4⟩ := g2.cons_inv
      rw [g4.nil_inv] at e1
      simp only [VR] at g1 g3
      subst g1 g3
      have hm : args.map ρ = #[.int k a, .int k' b] := by apply Array.ext'; simpa using e1
      exact ⟨_, by simp only [VR]; rfl, fun w => by simp [execOp, resolve, hm, invoke, builtin, Builtin.min_, Builtin.min2]⟩
    · cases h
  · cases h
end ops
end Abs
end Go.Proofs.Ythiifonejoejpaa
