/- The evaluator: operations that look at what there is, but for calls. -/
import Derived.Test.YthiifonejoejpaaAb8
namespace Go.Proofs.Ythiifonejoejpaa
namespace Abs
open Go.RowKit
variable {P : Program} {m : NM}

/-- How an operation ends: with a value, or without. -/
def Ends (r : Next) (v : Value) : Prop := r = .value v ∨ (r = .skip ∧ v = undef)
section
variable {H H' : Hp} {nx nx' : Nat} {W : World} {T : Tr AV} {ρ : Operand → Value}
theorem runs_value {s : Sem Value} {v : AV} (h : Runs P m H nx W s (fun r v' => r = v') v H' nx') : Runs P m H nx W (do pure (Next.value (← s))) Ends v H' nx' := by
  obtain ⟨r, v', m', W', h1, rfl, h2⟩ := h
  exact ⟨_, r, m', W', by simp [h1], .inl rfl, h2⟩
theorem runs_same {s : Sem Value} {v : AV} {v' : Value} (hR : Rel m H W) (hW : Wf H nx) (h : s.run P W = .ok v' W) (hv : VR m v v') : Runs P m H nx W s (fun r v' => r = v') v H nx := ⟨v', v', m, W, h, rfl, .refl hW, .refl hR, hv⟩
theorem row_run {cs : List AV} {cells : Array Value} {t : TypeId} {k : Addr → Value} {v : AV} (hR : Rel m H W) (hW : Wf H nx) (hm : m nx = none) (hc : VRs m cs cells.toList)
    (hv : ∀ m', m' nx = some ⟨W.heap.size, 0, cells.size⟩ → VR m' v (k ⟨W.heap.size, 0, none⟩)) : Runs P m H nx W (do pure (k (← newRow t cells))) (fun r v' => r = v') v (H.lay nx (.cells true cs)) (nx + 1) := by
  obtain ⟨a1, a2⟩ := row_lay (W' := { W with heap := W.heap.push (.cells cells t) }) (rest := []) (e := t) hR hW hm hc (by simp) rfl rfl rfl
  refine ⟨_, _, _, _, ?_, rfl, a1, a2, hv _ (by rw [upd_same]; simp)⟩
  simp [newRow, run_newObj]
theorem ptr_row (m' : NM) (n : Nat) (k : Blk) (h : m' n = some k) (h0 : k.o = 0) : VR m' (.ptr n 0) (.pointer (some ⟨k.b, 0, none⟩)) := by
  simp only [VR]; exact ⟨k, h, by rw [h0]⟩
theorem repl_range {z : AV} {zv : Value} {size : Nat} (hz : VR m z zv) (hl : z.cells.length = size) (n : Nat) (zero : Array Value) (hzero : n * size = 0 ∨ zero = zv.cells) : VRs m (repL z.cells n) ((Array.range (n * size)).map (zero[· % zero.size]!)).toList := by
  have hc := hz.cells
  have hs : zv.cells.size = size := by rw [← Array.length_toList, hc.length, hl]
  rcases Nat.eq_zero_or_pos (n * size) with h0 | h0
  · have h1 : repL z.cells n = [] := by
      have := (repL_ok hc n).length
      rw [flat_length] at this
      simp [hs, h0] at this
      exact List.eq_nil_of_length_eq_zero this.symm
    rw [h1, h0]; simp [VRs]
  · obtain rfl := hzero.resolve_left (by omega)
    have hpos : 0 < zv.cells.size := by rw [hs]; exact Nat.pos_of_mul_pos_left h0
    have := range_mod zv.cells hpos n
    rw [hs] at this
    rw [show (fun x => zv.cells[x % zv.cells.size]!) = (fun i => zv.cells[i % size]!) from by rw [hs]]
    rw [this]
    exact repL_ok hc n

theorem two_args {args : Array Operand} {a b : AV} {T : Tr AV} {ρ : Operand → Value} (hρ : ∀ x ∈ args, ∀ v, evalO T x = some v → VR m v (ρ x)) (h : evalL T args.toList = some [a, b]) : ∃ u v, args.map ρ = #[u, v] ∧ VR m a u ∧ VR m b v := by
  have h1 := evalL_ok (fun y hy v hv => hρ y (by simpa using hy) v hv) h
  obtain ⟨v1, t1, e1, g1, g2⟩ := h1.cons_inv
  obtain ⟨v2, t2, rfl, g3, g4⟩ := g2.cons_inv
  rw [g4.nil_inv] at e1
  exact ⟨v1, v2, by apply Array.ext'; simpa using e1, g1, g3⟩
theorem one_arg {args : Array Operand} {a : AV} {T : Tr AV} {ρ : Operand → Value} (hρ : ∀ x ∈ args, ∀ v, evalO T x = some v → VR m v (ρ x)) (h : evalL T args.toList = some [a]) : ∃ u, args.map ρ = #[u] ∧ VR m a u := by
  have h1 := evalL_ok (fun y hy v hv => hρ y (by simpa using hy) v hv) h
  obtain ⟨v1, t1, e1, g1, g2⟩ := h1.cons_inv
  rw [g2.nil_inv] at e1
  exact ⟨v1, by apply Array.ext'; simpa using e1, g1⟩
theorem update_ok {t : TypeId} {mo ko vo : Operand} {v : AV} {f : Sem Next} (hR : Rel m H W) (hW : Wf H nx) (hρ : ∀ x, x = mo ∨ x = ko ∨ x = vo → ∀ v, evalO T x = some v → VR m v (ρ x))
    (h : (match P.underlying t, evalO T mo, evalO T ko, evalO T vo with
      | some (.map kt _), some (.map r), some k, some v => cond (keyKind P kt k) (
          match mapAt H r with
          | some (es, c) => match findK k es 0 with
            | some (some (i, _)) => some (AV.undef, H.put r (.map (es.modify i fun e => (k, v, e.2.2)) c), nx)
            | some none => some (AV.undef, H.put r (.map (es ++ [(k, v, c)]) (c + 1)), nx)
            | none => none
          | none => none) none
      | _, _, _, _ => none) = some (v, H', nx'))
    (hf : ∀ W', ((do Instr.mapUpdate t (ρ mo) (ρ ko) (ρ vo); pure Next.skip : Sem Next).run P W = .ok .skip W') → f.run P W = .ok .skip W') : Runs P m H nx W f Ends v H' nx' := by
  split at h
  · rename_i kt et r ka va ht hm hk hv
    rw [Bool.cond_eq_ite] at h
    split at h
    · rename_i hkk
      obtain ⟨d, hu, hd⟩ := kind_of hkk
      have hvm := hρ mo (by simp) _ hm
      have hvk := hρ ko (by simp) _ hk
      have hvv := hρ vo (by simp) _ hv
      simp only [VR] at hvm
      obtain ⟨kb, hkb, hvm⟩ := hvm
      have hck := fun b => run_checkKey hu hd hvk b W
      cases hmm : mapAt H r with
      | none => simp [hmm] at h
      | some p =>
        obtain ⟨es, c⟩ := p
        obtain ⟨hg, l, hb, hl⟩ := map_at hR hmm hkb
        simp only [hmm] at h
        cases hfk : findK ka es 0 with
        | none => simp [hfk] at h
        | some q =>
          have hq := findK_ok hvk hd hfk hl
          cases q with
          | none =>
            simp only [hfk, Option.some.injEq, Prod.mk.injEq] at h
            obtain ⟨rfl, rfl, rfl⟩ := h
            obtain ⟨a1, a2, a3⟩ := map_put (P := P) (c' := c + 1) (l' := l.push { key := ρ ko, val := ρ vo, born := c }) (es' := es ++ [(ka, va, c)]) hR hW hg hkb hb (by rw [Array.toList_push]; exact hl.push hvk hvv rfl)
            refine ⟨.skip, undef, m, _, hf _ ?_, .inr ⟨rfl, rfl⟩, a2, a3, VR.undef_iff.2 rfl⟩
            simp only [Instr.mapUpdate, Sem.run_bind, run_underlying ht, Result.andThen_ok, hvm, getObj_map hb, hck, run_findKey hu hq, a1, Sem.run_pure]
          | some p =>
            obtain ⟨i, a⟩ := p
            simp only [hfk, Option.some.injEq, Prod.mk.injEq] at h
            obtain ⟨rfl, rfl, rfl⟩ := h
            obtain ⟨v', e', q1, q2, q3, q4, q5⟩ := hq
            simp only [Nat.sub_zero] at q4
            obtain ⟨a1, a2, a3⟩ := map_put (P := P) (c' := c) (l' := l.modify i fun e => { e with key := ρ ko, val := ρ vo }) (es' := es.modify i fun e => (ka, va, e.2.2)) hR hW hg hkb hb (by
              rw [Array.toList_modify]
              exact hl.modify (fun e x _ _ h3 _ _ => ⟨hvk, hvv, h3⟩))
            have hstay : (Instr.keyThatStays (((l[i]?).map (·.key)).getD (ρ ko)) (ρ ko)).run P W = .ok (ρ ko) W := by
              rw [Array.getElem?_toList] at q4
              rw [q4]
              simp only [Option.map_some, Option.getD_some, q5, Instr.keyThatStays]
              have : Instr.sameBits 10000 (ρ ko) (ρ ko) = true := by
                cases ka <;> cases d <;> simp [kindOk] at hd <;> simp only [VR] at hvk <;> rw [hvk] <;> simp [Instr.sameBits, beq_toListBytes]
              simp [this]
            refine ⟨.skip, undef, m, _, hf _ ?_, .inr ⟨rfl, rfl⟩, a2, a3, VR.undef_iff.2 rfl⟩
            simp only [Instr.mapUpdate, Sem.run_bind, run_underlying ht, Result.andThen_ok, hvm, getObj_map hb, hck, run_findKey hu q1, hstay, a1, Sem.run_pure]
    · cases h
  · cases h
theorem heap_ok {rec : Task → Option Res} {o : Oper} {v : AV} (hρ : Ev m T ρ o.op.operands) (hR : Rel m H W) (hW : Wf H nx) (hF : Fresh m nx nx') (h : heapA P rec T H nx o.op = some (v, H', nx'))
    (hnc : ∀ f args ts, o.op ≠ .call { callee := .value f, args := args, argTypes := ts }) : Runs P m H nx W (execOp ρ o) Ends v H' nx' := by
  obtain ⟨dst, op, type, pos, after, guard⟩ := o
  simp only at h hρ hnc
  have hF0 : nx' = nx + 1 → m nx = none := fun e => hF nx (Nat.le_refl _) (by omega)
  unfold heapA at h
  split at h
  · -- alloc
    rename_i t
    cases hz : zero P t with
    | none => simp [hz] at h
    | some z =>
      simp only [hz, Option.some.injEq, Prod.mk.injEq] at h
      obtain ⟨rfl, rfl, rfl⟩ := h
      obtain ⟨zv, hzv, i, hi, hiz⟩ := zero_ok (m := m) hz
      obtain ⟨r, v', m', W', h1, h2, h3⟩ := row_run (P := P) (t := t) (k := fun a => .pointer (some a)) (v := .ptr nx 0) hR hW (hF0 rfl) hzv.cells (fun m' e => ptr_row m' nx _ e rfl)
      refine ⟨.value r, v', m', W', ?_, .inl (by rw [h2]), h3⟩
      simp only [execOp, Instr.alloc, newVar, Sem.run_bind, run_zero hi hiz, Result.andThen_ok] at h1 ⊢
      rw [h1]; rfl
  · -- box
    rename_i t x
    cases hx : evalO T x with
    | none => simp [hx] at h
    | some a =>
      simp only [hx, Option.some.injEq, Prod.mk.injEq] at h
      obtain ⟨rfl, rfl, rfl⟩ := h
      have hv := hρ x (by simp [Op.operands]) _ hx
      exact runs_value (row_run (P := P) (t := t) (k := fun a => .pointer (some a)) (v := .ptr nx 0) hR hW (hF0 rfl) hv.cells (fun m' e => ptr_row m' nx _ e rfl))
  · -- buildSlice
    rename_i t len parts
    cases ht : P.underlying t with
    | none => simp [ht] at h
    | some d =>
      cases d <;> simp only [ht] at h <;> try (cases h; done)
      rename_i e
      split at h
      · rename_i size z ps hs hz hp
        simp only [Bool.cond_eq_ite, Nat.beq_eq, Nat.ble_eq] at h
        split at h
        · rename_i hzl
          split at h
          · rename_i hle
            cases hf : fillL (fun i => some (i * size, size)) (repL z.cells len) ps with
            | none => simp [hf] at h
            | some cs =>
              simp only [hf, Option.some.injEq, Prod.mk.injEq] at h
              obtain ⟨rfl, rfl, rfl⟩ := h
              obtain ⟨zv, hzv, i, hi, hiz⟩ := zero_ok (m := m) hz
              have hps : PRs m ps (parts.map fun p => (p.1, ρ p.2)).toList := by
                rw [Array.toList_map]
                exact evalP_ok (fun p hp v hv => hρ p.2 (by simp only [Op.operands, List.mem_toArray, List.mem_map]; exact ⟨p, hp, rfl⟩) v hv) hp
              have hnot : ¬ (len * size > 2 ^ 24) := by omega
              have fin : ∀ zr : Array Value, (len * size = 0 ∨ zr = zv.cells) → (∀ (k : Array Value → Sem Value), ((if len * size = 0 then do let zero ← pure #[]; k zero else do let z ← zeroValue e; let zero ← pure z.cells; k zero : Sem Value).run P W) = (k zr).run P W) →
                  Runs P m H nx W (Instr.buildSlice t len (parts.map fun p => (p.1, ρ p.2))) (fun r v' => r = v') (.slice nx 0 len len size true) (H.lay nx (.cells true cs)) (nx + 1) := by
                intro zr hzr hzrun
                have hrr := repl_range (m := m) hzv hzl len zr hzr
                obtain ⟨vs', g1, g2⟩ := fill_ok (place' := fun i => some (i * size, size)) (fun i x hx => hx) hf hps hrr
                obtain ⟨r, v', m', W', h1, h2, h3⟩ := row_run (P := P) (t := e) (cells := vs') (k := fun a => .slice (some a) len len) (v := .slice nx 0 len len size true) hR hW (hF0 rfl) g2
                  (fun m' em => by simp only [VR]; exact ⟨_, 0, len, em, rfl, Nat.le_refl _, Nat.le_refl _, fun _ => rfl, .inr rfl, fun e => by cases e⟩)
                refine ⟨r, v', m', W', ?_, h2, h3⟩
                simp only [Instr.buildSlice, Sem.run_bind, run_underlying ht, Result.andThen_ok, run_size hs]
                rw [Sem.run_ite, if_neg hnot]
                rw [hzrun]
                simp only [g1]
                exact h1
              refine runs_value ?_
              by_cases h0 : len * size = 0
              · exact fin #[] (.inl h0) (fun k => by rw [if_pos h0]; rfl)
              · exact fin zv.cells (.inr rfl) (fun k => by rw [if_neg h0]; simp [run_zero hi hiz])
          · cases h
        · cases h
      · cases h
  · -- load
    rename_i t x
    split at h
    · rename_i n off hx
      cases hl : loadT P H t n off with
      | none => simp [hl] at h
      | some a =>
        simp only [hl, Option.some.injEq, Prod.mk.injEq] at h
        obtain ⟨rfl, rfl, rfl⟩ := h
        have hv := hρ x (by simp [Op.operands]) _ hx
        simp only [VR] at hv
        obtain ⟨k, hk, hv⟩ := hv
        obtain ⟨v', h1, h2⟩ := loadT_ok hR hl hk
        exact runs_value (runs_same hR hW (by simp [Instr.loadAt, hv, Instr.sureAddr, h2]) h1)
    · cases h
  · -- store
    rename_i t x y
    split at h
    · rename_i n off a size hx hy hs
      cases hc : cellsW H n with
      | none => simp [hc] at h
      | some cs =>
        cases hsa : setAt cs off a.cells with
        | none => simp [hc, hsa] at h
        | some cs' =>
          simp only [hc, hsa, Bool.cond_eq_ite, Nat.beq_eq] at h
          split at h
          · rename_i hlen
            split at h
            · rename_i hone
              split at h
              · cases h
              · rename_i hs0
                simp only [Option.some.injEq, Prod.mk.injEq] at h
                obtain ⟨rfl, rfl, rfl⟩ := h
                have hv := hρ x (by simp [Op.operands]) _ hx
                have hv2 := hρ y (by simp [Op.operands]) _ hy
                simp only [VR] at hv
                obtain ⟨k, hk, hv⟩ := hv
                have hne : a.cells ≠ [] := fun e => by rw [e] at hlen; simp at hlen; omega
                obtain ⟨W', r1, r2, r3⟩ := store_ok (P := P) hR hW hc hk hsa hv2.cells hone hne
                have hcs : (ρ y).cells.size = size := by rw [← Array.length_toList, hv2.cells.length, hlen]
                refine ⟨.skip, undef, m, W', ?_, .inr ⟨rfl, rfl⟩, r2, r3, VR.undef_iff.2 rfl⟩
                simp [execOp, Instr.storeAt, hv, Instr.sureAddr, storeVar, run_size hs, hcs, r1]
            · cases h
          · cases h
    · cases h
  · -- makeMap
    rename_i t
    simp only [Option.some.injEq, Prod.mk.injEq] at h
    obtain ⟨rfl, rfl, rfl⟩ := h
    obtain ⟨a1, a2⟩ := lay_ok (W' := { W with heap := W.heap.push (.map #[] 0) }) (o := .map #[] 0) (ob := .map [] 0) (C := 0) hR hW (hF0 rfl) rfl rfl rfl rfl ⟨#[], rfl, rfl⟩
    refine ⟨_, _, _, _, ?_, .inl rfl, a1, a2, by simp only [VR]; exact ⟨_, upd_same, rfl⟩⟩
    simp [execOp, Instr.makeMap, run_newObj]
  · -- makeSlice
    rename_i t l c
    split at h
    · rename_i e la ca ht hl hc
      split at h
      · rename_i i z l' c' hi hz hl' hc'
        simp only [Bool.cond_eq_ite, Nat.beq_eq, Nat.ble_eq, small, Bool.and_eq_true] at h
        split at h
        · rename_i hzl
          split at h
          · rename_i hlc
            split at h
            · rename_i hsm
              simp only [Option.some.injEq, Prod.mk.injEq] at h
              obtain ⟨rfl, rfl, rfl⟩ := h
              obtain ⟨zv, hzv, i', hi', hiz⟩ := zero_ok (m := m) hz
              rw [hi] at hi'; cases hi'
              obtain ⟨k1, hv1⟩ := natOf_ok hl' (hρ l (by simp [Op.operands]) _ hl)
              obtain ⟨k2, hv2⟩ := natOf_ok hc' (hρ c (by simp [Op.operands]) _ hc)
              have hs : sz P e = some i.size := by simp [sz, hi]
              have w1 : IntKind.i64.wrap (l' : Int) = l' := IntWalk.i64_in _ (by omega)
              have w2 : IntKind.i64.wrap (c' : Int) = c' := IntWalk.i64_in _ (by omega)
              have hbc : ¬ ((i.bytes : Int) * (c' : Int) > 2 ^ 48) := by
                have : i.bytes * c' ≤ 1000 * 1000000 := Nat.mul_le_mul hsm.2 hsm.1
                have : ((i.bytes * c' : Nat) : Int) ≤ 1000000000 := by omega
                simp only [Int.natCast_mul] at this; omega
              have fin : ∀ zr : Array Value, (c' * i.size = 0 ∨ zr = zv.cells) → (∀ (k : Array Value → Sem Value), ((if c' * i.size = 0 then do let zero ← pure #[]; k zero else do let z ← zeroValue e; let zero ← pure z.cells; k zero : Sem Value).run P W) = (k zr).run P W) →
                  Runs P m H nx W (Instr.makeSlice t (ρ l) (ρ c)) (fun r v' => r = v') (.slice nx 0 l' c' i.size true) (H.lay nx (.cells true (repL z.cells c'))) (nx + 1) := by
                intro zr hzr hzrun
                have hrr := repl_range (m := m) hzv hzl c' zr hzr
                obtain ⟨r, v', m', W', h1, h2, h3⟩ := row_run (P := P) (t := e) (k := fun a => .slice (some a) l' c') (v := .slice nx 0 l' c' i.size true) hR hW (hF0 rfl) hrr
                  (fun m' em => by simp only [VR]; exact ⟨_, 0, c', em, rfl, by omega, Nat.le_refl _, fun _ => rfl, .inr rfl, fun e => by cases e⟩)
                refine ⟨r, v', m', W', ?_, h2, h3⟩
                simp only [Instr.makeSlice, Sem.run_bind, run_underlying ht, Result.andThen_ok, hv1, hv2, asInt, asIntOf, Sem.run_pure, run_info hi, w1, w2]
                rw [Sem.run_ite, if_neg (by simp [hbc]; omega)]
                simp only [Sem.run_bind, run_askRoom, Result.andThen_ok, run_size hs, Int.toNat_natCast]
                rw [hzrun]
                exact h1
              refine runs_value ?_
              by_cases h0 : c' * i.size = 0
              · exact fin #[] (.inl h0) (fun k => by rw [if_pos h0]; rfl)
              · exact fin zv.cells (.inr rfl) (fun k => by rw [if_neg h0]; simp [run_zero hi hiz])
            · cases h
          · cases h
        · cases h
      · cases h
    · cases h
  · -- lookup
    rename_i t x ix ok
    split at h
    · rename_i kt et xa ka ht hx hk
      rw [Bool.cond_eq_ite] at h
      split at h
      · rename_i hkk
        obtain ⟨d, hu, hd⟩ := kind_of hkk
        have hvx := hρ x (by simp [Op.operands]) _ hx
        have hvk := hρ ix (by simp [Op.operands]) _ hk
        split at h
        · rename_i es hes
          obtain ⟨l, hl, hcase⟩ : ∃ l : Array MapEntry, ERs m es l.toList ∧ (ρ x = .map none ∧ l = #[] ∨ ∃ b c, ρ x = .map (some b) ∧ W.heap[b]? = some (.map l c)) := by
            cases xa <;> simp only at hes <;> try (cases hes; done)
            · cases hes
              simp only [VR] at hvx
              exact ⟨#[], rfl, .inl ⟨hvx, rfl⟩⟩
            · rename_i r
              cases hm : mapAt H r with
              | none => simp [hm] at hes
              | some p =>
                obtain ⟨es', c⟩ := p
                simp [hm] at hes; subst hes
                simp only [VR] at hvx
                obtain ⟨kb, hkb, hvx⟩ := hvx
                obtain ⟨hg, l, hb, hl⟩ := map_at hR hm hkb
                exact ⟨l, hl, .inr ⟨kb.b, c, hvx, hb⟩⟩
          have hck := fun b => run_checkKey hu hd hvk b W
          cases hf : findK ka es 0 with
          | none => simp [hf] at h
          | some r =>
            have hfk := findK_ok hvk hd hf hl
            cases r with
            | none =>
              cases hz : zero P et with
              | none => simp [hf, hz] at h
              | some z =>
                simp only [hf, hz, Option.some.injEq, Prod.mk.injEq] at h
                obtain ⟨rfl, rfl, rfl⟩ := h
                obtain ⟨zv, hzv, i, hi, hiz⟩ := zero_ok (m := m) hz
                have hr := run_findKey hu hfk W
                refine runs_value (runs_same (v' := if ok then .tuple #[zv, .bool false] else zv) hR hW ?_ ?_)
                · rcases hcase with ⟨hv, rfl⟩ | ⟨b, c, hv, hb⟩
                  · simp only [Instr.lookup, Sem.run_bind, run_underlying ht, Result.andThen_ok, hv, hck, hr, run_zero hi hiz, Sem.run_pure]
                  · simp only [Instr.lookup, Sem.run_bind, run_underlying ht, Result.andThen_ok, hv, getObj_map hb, hck, hr, run_zero hi hiz, Sem.run_pure]
                · cases ok
                  · exact hzv
                  · simp only [cond_true, if_true, VR]; exact ⟨_, rfl, .cons hzv (.cons (by simp only [VR]) .nil)⟩
            | some p =>
              obtain ⟨i, a⟩ := p
              simp only [hf, Option.some.injEq, Prod.mk.injEq] at h
              obtain ⟨rfl, rfl, rfl⟩ := h
              obtain ⟨v', e', q1, q2, _⟩ := hfk
              have hr := run_findKey hu q1 W
              refine runs_value (runs_same (v' := if ok then .tuple #[v', .bool true] else v') hR hW ?_ ?_)
              · rcases hcase with ⟨hv, rfl⟩ | ⟨b, c, hv, hb⟩
                · simp only [Instr.lookup, Sem.run_bind, run_underlying ht, Result.andThen_ok, hv, hck, hr, Sem.run_pure]
                · simp only [Instr.lookup, Sem.run_bind, run_underlying ht, Result.andThen_ok, hv, getObj_map hb, hck, hr, Sem.run_pure]
              · cases ok
                · exact q2
                · simp only [cond_true, if_true, VR]; exact ⟨_, rfl, .cons q2 (.cons (by simp only [VR]) .nil)⟩
        · cases h
      · cases h
    · cases h
  · exact update_ok hR hW (fun x hx => hρ x (by simpa [Op.operands] using hx)) h (fun s hs => by simp only [execOp]; exact hs)
  · exact update_ok hR hW (fun x hx => hρ x (by simpa [Op.operands] using hx)) h (fun s hs => by simp only [execOp]; exact hs)
  · rename_i f args ts
    exact absurd rfl (hnc f args ts)
  · -- len
    rename_i args ts
    split at h
    · rename_i x t hx ht
      cases hl : lenV P H t x with
      | none => simp [hl] at h
      | some n =>
        simp only [hl, Option.some.injEq, Prod.mk.injEq] at h
        obtain ⟨rfl, rfl, rfl⟩ := h
        obtain ⟨u, hu, hv⟩ := one_arg (fun y hy => hρ y (by simpa [Op.operands, Call.operands] using hy)) hx
        have hrun : (Builtin.len_ ts type #[u]).run P W = .ok (goInt n) W := by
          have e0 : (#[u] : Array Value)[0]? = some u := rfl
          unfold Builtin.len_
          rw [ht, e0]
          unfold lenV at hl
          split at hl <;> rename_i hut <;> (try simp only [VR] at hv)
          · cases hl; subst hv; simp [run_underlying hut]
          · cases hl; simp [run_underlying hut]
          · cases hl; subst hv; simp [run_underlying hut]
          · cases hl; obtain ⟨kb, off', c, hk, rfl, _⟩ := hv; simp [run_underlying hut]
          · cases hl; subst hv; simp [run_underlying hut]
          · rename_i r
            cases hm : mapAt H r with
            | none => simp [hm] at hl
            | some p =>
              obtain ⟨es, c⟩ := p
              simp [hm] at hl; subst hl
              obtain ⟨kb, hkb, rfl⟩ := hv
              obtain ⟨hg, l, hb, hle⟩ := map_at hR hm hkb
              have := hle.length
              rw [Array.length_toList] at this
              simp [run_underlying hut, getObj_map hb, this]
          · cases hl
        exact ⟨.value (goInt n), goInt n, m, W, by simp [execOp, resolve, hu, invoke, builtin, hrun], .inl rfl, .refl hW, .refl hR, by simp only [VR, goInt]⟩
    · cases h
  · -- cap
    rename_i args ts
    split at h
    · rename_i x t hx ht
      cases hl : capV P t x with
      | none => simp [hl] at h
      | some n =>
        simp only [hl, Option.some.injEq, Prod.mk.injEq] at h
        obtain ⟨rfl, rfl, rfl⟩ := h
        obtain ⟨u, hu, hv⟩ := one_arg (fun y hy => hρ y (by simpa [Op.operands, Call.operands] using hy)) hx
        have hrun : (Builtin.cap_ ts type #[u]).run P W = .ok (goInt n) W := by
          have e0 : (#[u] : Array Value)[0]? = some u := rfl
          unfold Builtin.cap_
          rw [ht, e0]
          unfold capV at hl
          split at hl <;> rename_i hut <;> (try simp only [VR] at hv)
          · cases hl; subst hv; simp [run_underlying hut]
          · cases hl; obtain ⟨kb, off', c, hk, rfl, _, _, h3, _⟩ := hv; simp [run_underlying hut, h3 trivial]
          · cases hl
        exact ⟨.value (goInt n), goInt n, m, W, by simp [execOp, resolve, hu, invoke, builtin, hrun], .inl rfl, .refl hW, .refl hR, by simp only [VR, goInt]⟩
    · cases h
  · -- append
    rename_i args ts
    split at h
    · rename_i s x t xt hx ht hxt
      obtain ⟨u1, u2, hu, hv1, hv2⟩ := two_args (fun y hy => hρ y (by simpa [Op.operands, Call.operands] using hy)) hx
      obtain ⟨r, v', m', W', h1, h2, h3⟩ := append_ok (ty := type) ht hxt hR hW hF h hv1 hv2
      exact ⟨.value r, v', m', W', by simp [execOp, resolve, hu, invoke, builtin, h1], .inl (by rw [h2]), h3⟩
    · cases h
  · -- copy
    rename_i args ts
    split at h
    · rename_i s x t hx ht
      obtain ⟨u1, u2, hu, hv1, hv2⟩ := two_args (fun y hy => hρ y (by simpa [Op.operands, Call.operands] using hy)) hx
      cases hc : copyA P t s x H with
      | none => simp [hc] at h
      | some p =>
        obtain ⟨a, H1⟩ := p
        simp only [hc, Option.some.injEq, Prod.mk.injEq] at h
        obtain ⟨rfl, rfl, rfl⟩ := h
        obtain ⟨r, v', m', W', h1, h2, h3⟩ := copy_ok (ty := type) ht hR hW hc hv1 hv2
        exact ⟨.value r, v', m', W', by simp [execOp, resolve, hu, invoke, builtin, h1], .inl (by rw [h2]), h3⟩
    · cases h
  · -- delete
    rename_i args ts
    split at h
    · rename_i r ka t hx ht
      obtain ⟨u1, u2, hu, hv1, hv2⟩ := two_args (fun y hy => hρ y (by simpa [Op.operands, Call.operands] using hy)) hx
      split at h
      · rename_i kt et htu
        rw [Bool.cond_eq_ite] at h
        split at h
        · rename_i hkk
          obtain ⟨d, hud, hd⟩ := kind_of hkk
          simp only [VR] at hv1
          obtain ⟨kb, hkb, rfl⟩ := hv1
          have hck := fun b => run_checkKey hud hd hv2 b W
          have e0 : (#[Value.map (some kb.b), u2] : Array Value)[0]? = some (.map (some kb.b)) := rfl
          have e1 : (#[Value.map (some kb.b), u2] : Array Value)[1]? = some u2 := rfl
          cases hmm : mapAt H r with
          | none => simp [hmm] at h
          | some p =>
            obtain ⟨es, c⟩ := p
            obtain ⟨hg, l, hb, hl⟩ := map_at hR hmm hkb
            simp only [hmm] at h
            cases hfk : findK ka es 0 with
            | none => simp [hfk] at h
            | some q =>
              have hq := findK_ok hv2 hd hfk hl
              cases q with
              | none =>
                simp only [hfk, Option.some.injEq, Prod.mk.injEq] at h
                obtain ⟨rfl, rfl, rfl⟩ := h
                have hset : ({ W with heap := W.heap.setIfInBounds kb.b (.map l c) } : World) = W := by
                  have hlt := (Array.getElem?_eq_some_iff.1 hb).1
                  have : W.heap.setIfInBounds kb.b (.map l c) = W.heap := by
                    apply Array.ext_getElem?
                    intro i
                    rw [Array.getElem?_setIfInBounds]
                    split
                    · rename_i e; subst e; simp [hlt]; rw [Array.getElem?_eq_getElem hlt] at hb; exact (Option.some.inj hb).symm
                    · rfl
                  rw [this]
                refine ⟨.value (.tuple #[]), .tuple #[], m, W, ?_, .inl rfl, .refl hW, .refl hR, by simp only [VR]; exact ⟨_, rfl, .nil⟩⟩
                simp only [execOp, resolve, hu, invoke, builtin, Sem.run_bind, Sem.run_pure, Result.andThen_ok, Builtin.delete_, ht, e0, e1, run_underlying htu, getObj_map hb, hck, run_findKey hud hq, setObj_map hb, hset]
              | some p =>
                obtain ⟨i, a⟩ := p
                simp only [hfk, Option.some.injEq, Prod.mk.injEq] at h
                obtain ⟨rfl, rfl, rfl⟩ := h
                obtain ⟨v', e', q1, q2, q3, q4, q5⟩ := hq
                simp only [Nat.sub_zero] at q4
                have hil : i < l.size := by rw [← Array.length_toList]; exact (List.getElem?_eq_some_iff.1 q4).1
                obtain ⟨a1, a2, a3⟩ := map_put (P := P) (c' := c) (l' := l.eraseIdxIfInBounds i) (es' := es.eraseIdx i) hR hW hg hkb hb (by
                  have : (l.eraseIdxIfInBounds i).toList = l.toList.eraseIdx i := by
                    simp [Array.eraseIdxIfInBounds, hil]
                  rw [this]; exact hl.erase i)
                refine ⟨.value (.tuple #[]), .tuple #[], m, _, ?_, .inl rfl, a2, a3, by simp only [VR]; exact ⟨_, rfl, .nil⟩⟩
                simp only [execOp, resolve, hu, invoke, builtin, Sem.run_bind, Sem.run_pure, Result.andThen_ok, Builtin.delete_, ht, e0, e1, run_underlying htu, getObj_map hb, hck, run_findKey hud q1, a1]
        · cases h
      · cases h
    · cases h
  · cases h
end
end Abs
end Go.Proofs.Ythiifonejoejpaa
