/- The evaluator: append, copy, maps. -/
import Derived.Test.YthiifonejoejpaaAb5
import Derived.IntWalk
namespace Go.Proofs.Ythiifonejoejpaa
namespace Abs
open Go.RowKit
variable {P : Program} {m : NM}

theorem Rel.heap {H : Hp} {W W' : World} (h : Rel m H W) (e : W'.heap = W.heap) : Rel m H W' := ⟨fun n ob g => by rw [e]; exact h.obj n ob g, h.inj⟩
theorem repL_ok {z : List AV} {zv : List Value} (h : VRs m z zv) : ∀ n, VRs m (repL z n) ((List.replicate n zv).flatten) := by
  intro n
  induction n with
  | zero => exact .nil
  | succ n ih => simp only [repL, List.replicate_succ, List.flatten_cons]; exact h.append ih
theorem range_mod (zv : Array Value) (hz : 0 < zv.size) : ∀ n, ((Array.range (n * zv.size)).map fun i => zv[i % zv.size]!).toList = (List.replicate n zv.toList).flatten := by
  intro n
  rw [Array.toList_map, Array.toList_range]
  induction n with
  | zero => simp
  | succ n ih =>
    rw [Nat.succ_mul, List.range_add, List.map_append, ih, List.replicate_succ', List.flatten_append]
    simp only [List.flatten_cons, List.flatten_nil, List.append_nil, List.map_map]
    congr 1
    apply List.ext_getElem (by simp)
    intro j h1 h2
    simp at h1 h2
    simp [Nat.add_mod, Nat.mul_mod_left, Nat.mod_eq_of_lt h1, h1]
theorem zeroCells_list (zv : Array Value) (n : Nat) : (Builtin.zeroCells zv n).toList = (List.replicate n zv.toList).flatten := by
  unfold Builtin.zeroCells
  rcases Nat.eq_zero_or_pos zv.size with h | h
  · have : zv = #[] := Array.eq_empty_of_size_eq_zero h
    subst this; simp
  · exact range_mod zv h n
theorem flat_length {α : Type} (l : List α) (n : Nat) : ((List.replicate n l).flatten).length = n * l.length := by simp

theorem grow_bound (N : Nat) : ∀ (r c : Nat), Builtin.growBy N r c ≤ max c (2 * N + 200) := by
  intro r
  induction r with
  | zero => intro c; simp only [Builtin.growBy]; omega
  | succ r ih =>
    intro c
    simp only [Builtin.growBy]
    split
    · omega
    · have := ih (c + (c + 768) / 4); omega
theorem next_bound {need old : Nat} (h : old < need) : Builtin.nextslicecap need old ≤ 2 * need + 200 := by
  unfold Builtin.nextslicecap
  split
  · omega
  · split
    · omega
    · have := grow_bound need 4 old; omega

theorem row_ok {H : Hp} {W : World} {n off len size : Nat} {l : List AV} {k : Blk} {off' : Nat} (hR : Rel m H W) (h : rowA H n off len size = some l) (hk : m n = some k) (ho : len = 0 ∨ off' = k.o + off) :
    ∃ nv, VRs m l nv ∧ nv.length = len * size ∧ ∀ W', W'.heap = W.heap → (loadCells ⟨k.b, off', none⟩ (len * size)).run P W' = .ok nv.toArray W' := by
  unfold rowA at h
  rw [Bool.cond_eq_ite] at h
  split at h
  · rename_i hl
    rw [Nat.beq_eq] at hl; subst hl; cases h
    exact ⟨[], .nil, by simp, fun W' _ => by simp [loadCells, loadCellsFrom]⟩
  · rename_i hl
    rw [Nat.beq_eq] at hl
    cases hc : cellsAt H n with
    | none => simp [hc] at h
    | some cs =>
      simp only [hc] at h
      have ho' := ho.resolve_left hl
      subst ho'
      obtain ⟨vs, hv, _⟩ := cells_ok hR hc hk
      obtain ⟨h1, h2⟩ := takeN_vrs h hv
      obtain ⟨vs', hv', hcell⟩ := cells_ok hR hc hk
      obtain ⟨h3, h4⟩ := takeN_vrs h hv'
      refine ⟨_, h3, h4, fun W' hW' => ?_⟩
      have := loadCells_ok (P := P) (W := W') (b := k.b) (o := k.o) off (len * size) (vs := vs') (fun i v hi => by rw [World.cell?_of_block (w := W) (by rw [hW'])]; exact hcell i v hi) h4
      exact this

/-- What the source of an append or a copy gives. -/
def SrcOk (P : Program) (e xt : TypeId) (size k : Nat) (vx : Value) (nv : List Value) (W : World) : Prop :=
  nv.length = k * size ∧
  ((∃ d, P.underlying xt = some d ∧ (∀ q, d ≠ .int q) ∧ ∀ W', W'.heap = W.heap → (Builtin.lenOf vx).run P W' = .ok k W' ∧ (Builtin.firstCells size k vx).run P W' = .ok nv.toArray W') ∨
   (∃ q, P.underlying xt = some (.int q) ∧ vx = .int .i64 k ∧ k ≤ 100000 ∧ ∃ i z, P.info? e = some i ∧ i.zero = some z ∧ z.cells.size = size ∧ nv = (Builtin.zeroCells z.cells k).toList))
theorem src_ok {H : Hp} {W : World} {e xt : TypeId} {size k : Nat} {x : AV} {new : List AV} {vx : Value} (hR : Rel m H W) (h : srcN P H e size xt x = some (k, new)) (hx : VR m x vx) :
    ∃ nv, VRs m new nv ∧ SrcOk P e xt size k vx nv W := by
  unfold srcN at h
  split at h
  · rename_i q k' hu
    cases hz : zero P e with
    | none => simp [hz] at h
    | some z =>
      simp only [hz, Bool.cond_eq_ite, Nat.beq_eq, Nat.ble_eq] at h
      split at h
      · rename_i hs
        split at h
        · rename_i hk
          simp only [Option.some.injEq, Prod.mk.injEq] at h
          obtain ⟨rfl, rfl⟩ := h
          obtain ⟨zv, hzv, i, hi, hiz⟩ := zero_ok (m := m) hz
          simp only [VR] at hx; subst hx
          have hc := hzv.cells
          have hsz : zv.cells.size = size := by rw [← Array.length_toList, hc.length, hs]
          refine ⟨(Builtin.zeroCells zv.cells k').toList, by rw [zeroCells_list]; exact repL_ok hc k', ?_, .inr ⟨q, hu, rfl, hk, i, zv, hi, hiz, hsz, rfl⟩⟩
          rw [zeroCells_list, flat_length]; simp [hsz]
        · cases h
      · cases h
  · rename_i e' hu
    simp only [Option.some.injEq, Prod.mk.injEq] at h
    obtain ⟨rfl, rfl⟩ := h
    simp only [VR] at hx; subst hx
    exact ⟨[], .nil, by simp, .inl ⟨_, hu, by simp, fun W' _ => by simp [Builtin.lenOf, Builtin.firstCells]⟩⟩
  · rename_i e' n off len cap esz ex hu
    cases hr : rowA H n off len size with
    | none => simp [hr] at h
    | some l =>
      simp only [hr, Option.some.injEq, Prod.mk.injEq] at h
      obtain ⟨rfl, rfl⟩ := h
      simp only [VR] at hx
      obtain ⟨kb, off', c, hk, rfl, c1, c2, c3, c4, c5⟩ := hx
      obtain ⟨nv, h1, h2, h3⟩ := row_ok (P := P) (off' := off') hR hr hk (by omega)
      exact ⟨nv, h1, h2, .inl ⟨_, hu, by simp, fun W' hW' => ⟨by simp [Builtin.lenOf], by simp only [Builtin.firstCells]; exact h3 W' hW'⟩⟩⟩
  · rename_i s hu
    rw [Bool.cond_eq_ite] at h
    split at h
    · rename_i hs
      rw [Nat.beq_eq] at hs; subst hs
      simp only [Option.some.injEq, Prod.mk.injEq] at h
      obtain ⟨rfl, rfl⟩ := h
      simp only [VR] at hx; subst hx
      refine ⟨s.data.toList.map fun b => .int .u8 b.toNat, ?_, by simp, .inl ⟨_, hu, by simp, fun W' _ => ⟨by simp [Builtin.lenOf], ?_⟩⟩⟩
      · generalize s.data.toList = l
        induction l with
        | nil => exact .nil
        | cons b l ih => exact .cons (by simp only [VR]) ih
      · simp only [Builtin.firstCells]
        have : s.extract 0 s.size = s := by simp
        rw [this]
        simp [← Array.toList_map]
    · cases h
  · cases h
theorem not_int_matches {d : TypeDesc} (h : ∀ q, d ≠ .int q) : (d matches .int _) = false := by
  cases d <;> first | rfl | exact absurd rfl (h _)
/-- There is room. -/
theorem run_room {ts : Array TypeId} {ty t xt e : TypeId} {i : TypeInfo} {vx : Value} {nv : List Value} {k : Nat} {W W' : World} (h0 : ts[0]? = some t) (h1 : ts[1]? = some xt) (ht : P.underlying t = some (.slice e)) (hi : P.info? e = some i)
    (hS : SrcOk P e xt i.size k vx nv W) {base : Option Addr} {sLen sCap : Nat} (hroom : sLen + k ≤ sCap) (hb : k * i.bytes ≤ 281474976710656)
    (hst : match base with | some a => (storeCells (a.add (sLen * i.size)) nv).run P W = .ok () W' | none => W' = W) :
    (Builtin.append_ ts ty #[.slice base sLen sCap, vx]).run P W = .ok (.slice base (sLen + k) sCap) W' := by
  obtain ⟨hl, hS⟩ := hS
  have e0 : (#[Value.slice base sLen sCap, vx] : Array Value)[0]? = some (.slice base sLen sCap) := rfl
  have e1 : (#[Value.slice base sLen sCap, vx] : Array Value)[1]? = some vx := rfl
  have esz : ∀ w, (sizeOf e).run P w = .ok i.size w := fun w => by simp [sizeOf, run_info hi]
  rcases hS with ⟨d, hd, hq, hrun⟩ | ⟨q, hq, rfl, hk, i', z, hi', hz, hzs, rfl⟩
  · obtain ⟨g1, g2⟩ := hrun W rfl
    cases d with
    | int q => exact absurd rfl (hq q)
    | _ =>
      unfold Builtin.append_
      rw [h0, e0, e1]
      simp only [Sem.run_bind, run_underlying ht, Result.andThen_ok, esz, h1, run_underlying hd, Sem.run_pure, Bool.false_eq_true, if_false, g1]
      rw [Sem.run_ite, if_pos hroom]
      simp only [Bool.not_false, if_true, Sem.run_bind, g2, Result.andThen_ok]
      cases base with
      | none => simp only at hst; subst hst; rfl
      | some a => simp only at hst; simp only [Sem.run_bind, hst, Result.andThen_ok, Sem.run_pure]
  · rw [hi] at hi'; cases hi'
    have hw : IntKind.i64.wrap (k : Int) = k := IntWalk.i64_in _ (by omega)
    have hb' : ¬ (((k : Int) * (i.bytes : Int)) > 2 ^ 48) := by
      have : ((k * i.bytes : Nat) : Int) ≤ 281474976710656 := by omega
      simp only [Int.natCast_mul] at this; omega
    have hk0 : ¬ ((k : Int) < 0) := by omega
    have happ : ∀ w, (if k * i.size = 0 then pure #[] else do pure (Builtin.zeroCells (← zeroValue e).cells k) : Sem (Array Value)).run P w = .ok (Builtin.zeroCells z.cells k) w := fun w => by
      split
      · rename_i hz0
        have : (Builtin.zeroCells z.cells k) = #[] := by
          apply Array.eq_empty_of_size_eq_zero; rw [← Array.length_toList, hl]; exact hz0
        rw [this]; rfl
      · simp [run_zero hi hz]
    have hai : ∀ w, (asInt (.int .i64 (k : Int))).run P w = .ok (k : Int) w := fun w => rfl
    unfold Builtin.append_
    rw [h0, e0, e1]
    simp only [Sem.run_bind, run_underlying ht, Result.andThen_ok, esz, h1, run_underlying hq, Sem.run_pure, if_true, hai, hw]
    rw [Sem.run_ite, if_neg hk0]
    simp only [Sem.run_bind, run_info hi, Result.andThen_ok]
    rw [Sem.run_ite, if_neg hb']
    simp only [Sem.run_bind, Sem.run_pure, Result.andThen_ok, Int.toNat_natCast]
    rw [Sem.run_ite, if_pos hroom]
    simp only [Bool.not_true, Bool.false_eq_true, if_false, Sem.run_bind, happ, Result.andThen_ok]
    cases base with
    | none => simp only at hst; subst hst; rfl
    | some a => simp only at hst; simp only [Sem.run_bind, hst, Result.andThen_ok, Sem.run_pure]
/-- There is none: a new row. -/
theorem run_grow {ts : Array TypeId} {ty t xt e : TypeId} {i : TypeInfo} {z vx : Value} {nv old : List Value} {k : Nat} {W : World} (h0 : ts[0]? = some t) (h1 : ts[1]? = some xt) (ht : P.underlying t = some (.slice e)) (hi : P.info? e = some i) (hz : i.zero = some z)
    (hS : SrcOk P e xt i.size k vx nv W) {base : Option Addr} {sLen sCap : Nat} (hroom : sCap < sLen + k) (hsm : sLen + k ≤ 1000000) (hby : i.bytes ≤ 1000)
    (hold : ∀ W', W'.heap = W.heap → (Builtin.firstCells i.size sLen (.slice base sLen sCap)).run P W' = .ok old.toArray W') :
    ∃ c W', sLen + k ≤ c ∧ (Builtin.append_ ts ty #[.slice base sLen sCap, vx]).run P W = .ok (.slice (some ⟨W.heap.size, 0, none⟩) (sLen + k) c) W' ∧
      W'.heap = W.heap.push (.cells (old ++ nv ++ (List.replicate (c - (sLen + k)) z.cells.toList).flatten).toArray e) ∧ W'.os = W.os ∧ W'.tape = W.tape ∧ W'.output = W.output := by
  obtain ⟨hl, hS⟩ := hS
  have e0 : (#[Value.slice base sLen sCap, vx] : Array Value)[0]? = some (.slice base sLen sCap) := rfl
  have e1 : (#[Value.slice base sLen sCap, vx] : Array Value)[1]? = some vx := rfl
  have esz : ∀ w, (sizeOf e).run P w = .ok i.size w := fun w => by simp [sizeOf, run_info hi]
  have hno : ¬ (sLen + k ≤ sCap) := by omega
  have hbig : ∀ (b : Prop), ¬ (((sLen + k : Nat) : Int) > IntKind.i64.max ∧ b) := fun b h => by
    have := h.1; simp [IntKind.max, IntKind.bits, IntKind.signed] at this; omega
  have hnx : ¬ (Builtin.nextslicecap (sLen + k) sCap * i.bytes > 2 ^ 48) := by
    have h2 := next_bound hroom
    have : Builtin.nextslicecap (sLen + k) sCap * i.bytes ≤ (2 * (sLen + k) + 200) * 1000 := Nat.mul_le_mul h2 hby
    omega
  obtain ⟨c, hc⟩ : ∃ c, c = (Question.appendCap (sLen + k) sCap e).cut (W.tape W.drawn (.appendCap (sLen + k) sCap e)) := ⟨_, rfl⟩
  have hcl : sLen + k ≤ c := by rw [hc]; simp [Question.cut]
  have hch : (choose (.appendCap (sLen + k) sCap e)).run P W = .ok c { W with drawn := W.drawn + 1 } := by simp [run_choose, Question.forced, hc]
  refine ⟨c, { W with drawn := W.drawn + 1, heap := W.heap.push (.cells (old ++ nv ++ (List.replicate (c - (sLen + k)) z.cells.toList).flatten).toArray e) }, hcl, ?_, rfl, rfl, rfl, rfl⟩
  have hrest : Builtin.zeroCells z.cells (c - (sLen + k)) = ((List.replicate (c - (sLen + k)) z.cells.toList).flatten).toArray := by apply Array.ext'; rw [zeroCells_list]
  have hrow : old.toArray ++ nv.toArray ++ Builtin.zeroCells z.cells (c - (sLen + k)) = (old ++ nv ++ (List.replicate (c - (sLen + k)) z.cells.toList).flatten).toArray := by
    rw [hrest]; simp
  have holdW := hold { W with drawn := W.drawn + 1 } rfl
  rcases hS with ⟨d, hd, hq, hrun⟩ | ⟨q, hq, rfl, hk, i', z', hi', hz', hzs, rfl⟩
  · obtain ⟨g1, _⟩ := hrun W rfl
    obtain ⟨_, g2⟩ := hrun { W with drawn := W.drawn + 1 } rfl
    cases d with
    | int q => exact absurd rfl (hq q)
    | _ =>
      unfold Builtin.append_
      rw [h0, e0, e1]
      simp only [Sem.run_bind, run_underlying ht, Result.andThen_ok, esz, h1, run_underlying hd, Sem.run_pure, Bool.false_eq_true, if_false, g1]
      rw [Sem.run_ite, if_neg hno]
      simp only [Sem.run_bind, run_info hi, Result.andThen_ok]
      rw [Sem.run_ite, if_neg (hbig _)]
      simp only [Sem.run_bind, run_info hi, Result.andThen_ok]
      rw [Sem.run_ite, if_neg hnx]
      simp only [Sem.run_bind, hch, Result.andThen_ok, run_info hi, run_askRoom, holdW, Bool.not_false, if_true, g2, run_zero hi hz, newRow, run_newObj, Sem.run_pure, hrow]
  · rw [hi] at hi'; cases hi'
    rw [hz] at hz'; cases hz'
    have hw : IntKind.i64.wrap (k : Int) = k := IntWalk.i64_in _ (by omega)
    have hb' : ¬ (((k : Int) * (i.bytes : Int)) > 2 ^ 48) := by
      have : k * i.bytes ≤ 100000 * 1000 := Nat.mul_le_mul hk hby
      have : ((k * i.bytes : Nat) : Int) ≤ 281474976710656 := by omega
      simp only [Int.natCast_mul] at this; omega
    have hk0 : ¬ ((k : Int) < 0) := by omega
    have happ : ∀ w, (if k * i.size = 0 then pure #[] else do pure (Builtin.zeroCells (← zeroValue e).cells k) : Sem (Array Value)).run P w = .ok (Builtin.zeroCells z.cells k) w := fun w => by
      split
      · rename_i hz0
        have : (Builtin.zeroCells z.cells k) = #[] := by
          apply Array.eq_empty_of_size_eq_zero; rw [← Array.length_toList, hl]; exact hz0
        rw [this]; rfl
      · simp [run_zero hi hz]
    have hai : ∀ w, (asInt (.int .i64 (k : Int))).run P w = .ok (k : Int) w := fun w => rfl
    unfold Builtin.append_
    rw [h0, e0, e1]
    simp only [Sem.run_bind, run_underlying ht, Result.andThen_ok, esz, h1, run_underlying hq, Sem.run_pure, if_true, hai, hw]
    rw [Sem.run_ite, if_neg hk0]
    simp only [Sem.run_bind, run_info hi, Result.andThen_ok]
    rw [Sem.run_ite, if_neg hb']
    simp only [Sem.run_bind, Sem.run_pure, Result.andThen_ok, Int.toNat_natCast]
    rw [Sem.run_ite, if_neg hno]
    simp only [Sem.run_bind, run_info hi, Result.andThen_ok]
    rw [Sem.run_ite, if_neg (hbig _)]
    simp only [Sem.run_bind, run_info hi, Result.andThen_ok]
    rw [Sem.run_ite, if_neg hnx]
    have hrow' : old.toArray ++ Builtin.zeroCells z.cells k ++ Builtin.zeroCells z.cells (c - (sLen + k)) = (old ++ (Builtin.zeroCells z.cells k).toList ++ (List.replicate (c - (sLen + k)) z.cells.toList).flatten).toArray := by
      rw [← hrow]
    simp only [Sem.run_bind, hch, Result.andThen_ok, run_info hi, run_askRoom, holdW, Bool.not_true, Bool.false_eq_true, if_false, happ, run_zero hi hz, newRow, run_newObj, Sem.run_pure, hrow']
end Abs
end Go.Proofs.Ythiifonejoejpaa
