/- The evaluator: append, copy, maps, and what lays objects. -/
import Derived.Test.YthiifonejoejpaaAb6
namespace Go.Proofs.Ythiifonejoejpaa
namespace Abs
open Go.RowKit
variable {P : Program} {m : NM}

/-- What a run of an operation comes to. -/
def Runs {α : Type} (P : Program) (m : NM) (H : Hp) (nx : Nat) (W : World) (s : Sem α) (f : α → Value → Prop) (v : AV) (H' : Hp) (nx' : Nat) : Prop :=
  ∃ r v' m' W', s.run P W = .ok r W' ∧ f r v' ∧ AP H nx H' nx' ∧ Post m H nx W m' H' nx' W' ∧ VR m' v v'

theorem vrs_flat {z : List AV} {zv : List Value} (h : VRs m z zv) (n : Nat) : VRs m (repL z n) ((List.replicate n zv).flatten) := repL_ok h n

/-- A new row. -/
theorem row_lay {H : Hp} {nx : Nat} {W W' : World} {cs : List AV} {vs rest : List Value} {e : TypeId} (hR : Rel m H W) (hW : Wf H nx) (hn : m nx = none) (hv : VRs m cs vs)
    (hh : W'.heap = W.heap.push (.cells (vs ++ rest).toArray e)) (h1 : W'.os = W.os) (h2 : W'.tape = W.tape) (h3 : W'.output = W.output) :
    AP H nx (H.lay nx (.cells true cs)) (nx + 1) ∧ Post m H nx W (upd m nx ⟨W.heap.size, 0, (vs ++ rest).length⟩) (H.lay nx (.cells true cs)) (nx + 1) W' :=
  lay_ok hR hW hn hh h1 h2 h3 ⟨(vs ++ rest).toArray, e, (0, 0), [], vs, rest, rfl, by simp, rfl, hv.mono (le_upd hn), fun _ => ⟨rfl, by simp, rfl⟩⟩

theorem append_ok {ts : Array TypeId} {ty t xt : TypeId} {s x v : AV} {vs vx : Value} {H H' : Hp} {nx nx' : Nat} {W : World} (h0 : ts[0]? = some t) (h1 : ts[1]? = some xt) (hR : Rel m H W) (hW : Wf H nx) (hF : Fresh m nx nx')
    (h : appendA P t xt s x H nx = some (v, H', nx')) (hs : VR m s vs) (hx : VR m x vx) : Runs P m H nx W (Builtin.append_ ts ty #[vs, vx]) (fun r v' => r = v') v H' nx' := by
  unfold appendA at h
  cases ht : P.underlying t with
  | none => simp [ht] at h
  | some d =>
    cases d <;> simp only [ht] at h <;> try (cases h; done)
    rename_i e
    cases hi : P.info? e with
    | none => simp [hi] at h
    | some i =>
      cases hz : zero P e with
      | none => simp [hi, hz] at h
      | some z =>
        obtain ⟨zv, hzv, i', hi', hiz⟩ := zero_ok (m := m) hz
        rw [hi] at hi'; cases hi'
        simp only [hi, hz, Bool.cond_eq_ite, Nat.beq_eq] at h
        split at h
        · rename_i hzl
          have hzc := hzv.cells
          have hzs : zv.cells.size = i.size := by rw [← Array.length_toList, hzc.length, hzl]
          cases hsr : srcN P H e i.size xt x with
          | none => simp [hsr] at h
          | some p =>
            obtain ⟨k, new⟩ := p
            obtain ⟨nv, hnv, hS⟩ := src_ok hR hsr hx
            have hnl := hS.1
            cases k with
            | zero =>
              simp only [hsr] at h
              have hnv0 : nv = [] := List.eq_nil_of_length_eq_zero (by simpa using hnl)
              cases s <;> simp only at h <;> try (cases h; done)
              · simp only [Option.some.injEq, Prod.mk.injEq] at h
                obtain ⟨rfl, rfl, rfl⟩ := h
                simp only [VR] at hs; subst hs
                exact ⟨_, _, m, W, run_room h0 h1 ht hi hS (base := none) (sLen := 0) (sCap := 0) (by omega) (by omega) rfl, rfl, .refl hW, .refl hR, by simp only [VR]⟩
              · rename_i n off len cap esz ex
                simp only [Option.some.injEq, Prod.mk.injEq] at h
                obtain ⟨rfl, rfl, rfl⟩ := h
                have hs' := hs
                simp only [VR] at hs
                obtain ⟨kb, off', c, hk, rfl, c1, c2, c3⟩ := hs
                refine ⟨_, _, m, W, run_room h0 h1 ht hi hS (base := some ⟨kb.b, off', none⟩) (sLen := len) (sCap := c) (by omega) (by omega) (by subst hnv0; simp [storeCells]), rfl, .refl hW, .refl hR, ?_⟩
                simpa using hs'
            | succ k =>
              simp only [hsr, small, Bool.and_eq_true, Nat.ble_eq] at h
              split at h
              · rename_i hsm
                split at h
                · cases h
                · rename_i hnz
                  have hbk : (k + 1) * i.bytes ≤ 281474976710656 := by
                    have : (k + 1) * i.bytes ≤ 1000000 * 1000 := Nat.mul_le_mul hsm.1 hsm.2
                    omega
                  have hnpos : nv ≠ [] := fun e => by
                    have h3 : 0 < (k + 1) * i.size := Nat.mul_pos (by omega) (by omega)
                    rw [e] at hnl; rw [← hnl] at h3; simp at h3
                  have hnewne : new ≠ [] := fun e => hnpos (List.eq_nil_of_length_eq_zero (by rw [hnv.length, e]; rfl))
                  unfold growA at h
                  cases s <;> simp only at h <;> try (cases h; done)
                  · -- nil
                    simp only [Option.some.injEq, Prod.mk.injEq] at h
                    obtain ⟨rfl, rfl, rfl⟩ := h
                    simp only [VR] at hs; subst hs
                    have hm : m nx = none := hF nx (Nat.le_refl _) (by omega)
                    obtain ⟨c, W', g1, g2, g3, g4, g5, g6⟩ := run_grow (ty := ty) (W := W) (old := []) h0 h1 ht hi hiz hS (base := none) (sLen := 0) (sCap := 0) (by omega) (by omega) hsm.2 (fun W' _ => by simp [Builtin.firstCells])
                    obtain ⟨a1, a2⟩ := row_lay (cs := new) (vs := nv) hR hW hm hnv (by simpa using g3) g4 g5 g6
                    refine ⟨_, _, _, W', g2, rfl, a1, a2, ?_⟩
                    simp only [VR]
                    refine ⟨_, 0, c, upd_same, by simp, Nat.le_refl _, by omega, (fun e => by cases e), .inr rfl, fun _ => ?_⟩
                    simp [hnl, hzs]
                    rw [← Nat.add_mul]; apply Nat.le_of_eq; congr 1; omega
                  · rename_i n off len cap esz ex
                    simp only [Bool.cond_eq_ite, Nat.beq_eq, small, Bool.and_eq_true, Nat.ble_eq] at h
                    split at h
                    · rename_i hes; subst hes
                      split at h
                      · rename_i hsm2
                        simp only [VR] at hs
                        obtain ⟨kb, off', c, hk, rfl, c1, c2, c3, c4, c5⟩ := hs
                        split at h
                        · -- in place, room known
                          rename_i hroom
                          cases hcw : cellsW H n with
                          | none => simp [hcw] at h
                          | some cs =>
                            cases hsa : setAt cs (off + len * i.size) new with
                            | none => simp [hcw, hsa] at h
                            | some cs' =>
                              simp only [hcw, hsa] at h
                              split at h
                              · rename_i hone
                                simp only [Option.some.injEq, Prod.mk.injEq] at h
                                obtain ⟨rfl, rfl, rfl⟩ := h
                                have hoff : off' = kb.o + off := c4.resolve_left (by omega)
                                subst hoff
                                obtain ⟨W', r1, r2, r3⟩ := store_ok (P := P) hR hW hcw hk hsa hnv hone hnewne
                                refine ⟨_, _, m, W', run_room h0 h1 ht hi hS (base := some ⟨kb.b, kb.o + off, none⟩) (sLen := len) (sCap := c) (by omega) hbk ?_, rfl, r2, r3, ?_⟩
                                · simp only [add_none]
                                  rw [← r1, Nat.add_assoc]
                                · simp only [VR]
                                  exact ⟨kb, _, c, hk, rfl, by omega, c2, c3, .inr rfl, c5⟩
                              · cases h
                        · rename_i hroom
                          cases hro : rowA H n off len i.size with
                          | none => simp [hro] at h
                          | some old =>
                            simp only [hro] at h
                            obtain ⟨ov, hov, hol, hold⟩ := row_ok (P := P) (off' := off') hR hro hk (by omega)
                            have hsmm : len + (k + 1) ≤ 1000000 := by omega
                            have grow : ∀ (hc : c < len + (k + 1)) (hm : m nx = none) (H0 : Hp), (Rel m H0 W ∧ Wf H0 nx) → ∃ r m' W', (Builtin.append_ ts ty #[.slice (some ⟨kb.b, off', none⟩) len c, vx]).run P W = .ok r W' ∧
                                AP H0 nx (H0.lay nx (.cells true (old ++ new))) (nx + 1) ∧ Post m H0 nx W m' (H0.lay nx (.cells true (old ++ new))) (nx + 1) W' ∧ VR m' (.slice nx 0 (len + (k + 1)) (len + (k + 1)) i.size false) r := by
                              intro hc hm H0 hR0
                              obtain ⟨c', W', g1, g2, g3, g4, g5, g6⟩ := run_grow (ty := ty) (W := W) (old := ov) h0 h1 ht hi hiz hS (base := some ⟨kb.b, off', none⟩) (sLen := len) (sCap := c) hc hsmm hsm.2 (fun W' hW' => by simp only [Builtin.firstCells]; exact hold W' hW')
                              obtain ⟨a1, a2⟩ := row_lay (cs := old ++ new) (vs := ov ++ nv) hR0.1 hR0.2 hm (hov.append hnv) g3 g4 g5 g6
                              refine ⟨_, _, W', g2, a1, a2, ?_⟩
                              simp only [VR]
                              refine ⟨_, 0, c', upd_same, rfl, Nat.le_refl _, g1, (fun e => by cases e), .inr rfl, fun _ => ?_⟩
                              simp [hol, hnl, hzs]
                              rw [← Nat.add_mul, ← Nat.add_mul]; apply Nat.le_of_eq; congr 1; omega
                            split at h
                            · rename_i hex
                              simp only [Option.some.injEq, Prod.mk.injEq] at h
                              obtain ⟨rfl, rfl, rfl⟩ := h
                              obtain ⟨r, m', W', q1, q2, q3, q4⟩ := grow (by have := c3 hex; omega) (hF nx (Nat.le_refl _) (by omega)) H ⟨hR, hW⟩
                              exact ⟨r, r, m', W', q1, rfl, q2, q3, q4⟩
                            · rename_i hex
                              have hex' : ex = false := by simpa using hex
                              cases hcw : cellsW H n with
                              | none => simp [hcw] at h
                              | some cs =>
                                simp only [hcw] at h
                                split at h
                                · rename_i hoff0
                                  split at h
                                  · rename_i hcl
                                    split at h
                                    · rename_i hone
                                      simp only [Option.some.injEq, Prod.mk.injEq] at h
                                      obtain ⟨rfl, rfl, rfl⟩ := h
                                      have hm : m nx = none := hF nx (Nat.le_refl _) (by omega)
                                      have hg := cellsW_inv hcw
                                      by_cases hc : c < len + (k + 1)
                                      · obtain ⟨d1, d2⟩ := del_ok (n := n) hR hW
                                        obtain ⟨r, m', W', q1, q2, q3, q4⟩ := grow hc hm (H.del n) ⟨d2.rel, d1.wf⟩
                                        exact ⟨r, r, m', W', q1, rfl, d1.trans q2, d2.trans d1 q2 (fun i a b => by omega) q3, q4⟩
                                      · -- in place
                                        obtain ⟨k', o, e1, e2, e3⟩ := hR.obj n _ hg
                                        rw [hk] at e1; cases e1
                                        obtain ⟨cc, ee, fz, pre, vs, rest, rfl, hcc, hp, hv, hw⟩ := e3
                                        obtain ⟨hw1, hw2, hw3⟩ := hw rfl
                                        subst hw3
                                        have hpre : pre = [] := List.eq_nil_of_length_eq_zero (by omega)
                                        subst hpre
                                        simp only [List.nil_append] at hcc
                                        have hoff : off' = kb.o + off := c4.resolve_left (by omega)
                                        have hoff0' : off' = 0 := by omega
                                        have hc5 := c5 hex'
                                        rw [hw1, ← hw2, hoff0'] at hc5
                                        have hmul : (len + (k + 1)) * i.size ≤ c * i.size := Nat.mul_le_mul_right _ (by omega)
                                        rw [Nat.add_mul] at hmul
                                        have hvl : vs.length = len * i.size := by rw [hv.length]; exact hcl
                                        have hcell : ∀ j, j < cc.size → (W.cell? ⟨kb.b, j, none⟩).isSome = true ∧ W.frozen? ⟨kb.b, j, none⟩ = false := fun j hj => by
                                          simp [World.cell?, World.frozen?, e2, hj]
                                        have hrun := run_storeCells_cells (P := P) kb.b (len * i.size) nv 0 W (fun j hj => (hcell _ (by omega)).1) (fun j hj => (hcell _ (by omega)).2) (hnv.oneCells hone)
                                        have hst := setCells_ok kb.b nv (len * i.size) W cc ee (0, 0) e2 (by omega)
                                        rw [Nat.add_zero] at hrun
                                        have hmv := move_ok (ob' := .cells true (old ++ new)) hR hW hg rfl rfl hk hm hst.1 hst.2.1 hst.2.2.1 hst.2.2.2.1 hst.2.2.2.2.1 hst.2.2.2.2.2 (by
                                          refine ⟨_, ee, (0, 0), [], vs ++ nv, rest.drop nv.length, rfl, ?_, by simp [hw1], ?_, fun _ => ⟨hw1, ?_, rfl⟩⟩
                                          · rw [hcc, ← hvl]
                                            simp [List.take_append_of_le_length, List.drop_append]
                                          · have hoc : old = cs := by
                                              unfold rowA at hro
                                              simp only [Bool.cond_eq_ite, Nat.beq_eq] at hro
                                              split at hro
                                              · rename_i hl0
                                                cases hro
                                                exact (List.eq_nil_of_length_eq_zero (by rw [hcl, hl0]; simp)).symm
                                              · have hca : cellsAt H n = some cs := by simp [cellsAt, hg]
                                                simp only [hca, takeN, Bool.cond_eq_ite, Nat.beq_eq] at hro
                                                split at hro
                                                · cases hro
                                                  rw [hoff0]; simp; rw [← hcl]; simp
                                                · cases hro
                                            rw [hoc]; exact hv.append hnv
                                          · rw [← hw2]; simp; omega)
                                        refine ⟨_, _, _, _, run_room h0 h1 ht hi hS (base := some ⟨kb.b, off', none⟩) (sLen := len) (sCap := c) (by omega) hbk (by simp only [add_none, hoff0', Nat.zero_add]; exact hrun), rfl, hmv.1, hmv.2, ?_⟩
                                        simp only [VR]
                                        refine ⟨kb, 0, c, upd_same, by rw [hoff0'], Nat.le_refl _, by omega, (fun e => by cases e), .inr (by omega), fun _ => ?_⟩
                                        rw [hw1, ← hw2]; omega
                                    · cases h
                                  · cases h
                                · cases h
                      · cases h
                    · cases h
              · cases h
        · cases h
end Abs
end Go.Proofs.Ythiifonejoejpaa
