/- The evaluator: whatever it finds, the machine comes to, whatever the tape says. -/
import Derived.Test.YthiifonejoejpaaAb18
namespace Go.Proofs.Ythiifonejoejpaa
namespace Abs
open Go.RowKit
variable {P : Program} {m : NM}

theorem CodeOk.mk {n : Nat} {round : Option Nat} {c : Code} {s : St} {e : Ex} {s' : St} (hl : ∀ c', c ≠ .loop c') (h : codeOk c = true → Wf s.heap s.next → AP s.heap s.next s'.heap s'.next ∧
    ∀ m W a F, SR m n s a → Rel m s.heap W → Fresh m s.next s'.next → FR m round F → c.wpIn F 0 P (CPost m n s W e s') a W) : CodeOk P n round c s e s' := fun h1 h2 => by
  obtain ⟨a, w⟩ := h h1 h2
  refine ⟨a, fun m W b F h3 h4 h5 h6 => ?_⟩
  have := w m W b F h3 h4 h5 h6
  cases c <;> first | exact this | exact absurd rfl (hl _)
/-- Behind a first part. -/
theorem CPost.after {n : Nat} {s s1 s2 : St} {W W1 : World} {e : Ex} {m1 : NM} (a1 : AP s.heap s.next s1.heap s1.next) (a2 : AP s1.heap s1.next s2.heap s2.next) (hF : Fresh m s.next s1.next) (p : Post m s.heap s.next W m1 s1.heap s1.next W1) {ex : Exit} {a : Act} {W2 : World}
    (h : CPost m1 n s1 W1 e s2 ex a W2) : CPost m n s W e s2 ex a W2 := by
  obtain ⟨h1, m2, h2, h3⟩ := h
  exact ⟨h1, m2, p.trans a1 a2 hF h2, h3⟩

/-- A range over a function, from where its record is laid. -/
theorem range_rest {rec : Task → Option Res} (hrec : RecOk P rec) {n : Nat} {round : Option Nat} {g : FuncId} {first cap : List AV} {ps : Array Tmp} {assign body : Code} {D : Nat} {s1 s' : St} {e : Ex} {v : AV} {H3 : Hp} {nx3 : Nat} (hca : codeOk assign = true) (hcb : codeOk body = true) (hW : Wf s1.heap s1.next)
    (hcall : rec (.call g (first ++ [.yield s1.next] ++ cap) (s1.heap.lay s1.next (.loop ⟨.ready, none, n, s1.tmps, ps.toList, assign, body, D⟩)) (s1.next + 1)) = some (.call v H3 nx3))
    (h : (match H3.get s1.next with
      | some (.loop L) => match L.state with
        | .busy => none
        | _ => match L.pending with
          | none => some (Res.code .normal ⟨s1.tmps, s1.defers, H3.put s1.next (.loop { L with state := .exhausted }), nx3⟩)
          | some c => rec (.code n round c ⟨s1.tmps, s1.defers, H3.put s1.next (.loop { L with state := .exhausted }), nx3⟩)
      | _ => none) = some (.code e s')) :
    HasBody P g ∧ AP s1.heap s1.next s'.heap s'.next ∧ ∀ m1 W1 (a1 : Act) F fn dfb xs ys, SR m1 n s1 a1 → Rel m1 s1.heap W1 → Fresh m1 s1.next s'.next → FR m1 round F → (∃ kd, m1 D = some kd ∧ dfb = kd.b) → VRs m1 first xs → VRs m1 cap ys →
      Calls P g (xs.toArray ++ #[.func (.yield W1.heap.size) #[] #[]] ++ ys.toArray) (W1.alloc (.loop { state := .ready, pending := none, fn, tmps := a1.tmps, params := ps, assign, body, defers := dfb }))
        (rangePost F 0 P W1.heap.size (CPost m1 n s1 W1 e s') a1) := by
  have hob : ObOk (.loop ⟨.ready, none, n, s1.tmps, ps.toList, assign, body, D⟩) := ⟨hca, hcb, fun c h => by cases h⟩
  have b1 := lay_ap hW _ hob
  obtain ⟨hbody, b2, w2⟩ := hrec _ _ hcall b1.wf
  refine ⟨hbody, ?_⟩
  cases hg : H3.get s1.next with
  | none => simp [hg] at h
  | some ob =>
    cases ob <;> simp only [hg] at h <;> try (cases h; done)
    rename_i L
    have hok := b2.wf.ok _ _ (Hp.get_some.1 hg).2
    have b3 : AP H3 nx3 (H3.put s1.next (.loop { L with state := .exhausted })) nx3 := put_ap b2.wf hg rfl hok
    have hbusy : L.state ≠ .busy := fun hb => by rw [hb] at h; cases h
    have h' : (match L.pending with
          | none => some (Res.code .normal ⟨s1.tmps, s1.defers, H3.put s1.next (.loop { L with state := .exhausted }), nx3⟩)
          | some c => rec (.code n round c ⟨s1.tmps, s1.defers, H3.put s1.next (.loop { L with state := .exhausted }), nx3⟩)) = some (.code e s') := by
      cases hst : L.state <;> rw [hst] at h <;> first | exact h | exact absurd hst hbusy
    clear h
    -- up to the end of the loop
    have upto : ∀ (hnx : nx3 ≤ s'.next) m1 W1 (a1 : Act) F fn dfb xs ys, SR m1 n s1 a1 → Rel m1 s1.heap W1 → Fresh m1 s1.next s'.next → FR m1 round F → (∃ kd, m1 D = some kd ∧ dfb = kd.b) → VRs m1 first xs → VRs m1 cap ys →
        (∀ m4 W4, Post m1 s1.heap s1.next W1 m4 (H3.put s1.next (.loop { L with state := .exhausted })) nx3 W4 → (match L.pending with | none => CPost m1 n s1 W1 e s' .normal a1 W4 | some c => c.wpIn F 0 P (CPost m1 n s1 W1 e s') a1 W4)) →
        Calls P g (xs.toArray ++ #[.func (.yield W1.heap.size) #[] #[]] ++ ys.toArray) (W1.alloc (.loop { state := .ready, pending := none, fn, tmps := a1.tmps, params := ps, assign, body, defers := dfb }))
          (rangePost F 0 P W1.heap.size (CPost m1 n s1 W1 e s') a1) := by
      intro hnx m1 W1 a1 F fn dfb xs ys sr hR hF hfr hD hxs hys hK
      have hm : m1 s1.next = none := hF s1.next (Nat.le_refl _) (by have := b2.le; omega)
      obtain ⟨kd, hkd, hdf⟩ := hD
      have hle := le_upd (k := ⟨W1.heap.size, 0, 0⟩) hm
      obtain ⟨_, p1⟩ := lay_ok (W' := W1.alloc (.loop { state := .ready, pending := none, fn, tmps := a1.tmps, params := ps, assign, body, defers := dfb })) (C := 0) hR hW hm rfl rfl rfl rfl
        (ob := .loop ⟨.ready, none, n, s1.tmps, ps.toList, assign, body, D⟩) ⟨_, rfl, rfl, rfl, rfl, rfl, rfl, sr.tmps.mono hle, ⟨kd, hle _ _ hkd, hdf⟩⟩ hob
      have hF1 : Fresh m1 s1.next (s1.next + 1) := hF.left (by have := b2.le; omega)
      have hF2 := p1.fresh (hF.left hnx) (by omega)
      have hargs : VRs (upd m1 s1.next ⟨W1.heap.size, 0, 0⟩) (first ++ [.yield s1.next] ++ cap) (xs.toArray ++ #[Value.func (.yield W1.heap.size) #[] #[]] ++ ys.toArray).toList := by
        simp only [Array.toList_append]
        exact ((hxs.mono hle).append (.cons (by simp only [VR]; exact ⟨_, upd_same, rfl⟩) .nil)).append (hys.mono hle)
      refine (w2 _ _ _ hargs p1.rel hF2).mono ?_
      rintro en W3 ⟨v', m3, rfl, p3, _⟩
      have hk3 := p3.le _ _ (upd_same (m := m1) (n := s1.next) (k := ⟨W1.heap.size, 0, 0⟩))
      obtain ⟨r, hb, r0, hr0, e1, e2, e3, e4, e5, e6, e7⟩ := loop_at p3.rel hg hk3
      cases hr0
      obtain ⟨_, p4⟩ := loop_put (L' := { L with state := .exhausted }) (r' := { r with state := .exhausted }) p3.rel b2.wf hg hk3 hb ⟨_, rfl, rfl, e2, e3, e4, e5, e6, e7⟩ hok
      have pall := p1.trans b1 (b2.trans b3) hF1 (p3.trans b2 b3 hF2 p4)
      refine ⟨r.pending, _, run_endLoop hb (by rw [e1]; exact hbusy), ?_⟩
      have := hK m3 _ pall
      have key : ∀ W4, (match L.pending with | none => CPost m1 n s1 W1 e s' .normal a1 W4 | some c => c.wpIn F 0 P (CPost m1 n s1 W1 e s') a1 W4) → (match r.pending with | none => CPost m1 n s1 W1 e s' .normal a1 W4 | some c => c.wpIn F 0 P (CPost m1 n s1 W1 e s') a1 W4) := fun W4 h => by rw [e2]; exact h
      exact key _ this
    generalize (H3.put s1.next (.loop { L with state := .exhausted })) = H4 at b3 h' upto
    cases hpend : L.pending with
    | none =>
      simp only [hpend, Option.some.injEq, Res.code.injEq] at h'
      obtain ⟨rfl, rfl⟩ := h'
      refine ⟨b1.trans (b2.trans b3), fun m1 W1 a1 F fn dfb xs ys sr hR hF hfr hD hxs hys => upto (Nat.le_refl _) m1 W1 a1 F fn dfb xs ys sr hR hF hfr hD hxs hys (fun m4 W4 p4 => ?_)⟩
      simp only [hpend]
      exact ⟨rfl, m4, p4, ⟨sr.tmps.mono p4.le, sr.defers.mono p4.le⟩⟩
    | some c =>
      simp only [hpend] at h'
      obtain ⟨b4, w4⟩ := hrec _ _ h' (hok.2.2 c hpend) b3.wf
      have ball := b1.trans (b2.trans b3)
      refine ⟨ball.trans b4, fun m1 W1 a1 F fn dfb xs ys sr hR hF hfr hD hxs hys => upto b4.le m1 W1 a1 F fn dfb xs ys sr hR hF hfr hD hxs hys (fun m4 W4 p4 => ?_)⟩
      simp only [hpend]
      have hF1 := hF.left b4.le
      exact wpIn_mono (wpC_wpIn (w4 m4 W4 a1 F ⟨sr.tmps.mono p4.le, sr.defers.mono p4.le⟩ p4.rel (p4.fresh hF ball.le) (hfr.mono p4.le))) (fun _ _ _ h => h.after (s1 := ⟨s1.tmps, s1.defers, H4, nx3⟩) ball b4 hF1 p4)

theorem code_ok {rec : Task → Option Res} (hrec : RecOk P rec) (hp : progOk P = true) {n : Nat} {round : Option Nat} {c : Code} {s : St} {e : Ex} {s' : St} (h : step P rec (.code n round c s) = some (.code e s')) : CodeOk P n round c s e s' := by
  have hmx : P.follows .mixedOrders = true := by simp only [progOk, Bool.and_eq_true] at hp; exact hp.1
  cases c with
  | skip =>
    simp only [step, Option.some.injEq, Res.code.injEq] at h
    obtain ⟨rfl, rfl⟩ := h
    exact .mk (by simp) fun _ hW => ⟨.refl hW, fun m W a F sr hR _ _ => wpIn_skip ⟨rfl, m, .refl hR, sr⟩⟩
  | label l =>
    simp only [step, Option.some.injEq, Res.code.injEq] at h
    obtain ⟨rfl, rfl⟩ := h
    exact .mk (by simp) fun _ hW => ⟨.refl hW, fun m W a F sr hR _ _ => wpIn_label ⟨rfl, m, .refl hR, sr⟩⟩
  | exit id =>
    simp only [step, Option.some.injEq, Res.code.injEq] at h
    obtain ⟨rfl, rfl⟩ := h
    exact .mk (by simp) fun _ hW => ⟨.refl hW, fun m W a F sr hR _ _ => wpIn_exit ⟨rfl, m, .refl hR, sr⟩⟩
  | goto l =>
    simp only [step, Option.some.injEq, Res.code.injEq] at h
    obtain ⟨rfl, rfl⟩ := h
    exact .mk (by simp) fun _ hW => ⟨.refl hW, fun m W a F sr hR _ _ => wpIn_goto ⟨rfl, m, .refl hR, sr⟩⟩
  | ret =>
    simp only [step, Option.some.injEq, Res.code.injEq] at h
    obtain ⟨rfl, rfl⟩ := h
    exact .mk (by simp) fun _ hW => ⟨.refl hW, fun m W a F sr hR _ _ => wpIn_ret ⟨rfl, m, .refl hR, sr⟩⟩
  | scope c => simp [step] at h
  | refuse w => simp [step] at h
  | region id ops draw =>
    cases draw with
    | false =>
      simp only [step] at h
      cases ho : ops1 P rec n round ops ops.toList s with
      | none => simp [ho] at h
      | some s1 =>
        simp [ho] at h
        obtain ⟨rfl, rfl⟩ := h
        refine .mk (by simp) fun _ hW => ?_
        obtain ⟨a1, w1⟩ := ops1_ok hrec ops.toList 0 s s1 rfl hW ho
        refine ⟨a1, fun m W a F sr hR hF hfr => wpIn_region ?_⟩
        rw [List.range_eq_range']
        have := w1 m W a F sr hR hF hfr (CPost m n s W .normal s1) (fun a' m' W' p sr' => ⟨rfl, m', p, sr'⟩)
        rwa [Array.length_toList] at this
    | true =>
      simp only [step] at h
      cases ho : opsD P rec n ops (Region.before ops) ops.toList 0 s ⟨[], [], []⟩ with
      | none => simp [ho] at h
      | some s1 =>
        simp [ho] at h
        obtain ⟨rfl, rfl⟩ := h
        refine .mk (by simp) fun hc hW => ?_
        have ht : tidyR ops = true := by simpa [codeOk] using hc
        obtain ⟨a1, w1⟩ := draw_ok hrec hmx ht hW ho
        exact ⟨a1, fun m W a F sr hR hF hfr => w1 m W a F round sr hR hF hfr _ (fun a' m' W' p sr' => ⟨rfl, m', p, sr'⟩) id⟩
  | seq x y =>
    simp only [step] at h
    refine .mk (by simp) fun hc hW => ?_
    simp only [codeOk, Bool.and_eq_true] at hc
    cases hx : rec (.code n round x s) with
    | none => simp [hx] at h
    | some r =>
      cases r with
      | call v H nx => simp [hx] at h
      | code e1 s1 =>
        obtain ⟨a1, w1⟩ := hrec _ _ hx hc.1 hW
        cases e1 with
        | normal =>
          simp only [hx] at h
          obtain ⟨a2, w2⟩ := hrec _ _ h hc.2 a1.wf
          refine ⟨a1.trans a2, fun m W a F sr hR hF hfr => wpIn_seq ?_⟩
          have hF1 := hF.left a2.le
          refine wpIn_mono (wpC_wpIn (w1 m W a F sr hR hF1 hfr)) ?_
          rintro ex a' W' ⟨rfl, m1, p1, sr1⟩
          exact wpIn_mono (wpC_wpIn (w2 m1 W' a' F sr1 p1.rel (p1.fresh hF a1.le) (hfr.mono p1.le))) (fun _ _ _ h => h.after a1 a2 hF1 p1)
        | exit id =>
          simp [hx] at h; obtain ⟨rfl, rfl⟩ := h
          refine ⟨a1, fun m W a F sr hR hF hfr => wpIn_seq (wpIn_mono (wpC_wpIn (w1 m W a F sr hR hF hfr)) ?_)⟩
          rintro ex a' W' ⟨rfl, h⟩; exact ⟨rfl, h⟩
        | goto id =>
          simp [hx] at h; obtain ⟨rfl, rfl⟩ := h
          refine ⟨a1, fun m W a F sr hR hF hfr => wpIn_seq (wpIn_mono (wpC_wpIn (w1 m W a F sr hR hF hfr)) ?_)⟩
          rintro ex a' W' ⟨rfl, h⟩; exact ⟨rfl, h⟩
        | ret =>
          simp [hx] at h; obtain ⟨rfl, rfl⟩ := h
          refine ⟨a1, fun m W a F sr hR hF hfr => wpIn_seq (wpIn_mono (wpC_wpIn (w1 m W a F sr hR hF hfr)) ?_)⟩
          rintro ex a' W' ⟨rfl, h⟩; exact ⟨rfl, h⟩
  | cond co x y =>
    simp only [step] at h
    refine .mk (by simp) fun hc hW => ?_
    simp only [codeOk, Bool.and_eq_true] at hc
    cases hv : evalO s.tmps co with
    | none => simp [hv] at h
    | some v =>
      cases v <;> simp only [hv] at h <;> try (cases h; done)
      rename_i t
      have hcc : codeOk (cond t x y) = true := by cases t; exact hc.2; exact hc.1
      obtain ⟨a1, w1⟩ := hrec _ _ h hcc hW
      refine ⟨a1, fun m W a F sr hR hF hfr => ?_⟩
      have he : a.eval co = .bool t := by
        have := ev_of sr.tmps #[co] co (by simp) _ hv
        simpa only [VR] using this
      refine wpIn_cond he ?_
      have := wpC_wpIn (w1 m W a F sr hR hF hfr)
      cases t <;> exact this
  | block id x =>
    simp only [step] at h
    refine .mk (by simp) fun hc hW => ?_
    simp only [codeOk] at hc
    cases hx : rec (.code n round x s) with
    | none => simp [hx] at h
    | some r =>
      cases r with
      | call v H nx => simp [hx] at h
      | code e1 s1 =>
        obtain ⟨a1, w1⟩ := hrec _ _ hx hc hW
        cases e1 with
        | exit id' =>
          simp only [hx, Bool.cond_eq_ite, Nat.beq_eq] at h
          split at h
          · rename_i hid
            simp only [Option.some.injEq, Res.code.injEq] at h; obtain ⟨rfl, rfl⟩ := h
            refine ⟨a1, fun m W a F sr hR hF hfr => wpIn_block (wpIn_mono (wpC_wpIn (w1 m W a F sr hR hF hfr)) ?_)⟩
            rintro ex a' W' ⟨rfl, h⟩
            simp only [Ex.toExit, Exit.inBlock, hid, if_true]; exact ⟨rfl, h⟩
          · rename_i hid
            simp only [Option.some.injEq, Res.code.injEq] at h; obtain ⟨rfl, rfl⟩ := h
            refine ⟨a1, fun m W a F sr hR hF hfr => wpIn_block (wpIn_mono (wpC_wpIn (w1 m W a F sr hR hF hfr)) ?_)⟩
            rintro ex a' W' ⟨rfl, h⟩
            simp only [Ex.toExit, Exit.inBlock, if_neg hid]; exact ⟨rfl, h⟩
        | normal =>
          simp [hx] at h; obtain ⟨rfl, rfl⟩ := h
          refine ⟨a1, fun m W a F sr hR hF hfr => wpIn_block (wpIn_mono (wpC_wpIn (w1 m W a F sr hR hF hfr)) ?_)⟩
          rintro ex a' W' ⟨rfl, h⟩; exact ⟨rfl, h⟩
        | goto id =>
          simp [hx] at h; obtain ⟨rfl, rfl⟩ := h
          refine ⟨a1, fun m W a F sr hR hF hfr => wpIn_block (wpIn_mono (wpC_wpIn (w1 m W a F sr hR hF hfr)) ?_)⟩
          rintro ex a' W' ⟨rfl, h⟩; exact ⟨rfl, h⟩
        | ret =>
          simp [hx] at h; obtain ⟨rfl, rfl⟩ := h
          refine ⟨a1, fun m W a F sr hR hF hfr => wpIn_block (wpIn_mono (wpC_wpIn (w1 m W a F sr hR hF hfr)) ?_)⟩
          rintro ex a' W' ⟨rfl, h⟩; exact ⟨rfl, h⟩
  | loop x =>
    simp only [step] at h
    intro hc hW
    have hcx : codeOk x = true := by simpa only [codeOk] using hc
    cases hx : rec (.code n round x s) with
    | none => simp [hx] at h
    | some r =>
      cases r with
      | call v H nx => simp [hx] at h
      | code e1 s1 =>
        obtain ⟨a1, w1⟩ := hrec _ _ hx hcx hW
        cases e1 with
        | normal =>
          simp only [hx] at h
          obtain ⟨a2, w2⟩ := hrec _ _ h hc a1.wf
          refine ⟨a1.trans a2, fun m W a F sr hR hF hfr => wpC_loop ?_⟩
          have hF1 := hF.left a2.le
          refine wpIn_mono (wpC_wpIn (w1 m W a F sr hR hF1 hfr)) ?_
          rintro ex a' W' ⟨rfl, m1, p1, sr1⟩
          exact wpC_mono (w2 m1 W' a' F sr1 p1.rel (p1.fresh hF a1.le) (hfr.mono p1.le)) (fun _ _ _ h => h.after a1 a2 hF1 p1)
        | exit id =>
          simp [hx] at h; obtain ⟨rfl, rfl⟩ := h
          refine ⟨a1, fun m W a F sr hR hF hfr => wpC_loop (wpIn_mono (wpC_wpIn (w1 m W a F sr hR hF hfr)) ?_)⟩
          rintro ex a' W' ⟨rfl, h⟩; exact ⟨rfl, h⟩
        | goto id =>
          simp [hx] at h; obtain ⟨rfl, rfl⟩ := h
          refine ⟨a1, fun m W a F sr hR hF hfr => wpC_loop (wpIn_mono (wpC_wpIn (w1 m W a F sr hR hF hfr)) ?_)⟩
          rintro ex a' W' ⟨rfl, h⟩; exact ⟨rfl, h⟩
        | ret =>
          simp [hx] at h; obtain ⟨rfl, rfl⟩ := h
          refine ⟨a1, fun m W a F sr hR hF hfr => wpC_loop (wpIn_mono (wpC_wpIn (w1 m W a F sr hR hF hfr)) ?_)⟩
          rintro ex a' W' ⟨rfl, h⟩; exact ⟨rfl, h⟩
  | rangeFunc fo ps assign body =>
    refine .mk (by simp) fun hc hW => ?_
    simp only [codeOk, Bool.and_eq_true] at hc
    simp only [step] at h
    cases hv : evalO s.tmps fo with
    | none => simp [hv] at h
    | some v =>
      cases v <;> simp only [hv] at h <;> try (cases h; done)
      rename_i g first cap
      have hfo : ∀ m (a : Act), SR m n s a → ∃ xs ys : Array Value, a.eval fo = .func (.func g) xs ys ∧ VRs m first xs.toList ∧ VRs m cap ys.toList := fun m a sr => by
        have := ev_of sr.tmps #[fo] fo (by simp) _ hv
        simpa only [VR] using this
      cases round with
      | none =>
        simp only at h
        have b0 : AP s.heap s.next (s.heap.lay s.next (.dfr true)) (s.next + 1) := lay_ap hW _
        split at h
        · rename_i v2 H3 nx3 hcall
          obtain ⟨hbody, b1, w1⟩ := range_rest (s1 := ⟨s.tmps, .mark s.next :: s.defers, s.heap.lay s.next (.dfr true), s.next + 1⟩) (round := none) hrec hc.1 hc.2 b0.wf hcall h
          refine ⟨b0.trans b1, fun m W a F sr hR hF hfr => wpIn_rangeFunc fun fn _ => ?_⟩
          cases hfr
          obtain ⟨xs, ys, he, hxs, hys⟩ := hfo m a sr
          have hm : m s.next = none := hF s.next (Nat.le_refl _) (by have := b1.le; simp only at this; omega)
          have hle := le_upd (k := ⟨W.heap.size, 0, 0⟩) hm
          obtain ⟨_, p0⟩ := lay_ok (W' := W.alloc (.deferred (some []))) (C := 0) (ob := .dfr true) (o := .deferred (some [])) hR hW hm rfl rfl rfl rfl rfl
          have hF0 : Fresh m s.next (s.next + 1) := hF.left (by have := b1.le; simp only at this; omega)
          have hcalls := w1 _ _ ⟨a.tmps, { target := .collected W.heap.size, args := #[] } :: a.defers⟩ Fence.wide fn W.heap.size xs.toList ys.toList
            ⟨sr.tmps.mono hle, ⟨_, _, upd_same, rfl, sr.defers.mono hle⟩⟩ p0.rel (p0.fresh hF (by omega)) rfl ⟨_, upd_same, rfl⟩ (hxs.mono hle) (hys.mono hle)
          have hsz : (W.alloc (.deferred (some []))).heap.size = W.heap.size + 1 := World.size_alloc _ _
          rw [hsz] at hcalls
          have henter := run_enterLoop_outer (P := P) (w := W) fn a.tmps ps assign body
          generalize ((W.alloc (.deferred (some []))).alloc (.loop { state := .ready, pending := none, fn, tmps := a.tmps, params := ps, assign, body, defers := W.heap.size })) = X at henter hcalls
          refine ⟨W.heap.size + 1, [{ target := .collected W.heap.size, args := #[] }], X, { target := .fn (.func g) ys, args := xs ++ #[.func (.yield (W.heap.size + 1)) #[] #[]] }, X, g, xs ++ #[.func (.yield (W.heap.size + 1)) #[] #[]] ++ ys, X, henter, ?_, fun _ _ => trivial, ?_, (fun h => by cases h), callsIn_wide.2 ?_⟩
          · simp only [resolve, he]; simp [Deferred.ofValue, Act.eval]
          · simp only [invoke]; exact hbody.call _ _
          · refine (by simpa using hcalls : Calls P g _ _ _).mono ?_
            intro en W' h
            cases en with
            | returned v3 =>
              obtain ⟨jump, w4, h1, h2⟩ := h
              refine ⟨jump, w4, h1, ?_⟩
              cases jump with
              | none => exact h2.after b0 b1 hF0 p0
              | some c => exact wpIn_mono h2 (fun _ _ _ h => h.after b0 b1 hF0 p0)
            | panicked ch => exact (h : CPost _ _ _ _ _ _ _ _ _).after b0 b1 hF0 p0
            | outgrown =>
              obtain ⟨a3, w3, h3⟩ := h
              exact ⟨a3, w3, h3.after b0 b1 hF0 p0⟩
        · cases h
      | some l =>
        simp only at h
        cases hgl : s.heap.get l with
        | none => simp [hgl] at h
        | some ob =>
          cases ob <;> simp only [hgl] at h <;> try (cases h; done)
          rename_i L0
          split at h
          · rename_i v2 H3 nx3 hcall
            obtain ⟨hbody, b1, w1⟩ := range_rest (round := some l) hrec hc.1 hc.2 hW hcall h
            refine ⟨b1, fun m W a F sr hR hF hfr => wpIn_rangeFunc fun fn _ => ?_⟩
            have hfr' := hfr
            obtain ⟨k, hk, rfl⟩ := hfr
            obtain ⟨xs, ys, he, hxs, hys⟩ := hfo m a sr
            obtain ⟨r, hb, r0, hr0, e1, e2, e3, e4, e5, e6, kd, e7, e8⟩ := loop_at hR hgl hk
            cases hr0
            have hcalls := w1 m W a (Fence.wide.inRound k.b) fn r.defers xs.toList ys.toList sr hR hF hfr' ⟨kd, e7, e8⟩ hxs hys
            have henter := run_enterLoop_inner (P := P) hb fn a.tmps ps assign body
            generalize (W.alloc (.loop { state := .ready, pending := none, fn, tmps := a.tmps, params := ps, assign, body, defers := r.defers })) = X at henter hcalls
            refine ⟨W.heap.size, [], X, { target := .fn (.func g) ys, args := xs ++ #[.func (.yield W.heap.size) #[] #[]] }, X, g, xs ++ #[.func (.yield W.heap.size) #[] #[]] ++ ys, X, henter, ?_, fun _ _ => trivial, ?_, (fun h => by cases h), CallsIn.inRound _ (callsIn_wide.2 ?_)⟩
            · simp only [resolve, he]; simp [Deferred.ofValue, Act.eval]
            · simp only [invoke]; exact hbody.call _ _
            · simpa using hcalls
          · cases h

theorem sound (hp : progOk P = true) : ∀ (f : Nat), RecOk P (run P f) := by
  intro f
  induction f with
  | zero => intro t r h; simp [run] at h
  | succ f ih =>
    intro t r h
    simp only [run] at h
    cases t with
    | code n round c s =>
      cases r with
      | code e s' => exact code_ok ih hp h
      | call v H nx => trivial
    | call f args H nx =>
      cases r with
      | code e s' => trivial
      | call v H' nx' => exact call_ok ih hp h
    | dcall f args H nx =>
      cases r with
      | code e s' => trivial
      | call v H' nx' => exact dcall_ok ih hp h
end Abs
end Go.Proofs.Ythiifonejoejpaa
