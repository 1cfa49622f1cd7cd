/- The evaluator: regions that draw their order: the law. -/
import Derived.Test.YthiifonejoejpaaAb16
namespace Go.Proofs.Ythiifonejoejpaa
namespace Abs
open Go.RowKit
variable {P : Program} {rec : Task → Option Res} {n : Nat} {ops : Array Oper} {st : Nat → St} {dr : Nat → Dr} {kd : Nat → K}
variable {m0 m : NM} {W0 W : World} {listed : Array Bool} {a : Act} {e j : Nat} {o : Oper} {F : Fence} {round : Option Nat}

theorem Inv.write (I : Inv n ops st kd m0 W0 listed a W m e) (hT : Trace P rec n ops st dr kd) (hF : Fresh m0 (st 0).next (st ops.size).next) (hfr : FR m0 round F) (hj : ops[j]? = some o) (hu : doneB listed j = false)
    (hpre : ∀ ed ∈ o.after, Region.binds .any ed = true → doneB listed ed.on = true) (hk : (kd j).writes = true) (ht : touch o.op = true) (hil : isLoad o.op = false) {v : AV} {T : Tr AV} {H : Hp} {nx : Nat}
    (hh : heapA P rec (st j).tmps (hpAt ops j (st j) (dr j)) (st j).next o.op = some (v, H, nx)) (hp : putA n o.dst v (st j).tmps = some T) (es : st (j + 1) = ⟨T, (st j).defers, ⟨H.t, (st j).heap.bad, lower H.wr (st j).heap.wr⟩, nx⟩) {Q : Exit → Act → World → Prop} :
    o.wpIn F 0 P a W (fun a' W' => ∃ m' e', Inv n ops st kd m0 W0 (listed.setIfInBounds j true) a' W' m' e') Q := by
  have hjl := (Array.getElem?_eq_some_iff.1 hj).1
  have hjs : j < listed.size := by rw [I.size]; exact hjl
  have hA := hT.at j (by omega)
  have hd := fun i h => I.preds hT.tidy hj hpre i h
  have hev := I.ev hT hj hu hd
  have hfm := hfr.mono I.pw.le
  have hnd := hT.nd hj
  have hwrk : (st ops.size).heap.wr ≤ (st (j + 1)).heap.wr := (hT.aps (show j + 1 ≤ ops.size by omega) (Nat.le_refl _)).wr
  have hej : e = j := by
    rcases Nat.lt_trichotomy e j with h | h | h
    · exfalso
      have hel : e < ops.size := by omega
      obtain ⟨hwe, hue⟩ := I.now.resolve_left (by omega)
      rcases hT.bar hel hwe hj ht (.inl hil) (by omega) with ⟨h2, _⟩ | ⟨_, h2⟩
      · omega
      · rw [hd e h2] at hue; cases hue
    · exact h
    · rw [I.before j h hk] at hu; cases hu
  subst hej
  have notdone : ∀ l, Bf ops e l → doneB listed l = false := fun l hl => by
    cases h : doneB listed l with
    | false => rfl
    | true => rw [I.bf hT.tidy h hl] at hu; cases hu
  have hview : ∀ x ob, (hpAt ops e (st e) (dr e)).get x = some ob → (HD st ops.size (doneB listed) e).get x = some ob := fun x ob hg => I.sight hT hjl hd hg rfl
  have hnx : (st (e + 1)).next = nx := by rw [es]
  have htt : (st (e + 1)).heap.t = H.t := by rw [es]
  have hfrs : Fresh m (st e).next nx := by rw [← hnx]; exact I.fresh hT hF hjl hu
  obtain ⟨ap, hwp⟩ := heapop_ok hT.sound hA.hp hh hnd
  refine hwp m W a F round hev (I.rel.sub hview) hfrs hfm _ Q (fun v' m' W' p hv => ?_)
  have hwr : (st ops.size).heap.wr ≤ H.wr := by
    have : (st (e + 1)).heap.wr = lower H.wr (st e).heap.wr := by rw [es]
    have := lower_le_left H.wr (st e).heap.wr
    omega
  obtain ⟨e', f1, f2, f3, f4⟩ := exists_next ops kd (ops.size - (e + 1)) (e + 1) (by omega)
  have behind : ∀ l o', e < l → ops[l]? = some o' → touch o'.op = true → isLoad o'.op = false → doneB (listed.setIfInBounds e true) l = false := fun l o' hl ho' q1 q2 => by
    rw [doneB_set hjs, if_neg (by omega)]
    rcases hT.bar hjl hk ho' q1 (.inl q2) (by omega) with ⟨h2, _⟩ | ⟨_, h2⟩
    · omega
    · exact notdone l h2
  refine ⟨m', e', I.sum hT hj hu hpre (by rw [es]; exact hp) p.le hv f2 (fun i hi hwi => ?_) ?_ (I.dom' hjl (by omega) p) (p.rel.sub fun x ob hg => ?_) (I.pw' hT hF hjl (hp_sub hA) hwr (by omega) p)⟩
  · rcases Nat.lt_trichotomy i e with h | h | h
    · rw [doneB_set hjs, if_neg (by omega)]; exact I.before i h hwi
    · rw [doneB_set hjs, if_pos h]
    · rw [f3 i (by omega) hi] at hwi; cases hwi
  · rcases f4 with h | h
    · exact .inl h
    · rcases Nat.lt_or_ge e' ops.size with hek | hek
      case inr => exact .inl (by omega)
      have ho' := Array.getElem?_eq_getElem hek
      have hst := hT.step e' _ ho'
      refine .inr ⟨h, ?_⟩
      have hty : touch (ops[e']).op = true ∧ isLoad (ops[e']).op = false := by
        cases hkl : kd e' with
        | store a' =>
          rw [hkl] at hst
          obtain ⟨_, q, t', x', y', v', T', H', hop, _⟩ := hst
          exact ⟨q, by rw [hop]; rfl⟩
        | wrt => rw [hkl] at hst; exact ⟨hst.2.1, hst.2.2.1⟩
        | _ => rw [hkl] at h; cases h
      exact behind e' _ (by omega) ho' hty.1 hty.2
  · obtain ⟨g1, g2, g3⟩ := HD_get.1 hg
    have hlt : x < (st (e + 1)).next := by
      rcases Nat.lt_or_ge x (st (e + 1)).next with h | h
      · exact h
      · exfalso
        have hlt' : x < (st e').next := by
          rcases Nat.lt_or_ge x (st e').next with h5 | h5
          · exact h5
          · rw [(hT.at e' f2).wf.none x h5] at g3; cases g3
        obtain ⟨l, h8, h9, h10, h11⟩ := hT.who h f1 f2 hlt'
        have hol := Array.getElem?_eq_getElem (show l < ops.size by omega)
        obtain ⟨q1, q2⟩ := hT.layer hol (by omega)
        exact g1 l h9 (behind l _ (by omega) hol q1 q2) ⟨h10, h11⟩
    rw [hT.stills hlt f1 f2 (fun l h1 h2 => .inl (f3 l h1 h2)), htt] at g3
    refine Hp.get_some.2 ⟨?_, g3⟩
    cases hq : hid H.bad x with
    | false => rfl
    | true =>
      exfalso
      rw [ap.bad] at hq
      obtain ⟨q, hq1, hq2, hq3⟩ := hid_iff.1 hq
      rcases unseen_mem.1 hq1 with h5 | ⟨y, hy, hb, rfl⟩
      · have : hid (st 0).heap.bad x = true := hid_iff.2 ⟨q, by rw [← hA.bad]; exact h5, hq2, hq3⟩
        rw [this] at g2; cases g2
      · obtain ⟨h6, h7, _⟩ := hA.ss y hy
        rw [h7] at hq2 hq3
        simp only at hq2 hq3
        have hol := Array.getElem?_eq_getElem (show y.1 < ops.size by omega)
        obtain ⟨q1, q2⟩ := hT.layer hol (by omega)
        rcases hT.bar hjl hk hol q1 (.inl q2) (by omega) with ⟨_, h8⟩ | ⟨h8, _⟩
        · unfold Bf at h8; rw [hb] at h8; cases h8
        · omega
theorem Inv.step (I : Inv n ops st kd m0 W0 listed a W m e) (hT : Trace P rec n ops st dr kd) (hF : Fresh m0 (st 0).next (st ops.size).next) (hfr : FR m0 round F) (hj : ops[j]? = some o) (hu : doneB listed j = false)
    (hpre : ∀ ed ∈ o.after, Region.binds .any ed = true → doneB listed ed.on = true) {Q : Exit → Act → World → Prop} :
    wpOpIn F 0 P ops Q j (fun a' W' => ∃ m' e', Inv n ops st kd m0 W0 (listed.setIfInBounds j true) a' W' m' e') a W := by
  have hjl := (Array.getElem?_eq_some_iff.1 hj).1
  have hjs : j < listed.size := by rw [I.size]; exact hjl
  have hA := hT.at j (by omega)
  have hd := fun i h => I.preds hT.tidy hj hpre i h
  have hev := I.ev hT hj hu hd
  have hw := I.want hT hj hu hd
  have hfm := hfr.mono I.pw.le
  have hs := hT.step j o hj
  have hnd := hT.nd hj
  have hwrk : (st ops.size).heap.wr ≤ (st (j + 1)).heap.wr := (hT.aps (show j + 1 ≤ ops.size by omega) (Nat.le_refl _)).wr
  -- a write that is due, or not: where e stands
  have notdone : ∀ l, Bf ops j l → doneB listed l = false := fun l hl => by
    cases h : doneB listed l with
    | false => rfl
    | true => rw [I.bf hT.tidy h hl] at hu; cases hu
  have due : e < ops.size → (kd e).writes = true ∧ doneB listed e = false := fun h => I.now.resolve_left (by omega)
  have after_e : ∀ l, e < ops.size → Bf ops e l → doneB listed l = false := fun l he hl => by
    cases h : doneB listed l with
    | false => rfl
    | true => rw [I.bf hT.tidy h hl] at due; exact absurd (due he).2 (by simp)
  unfold wpOpIn
  simp only [hj]
  cases hk : kd j with
  | skip =>
    rw [hk] at hs
    obtain ⟨h1, T, hp, es, ed⟩ := hs
    rw [if_neg (by rw [← hw, h1]; simp)]
    refine ⟨fun f _ => hfm.fn f, m, e, I.same hT hj hu hpre (v := .undef) (by rw [es]; exact hp) (by rw [hk]; rfl) (by rw [es]) (Le.refl m) (fun _ _ h => h) (VR.undef_iff.2 rfl) I.rel (fun _ _ => rfl) rfl rfl rfl (Nat.le_refl _)⟩
  | pure =>
    rw [hk] at hs
    obtain ⟨h1, _, v, T, hv, hp, es, ed⟩ := hs
    rw [if_pos (by rw [← hw, h1])]
    refine pureop_ok hv m W a F round hev hfm (fun v' hvr => ⟨m, e, I.same hT hj hu hpre (by rw [es]; exact hp) (by rw [hk]; rfl) (by rw [es]) (Le.refl m) (fun _ _ h => h) hvr I.rel (fun _ _ => rfl) rfl rfl rfl (Nat.le_refl _)⟩)
  | load nm =>
    rw [hk] at hs
    obtain ⟨h1, ht, t, x, v, T, ho, hh, hp, es, hnm, hc, ed⟩ := hs
    rw [if_pos (by rw [← hw, h1])]
    have hh' := hh
    rw [ho] at hh'
    obtain ⟨_, _, nn, off, hx, hl⟩ := load_inv hh'
    have hnn : nm = nn := by rw [hnm]; simp [nameO, hx]
    subst hnn
    -- the name reads as it did
    have hsame : ∀ ob, (hpAt ops j (st j) (dr j)).get nm = some ob → (HD st ops.size (doneB listed) e).get nm = some ob := fun ob hg => by
      refine I.sight hT hjl hd hg ?_
      have hlt := hA.wf.lt (hp_sub hA _ _ hg)
      rcases Nat.lt_or_ge j e with hje | hje
      · refine hT.stills hlt (by omega) I.ele (fun l h3 h4 => ?_)
        cases hwl : (kd l).writes with
        | false => exact .inl rfl
        | true =>
          right
          have hdl := I.before l h4 hwl
          have hlk : l < ops.size := I.lt hdl
          have hne : j ≠ l := fun h => by rw [← h, hk] at hwl; cases hwl
          cases hkl : kd l with
          | store a' =>
            refine ⟨a', rfl, fun hn => ?_⟩
            rcases hT.loadBar hlk hjl hkl hk with h5 | h5 | h5
            · rw [notdone l h5] at hdl; cases hdl
            · have := bf_lt hT.tidy.up hjl h5; omega
            · exact h5 hn.symm
          | wrt =>
            rcases hT.bar hlk hwl hj ht (.inr hkl) hne with ⟨_, h5⟩ | ⟨h5, _⟩
            · rw [notdone l h5] at hdl; cases hdl
            · omega
          | _ => rw [hkl] at hwl; cases hwl
      · have hel : e < ops.size := by omega
        obtain ⟨hwe, hue⟩ := due hel
        obtain ⟨h5, h6, _⟩ := hp_get hA hg
        have hlt2 : nm < (st e).next := by
          rcases Nat.lt_or_ge nm (st e).next with h7 | h7
          · exact h7
          · exfalso
            obtain ⟨l, h8, h9, h10, h11⟩ := hT.who h7 hje (by omega) hlt
            have hbl : Bf ops l j := by
              rcases Classical.em (Bf ops l j) with hb | hb
              · exact hb
              · exact absurd ⟨h10, h11⟩ (h6 l h9 hb)
            have hol := Array.getElem?_eq_getElem (show l < ops.size by omega)
            obtain ⟨q1, q2⟩ := hT.layer hol (by omega)
            have hdl := hd l hbl
            by_cases hle : l = e
            · rw [hle] at hdl; rw [hue] at hdl; cases hdl
            · rcases hT.bar hel hwe hol q1 (.inl q2) hle with ⟨h12, _⟩ | ⟨_, h12⟩
              · omega
              · rw [after_e l hel h12] at hdl; cases hdl
        refine (hT.stills hlt2 hje (by omega) (fun l h3 h4 => ?_)).symm
        cases hwl : (kd l).writes with
        | false => exact .inl rfl
        | true =>
          right
          have hlk : l < ops.size := by omega
          have hol := Array.getElem?_eq_getElem hlk
          have hul : doneB listed l = false := by
            by_cases hle : l = e
            · rw [hle]; exact hue
            · have hstl := hT.step l _ hol
              have hty : touch (ops[l]).op = true ∧ isLoad (ops[l]).op = false := by
                cases hkl : kd l with
                | store a' =>
                  rw [hkl] at hstl
                  obtain ⟨_, q, t', x', y', v', T', H', hop, _⟩ := hstl
                  exact ⟨q, by rw [hop]; rfl⟩
                | wrt => rw [hkl] at hstl; exact ⟨hstl.2.1, hstl.2.2.1⟩
                | _ => rw [hkl] at hwl; cases hwl
              rcases hT.bar hel hwe hol hty.1 (.inl hty.2) hle with ⟨h12, _⟩ | ⟨_, h12⟩
              · omega
              · exact after_e l hel h12
          have hne : j ≠ l := by omega
          cases hkl : kd l with
          | store a' =>
            refine ⟨a', rfl, fun hn => ?_⟩
            rcases hT.loadBar hlk hjl hkl hk with h13 | h13 | h13
            · have := bf_lt hT.tidy.up hlk h13; omega
            · rw [hd l h13] at hul; cases hul
            · exact h13 hn.symm
          | wrt =>
            rcases hT.bar hlk hwl hj ht (.inr hkl) hne with ⟨h13, _⟩ | ⟨_, h13⟩
            · omega
            · rw [hd l h13] at hul; cases hul
          | _ => rw [hkl] at hwl; cases hwl
    have hl2 : loadT P (HD st ops.size (doneB listed) e) t nm off = some v := loadT_congr (fun w cs h => hsame _ h) hl
    have hheap : heapA P rec (st j).tmps (HD st ops.size (doneB listed) e) (st ops.size).next o.op = some (v, HD st ops.size (doneB listed) e, (st ops.size).next) := by
      rw [ho]; simp [heapA, hx, hl2]
    have hWf : Wf (HD st ops.size (doneB listed) e) (st ops.size).next := by
      have hwe := (hT.at e I.ele).wf
      have hle := hT.mono I.ele (Nat.le_refl _)
      refine ⟨fun y hy => hwe.none y (by omega), fun p hp => ?_, hwe.ok⟩
      rcases List.mem_append.1 hp with hp | hp
      · obtain ⟨i, hi, he⟩ := List.mem_filterMap.1 hp
        rw [List.mem_range] at hi
        cases hdi : doneB listed i with
        | true => simp [hdi] at he
        | false =>
          simp [hdi] at he; subst he
          exact hT.mono (show i + 1 ≤ ops.size by have := I.ele; omega) (Nat.le_refl _)
      · have := hT.wf0.bad p hp
        have := hT.mono (Nat.zero_le ops.size) (Nat.le_refl _)
        omega
    obtain ⟨_, hwp⟩ := heapop_ok hT.sound hWf hheap hnd
    refine hwp m W a F round hev I.rel (fun y h3 h4 => by omega) hfm _ Q (fun v' m' W' p hv => ⟨m', e, ?_⟩)
    refine I.same hT hj hu hpre (by rw [es]; exact hp) (by rw [hk]; rfl) (by rw [es]) p.le (fun y b hy => ?_) hv p.rel (fun b hb => p.frame b hb ?_) p.os p.tape p.output p.size
    · rcases p.new y b hy with h | ⟨h3, h4, _⟩
      · exact h
      · omega
    · rintro ⟨i, oi, ki, h3, h4, _⟩
      have := hWf.lt h4
      simp only [HD] at h3
      omega
  | fresh =>
    rw [hk] at hs
    obtain ⟨h1, ht, hil, v, T, H, nx, hh, hp, hle, es, ed⟩ := hs
    rw [if_pos (by rw [← hw, h1])]
    have hje : j < e := by
      rcases Nat.lt_or_ge j e with h | h
      · exact h
      · exfalso
        have hel : e < ops.size := by omega
        obtain ⟨hwe, hue⟩ := due hel
        have hne : j ≠ e := fun h => by rw [← h, hk] at hwe; cases hwe
        rcases hT.bar hel hwe hj ht (.inl hil) hne with ⟨h2, _⟩ | ⟨_, h2⟩
        · omega
        · rw [hd e h2] at hue; cases hue
    have nowr : ∀ l, j ≤ l → l < e → (kd l).writes = false := fun l h3 h4 => by
      cases hwl : (kd l).writes with
      | false => rfl
      | true =>
        exfalso
        have hdl := I.before l h4 hwl
        have hne : j ≠ l := fun h => by rw [← h, hk] at hwl; cases hwl
        rcases hT.bar (I.lt hdl) hwl hj ht (.inl hil) hne with ⟨_, h5⟩ | ⟨h5, _⟩
        · rw [notdone l h5] at hdl; cases hdl
        · omega
    have hview : ∀ x ob, (hpAt ops j (st j) (dr j)).get x = some ob → (HD st ops.size (doneB listed) e).get x = some ob := fun x ob hg =>
      I.sight hT hjl hd hg (hT.stills (hA.wf.lt (hp_sub hA _ _ hg)) (by omega) I.ele (fun l h3 h4 => .inl (nowr l h3 h4)))
    have hnx : (st (j + 1)).next = nx := by rw [es]
    have hfrs : Fresh m (st j).next nx := by rw [← hnx]; exact I.fresh hT hF hjl hu
    obtain ⟨ap, hwp⟩ := heapop_ok hT.sound hA.hp hh hnd
    refine hwp m W a F round hev (I.rel.sub hview) hfrs hfm _ Q (fun v' m' W' p hv => ⟨m', e, ?_⟩)
    have noown : ∀ b, ¬ Owns m (hpAt ops j (st j) (dr j)) H.wr b := by
      rintro b ⟨i, oi, ki, h3, h4, _⟩
      have := hA.hp.lt h4
      omega
    have hwr : (st ops.size).heap.wr ≤ H.wr := by
      have : (st (j + 1)).heap.wr = lower H.wr (st j).heap.wr := by rw [es]
      have := lower_le_left H.wr (st j).heap.wr
      omega
    obtain ⟨k1, k2⟩ := I.keepE hjl (by rw [hk]; rfl)
    -- what is in sight now: what was, and what has been laid
    have split : ∀ x ob kx, (HD st ops.size (doneB (listed.setIfInBounds j true)) e).get x = some ob → m' x = some kx →
        (H.get x = some ob ∧ W.heap.size ≤ kx.b) ∨ ((HD st ops.size (doneB listed) e).get x = some ob ∧ m x = some kx ∧ kx.b < W.heap.size) := by
      intro x ob kx hg hx
      obtain ⟨g1, g2, g3⟩ := HD_get.1 hg
      by_cases hin : (st j).next ≤ x ∧ x < (st (j + 1)).next
      · left
        refine ⟨Hp.get_some.2 ⟨?_, ?_⟩, ?_⟩
        · cases hq : hid H.bad x with
          | false => rfl
          | true =>
            exfalso
            rw [ap.bad] at hq
            obtain ⟨q, hq1, hq2, hq3⟩ := hid_iff.1 hq
            have := hA.hp.bad q hq1
            omega
        · have : (st (j + 1)).heap.t = H.t := by rw [es]
          rw [← this, ← hT.stills hin.2 (by omega) I.ele (fun l h3 h4 => .inl (nowr l (by omega) h4))]
          exact g3
        · rcases p.new x kx hx with h | ⟨_, _, h | h⟩
          · rw [hfrs x hin.1 (by omega)] at h; cases h
          · exact h
          · exact absurd h (noown _)
      · right
        have hg' : (HD st ops.size (doneB listed) e).get x = some ob := HD_get.2 ⟨fun i hi hdi hxi => by
          by_cases h : i = j
          · subst h; exact hin hxi
          · exact g1 i hi (by rw [doneB_set hjs, if_neg h]; exact hdi) hxi, g2, g3⟩
        obtain ⟨k0, o0, q1, q2, _⟩ := I.rel.obj x ob hg'
        have := p.le x k0 q1
        rw [hx] at this; cases this
        exact ⟨hg', q1, I.rel.lt hg' q1⟩
    refine I.sum hT hj hu hpre (by rw [es]; exact hp) p.le hv I.ele k1 k2 (I.dom' hjl (by omega) p) ⟨fun x ob hg => ?_, fun x y ox oy kx ky gx gy mx my hwx hb => ?_⟩ (I.pw' hT hF hjl (hp_sub hA) hwr (by omega) p)
    · by_cases hin : ∃ kx, m' x = some kx
      · obtain ⟨kx, hx⟩ := hin
        rcases split x ob kx hg hx with ⟨h3, _⟩ | ⟨h3, h4, h5⟩
        · exact p.rel.obj x ob h3
        · obtain ⟨k0, o0, q1, q2, q3⟩ := I.rel.obj x ob h3
          rw [h4] at q1; cases q1
          exact ⟨kx, o0, hx, by rw [p.frame _ h5 (noown _)]; exact q2, q3.mono p.le⟩
      · exfalso
        obtain ⟨g1, g2, g3⟩ := HD_get.1 hg
        by_cases h3 : (st j).next ≤ x ∧ x < (st (j + 1)).next
        · have : H.get x = some ob := by
            refine Hp.get_some.2 ⟨?_, ?_⟩
            · cases hq : hid H.bad x with
              | false => rfl
              | true =>
                exfalso
                rw [ap.bad] at hq
                obtain ⟨q, hq1, hq2, hq3⟩ := hid_iff.1 hq
                have := hA.hp.bad q hq1
                omega
            · have : (st (j + 1)).heap.t = H.t := by rw [es]
              rw [← this, ← hT.stills h3.2 (by omega) I.ele (fun l h3 h4 => .inl (nowr l (by omega) h4))]
              exact g3
          obtain ⟨k0, _, q1, _⟩ := p.rel.obj x ob this
          exact hin ⟨k0, q1⟩
        · have hg' : (HD st ops.size (doneB listed) e).get x = some ob := HD_get.2 ⟨fun i hi hdi hxi => by
            by_cases h : i = j
            · subst h; exact h3 hxi
            · exact g1 i hi (by rw [doneB_set hjs, if_neg h]; exact hdi) hxi, g2, g3⟩
          obtain ⟨k0, _, q1, _⟩ := I.rel.obj x ob hg'
          exact hin ⟨k0, p.le x k0 q1⟩
    · rcases split x ox kx gx mx with ⟨h3, h4⟩ | ⟨h3, h4, h5⟩ <;> rcases split y oy ky gy my with ⟨h6, h7⟩ | ⟨h6, h7, h8⟩
      · exact p.rel.inj x y ox oy kx ky h3 h6 mx my hwx hb
      · omega
      · omega
      · exact I.rel.inj x y ox oy kx ky h3 h6 h4 h7 hwx hb
  | store nm =>
    rw [hk] at hs
    obtain ⟨h1, ht, t, x, y, v, T, H, ho, hh, hp, es, _⟩ := hs
    rw [if_pos (by rw [← hw, h1])]
    exact I.write hT hF hfr hj hu hpre (by rw [hk]; rfl) ht (by rw [ho]; rfl) hh hp es
  | wrt =>
    rw [hk] at hs
    obtain ⟨h1, ht, hil, v, T, H, nx, hh, hp, _, es, _⟩ := hs
    rw [if_pos (by rw [← hw, h1])]
    exact I.write hT hF hfr hj hu hpre (by rw [hk]; rfl) ht hil hh hp es

/-! All orders. -/
def unl (ops : Array Oper) (listed : Array Bool) : Nat := ((List.range ops.size).filter fun i => !listed.getD i true).length
theorem filt_less {l : List Nat} (hnd : l.Nodup) {i : Nat} (hi : i ∈ l) {f g : Nat → Bool} (hf : f i = true) (hg : g i = false) (hfg : ∀ j, j ≠ i → g j = f j) : (l.filter g).length + 1 = (l.filter f).length := by
  induction l with
  | nil => simp at hi
  | cons x l ih =>
    obtain ⟨h1, h2⟩ := List.nodup_cons.1 hnd
    by_cases e : x = i
    · subst e
      have : l.filter g = l.filter f := List.filter_congr fun y hy => hfg y (fun e => h1 (e ▸ hy))
      simp [List.filter_cons, hf, hg, this]
    · have hi' : i ∈ l := by rcases List.mem_cons.1 hi with h | h; exact absurd h.symm e; exact h
      have := ih h2 hi'
      rw [List.filter_cons, List.filter_cons, hfg x e]
      split
      · simp only [List.length_cons]; omega
      · exact this
theorem unl_set {ops : Array Oper} {listed : Array Bool} {i : Nat} (hi : i < ops.size) (hl : listed.size = ops.size) (h : listed.getD i true = false) : unl ops (listed.setIfInBounds i true) + 1 = unl ops listed := by
  refine filt_less List.nodup_range (List.mem_range.2 hi) (by simp [h]) (by simp [hl, hi]) fun j hj => ?_
  rw [getD_set_ne true (Ne.symm hj)]
theorem doneB_true {ops : Array Oper} {listed : Array Bool} (hl : listed.size = ops.size) {i : Nat} (hi : i < ops.size) : doneB listed i = listed.getD i true := by
  unfold doneB
  rw [Array.getD_eq_getD_getElem?, Array.getD_eq_getD_getElem?, Array.getElem?_eq_getElem (by omega)]
  rfl
theorem region_any (hT : Trace P rec n ops st dr kd) (hF : Fresh m0 (st 0).next (st ops.size).next) (hfr : FR m0 round F) {Q : Exit → Act → World → Prop}
    (hQ : ∀ a' m' W', PW m0 (st 0).heap (st 0).next W0 m' (st ops.size).heap.wr (st ops.size).next W' → Rel m' (st ops.size).heap W' → SR m' n (st ops.size) a' → Q .normal a' W') :
    ∀ (fuel : Nat) (listed : Array Bool) (a : Act) (W : World) (m : NM) (e : Nat), Inv n ops st kd m0 W0 listed a W m e → unl ops listed ≤ fuel → wpAnyIn F 0 P .any ops Q fuel listed a W := by
  have nil_done : ∀ (listed : Array Bool) (a : Act) (W : World) (m : NM) (e : Nat), Inv n ops st kd m0 W0 listed a W m e → Region.ready .any ops listed = [] → Q .normal a W := by
    intro listed a W m e I hnil
    have all : ∀ j, j < ops.size → doneB listed j = true := by
      intro j
      induction j using Nat.strongRecOn with
      | _ j ih =>
        intro hj
        cases hd : doneB listed j with
        | true => rfl
        | false =>
          exfalso
          have ho := Array.getElem?_eq_getElem hj
          have : j ∈ Region.ready .any ops listed := mem_ready.2 ⟨by rw [← doneB_true I.size hj]; exact hd, _, ho, fun ed he hb => by
            have h1 := hT.tidy.up j _ ho ed he hb
            exact ih ed.on h1 (by omega)⟩
          rw [hnil] at this; simp at this
    have he : e = ops.size := by
      rcases I.now with h | ⟨_, h⟩
      · exact h
      · have := I.ele
        rcases Nat.lt_or_ge e ops.size with h1 | h1
        · rw [all e h1] at h; cases h
        · omega
    subst he
    have hA := hT.at ops.size (Nat.le_refl _)
    refine hQ a m W I.pw (I.rel.sub fun x ob h => ?_) ⟨⟨I.asz, fun t => ?_⟩, ?_⟩
    · obtain ⟨h1, h2⟩ := Hp.get_some.1 h
      exact HD_get.2 ⟨(fun i hi hdi _ => by rw [all i hi] at hdi; cases hdi), (by rw [← hA.bad]; exact h1), h2⟩
    · by_cases h : ∃ i, dstOf ops i = some t
      · obtain ⟨i, hi⟩ := h
        have hik : i < ops.size := by
          unfold dstOf at hi
          rcases Nat.lt_or_ge i ops.size with h1 | h1
          · exact h1
          · rw [Array.getElem?_eq_none h1] at hi; simp at hi
        exact I.done i t (all i hik) hi
      · have hv := I.rest t (fun i _ hi => h ⟨i, hi⟩)
        rw [hT.tmp (i := 0) (by omega) (Nat.le_refl _) (fun l _ _ hl => h ⟨l, hl⟩)]
        exact hv
    · rw [hA.defers]; exact I.dfr
  intro fuel
  induction fuel with
  | zero =>
    intro listed a W m e I hle
    have hnil : Region.ready .any ops listed = [] := by
      rcases h : Region.ready .any ops listed with _ | ⟨x, l⟩
      · rfl
      · exfalso
        have hx : x ∈ Region.ready .any ops listed := by rw [h]; simp
        obtain ⟨h1, o, ho, _⟩ := mem_ready.1 hx
        have := unl_set (Array.getElem?_eq_some_iff.1 ho).1 I.size h1
        omega
    exact ⟨hnil, nil_done listed a W m e I hnil⟩
  | succ fuel ih =>
    intro listed a W m e I hle
    refine ⟨nil_done listed a W m e I, fun j hj => ?_⟩
    obtain ⟨h1, o, ho, h2⟩ := mem_ready.1 hj
    have hjl := (Array.getElem?_eq_some_iff.1 ho).1
    refine wpOpIn_mono (fun a' W' ⟨m', e', I'⟩ => ih _ a' W' m' e' I' ?_) (I.step hT hF hfr ho (by rw [doneB_true I.size hjl]; exact h1) (fun ed he hb => h2 ed he hb))
    have := unl_set hjl I.size h1
    omega

/-- A region that draws its order. -/
theorem draw_ok {rec : Task → Option Res} (hrec : RecOk P rec) (hm : P.follows .mixedOrders = true) {n : Nat} {ops : Array Oper} {s s' : St} (ht : tidyR ops = true) (hW : Wf s.heap s.next) (h : opsD P rec n ops (Region.before ops) ops.toList 0 s ⟨[], [], []⟩ = some s') :
    AP s.heap s.next s'.heap s'.next ∧ ∀ m W a F round, SR m n s a → Rel m s.heap W → Fresh m s.next s'.next → FR m round F → ∀ (Q : Exit → Act → World → Prop),
      (∀ a' m' W', Post m s.heap s.next W m' s'.heap s'.next W' → SR m' n s' a' → Q .normal a' W') → ∀ id, (Code.region id ops true).wpIn F 0 P Q a W := by
  obtain ⟨st, dr, kd, e1, e2, e3, e4⟩ := opsD_trace ops.toList 0 s s' _ h
  simp only [Nat.zero_add, Array.length_toList] at e3 e4
  have hT : Trace P rec n ops st dr kd := ⟨hrec, tidy_of ht, fun j o ho => e4 j o (by rw [Array.getElem?_toList]; exact ho), e2, by rw [e1]; exact hW⟩
  have hap := hT.aps (Nat.zero_le ops.size) (Nat.le_refl _)
  rw [e1, e3] at hap
  refine ⟨hap, fun m W a F round sr hR hF hfr Q hQ id => wpIn_region_any hm ?_⟩
  obtain ⟨e', f1, f2, f3, f4⟩ := exists_next ops kd ops.size 0 (by omega)
  have hdone : ∀ i, doneB (Array.replicate ops.size false) i = false := fun i => by
    unfold doneB
    rw [Array.getD_eq_getD_getElem?, Array.getElem?_replicate]
    split <;> rfl
  refine region_any (m0 := m) (W0 := { W with drawn := W.drawn + 1 }) hT (by rw [e1, e3]; exact hF) hfr (fun a' m' W' pw hr sr' => ?_) ops.size _ a _ m e' ?_ ?_
  · rw [e1, e3] at pw
    rw [e3] at hr sr'
    exact hQ a' m' W' ⟨pw.le, pw.new, hr, pw.frame, pw.os, pw.tape, pw.output, pw.size⟩ sr'
  · refine ⟨by simp, fun j o _ hd => (by rw [hdone] at hd; cases hd), sr.tmps.1, fun i t hd => (by rw [hdone] at hd; cases hd), fun t _ => (by rw [e1]; exact sr.tmps.2 t), by rw [e1]; exact sr.defers, f2, fun i hi hw => ?_, ?_, fun x b hx => .inl hx, ?_, ?_⟩
    · rw [f3 i (by omega) hi] at hw; cases hw
    · rcases f4 with h | h
      · exact .inl h
      · exact .inr ⟨h, hdone _⟩
    · refine (hR.heap rfl : Rel m s.heap { W with drawn := W.drawn + 1 }).sub fun x ob hg => ?_
      obtain ⟨g1, g2, g3⟩ := HD_get.1 hg
      have hlt : x < (st 0).next := by
        rcases Nat.lt_or_ge x (st 0).next with h | h
        · exact h
        · exfalso
          have hlt' : x < (st e').next := by
            rcases Nat.lt_or_ge x (st e').next with h5 | h5
            · exact h5
            · rw [(hT.at e' f2).wf.none x h5] at g3; cases g3
          obtain ⟨l, h8, h9, h10, h11⟩ := hT.who h f1 f2 hlt'
          exact g1 l h9 (hdone l) ⟨h10, h11⟩
      rw [hT.stills hlt f1 f2 (fun l h1 h2 => .inl (f3 l h1 h2)), e1] at g3
      rw [e1] at g2
      exact Hp.get_some.2 ⟨g2, g3⟩
    · exact ⟨Le.refl m, fun _ _ h => .inl h, fun _ _ _ => rfl, rfl, rfl, rfl, Nat.le_refl _⟩
  · unfold unl
    exact Nat.le_trans (List.length_filter_le _ _) (by simp)
end Abs
end Go.Proofs.Ythiifonejoejpaa
