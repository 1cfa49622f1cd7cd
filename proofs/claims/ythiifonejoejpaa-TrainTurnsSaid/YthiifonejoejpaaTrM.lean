/- The reference's Turns. -/
import Derived.Test.YthiifonejoejpaaTrL
namespace Go.Proofs.Ythiifonejoejpaa
open Go.RowKit Go.Shelf
attribute [local go_sem] Oper.semAt_some

set_option maxHeartbeats 1000000 in
theorem refTurns_any (Z : Nat → Prop) (v : Value) (ps : List (Int × Int)) (W : World) (hps : Pairs Z W v ps) (hok : OkPairs ps) :
    Calls Try.prog 15 #[v] W fun e w' => e = .returned (encR (arbK ps ps.length)) ∧ Below W.heap.size W w' := by
  obtain ⟨A, cap, rfl, hcap, _, hA⟩ := hps
  have hlen := hA.1
  refine (callsIn_wide (n := 0)).1 (callsIn_of_wp Try.func15 rfl trivial ?_ rfl)
  simp only [Try.ntmps15, List.size_toArray, List.length_cons, List.length_nil, Nat.reduceAdd, Nat.reduceSub, Array.replicate_succ, Array.replicate_zero, List.push_toArray, List.append_toArray, List.nil_append, List.cons_append]
  gi_wp2
  gi_loopw [4] (fun i wr => ∃ k : Nat, k ≤ ps.length ∧ i = .int .i64 k ∧ Hid (Below W.heap.size W wr) ∧ Hid (Bx wr W.heap.size 26 #[.int .i64 0, .int .i64 0]) ∧ Hid (Bx wr (W.heap.size + 1) 26 #[.int .i64 (arbK ps k).1, .int .i64 (arbK ps k).2]))
    (fun i _ => ps.length - (intOf i).toNat)
  case atStart =>
    refine ⟨0, Nat.zero_le _, rfl, ?_, ?_, ?_⟩
    · exact ((Below.refl _ _).alloc (Nat.le_refl _) _).alloc (by simp) _
    · exact (Bx.new W 26 _).alloc _
    · have := Bx.new (W.alloc (.cells #[.int .i64 0, .int .i64 0] 26)) 26 #[.int .i64 1, .int .i64 1]
      simpa [Hid, arbK] using this
  case round =>
    obtain ⟨k, hk, rfl, hbel, hb0, hb1⟩ := hrel
    by_cases hlt : k < ps.length
    · have hlt' : (k : Int) < (ps.length : Int) := by omega
      obtain ⟨b, off, rfl, hc, hd⟩ := (hA.grow hbel.out).at2 hlt
      have hr0 := hb1.out.cell 0
      have hr1 := hb1.out.cell 1
      have hf0 := hb1.out.frozen 0
      have hf1 := hb1.out.frozen 1
      simp only [List.getElem?_toArray, List.getElem?_cons_zero, List.getElem?_cons_succ] at hr0 hr1
      have hlt2 := hb1.out.lt
      have ho := hok.2 ps[k] (List.getElem_mem hlt)
      have hbd := arbK_bd ps hok k hk
      have hpw := pow400 k (by have := hok.1; omega)
      have hnext := arbK_succ ps k hlt
      have hm1 := Int.mul_le_mul (Int.le_trans hbd.1.2 hpw) ho.1.2 (by omega) (by omega)
      have hm2 := Int.mul_le_mul (Int.le_trans hbd.2.2 hpw) ho.2.2 (by omega) (by omega)
      have hm3 := Int.mul_le_mul hbd.1.1 (show 1 ≤ ps[k].1 by omega) (by omega) (by omega)
      have hm4 := Int.mul_le_mul hbd.2.1 (show 1 ≤ ps[k].2 by omega) (by omega) (by omega)
      have HN := Lib.hid hnext
      clear hnext
      generalize ps[k] = p at hc hd ho hm1 hm2 hm3 hm4 HN
      generalize arbK ps k = r at hbd hb1 hr0 hr1 hm1 hm2 hm3 hm4 HN
      obtain ⟨p1, p2⟩ := p
      obtain ⟨r1, r2⟩ := r
      simp only at hc hd ho hm1 hm2 hm3 hm4 HN hbd hr0 hr1 hb1
      have e1 : 1 ≤ r1 := hbd.1.1
      have e2 : 1 ≤ r2 := hbd.2.1
      have e5 : r1 * p1 ≤ 9223372036854775807 := by omega
      have e6 : r2 * p2 ≤ 9223372036854775807 := by omega
      have e7 : 1 ≤ r1 * p1 := by omega
      have e8 : 1 ≤ r2 * p2 := by omega
      clear hm1 hm2 hm3 hm4
      have hlow := fun W => refLowest_any (r1 * p1) (r2 * p2) W e7 e8 e5 e6
      generalize lowR (r1 * p1) (r2 * p2) = s at hlow HN
      obtain ⟨s1, s2⟩ := s
      simp only [encR] at hlow
      have HL := Lib.hid hlow
      clear hlow
      gi_wp2
      refine region_steps 17 Grow (fun i v A => match i with
          | 0 => v = .pointer (some ⟨W.heap.size + 1, 0, none⟩) | 1 => v = .int .i64 r1 | 2 => v = .slice (some ⟨b, off, none⟩) ps.length cap | 3 => v = .int .i64 k | 4 => v = .pointer (some ⟨b, off + k * 2, none⟩) | 5 => v = .pointer (some ⟨b, off + k * 2, none⟩)
          | 6 => v = .int .i64 p1 | 7 => v = .int .i64 (r1 * p1) | 8 => v = .pointer (some ⟨W.heap.size + 1, 1, none⟩) | 9 => v = .int .i64 r2 | 10 => v = .slice (some ⟨b, off, none⟩) ps.length cap | 11 => v = .int .i64 k | 12 => v = .pointer (some ⟨b, off + k * 2, none⟩)
          | 13 => v = .pointer (some ⟨b, off + k * 2 + 1, none⟩) | 14 => v = .int .i64 p2 | 15 => v = .int .i64 (r2 * p2) | 16 => v = .agg #[.int .i64 s1, .int .i64 s2] | _ => True) (by kernel_rfl) (by kernel_rfl) Grow.refl (fun h k => h.trans k)
          (by intro i v A B h; split <;> intro hv <;> exact hv) ?_ ?_
      · intro us A hA2
        have hG : Grow wr A := (Grow.refl _).drew.trans hA2
        have a0 := hG.cell hr0
        have a1 := hG.cell hr1
        have a2 := hG.cell hc
        have a3 := hG.cell hd
        clear hr0 hr1 hc hd hf0 hf1 hG hA2 hA hb0 hb1 hbel
        simp only [List.take, fillS, Act.put, Steps1, deps, Waits, List.filter, Region.binds, List.map, List.setIfInBounds_toArray, List.set_cons_succ, List.set_cons_zero, Nat.reduceAdd, Nat.zero_add]
        refine ⟨fun hw => ?_, fun hw => ?_, fun hw => ?_, fun hw => ?_, fun hw => ?_, fun hw => ?_, fun hw => ?_, fun hw => ?_, fun hw => ?_, fun hw => ?_, fun hw => ?_, fun hw => ?_, fun hw => ?_, fun hw => ?_, fun hw => ?_, fun hw => ?_, fun hw => ?_, trivial⟩
        · gi_wp2
          exact ⟨rfl, Grow.refl _, rfl⟩
        · obtain ⟨h0, _⟩ := hw
          gi_wp2
          exact ⟨rfl, Grow.refl _, rfl⟩
        · gi_wp2
          exact ⟨rfl, Grow.refl _, rfl⟩
        · gi_wp2
          exact ⟨rfl, Grow.refl _, rfl⟩
        · obtain ⟨h0, h1, _⟩ := hw
          gi_wp2
          exact ⟨rfl, Grow.refl _, rfl⟩
        · obtain ⟨h0, _⟩ := hw
          gi_wp2
          exact ⟨rfl, Grow.refl _, rfl⟩
        · obtain ⟨h0, _⟩ := hw
          gi_wp2
          exact ⟨rfl, Grow.refl _, rfl⟩
        · obtain ⟨h0, h1, _⟩ := hw
          gi_wp2
          exact ⟨rfl, Grow.refl _, rfl⟩
        · gi_wp2
          exact ⟨rfl, Grow.refl _, rfl⟩
        · obtain ⟨h0, _⟩ := hw
          gi_wp2
          exact ⟨rfl, Grow.refl _, rfl⟩
        · gi_wp2
          exact ⟨rfl, Grow.refl _, rfl⟩
        · gi_wp2
          exact ⟨rfl, Grow.refl _, rfl⟩
        · obtain ⟨h0, h1, _⟩ := hw
          gi_wp2
          exact ⟨rfl, Grow.refl _, rfl⟩
        · obtain ⟨h0, _⟩ := hw
          gi_wp2
          exact ⟨rfl, Grow.refl _, rfl⟩
        · obtain ⟨h0, _⟩ := hw
          gi_wp2
          exact ⟨rfl, Grow.refl _, rfl⟩
        · obtain ⟨h0, h1, _⟩ := hw
          gi_wp2
          exact ⟨rfl, Grow.refl _, rfl⟩
        · obtain ⟨h0, h1, _⟩ := hw
          gi_wp2_with (refine ⟨trivial, rfl, ?_⟩; gi_at_call 23; refine (callsIn_wide.2 (HL.out _)).mono ?_; rintro e w' ⟨rfl, hb'⟩)
          exact ⟨rfl, hb', rfl⟩
      · intro us A hA2 hw
        have hG : Grow wr A := (Grow.refl _).drew.trans hA2
        have hbA := hb1.out.grow hG
        have a0 := hG.cell hr0
        have a1 := hG.cell hr1
        have a2 := hbA.frozen 0
        have a3 := hbA.frozen 1
        have hb0A := hb0.out.grow hG
        have hbelA := hbel.out.trans (hG.mono hbel.out.size)
        have H1 := Lib.hid (show Below W.heap.size W ((A.setCell ⟨W.heap.size + 1, 0, none⟩ (.int .i64 s1)).setCell ⟨W.heap.size + 1, 1, none⟩ (.int .i64 s2)) from (hbelA.setCell (by simp) _).setCell (by simp) _)
        have H2 := Lib.hid (show Bx ((A.setCell ⟨W.heap.size + 1, 0, none⟩ (.int .i64 s1)).setCell ⟨W.heap.size + 1, 1, none⟩ (.int .i64 s2)) W.heap.size 26 #[.int .i64 0, .int .i64 0] from (hb0A.far (by simp) _).far (by simp) _)
        have H3 := Lib.hid (show Bx ((A.setCell ⟨W.heap.size + 1, 0, none⟩ (.int .i64 s1)).setCell ⟨W.heap.size + 1, 1, none⟩ (.int .i64 s2)) (W.heap.size + 1) 26 #[.int .i64 s1, .int .i64 s2] from by simpa using (hbA.set 0 (.int .i64 s1)).set 1 (.int .i64 s2))
        clear hr0 hr1 hc hd hf0 hf1 hA2 hbA hb0A hbelA hb0 hb1 hbel hG hA
        simp only [List.take, List.drop, fillS, Act.put, Facts, List.setIfInBounds_toArray, List.set_cons_succ, List.set_cons_zero, Nat.reduceAdd, Nat.zero_add] at hw ⊢
        obtain ⟨h0, h1, h2, h3, h4, h5, h6, h7, h8, h9, h10, h11, h12, h13, h14, h15, h16, _⟩ := hw
        gi_wp2
        go_roundw
        case rel => exact ⟨k + 1, by omega, by go_num, H1.out, H2.out, by rw [HN.out]; exact H3.out⟩
        case measure => simp [intOf]; omega
    · have hlt' : ¬ (k : Int) < (ps.length : Int) := by omega
      have : k = ps.length := by omega
      subst this
      have hr0 := hb1.out.cell 0
      have hr1 := hb1.out.cell 1
      have hq0 := hb0.out.cell 0
      have hq1 := hb0.out.cell 1
      have hf0 := hb0.out.frozen 0
      have hf1 := hb0.out.frozen 1
      simp only [List.getElem?_toArray, List.getElem?_cons_zero, List.getElem?_cons_succ] at hr0 hr1 hq0 hq1
      gi_wp2
      have hx := (hb0.out.set 0 (.int .i64 (arbK ps ps.length).1)).set 1 (.int .i64 (arbK ps ps.length).2)
      have x0 := hx.cell 0
      have x1 := hx.cell 1
      simp at x0 x1
      refine bodyPost_ret (v := .agg #[.int .i64 (arbK ps ps.length).1, .int .i64 (arbK ps ps.length).2]) ?_ rfl ⟨rfl, (hbel.out.setCell (Nat.le_refl _) _).setCell (Nat.le_refl _) _⟩
      simp [results, Try.results15, go_sem, x0, x1]
end Go.Proofs.Ythiifonejoejpaa
