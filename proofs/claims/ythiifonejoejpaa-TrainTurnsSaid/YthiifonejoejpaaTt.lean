/- TrainTurns: the walk. -/
import Derived.Test.YthiifonejoejpaaTrO
import Derived.Test.YthiifonejoejpaaKa
import Derived.Test.YthiifonejoejpaaKok
namespace Go.Proofs.Ythiifonejoejpaa
open Go.RowKit Go.Shelf
attribute [local go_sem] Oper.semAt_some

theorem known_any (w : World) : Calls Try.prog 10 #[] w fun e w' => e = .returned (.bool true) ∧ Below w.heap.size w w' := kagood prog_ok w

def tR (ps : List (Int × Int)) : Int × Int := if pairsErr ps = 0 then arbK ps ps.length else (0, 0)
def tB (ps : List (Int × Int)) : Bool := if pairsErr ps = 0 then decide (ps.length % 2 = 1) else false
def tC (ps : List (Int × Int)) : Int := if pairsErr ps = 0 then cycL (arbs ps) else 0
theorem turns_both (Z : Nat → Prop) (v : Value) (ps : List (Int × Int)) (w : World) (hps : Pairs Z w v ps) (hZ : ∀ k, Z k → k < w.heap.size) :
    Calls Try.prog 12 #[v] w fun e w' => e = .returned (.tuple #[.agg #[.int .i64 (tR ps).1, .int .i64 (tR ps).2], .bool (tB ps), .int .i64 (pairsErr ps)]) ∧ Below w.heap.size w w' := by
  by_cases h : pairsErr ps = 0
  · have := turns_any Z v ps w hps hZ h
    simpa [tR, tB, h, encR] using this
  · have := turns_err Z v ps w hps h
    simpa only [tR, tB, if_neg h, encR] using this
theorem cycle_both (Z : Nat → Prop) (v : Value) (ps : List (Int × Int)) (w : World) (hps : Pairs Z w v ps) (hZ : ∀ k, Z k → k < w.heap.size) :
    Calls Try.prog 13 #[v] w fun e w' => e = .returned (.tuple #[.int .i64 (tC ps), .int .i64 (pairsErr ps)]) ∧ Below w.heap.size w w' := by
  by_cases h : pairsErr ps = 0
  · have := cycle_any Z v ps w hps hZ h
    simpa [tC, h] using this
  · have := cycle_err Z v ps w hps h
    simpa only [tC, if_neg h] using this

set_option maxHeartbeats 1000000 in
theorem trainTurns_any (Z : Nat → Prop) (v : Value) (ps : List (Int × Int)) (W : World) (hps : Pairs Z W v ps) :
    Calls Try.prog 3 #[v] W fun e w' => e = .returned (.bool true) ∧ Below W.heap.size W w' := by
  obtain ⟨A, cap, rfl, hps⟩ : ∃ A cap, v = .slice A ps.length cap ∧ Pairs Z W (.slice A ps.length cap) ps := by obtain ⟨A, cap, rfl, h⟩ := hps; exact ⟨A, cap, rfl, A, cap, rfl, h⟩
  refine (callsIn_wide (n := 0)).1 (callsIn_of_wp Try.func3 rfl trivial ?_ rfl)
  simp only [Try.ntmps3, List.size_toArray, List.length_cons, List.length_nil, Nat.reduceAdd, Nat.reduceSub, Array.replicate_succ, Array.replicate_zero, List.push_toArray, List.append_toArray, List.nil_append, List.cons_append]
  have hlen : ps.length ≤ 1099511627776 := by obtain ⟨_, _, _, _, _, h⟩ := hps; exact h.1
  by_cases h10 : 10 < ps.length
  · have h10' : (10 : Int) < (ps.length : Int) := by omega
    gi_wp2_with (refine ⟨trivial, rfl, ?_⟩; gi_at_call 10; refine (callsIn_wide.2 (known_any _)).mono ?_; rintro e w' ⟨rfl, hb'⟩)
    go_ret
    exact ⟨rfl, hb'⟩
  · have h10' : ¬ (10 : Int) < (ps.length : Int) := by omega
    have HP := Lib.hid (pairs_any Z _ ps W hps (by omega))
    gi_wp2_with (refine ⟨trivial, rfl, ?_⟩; gi_at_call 11; refine (callsIn_wide.2 HP.out).mono ?_; rintro e w1 ⟨⟨r, rfl, hr⟩, hb1⟩)
    clear HP
    have hr1 := hr
    obtain ⟨A', cap', rfl, _, _, hc1⟩ := hr1
    have hl1 : PairsA Z w1 A ps := by obtain ⟨_, _, h, _, _, k⟩ := hps; cases h; exact k.grow hb1
    refine ⟨trivial, rfl, (callsIn_wide.2 (turns_both _ _ ps w1 hr (fun k h => h.2))).mono ?_⟩
    rintro e w2 ⟨rfl, hb2⟩
    have hw0 : Below w1.heap.size w1 (w2.alloc (.cells #[.int .i64 (tR ps).1, .int .i64 (tR ps).2] 26)) := hb2.alloc hb2.size _
    have HR := Lib.hid (Bx.new w2 26 #[.int .i64 (tR ps).1, .int .i64 (tR ps).2])
    have HW0 := Lib.hid hw0
    have HC1 := Lib.hid hc1
    have HL1 := Lib.hid hl1
    have HB1 := Lib.hid hb1
    have hrr := fun W' (h : Below w1.heap.size w1 W') => cycle_both (fun b => W.heap.size ≤ b ∧ b < w1.heap.size) (.slice A' ps.length cap') ps W' ⟨A', cap', rfl, ‹_›, ‹_›, hc1.grow h⟩ (fun k hk => Nat.lt_of_lt_of_le hk.2 h.size)
    have HCY := Lib.hid hrr
    clear hrr hb1 hb2 hw0 hc1 hl1 hr hps
    gi_wp2
    refine ⟨trivial, rfl, (callsIn_wide.2 (HCY.out _ HW0.out)).mono ?_⟩
    rintro e w3 ⟨rfl, hb3⟩
    have HW3 := Lib.hid (HW0.out.trans (hb3.mono HW0.out.size))
    have HC3 := Lib.hid (HC1.out.grow HW3.out)
    have HL3 := Lib.hid (HL1.out.grow HW3.out)
    have HR3 := Lib.hid (HR.out.grow hb3)
    have HB3 := Lib.hid (HB1.out.trans (HW3.out.mono HB1.out.size))
    clear hb3 HCY HW0 HC1 HL1 HR HB1 HW3
    generalize w2.heap.size = B at HR3 ⊢
    gi_wp2
    gi_loopw [9] (fun i wr => ∃ k : Nat, k ≤ ps.length ∧ i = .int .i64 k ∧ Hid (Grow w3 wr)) (fun i _ => ps.length - (intOf i).toNat)
    case atStart => exact ⟨0, Nat.zero_le _, rfl, Grow.refl _⟩
    case round =>
      obtain ⟨k, hk, rfl, hgr⟩ := hrel
      by_cases hlt : k < ps.length
      · have hlt' : (k : Int) < (ps.length : Int) := by omega
        obtain ⟨b, off, rfl, hc, hd⟩ := (HL3.out.grow hgr.out).at2 hlt
        obtain ⟨b', off', rfl, hc', hd'⟩ := (HC3.out.grow hgr.out).at2 hlt
        generalize ps[k] = x at hc hd hc' hd'
        obtain ⟨x1, x2⟩ := x
        simp only at hc hd hc' hd'
        gi_wp2
        refine region_steps 9 Grow (fun i v A => match i with
          | 0 => v = .slice (some ⟨b', off', none⟩) ps.length cap' | 1 => v = .int .i64 k | 2 => v = .pointer (some ⟨b', off' + k * 2, none⟩) | 3 => v = .agg #[.int .i64 x1, .int .i64 x2]
          | 4 => v = .slice (some ⟨b, off, none⟩) ps.length cap | 5 => v = .int .i64 k | 6 => v = .pointer (some ⟨b, off + k * 2, none⟩) | 7 => v = .agg #[.int .i64 x1, .int .i64 x2] | 8 => v = .bool false | _ => True) (by kernel_rfl) (by kernel_rfl) Grow.refl (fun h k => h.trans k)
          (by intro i v A B h; split <;> intro hv <;> exact hv) ?_ ?_
        · intro us A2 hA2
          have hG : Grow wr A2 := (Grow.refl _).drew.trans hA2
          have a0 := hG.cell hc
          have a1 := hG.cell hd
          have a2 := hG.cell hc'
          have a3 := hG.cell hd'
          clear hc hd hc' hd' hG hA2 HL3 HC3 HB3 HR3 hgr
          simp only [List.take, fillS, Act.put, Steps1, deps, Waits, List.filter, Region.binds, List.map, List.setIfInBounds_toArray, List.set_cons_succ, List.set_cons_zero, Nat.reduceAdd, Nat.zero_add]
          refine ⟨fun hw => ?_, fun hw => ?_, fun hw => ?_, fun hw => ?_, fun hw => ?_, fun hw => ?_, fun hw => ?_, fun hw => ?_, fun hw => ?_, trivial⟩
          · gi_wp2
            exact ⟨rfl, Grow.refl _, rfl⟩
          · gi_wp2
            exact ⟨rfl, Grow.refl _, rfl⟩
          · obtain ⟨h0, h1, _⟩ := hw
            gi_wp2
            exact ⟨rfl, Grow.refl _, rfl⟩
          · obtain ⟨h0, _⟩ := hw
            gi_wp2
            exact ⟨rfl, Grow.refl _, rfl⟩
          · gi_wp2
            exact ⟨rfl, Grow.refl _, rfl⟩
          · gi_wp2
            exact ⟨rfl, Grow.refl _, rfl⟩
          · obtain ⟨h0, h1, _⟩ := hw
            gi_wp2
            exact ⟨rfl, Grow.refl _, rfl⟩
          · obtain ⟨h0, _⟩ := hw
            gi_wp2
            exact ⟨rfl, Grow.refl _, rfl⟩
          · obtain ⟨h0, h1, _⟩ := hw
            gi_wp2
            exact ⟨rfl, Grow.refl _, rfl⟩
        · intro us A2 hA2 hw
          have hG : Grow wr A2 := (Grow.refl _).drew.trans hA2
          have H1 := Lib.hid (hgr.out.trans hG)
          clear hc hd hc' hd' hG hA2 HL3 HC3 HB3 HR3 hgr
          simp only [List.take, List.drop, fillS, Act.put, Facts, List.setIfInBounds_toArray, List.set_cons_succ, List.set_cons_zero, Nat.reduceAdd, Nat.zero_add] at hw ⊢
          obtain ⟨h0, h1, h2, h3, h4, h5, h6, h7, h8, _⟩ := hw
          rw [h8]
          clear h0 h1 h2 h3 h4 h5 h6 h7 h8
          gi_wp2
          go_roundw
          case rel => exact ⟨k + 1, by omega, by go_num, H1.out⟩
          case measure => simp [intOf]; omega
      · have hlt' : ¬ (k : Int) < (ps.length : Int) := by omega
        have hke : k = ps.length := by omega
        subst hke
        have HLr := Lib.hid (HL3.out.grow hgr.out)
        have HBr := Lib.hid (HB3.out.trans (hgr.out.mono HB3.out.size))
        have hRr := HR3.out.grow hgr.out
        have HPr := Lib.hid (show Pairs Z wr (.slice A ps.length cap) ps by obtain ⟨_, _, h, h1, h2, _⟩ := hps; cases h; exact ⟨A, cap, rfl, h1, h2, HLr.out⟩)
        clear HL3 HC3 HB3 HR3 hgr hps
        gi_wp2
        refine ⟨trivial, rfl, (callsIn_wide.2 (refPairs_any Z _ ps wr HPr.out)).mono ?_⟩
        rintro e w' ⟨rfl, rfl⟩
        have c0 := hRr.cell 0
        have c1 := hRr.cell 1
        simp only [List.getElem?_toArray, List.getElem?_cons_zero, List.getElem?_cons_succ] at c0 c1
        clear hRr
        by_cases hok : pairsErr ps = 0
        · simp only [tR, tB, tC, if_pos hok] at c0 c1 ⊢
          rw [hok]
          have hops := pairsErr_ok hok
          have HTu := Lib.hid (fun W' (h : Grow wr W') => refTurns_any Z (.slice A ps.length cap) ps W' (by obtain ⟨A', c', h1, h2, h3, h4⟩ := HPr.out; exact ⟨A', c', h1, h2, h3, h4.grow h⟩) hops)
          have HCy := Lib.hid (fun W' (h : Grow wr W') => refCycle_any Z (.slice A ps.length cap) ps W' (by obtain ⟨A', c', h1, h2, h3, h4⟩ := HPr.out; exact ⟨A', c', h1, h2, h3, h4.grow h⟩) hops)
          have HKn := Lib.hid (fun W' (_ : Grow wr W') => known_any W')
          simp only [encR] at HTu
          clear hops
          generalize arbK ps ps.length = q at c0 c1 HTu ⊢
          generalize cycL (arbs ps) = c at HCy ⊢
          gi_wp2
          refine region_steps 29 Grow (fun i v _ => match i with
            | 0 => v = .int .i64 0 | 1 => v = .bool true | 2 => v = .bool true | 3 => v = .int .i64 0 | 4 => v = .bool true | 5 => v = .bool true | 6 => v = .bool true | 7 => v = .agg #[.int .i64 q.1, .int .i64 q.2] | 8 => v = .slice A ps.length cap | 9 => v = .agg #[.int .i64 q.1, .int .i64 q.2] | 10 => v = .bool true | 11 => v = .bool true | 12 => v = .bool true | 13 => v = .bool (decide (ps.length % 2 = 1)) | 14 => v = .slice A ps.length cap | 15 => v = .int .i64 ps.length | 16 => v = .int .i64 ((ps.length % 2 : Nat) : Int) | 17 => v = .bool (decide (ps.length % 2 = 1)) | 18 => v = .bool true | 19 => v = .bool true | 20 => v = .bool true | 21 => v = .int .i64 c | 22 => v = .slice A ps.length cap | 23 => v = .int .i64 c | 24 => v = .bool true | 25 => v = .bool true | 26 => v = .bool true | 27 => v = .bool true | 28 => v = .bool true | _ => True) (by kernel_rfl) (by kernel_rfl) Grow.refl (fun h k => h.trans k)
            (by intro i v A B h; split <;> intro hv <;> exact hv) ?_ ?_
          · intro us A2 hA2
            have hG : Grow wr A2 := (Grow.refl _).drew.trans hA2
            have a0 := hG.cell c0
            have a1 := hG.cell c1
            clear c0 c1 hA2 HLr HBr HPr hlt hk hlt'
            simp only [List.take, fillS, Act.put, Steps1, deps, Waits, List.filter, Region.binds, List.map, List.setIfInBounds_toArray, List.set_cons_succ, List.set_cons_zero, Nat.reduceAdd, Nat.zero_add]
            refine ⟨fun hw => ?_, fun hw => ?_, fun hw => ?_, fun hw => ?_, fun hw => ?_, fun hw => ?_, fun hw => ?_, fun hw => ?_, fun hw => ?_, fun hw => ?_, fun hw => ?_, fun hw => ?_, fun hw => ?_, fun hw => ?_, fun hw => ?_, fun hw => ?_, fun hw => ?_, fun hw => ?_, fun hw => ?_, fun hw => ?_, fun hw => ?_, fun hw => ?_, fun hw => ?_, fun hw => ?_, fun hw => ?_, fun hw => ?_, fun hw => ?_, fun hw => ?_, fun hw => ?_, trivial⟩
            · gi_wp2
              exact ⟨rfl, Grow.refl _, by first | rfl | exact h0⟩
            · obtain ⟨h0, _⟩ := hw
              gi_wp2
              exact ⟨rfl, Grow.refl _, by first | rfl | exact h0⟩
            · obtain ⟨h0, _⟩ := hw
              gi_wp2
              exact ⟨rfl, Grow.refl _, by first | rfl | exact h0⟩
            · obtain ⟨h0, _⟩ := hw
              gi_wp2
              exact ⟨rfl, Grow.refl _, by first | rfl | exact h0⟩
            · obtain ⟨h0, h1, _⟩ := hw
              gi_wp2
              exact ⟨rfl, Grow.refl _, by first | rfl | exact h0⟩
            · obtain ⟨h0, h1, _⟩ := hw
              gi_wp2
              exact ⟨rfl, Grow.refl _, by first | rfl | exact h0⟩
            · obtain ⟨h0, h1, _⟩ := hw
              gi_wp2
              exact ⟨rfl, Grow.refl _, by first | rfl | exact h0⟩
            · obtain ⟨h0, _⟩ := hw
              gi_wp2
              exact ⟨rfl, Grow.refl _, by first | rfl | exact h0⟩
            · obtain ⟨h0, _⟩ := hw
              gi_wp2
              exact ⟨rfl, Grow.refl _, by first | rfl | exact h0⟩
            · obtain ⟨h0, h1, h2, _⟩ := hw
              gi_wp2_with (refine ⟨trivial, rfl, ?_⟩; gi_at_call 15; refine (callsIn_wide.2 (HTu.out _ hG)).mono ?_; rintro e w' ⟨rfl, hb'⟩)
              exact ⟨rfl, hb', rfl⟩
            · obtain ⟨h0, h1, h2, _⟩ := hw
              gi_wp2
              exact ⟨rfl, Grow.refl _, by first | rfl | exact h0⟩
            · obtain ⟨h0, h1, _⟩ := hw
              gi_wp2
              exact ⟨rfl, Grow.refl _, by first | rfl | exact h0⟩
            · obtain ⟨h0, h1, _⟩ := hw
              gi_wp2
              exact ⟨rfl, Grow.refl _, by first | rfl | exact h0⟩
            · obtain ⟨h0, _⟩ := hw
              gi_wp2
              exact ⟨rfl, Grow.refl _, by first | rfl | exact h0⟩
            · obtain ⟨h0, _⟩ := hw
              gi_wp2
              exact ⟨rfl, Grow.refl _, by first | rfl | exact h0⟩
            · obtain ⟨h0, h1, _⟩ := hw
              gi_wp2
              exact ⟨rfl, Grow.refl _, by first | rfl | exact h0⟩
            · obtain ⟨h0, h1, _⟩ := hw
              gi_wp2
              exact ⟨rfl, Grow.refl _, by first | rfl | go_num⟩
            · obtain ⟨h0, h1, _⟩ := hw
              gi_wp2
              exact ⟨rfl, Grow.refl _, by first | rfl | (show Value.bool _ = Value.bool _; refine congrArg Value.bool ?_; first | (rw [Bool.eq_iff_iff]; simp; omega) | simp)⟩
            · obtain ⟨h0, h1, h2, _⟩ := hw
              gi_wp2
              exact ⟨rfl, Grow.refl _, by first | rfl | (show Value.bool _ = Value.bool _; refine congrArg Value.bool ?_; first | (rw [Bool.eq_iff_iff]; simp; omega) | simp)⟩
            · obtain ⟨h0, h1, _⟩ := hw
              gi_wp2
              exact ⟨rfl, Grow.refl _, by first | rfl | exact h0⟩
            · obtain ⟨h0, h1, _⟩ := hw
              gi_wp2
              exact ⟨rfl, Grow.refl _, by first | rfl | exact h0⟩
            · obtain ⟨h0, _⟩ := hw
              gi_wp2
              exact ⟨rfl, Grow.refl _, by first | rfl | exact h0⟩
            · obtain ⟨h0, _⟩ := hw
              gi_wp2
              exact ⟨rfl, Grow.refl _, by first | rfl | exact h0⟩
            · obtain ⟨h0, h1, h2, _⟩ := hw
              gi_wp2_with (refine ⟨trivial, rfl, ?_⟩; gi_at_call 16; refine (callsIn_wide.2 (HCy.out _ hG)).mono ?_; rintro e w' ⟨rfl, hb'⟩)
              exact ⟨rfl, hb', rfl⟩
            · obtain ⟨h0, h1, h2, _⟩ := hw
              gi_wp2
              exact ⟨rfl, Grow.refl _, by first | rfl | exact h0⟩
            · obtain ⟨h0, h1, _⟩ := hw
              gi_wp2
              exact ⟨rfl, Grow.refl _, by first | rfl | exact h0⟩
            · obtain ⟨h0, h1, _⟩ := hw
              gi_wp2
              exact ⟨rfl, Grow.refl _, by first | rfl | exact h0⟩
            · obtain ⟨h0, h1, _⟩ := hw
              gi_wp2_with (refine ⟨trivial, rfl, ?_⟩; gi_at_call 10; refine (callsIn_wide.2 (HKn.out _ hG)).mono ?_; rintro e w' ⟨rfl, hb'⟩)
              exact ⟨rfl, hb', rfl⟩
            · obtain ⟨h0, h1, _⟩ := hw
              gi_wp2
              exact ⟨rfl, Grow.refl _, by first | rfl | exact h0⟩
          · intro us A2 hA2 hw
            have hG : Grow wr A2 := (Grow.refl _).drew.trans hA2
            clear c0 c1 hA2 HLr HPr hlt hk hlt' HTu HCy HKn
            simp only [List.take, List.drop, fillS, Act.put, Facts, List.setIfInBounds_toArray, List.set_cons_succ, List.set_cons_zero, Nat.reduceAdd, Nat.zero_add] at hw ⊢
            obtain ⟨h0, h1, h2, h3, h4, h5, h6, h7, h8, h9, h10, h11, h12, h13, h14, h15, h16, h17, h18, h19, h20, h21, h22, h23, h24, h25, h26, h27, h28, _⟩ := hw
            clear h0 h1 h2 h3 h4 h5 h6 h7 h8 h9 h10 h11 h12 h13 h14 h15 h16 h17 h18 h19 h20 h21 h22 h23 h24 h25 h26 h27
            gi_wp2
            go_ret
            exact ⟨by first | rfl | simp [h28], HBr.out.trans (hG.mono HBr.out.size)⟩
        · have e1 : (pairsErr ps != 0) = true := by simpa using hok
          simp only [tR, tB, tC, if_neg hok] at c0 c1 ⊢
          generalize pairsErr ps = er at hok e1 ⊢
          gi_wp2_with (refine ⟨trivial, rfl, ?_⟩; gi_at_call 10; refine (callsIn_wide.2 (known_any _)).mono ?_; rintro e w' ⟨rfl, hb'⟩)
          go_ret
          exact ⟨rfl, HBr.out.trans (hb'.mono HBr.out.size)⟩
end Go.Proofs.Ythiifonejoejpaa
