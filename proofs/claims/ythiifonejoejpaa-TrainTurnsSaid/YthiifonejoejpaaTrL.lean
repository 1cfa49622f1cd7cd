/- The reference's Pairs, Turns, Cycle. -/
import Derived.Test.YthiifonejoejpaaTrE
namespace Go.Proofs.Ythiifonejoejpaa
open Go.RowKit Go.Shelf
attribute [local go_sem] Oper.semAt_some

theorem any_take_false {α : Type} (p : α → Bool) (xs : List α) (k : Nat) (h : k < xs.length) (h1 : (xs.take k).any p = false) (h2 : p xs[k] = false) : (xs.take (k + 1)).any p = false := by
  rw [any_take_succ p xs k h, h1, h2]; rfl
theorem any_of_take {α : Type} (p : α → Bool) (xs : List α) (k : Nat) (h : k < xs.length) (h2 : p xs[k] = true) : xs.any p = true := List.any_eq_true.2 ⟨_, List.getElem_mem h, h2⟩
theorem PairsA.at2 {Z : Nat → Prop} {w : World} {A : Option Addr} {ps : List (Int × Int)} (h : PairsA Z w A ps) {k : Nat} (hk : k < ps.length) : ∃ b off, A = some ⟨b, off, none⟩ ∧ w.cell? ⟨b, off + k * 2, none⟩ = some (.int .i64 ps[k].1) ∧ w.cell? ⟨b, off + k * 2 + 1, none⟩ = some (.int .i64 ps[k].2) := by
  obtain ⟨b, off, h1, _, h2, h3⟩ := h.2 k hk
  rw [List.getD_eq_getElem?_getD, List.getElem?_eq_getElem hk] at h2 h3
  exact ⟨b, off, h1, h2, h3⟩

set_option maxHeartbeats 1000000 in
theorem refPairs_any (Z : Nat → Prop) (v : Value) (ps : List (Int × Int)) (w : World) (hI : Pairs Z w v ps) :
    Calls Try.prog 14 #[v] w fun e w' => e = .returned (.int .i64 (pairsErr ps)) ∧ w = w' := by
  obtain ⟨A, cap, rfl, _, _, hA⟩ := hI
  have hlen := hA.1
  by_cases h6 : 6 < ps.length
  · have h6' : (6 : Int) < (ps.length : Int) := by omega
    go_enter Try.func14, Try.ntmps14
    go_wp2
    go_ret
    exact ⟨ret_int (by simp [pairsErr, h6]), rfl⟩
  · have h6' : ¬ (6 : Int) < (ps.length : Int) := by omega
    have HE : Hid (pairsErr ps = if ps.any (fun p => [p.1, p.2].any badT) then 2 else 0) := by simp only [Hid, pairsErr, if_neg h6]
    go_enter Try.func14, Try.ntmps14
    go_wp2
    go_loop [3] (fun i => ∃ k : Nat, k ≤ ps.length ∧ i = .int .i64 k ∧ Hid ((ps.take k).any (fun p => [p.1, p.2].any badT) = false)) (fun i => ps.length - (intOf i).toNat)
    case atStart => exact ⟨0, Nat.zero_le _, rfl, by simp [Hid]⟩
    case round =>
      obtain ⟨k, hk, rfl, hno⟩ := hrel
      by_cases hlt : k < ps.length
      · have hlt' : (k : Int) < (ps.length : Int) := by omega
        obtain ⟨b, off, rfl, hc1, hc2⟩ := hA.at2 hlt
        have HX : Hid (ps[k] = ps[k]) := rfl
        have hb1 := fun (h : [ps[k].1, ps[k].2].any badT = true) => any_of_take (fun p : Int × Int => [p.1, p.2].any badT) ps k hlt h
        have hb2 := fun (h : [ps[k].1, ps[k].2].any badT = false) => any_take_false (fun p : Int × Int => [p.1, p.2].any badT) ps k hlt hno.out h
        have HB1 := Lib.hid hb1
        have HB2 := Lib.hid hb2
        clear hb1 hb2 hno HX
        generalize ps[k] = x at hc1 hc2 HB1 HB2
        obtain ⟨x1, x2⟩ := x
        simp only at hc1 hc2
        have ht1 := fun W => refTeeth_any x1 W
        have ht2 := fun W => refTeeth_any x2 W
        cases e1 : badT x1 with
        | true =>
          rw [e1] at ht1
          go_wp2_with (go_at_call 43; refine (ht1 _).mono ?_; rintro e w' ⟨rfl, rfl⟩)
          go_ret
          exact ⟨ret_int (by rw [HE.out, HB1.out (by simp [e1])]; rfl), rfl⟩
        | false =>
          rw [e1] at ht1
          cases e2 : badT x2 with
          | true =>
            rw [e2] at ht2
            go_wp2_with (go_at_call 43; refine Calls.mono (by first | with_reducible exact ht1 _ | with_reducible exact ht2 _) ?_; rintro e w' ⟨rfl, rfl⟩)
            go_ret
            exact ⟨ret_int (by rw [HE.out, HB1.out (by simp [e2])]; rfl), rfl⟩
          | false =>
            rw [e2] at ht2
            go_wp2_with (go_at_call 43; refine Calls.mono (by first | with_reducible exact ht1 _ | with_reducible exact ht2 _) ?_; rintro e w' ⟨rfl, rfl⟩)
            go_round
            case rel => exact ⟨k + 1, by omega, by go_num, HB2.out (by simp [e1, e2])⟩
            case measure => simp [intOf]; omega
      · have hlt' : ¬ (k : Int) < (ps.length : Int) := by omega
        go_wp2
        go_ret
        have : k = ps.length := by omega
        subst this
        have hno' := hno.out
        rw [List.take_length] at hno'
        exact ⟨ret_int (by rw [HE.out, hno']; rfl), rfl⟩
end Go.Proofs.Ythiifonejoejpaa
