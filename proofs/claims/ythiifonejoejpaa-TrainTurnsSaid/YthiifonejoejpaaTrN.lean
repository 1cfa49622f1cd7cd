/- The reference's Cycle. -/
import Derived.Test.YthiifonejoejpaaTrM
namespace Go.Proofs.Ythiifonejoejpaa
open Go.RowKit Go.Shelf
attribute [local go_sem] Oper.semAt_some

theorem PairsA.take {Z : Nat → Prop} {w : World} {A : Option Addr} {ps : List (Int × Int)} (h : PairsA Z w A ps) (k : Nat) : PairsA Z w A (ps.take k) := by
  refine ⟨Nat.le_trans (by rw [List.length_take]; omega) h.1, fun j hj => ?_⟩
  rw [List.length_take] at hj
  obtain ⟨b, off, h1, h2, h3, h4⟩ := h.2 j (by omega)
  have e : (ps.take k).getD j (0, 0) = ps.getD j (0, 0) := by
    rw [List.getD_eq_getElem?_getD, List.getD_eq_getElem?_getD, List.getElem?_take, if_pos (by omega)]
  exact ⟨b, off, h1, h2, by rw [e]; exact h3, by rw [e]; exact h4⟩
theorem arbK_take (ps : List (Int × Int)) (k : Nat) : arbK (ps.take k) (ps.take k).length = arbK ps k := by
  unfold arbK; rw [List.take_length]
theorem OkPairs.take {ps : List (Int × Int)} (h : OkPairs ps) (k : Nat) : OkPairs (ps.take k) := ⟨Nat.le_trans (by rw [List.length_take]; omega) h.1, fun p hp => h.2 p (List.mem_of_mem_take hp)⟩
theorem quiet_gcd (a b : Int) (w : World) (n : Nat) (ha : 0 ≤ a) (hb : 0 ≤ b) (ha2 : a ≤ 9223372036854775807) (hb2 : b ≤ 9223372036854775807) :
    Calls Try.prog 44 #[.int .i64 a, .int .i64 b] (w.drewN n) fun e w' => e = .returned (.int .i64 (Int.gcd a b)) ∧ ∃ m, w' = w.drewN m :=
  (refGcd_any a b (w.drewN n) ha hb ha2 hb2).mono fun _ _ ⟨h, n', h'⟩ => ⟨h, _, h'.trans (World.drewN_drewN _ _ _)⟩

set_option maxHeartbeats 1000000 in
theorem refCycle_any (Z : Nat → Prop) (v : Value) (ps : List (Int × Int)) (W : World) (hps : Pairs Z W v ps) (hok : OkPairs ps) :
    Calls Try.prog 16 #[v] W fun e w' => e = .returned (.int .i64 (cycL (arbs ps))) ∧ Below W.heap.size W w' := by
  obtain ⟨A, cap, rfl, hcap, _, hA⟩ := hps
  have hlen := hA.1
  have hT : ∀ k W' b off, A = some ⟨b, off, none⟩ → k ≤ ps.length → Below W.heap.size W W' → Calls Try.prog 15 #[.slice (some ⟨b, off, none⟩) k cap] W' fun e w' => e = .returned (.agg #[.int .i64 (arbK ps k).1, .int .i64 (arbK ps k).2]) ∧ Below W'.heap.size W' w' := fun k W' b off he hk hb => by
    have h1 := refTurns_any Z (.slice (some ⟨b, off, none⟩) k cap) (ps.take k) W' ⟨some ⟨b, off, none⟩, cap, by rw [List.length_take, Nat.min_eq_left hk], by rw [List.length_take]; omega, fun h => (by cases h), by rw [← he]; exact (hA.grow hb).take k⟩ (hok.take k)
    rw [arbK_take] at h1
    exact h1
  have HT := Lib.hid hT
  have hAt : ∀ k, k ≤ ps.length → 1 ≤ k → ∃ b off, A = some ⟨b, off, none⟩ := fun k h1 h2 => by
    obtain ⟨b, off, h, _⟩ := hA.2 0 (by omega)
    exact ⟨b, off, h⟩
  have HA := Lib.hid hAt
  have HO := Lib.hid hok
  clear hT hAt hA hok
  go_enter Try.func16, Try.ntmps16
  go_wp2
  go_loopw [3, 4] (fun n i wr => ∃ k : Nat, 1 ≤ k ∧ k ≤ ps.length + 1 ∧ i = .int .i64 k ∧ n = .int .i64 (cycL ((List.range k).map (arbK ps))) ∧ Hid (Below W.heap.size W wr)) (fun _ i _ => ps.length + 1 - (intOf i).toNat)
  case atStart => exact ⟨1, Nat.le_refl _, by omega, rfl, by simp [cycL, arbK], Below.refl _ _⟩
  case round =>
    obtain ⟨k, hk1, hk, rfl, rfl, hbel⟩ := hrel
    by_cases hlt : k ≤ ps.length
    · have hlt' : (k : Int) ≤ (ps.length : Int) := by omega
      obtain ⟨b, off, rfl⟩ := HA.out k hlt hk1
      have hok := HO.out
      have hbd := arbK_bd ps hok k hlt
      have hpw := pow400 k (by have := hok.1; omega)
      have hpb := pins_bd ps hok
      have hmem : ∀ r, r ∈ (List.range k).map (arbK ps) ++ [arbK ps k] → r ∈ arbs ps := fun r h => by rw [range_snoc] at h; exact (range_prefix (arbK ps) (ps.length + 1) (k + 1) (by omega)).subset h
      obtain ⟨g1, g2⟩ := cycL_bd ps hok _ hmem
      obtain ⟨g3, g4⟩ := cycL_bd ps hok ((List.range k).map (arbK ps)) fun r h => hmem r (by simp at h ⊢; exact .inl h)
      have g5 := Int.le_of_dvd (by omega) g2
      have g6 := Int.le_of_dvd (by omega) g4
      have hnext : cycL ((List.range (k + 1)).map (arbK ps)) = (Int.lcm (cycL ((List.range k).map (arbK ps))) (arbK ps k).2 : Int) := by rw [← range_snoc, cycL_snoc]
      rw [range_snoc, hnext] at g5 g1
      rw [← lcm_right _ _ g3 hbd.2.1] at hnext g5 g1
      have hTk := fun W' h => HT.out k W' b off rfl hlt h
      have HN := Lib.hid hnext
      replace g5 := Int.le_trans g5 hpb.2
      replace g6 := Int.le_trans g6 hpb.2
      clear g2 g4 hmem hnext hpb HA HT
      generalize cycL ((List.range k).map (arbK ps)) = c at g1 g3 g5 g6 HN
      generalize arbK ps k = r at hbd hTk g1 g5 HN
      obtain ⟨r1, r2⟩ := r
      simp only at hbd hTk g1 g5 HN
      have hgp := gcd_pos_of c r2 hbd.2.1
      have hq := fun w n => quiet_gcd c r2 w n (by omega) (by omega) (by omega) (by omega)
      have HTk := Lib.hid hTk
      clear hTk
      have hrd : 0 ≤ r2 / (Int.gcd c r2 : Int) := Int.ediv_nonneg (by omega) (by omega)
      have hrd2 : r2 / (Int.gcd c r2 : Int) ≤ r2 := Int.ediv_le_self _ (by omega)
      generalize Int.gcd c r2 = g at hgp hq g1 g5 HN hrd hrd2
      have hne : ¬ (g : Int) = 0 := by omega
      have hcap' : k ≤ cap := by omega
      go_wp2_with (go_at_call 15; refine (HTk.out _ hbel.out).mono ?_; rintro e w2 ⟨rfl, hb2⟩)
      have hr := Bx.new w2 26 #[.int .i64 r1, .int .i64 r2]
      have p1 := hr.cell 1
      simp only [List.getElem?_toArray, List.getElem?_cons_zero, List.getElem?_cons_succ] at p1
      have HB := Lib.hid (show Below W.heap.size W (w2.alloc (.cells #[.int .i64 r1, .int .i64 r2] 26)) from (hbel.out.trans (hb2.mono hbel.out.size)).alloc (Nat.le_trans hbel.out.size hb2.size) _)
      clear hr hb2 hbel hcap' hcap
      generalize w2.alloc (.cells #[.int .i64 r1, .int .i64 r2] 26) = w3 at p1 HB ⊢
      go_quiet ((go_at_call 44; with_reducible exact hq _ _))
      go_wp2
      go_roundw
      case rel => exact ⟨k + 1, by omega, by omega, by go_num, by rw [HN.out], below_drewN HB.out _⟩
      case measure => simp [intOf]; omega
    · have hlt' : ¬ (k : Int) ≤ (ps.length : Int) := by omega
      go_wp2
      go_ret
      have : k = ps.length + 1 := by omega
      subst this
      exact ⟨rfl, hbel.out⟩
end Go.Proofs.Ythiifonejoejpaa
