/- Arbors: an iterator over pairs. -/
import Derived.Test.YthiifonejoejpaaTrC
import Derived.Test.YthiifonejoejpaaEach
namespace Go.Proofs.Ythiifonejoejpaa
open Go.RowKit Go.Shelf
attribute [local go_sem] Oper.semAt_some

/-- How often the arbor behind the first k pairs turns. -/
def arbK (ps : List (Int × Int)) (k : Nat) : Int × Int := (ps.take k).foldl (fun r p => lowR (r.1 * p.1) (r.2 * p.2)) (1, 1)
theorem arbK_succ (ps : List (Int × Int)) (k : Nat) (h : k < ps.length) : arbK ps (k + 1) = lowR ((arbK ps k).1 * ps[k].1) ((arbK ps k).2 * ps[k].2) := by
  unfold arbK; rw [List.take_succ_eq_append_getElem h, List.foldl_append]; rfl
def arbs (ps : List (Int × Int)) : List (Int × Int) := (List.range (ps.length + 1)).map (arbK ps)
/-- Valid pairs. -/
def OkPairs (ps : List (Int × Int)) : Prop := ps.length ≤ 6 ∧ ∀ p, p ∈ ps → (6 ≤ p.1 ∧ p.1 ≤ 400) ∧ (6 ≤ p.2 ∧ p.2 ≤ 400)

theorem lowR_bd (a b c d : Int) (ha : 1 ≤ a) (hb : 1 ≤ b) (hc : a ≤ c) (hd : b ≤ d) : (1 ≤ (lowR a b).1 ∧ (lowR a b).1 ≤ c) ∧ (1 ≤ (lowR a b).2 ∧ (lowR a b).2 ≤ d) := by
  have hg := gcd_pos_of a b hb
  have h1 : (Int.gcd a b : Int) ∣ a := Int.gcd_dvd_left ..
  have h2 : (Int.gcd a b : Int) ∣ b := Int.gcd_dvd_right ..
  refine ⟨⟨?_, ?_⟩, ?_, ?_⟩
  · exact (Int.le_ediv_iff_mul_le (by omega)).2 (by have := gcd_le_of a b ha; omega)
  · exact Int.le_trans (Int.ediv_le_self _ (by omega)) hc
  · exact (Int.le_ediv_iff_mul_le (by omega)).2 (by have := gcd_le_of' a b hb; omega)
  · exact Int.le_trans (Int.ediv_le_self _ (by omega)) hd

theorem arbK_bd (ps : List (Int × Int)) (h : OkPairs ps) : ∀ k, k ≤ ps.length → (1 ≤ (arbK ps k).1 ∧ (arbK ps k).1 ≤ 400 ^ k) ∧ (1 ≤ (arbK ps k).2 ∧ (arbK ps k).2 ≤ 400 ^ k) := by
  intro k
  induction k with
  | zero => intro _; simp [arbK]
  | succ k ih =>
    intro hk
    obtain ⟨⟨a1, a2⟩, b1, b2⟩ := ih (by omega)
    obtain ⟨⟨p1, p2⟩, q1, q2⟩ := h.2 ps[k] (List.getElem_mem (by omega))
    rw [arbK_succ ps k (by omega)]
    have h1 := Int.mul_le_mul a1 (show 1 ≤ ps[k].1 by omega) (by omega) (by omega)
    have h2 := Int.mul_le_mul b1 (show 1 ≤ ps[k].2 by omega) (by omega) (by omega)
    have h3 := Int.mul_le_mul a2 p2 (by omega) (Int.pow_nonneg (by omega))
    have h4 := Int.mul_le_mul b2 q2 (by omega) (Int.pow_nonneg (by omega))
    exact lowR_bd _ _ _ _ (by omega) (by omega) (by rw [Int.pow_succ]; exact h3) (by rw [Int.pow_succ]; exact h4)

theorem pow400 (k : Nat) (hk : k ≤ 6) : (400 : Int) ^ k ≤ 4096000000000000 := by
  match k, hk with
  | 0, _ | 1, _ | 2, _ | 3, _ | 4, _ | 5, _ | 6, _ => decide

theorem range_prefix {α : Type} (f : Nat → α) (n k : Nat) (h : k ≤ n) : (List.range k).map f <+: (List.range n).map f := by
  have : (List.range k).map f = ((List.range n).map f).take k := by
    rw [← List.map_take, List.take_range, Nat.min_eq_left h]
  rw [this]
  exact List.take_prefix _ _
theorem range_snoc {α : Type} (f : Nat → α) (k : Nat) : (List.range k).map f ++ [f k] = (List.range (k + 1)).map f := by
  rw [List.range_succ, List.map_append]; rfl

/-- v is a slice of two integers. -/
def Two (A : World) (v : Value) (x y : Int) : Prop := ∃ b, v = .slice (some ⟨b, 0, none⟩) 2 2 ∧ A.cell? ⟨b, 0, none⟩ = some (.int .i64 x) ∧ A.cell? ⟨b, 1, none⟩ = some (.int .i64 y)
theorem Two.grow {A B : World} {v : Value} {x y : Int} (h : Two A v x y) (k : Grow A B) : Two B v x y := let ⟨b, e, h0, h1⟩ := h; ⟨b, e, k.cell h0, k.cell h1⟩
/-- The product of two new integers. -/
theorem product2 (x y : Int) {b : Nat} {w : World} (h0 : w.cell? ⟨b, 0, none⟩ = some (.int .i64 x)) (h1 : w.cell? ⟨b, 1, none⟩ = some (.int .i64 y)) (hx : 1 ≤ x) (hy : 1 ≤ y) (hxy : x * y ≤ 9223372036854775807) :
    Calls Try.prog 67 #[.slice (some ⟨b, 0, none⟩) 2 2] w fun e w' => e = .returned (.int .i64 (x * y)) ∧ w = w' := by
  have hI : Ints (fun _ => True) w (.slice (some ⟨b, 0, none⟩) 2 2) [x, y] := ⟨_, _, rfl, Nat.le_refl _, by simp, by simp, fun k hk => ⟨b, 0, rfl, trivial, by
    match k, hk with
    | 0, _ => simpa using h0
    | 1, _ => simpa using h1⟩⟩
  refine (product_any _ _ [x, y] w hI (by simp; omega) (by simpa [prodI] using hxy)).mono ?_
  rintro e w' ⟨rfl, rfl⟩
  simp [prodI]

set_option maxHeartbeats 400000 in
theorem arbors_iter (B : Nat) (Z M : Nat → Prop) (v : Value) (ps : List (Int × Int)) (l : Nat) (W : World) (hB : W.cell? ⟨B, 0, none⟩ = some v) (hps : Pairs Z W v ps) (hok : OkPairs ps)
    (hMB : ¬ M B) (hMZ : ∀ k, M k → ¬ Z k) (hML : ∀ k, M k → k < W.heap.size) :
    Iter Try.prog true 65 #[.pointer (some ⟨B, 0, none⟩)] (fun r => #[encR r]) (fun _ _ => True) M (fun xs => xs = arbs ps) (fun pre => pre <+: arbs ps) l W := by
  intro J Jx hJ hJx hY h0
  refine (callsIn_wide (n := 0)).1 (callsIn_of_wp Try.func65 rfl trivial ?_ rfl)
  simp only [Try.ntmps65, List.size_toArray, List.length_cons, List.length_nil, Nat.reduceAdd, Nat.reduceSub, Array.replicate_succ, Array.replicate_zero, List.push_toArray, List.append_toArray, List.nil_append, List.cons_append]
  have h1 : [] ++ [((1 : Int), (1 : Int))] <+: arbs ps := by
    have := range_prefix (arbK ps) (ps.length + 1) 1 (by omega)
    simpa [arbs, arbK] using this
  obtain ⟨A, cap, rfl, _, _, hA⟩ := hps
  have hlen := hA.1
  gi_wp2
  refine yield_step (hY [] (1, 1) (fun _ => False) _ (hJ.grow (Nat.le_refl _) h0 ?_) (fun _ h => h.elim) ?_ trivial h1) ?_ ?_
  · exact (Below.refl _ _).alloc (Nat.le_refl _) _
  · exact Kept.grow ((Below.refl _ _).alloc (Nat.le_refl _) _)
  · intro G1 W1 ha1 hk1 hj1
    have hG1 : ∀ k, G1 k → W.heap.size < k ∧ k < W1.heap.size := fun k h => by
      have := ha1 k h
      simp only [false_or, World.size_alloc] at this
      omega
    replace hk1 := hk1.mono (M' := M) (fun k _ h => h.elim id (fun h => h.elim))
    have HG1 := Lib.hid hG1
    clear hG1 ha1
    have hR : ¬ M W.heap.size := fun h => by have := hML _ h; omega
    have hbx := (Bx.new W 26 #[.int .i64 1, .int .i64 1]).kept hk1 hR
    have hk2 : Kept M W W1 := (Kept.grow ((Below.refl _ _).alloc (Nat.le_refl _) _)).trans hk1
    have hB1 := hk2.cell hB hMB
    have hA1 := hA.kept hk2 hMZ
    have hA0 := hA
    clear hk1 hB hA h1
    gi_wp2
    gi_loopw [13] (fun i wr => ∃ k : Nat, k ≤ ps.length ∧ i = .int .i64 k ∧ (∃ G, J ((List.range (k + 1)).map (arbK ps)) G wr ∧ Hid (∀ j, G j → W.heap.size < j ∧ j < wr.heap.size)) ∧ Kept M W wr ∧ PairsA Z wr A ps ∧ Bx wr W.heap.size 26 #[.int .i64 (arbK ps k).1, .int .i64 (arbK ps k).2])
      (fun i _ => ps.length - (intOf i).toNat)
    case atStart => exact ⟨0, Nat.zero_le _, rfl, ⟨G1, hj1, HG1⟩, hk2, hA1, hbx⟩
    case round =>
      clear hj1 hk2 hB1 hA1 hbx
      obtain ⟨k, hk, rfl, ⟨G, hj1, hGG⟩, hk2, hA1, hbx⟩ := hrel
      by_cases hlt : k < ps.length
      · have hlt' : (k : Int) < (ps.length : Int) := by omega
        obtain ⟨b, off, rfl, hc, hd⟩ := hA1.at_ hlt
        have hr0 := hbx.cell 0
        have hr1 := hbx.cell 1
        have hf0 := hbx.frozen 0
        have hf1 := hbx.frozen 1
        simp only [List.getElem?_toArray, List.getElem?_cons_zero, List.getElem?_cons_succ] at hr0 hr1
        have hlt2 := hbx.lt
        have ho := hok.2 ps[k] (List.getElem_mem hlt)
        have hbd := arbK_bd ps hok k hk
        have hpw := pow400 k (by have := hok.1; omega)
        have hnext := arbK_succ ps k hlt
        have hm1 := Int.mul_le_mul (Int.le_trans hbd.1.2 hpw) ho.1.2 (by omega) (by omega)
        have hm2 := Int.mul_le_mul (Int.le_trans hbd.2.2 hpw) ho.2.2 (by omega) (by omega)
        have hm3 := Int.mul_le_mul hbd.1.1 (show 1 ≤ ps[k].1 by omega) (by omega) (by omega)
        have hm4 := Int.mul_le_mul hbd.2.1 (show 1 ≤ ps[k].2 by omega) (by omega) (by omega)
        have HN := Lib.hid hnext
        clear hnext
        generalize ps[k] = p at hc hd ho hm1 hm2 hm3 hm4 HN
        generalize arbK ps k = r at hbd hbx hr0 hr1 hm1 hm2 hm3 hm4 HN
        obtain ⟨p1, p2⟩ := p
        obtain ⟨r1, r2⟩ := r
        simp only at hc hd ho hm1 hm2 hm3 hm4 HN hbd hr0 hr1 hbx
        have Hbx := Lib.hid hbx
        clear hbx
        have e1 : 1 ≤ r1 := hbd.1.1
        have e2 : 1 ≤ r2 := hbd.2.1
        have e3 : 1 ≤ p1 := by omega
        have e4 : 1 ≤ p2 := by omega
        have e5 : r1 * p1 ≤ 9223372036854775807 := by omega
        have e6 : r2 * p2 ≤ 9223372036854775807 := by omega
        have e7 : 1 ≤ r1 * p1 := by omega
        have e8 : 1 ≤ r2 * p2 := by omega
        clear hm1 hm2 hm3 hm4
        have hlow := fun W => lowest_any (r1 * p1) (r2 * p2) W e7 e8 e5 e6
        generalize lowR (r1 * p1) (r2 * p2) = s at hlow HN
        obtain ⟨s1, s2⟩ := s
        simp only [encR] at hlow
        have HL := Lib.hid hlow
        clear hlow
        gi_wp2
        refine region_steps 14 Grow (fun i v A => match i with
          | 0 => v = .pointer (some ⟨W.heap.size, 0, none⟩) | 1 => v = .int .i64 r1 | 2 => v = .pointer (some ⟨wr.heap.size, 0, none⟩) | 3 => v = .int .i64 p1 | 4 => Two A v r1 p1 | 5 => v = .int .i64 (r1 * p1)
          | 6 => v = .pointer (some ⟨W.heap.size, 1, none⟩) | 7 => v = .int .i64 r2 | 8 => v = .pointer (some ⟨wr.heap.size, 1, none⟩) | 9 => v = .int .i64 p2 | 10 => Two A v r2 p2 | 11 => v = .int .i64 (r2 * p2)
          | 12 => v = .agg #[.int .i64 (r1 * p1), .int .i64 (r2 * p2)] | 13 => v = .agg #[.int .i64 s1, .int .i64 s2] | _ => True) (by kernel_rfl) (by kernel_rfl) Grow.refl (fun h k => h.trans k)
          (by intro i v A B h; split <;> intro hv <;> first | exact hv | exact hv.grow h) ?_ ?_
        · intro us A hA
          have hG : Grow wr A := ((Grow.refl _).alloc _).drew.trans hA
          have a0 := hG.cell hr0
          have a1 := hG.cell hr1
          have a2 : A.cell? ⟨wr.heap.size, 0, none⟩ = some (.int .i64 p1) := hA.cell (by simp [go_sem])
          have a3 : A.cell? ⟨wr.heap.size, 1, none⟩ = some (.int .i64 p2) := hA.cell (by simp [go_sem])
          clear hr0 hr1 hc hd hf0 hf1 hG hA
          simp only [List.take, fillS, Act.put, Steps1, deps, Waits, List.filter, Region.binds, List.map, List.setIfInBounds_toArray, List.set_cons_succ, List.set_cons_zero, Nat.reduceAdd, Nat.zero_add]
          refine ⟨fun hw => ?_, fun hw => ?_, fun hw => ?_, fun hw => ?_, fun hw => ?_, fun hw => ?_, fun hw => ?_, fun hw => ?_, fun hw => ?_, fun hw => ?_, fun hw => ?_, fun hw => ?_, fun hw => ?_, fun hw => ?_, trivial⟩
          · gi_wp2
            exact ⟨rfl, Grow.refl _, rfl⟩
          · obtain ⟨h0, _⟩ := hw
            gi_wp2
            exact ⟨rfl, Grow.refl _, rfl⟩
          · gi_wp2
            exact ⟨rfl, Grow.refl _, rfl⟩
          · obtain ⟨h0, _⟩ := hw
            gi_wp2
            exact ⟨rfl, Grow.refl _, rfl⟩
          · obtain ⟨h0, h1, _⟩ := hw
            gi_wp2
            exact ⟨rfl, (Grow.refl _).alloc _, _, rfl, by simp [go_sem], by simp [go_sem]⟩
          · obtain ⟨⟨bb, h0, h1, h2⟩, _⟩ := hw
            gi_wp2_with (refine ⟨trivial, rfl, ?_⟩; gi_at_call 67; refine (callsIn_wide.2 (product2 r1 p1 h1 h2 e1 e3 e5)).mono ?_; rintro e w' ⟨rfl, rfl⟩)
            exact ⟨rfl, Grow.refl _, rfl⟩
          · gi_wp2
            exact ⟨rfl, Grow.refl _, rfl⟩
          · obtain ⟨h0, _⟩ := hw
            gi_wp2
            exact ⟨rfl, Grow.refl _, rfl⟩
          · gi_wp2
            exact ⟨rfl, Grow.refl _, rfl⟩
          · obtain ⟨h0, _⟩ := hw
            gi_wp2
            exact ⟨rfl, Grow.refl _, rfl⟩
          · obtain ⟨h0, h1, _⟩ := hw
            gi_wp2
            exact ⟨rfl, (Grow.refl _).alloc _, _, rfl, by simp [go_sem], by simp [go_sem]⟩
          · obtain ⟨⟨bb, h0, h1, h2⟩, _⟩ := hw
            gi_wp2_with (refine ⟨trivial, rfl, ?_⟩; gi_at_call 67; refine (callsIn_wide.2 (product2 r2 p2 h1 h2 e2 e4 e6)).mono ?_; rintro e w' ⟨rfl, rfl⟩)
            exact ⟨rfl, Grow.refl _, rfl⟩
          · obtain ⟨h0, h1, _⟩ := hw
            gi_wp2
            exact ⟨rfl, Grow.refl _, rfl⟩
          · obtain ⟨h0, _⟩ := hw
            gi_wp2_with (refine ⟨trivial, rfl, ?_⟩; gi_at_call 66; refine (callsIn_wide.2 (HL.out _)).mono ?_; rintro e w' ⟨rfl, hb'⟩)
            exact ⟨rfl, hb', rfl⟩
        · intro us A hA hw
          have hG : Grow wr A := ((Grow.refl _).alloc _).drew.trans hA
          have hbA := Bx.grow Hbx.out hG
          have a0 := hG.cell hr0
          have a1 := hG.cell hr1
          have a2 := hbA.frozen 0
          have a3 := hbA.frozen 1
          have hkA : Kept M W A := hk2.trans (Kept.grow hG)
          have hs0 := hk2.size
          have hjA := hJ _ G _ ((A.setCell ⟨W.heap.size, 0, none⟩ (.int .i64 s1)).setCell ⟨W.heap.size, 1, none⟩ (.int .i64 s2)) hs0 (((Below.mono hG hs0).setCell (Nat.le_refl _) _).setCell (Nat.le_refl _) _) hj1
          have hpA := PairsA.grow hA1 hG
          have hsA := ((hbA.set 0 (.int .i64 s1)).set 1 (.int .i64 s2))
          have hkS : Kept M W ((A.setCell ⟨W.heap.size, 0, none⟩ (.int .i64 s1)).setCell ⟨W.heap.size, 1, none⟩ (.int .i64 s2)) := by
            have hb := ((Below.refl W.heap.size A).setCell (p := ⟨W.heap.size, 0, none⟩) (Nat.le_refl _) (.int .i64 s1)).setCell (p := ⟨W.heap.size, 1, none⟩) (Nat.le_refl _) (.int .i64 s2)
            exact hkA.far hb
          have hpS : PairsA Z ((A.setCell ⟨W.heap.size, 0, none⟩ (.int .i64 s1)).setCell ⟨W.heap.size, 1, none⟩ (.int .i64 s2)) (some ⟨b, off, none⟩) ps := hA0.kept hkS hMZ
          simp at hsA
          have hpre : (List.range (k + 1)).map (arbK ps) ++ [(s1, s2)] = (List.range (k + 1 + 1)).map (arbK ps) := by rw [← HN.out]; exact range_snoc _ _
          have hpx : (List.range (k + 1)).map (arbK ps) ++ [(s1, s2)] <+: arbs ps := by rw [hpre]; exact range_prefix _ _ _ (by omega)
          have HP := Lib.hid hpre
          clear hr0 hr1 hc hd hf0 hf1 hA hbA hj1 hA1 hpA hpre
          simp only [List.take, List.drop, fillS, Act.put, Facts, List.setIfInBounds_toArray, List.set_cons_succ, List.set_cons_zero, Nat.reduceAdd, Nat.zero_add] at hw ⊢
          obtain ⟨h0, h1, h2, h3, h4, h5, h6, h7, h8, h9, h10, h11, h12, h13, _⟩ := hw
          clear h4 h10
          gi_wp2
          refine yield_step (hY _ (s1, s2) G _ hjA (fun j h => by have := hGG.out j h; omega) hkS trivial hpx) ?_ ?_
          · intro G2 W2 ha2 hk3 hj2
            rw [HP.out] at hj2
            have hbx2 := Bx.kept hsA hk3 (fun h => h.elim hR (fun h => by have := hGG.out _ h; omega))
            have hkt := hkS.more hk3 (fun j h => by have := hGG.out j h; omega)
            have hpt := hA0.kept hkt hMZ
            have hlA := hsA.lt
            have HG2 := Lib.hid (show ∀ j, G2 j → W.heap.size < j ∧ j < W2.heap.size from fun j h => by
              obtain ⟨h1 | h1, h2⟩ := ha2 j h
              · have := hGG.out j h1; omega
              · omega)
            clear hsA hkS hpS hjA hk3 ha2 hlA
            gi_wp2
            go_roundw
            case rel => exact ⟨k + 1, by omega, by go_num, ⟨G2, hj2, HG2⟩, hkt, hpt, by rw [HN.out]; exact hbx2⟩
            case measure => simp [intOf]; omega
          · intro G2 W2 ha2 hk3 hj2
            have hkt := hkS.more hk3 (fun j h => by have := hGG.out j h; omega)
            have hlA := hsA.lt
            have HG2 := Lib.hid (show ∀ j, G2 j → W.heap.size ≤ j from fun j h => by
              obtain ⟨h1 | h1, h2⟩ := ha2 j h
              · have := hGG.out j h1; omega
              · omega)
            clear hsA hkS hpS hjA hk3 ha2 hlA
            gi_wp2
            refine bodyPost_ret (results_none rfl _ _ _) rfl ?_
            exact ⟨⟨_, rfl⟩, hkt, IterEnd.part hpx HG2.out hj2⟩
      · have hlt' : ¬ (k : Int) < (ps.length : Int) := by omega
        have : k = ps.length := by omega
        subst this
        gi_wp2
        go_end0
        exact ⟨⟨_, rfl⟩, hk2, IterEnd.all rfl (fun j h => by have := hGG.out j h; omega) hj1⟩
  · intro G1 W1 ha1 hk1 hj1
    replace hk1 := hk1.mono (M' := M) (fun k _ h => h.elim id (fun h => h.elim))
    have HG1 := Lib.hid (show ∀ k, G1 k → W.heap.size ≤ k from fun k h => by
      have := ha1 k h
      simp only [false_or, World.size_alloc] at this
      omega)
    clear ha1
    gi_wp2
    refine bodyPost_ret (results_none rfl _ _ _) rfl ?_
    exact ⟨⟨_, rfl⟩, (Kept.grow ((Below.refl _ _).alloc (Nat.le_refl _) _)).trans hk1, IterEnd.part h1 HG1.out hj1⟩

end Go.Proofs.Ythiifonejoejpaa
