/- Turns and Cycle. -/
import Derived.Test.YthiifonejoejpaaTrD
namespace Go.Proofs.Ythiifonejoejpaa
open Go.RowKit Go.Shelf
attribute [local go_sem] Oper.semAt_some

set_option maxHeartbeats 400000 in
theorem arbors_any (v : Value) (hv : ∃ A n c, v = .slice A n c) (w : World) :
    Calls Try.prog 41 #[v] w fun e w' => e = .returned (.func (.func 65) #[] #[.pointer (some ⟨w.heap.size, 0, none⟩)]) ∧ w.alloc (.cells #[v] 22) = w' := by
  obtain ⟨A, n, c, rfl⟩ := hv
  have hmf : ∀ (fn : Fn) (first cap : Array Value) (w : World), (Instr.makeFunc fn first cap).run Try.prog w = .ok (.func fn first cap) w := fun _ _ _ _ => rfl
  go_enter Try.func41, Try.ntmps41
  go_wp2
  go_ret
  exact ⟨rfl, rfl⟩

theorem pairsErr_ok {ps : List (Int × Int)} (h : pairsErr ps = 0) : OkPairs ps := by
  unfold pairsErr at h
  split at h
  · cases h
  · split at h
    · cases h
    · rename_i h1 h2
      refine ⟨by omega, fun p hp => ?_⟩
      have h3 : [p.1, p.2].any badT = false := by
        cases hx : [p.1, p.2].any badT with
        | false => rfl
        | true => exact (h2 (List.any_eq_true.2 ⟨p, hp, hx⟩)).elim
      simp at h3
      exact ⟨badT_no h3.1, badT_no h3.2⟩

/-- What the last one is, if there is one. -/
def lastR (pre : List (Int × Int)) : Int × Int := pre.getLast?.getD (0, 0)
theorem lastR_snoc (pre : List (Int × Int)) (x : Int × Int) : lastR (pre ++ [x]) = x := by simp [lastR]
theorem lastR_arbs (ps : List (Int × Int)) : lastR (arbs ps) = arbK ps ps.length := by
  unfold arbs; rw [← range_snoc]; exact lastR_snoc _ _

set_option maxHeartbeats 1000000 in
theorem turns_any (Z : Nat → Prop) (v : Value) (ps : List (Int × Int)) (w : World) (hps : Pairs Z w v ps) (hZ : ∀ k, Z k → k < w.heap.size) (hok : pairsErr ps = 0) :
    Calls Try.prog 12 #[v] w fun e w' => e = .returned (.tuple #[encR (arbK ps ps.length), .bool (decide (ps.length % 2 = 1)), .int .i64 0]) ∧ Below w.heap.size w w' := by
  have hv : ∃ A n c, v = .slice A n c := by obtain ⟨A, cap, rfl, _⟩ := hps; exact ⟨_, _, _, rfl⟩
  have hcp := fun W h => checkPairs_any Z v ps W h
  rw [hok] at hcp
  have HC := Lib.hid hcp
  clear hcp
  have HO := Lib.hid hok
  clear hok
  obtain ⟨A, cap, rfl, hps1⟩ : ∃ A cap, v = .slice A ps.length cap ∧ Pairs Z w (.slice A ps.length cap) ps := by obtain ⟨A, cap, rfl, h⟩ := hps; exact ⟨A, cap, rfl, A, cap, rfl, h⟩
  refine (callsIn_wide (n := 0)).1 (callsIn_of_wp_marks Try.func12 rfl trivial ?_ rfl)
  simp only [Try.ntmps12, List.size_toArray, List.length_cons, List.length_nil, Nat.reduceAdd, Nat.reduceSub, Array.replicate_succ, Array.replicate_zero, List.push_toArray, List.append_toArray, List.nil_append, List.cons_append]
  gi_wp2_with (refine ⟨trivial, rfl, ?_⟩; gi_at_call 40; refine (callsIn_wide.2 (HC.out _ ?_)).mono ?_; (focus exact hps1.grow ((Below.refl _ _).alloc (Nat.le_refl _) _)); rintro e w1 ⟨rfl, hb1⟩)
  have hb1' : Below w.heap.size w w1 := ((Below.refl _ _).alloc (Nat.le_refl _) _).trans (hb1.mono (by simp))
  have hR := (Bx.new w 26 #[.int .i64 0, .int .i64 0]).grow hb1
  have hps2 := hps1.grow hb1'
  have hsz := hb1'.size
  have hR1 := hR.lt
  clear hb1
  gi_wp2_with (refine ⟨trivial, rfl, ?_⟩; gi_at_call 41; refine (callsIn_wide.2 (arbors_any _ ⟨_, _, _, rfl⟩ _)).mono ?_; rintro e w2 ⟨rfl, rfl⟩)
  have hB := Bx.new w1 22 #[.slice A ps.length cap]
  have hb2 : Below w.heap.size w (w1.alloc (.cells #[.slice A ps.length cap] 22)) := hb1'.alloc hsz _
  have hR2 := hR.alloc (.cells #[.slice A ps.length cap] 22)
  have hps3 := hps1.grow hb2
  have hsz2 : (w1.alloc (.cells #[.slice A ps.length cap] 22)).heap.size = w1.heap.size + 1 := by simp
  have HS := Lib.hid hsz2
  clear hsz2 hR hps2 hb1'
  generalize w1.alloc (.cells #[.slice A ps.length cap] 22) = w2 at hB hb2 hR2 hps3 HS ⊢
  refine range_law (gf := 65) (lb := #[.pointer (some ⟨w1.heap.size, 0, none⟩)]) rfl (enters_of Try.func65 (by kernel_rfl) rfl) (far := true) (encs := fun r => #[encR r]) (ok := fun _ _ => True)
    (M := fun b => b = w.heap.size) (S := fun xs => xs = arbs ps) (Sp := fun pre => pre <+: arbs ps) (by intro b hb; have := HS.out; omega) ?hit (fun _ => rfl)
    (fun pre _ W => Bx W w.heap.size 26 #[.int .i64 (lastR pre).1, .int .i64 (lastR pre).2]) (fun _ _ _ _ => False) (fun s G A A' h k => k.still h) (fun _ _ _ _ _ _ h => h)
    (fun _ => ⟨fun s G A A' h k => k.below h (by have := HS.out; omega), fun _ _ _ _ _ _ h => h⟩) hR2 ?round ?done ?stop
  case hit =>
    intro W l hb hl hlt
    have hso := HS.out
    refine arbors_iter w1.heap.size Z _ (.slice A ps.length cap) ps l W ?_ (hps3.grow hb) (pairsErr_ok HO.out) ?_ ?_ ?_
    · have := (hB.grow hb).cell 0
      simpa using this
    · rintro (h | h) <;> omega
    · rintro k (h | h) hz <;> have := hZ k hz <;> omega
    · rintro k (h | h) <;> have := hb.size <;> omega
  case round =>
    rintro l pre ⟨x1, x2⟩ G W hl _ hk hGs hI _ _
    have HGs := Lib.hid hGs
    clear hGs
    simp only [encR]
    gi_wp2
    refine ⟨(Below.refl _ _).alloc (Nat.le_refl _) _, fun W2 hst _ => ?_⟩
    have hs2 := hst.size
    simp only [World.size_alloc] at hs2
    have hP := (Bx.new W 26 #[.int .i64 x1, .int .i64 x2]).still hst
    have hI2 := (hI.alloc (.cells #[.int .i64 x1, .int .i64 x2] 26)).still hst
    have p0 := hP.cell 0
    have p1 := hP.cell 1
    have f0 := hI2.frozen 0
    have f1 := hI2.frozen 1
    have c0 := hI2.cell 0
    have c1 := hI2.cell 1
    simp only [List.getElem?_toArray, List.getElem?_cons_zero, List.getElem?_cons_succ] at p0 p1 c0 c1
    have hfin := (hI2.set 0 (.int .i64 x1)).set 1 (.int .i64 x2)
    simp only [List.setIfInBounds_toArray, List.set_cons_zero, List.set_cons_succ] at hfin
    clear hP hI2 hst
    gi_wp2
    refine ⟨G, fun k h => ⟨.inl h, by have := HGs.out k h; simp [World.setCell]; omega⟩, (Kept.set (M := fun b => b = w.heap.size ∨ G b) (p := ⟨w.heap.size, 0, none⟩) (.inl rfl) _).trans (Kept.set (M := fun b => b = w.heap.size ∨ G b) (p := ⟨w.heap.size, 1, none⟩) (.inl rfl) _), ?_⟩
    show Bx _ _ _ _
    rw [lastR_snoc]
    exact hfin
  case done =>
    intro D xs G W hD hk hS _ hI hdef
    subst hS
    rw [lastR_arbs] at hI
    have c0 := hI.cell 0
    have c1 := hI.cell 1
    have f0 := hI.frozen 0
    have f1 := hI.frozen 1
    have hlen : ps.length ≤ 6 := (pairsErr_ok HO.out).1
    simp only [List.getElem?_toArray, List.getElem?_cons_zero, List.getElem?_cons_succ] at c0 c1
    have HI := Lib.hid hI
    clear hI
    generalize hrr : arbK ps ps.length = r at c0 c1 HI
    have HRR := Lib.hid hrr
    clear hrr
    obtain ⟨r1, r2⟩ := r
    have hso := HS.out
    gi_wp2
    have hfin := (HI.out.set 0 (.int .i64 r1)).set 1 (.int .i64 r2)
    have hdef2 := heap_set (p := ⟨w.heap.size, 1, none⟩) (u := .int .i64 r2) (heap_set (p := ⟨w.heap.size, 0, none⟩) (u := .int .i64 r1) hdef (show D ≠ w.heap.size by omega)) (show D ≠ w.heap.size by omega)
    have hb3 := (((hk.far (a := w2) (Below.refl _ _)).below (B := w.heap.size) (fun k hk' h => by omega) (by omega)).setCell (p := ⟨w.heap.size, 0, none⟩) (Nat.le_refl _) (.int .i64 r1)).setCell (p := ⟨w.heap.size, 1, none⟩) (Nat.le_refl _) (.int .i64 r2)
    have hb4 := (hb2.trans hb3).trans ((Below.refl w.heap.size _).grown (grownBy_putObj' _ D (.deferred none)) (by have := hb2.size; have := hb3.size; omega) (fun k e => by cases e; omega))
    have hx := hfin.putObj (D := D) (o := .deferred none) (by omega)
    have x0 := hx.cell 0
    have x1 := hx.cell 1
    simp at x0 x1
    refine ⟨by simp, .inl ⟨_, _, rfl, run_takeDeferred hdef2, ?_⟩⟩
    refine ⟨.tuple #[.agg #[.int .i64 r1, .int .i64 r2], .bool (decide (ps.length % 2 = 1)), .int .i64 0], ?_, by rw [HRR.out]; rfl, hb4⟩
    have hpar : ((ps.length : Int) % 2 == 1) = decide (ps.length % 2 = 1) := by
      rw [Bool.eq_iff_iff]; simp; omega
    simp [results, Try.results12, go_sem, x0, x1, hpar]
  case stop =>
    intro D c pre G W _ _ _ _ h _
    exact h.elim


/-- The least number of turns after which each of these has made a whole number. -/
def cycL (rs : List (Int × Int)) : Int := rs.foldl (fun n r => (Int.lcm n r.2 : Int)) 1
theorem cycL_snoc (rs : List (Int × Int)) (r : Int × Int) : cycL (rs ++ [r]) = (Int.lcm (cycL rs) r.2 : Int) := by simp [cycL, List.foldl_append]

theorem lcm_left (a b : Int) (ha : 1 ≤ a) (hb : 1 ≤ b) : a / Int.gcd a b * b = (Int.lcm a b : Int) := by
  obtain ⟨m, rfl⟩ := Int.eq_ofNat_of_zero_le (show 0 ≤ a by omega)
  obtain ⟨n, rfl⟩ := Int.eq_ofNat_of_zero_le (show 0 ≤ b by omega)
  have hm : 0 < m := by omega
  simp only [Int.lcm, Int.gcd, Int.natAbs_natCast, Nat.lcm]
  have h1 : m * n / m.gcd n = m / m.gcd n * n := by rw [Nat.mul_comm m n, Nat.mul_div_assoc _ (Nat.gcd_dvd_left m n), Nat.mul_comm]
  rw [h1]; simp
theorem lcm_right (a b : Int) (ha : 1 ≤ a) (hb : 1 ≤ b) : a * (b / Int.gcd a b) = (Int.lcm a b : Int) := by
  obtain ⟨m, rfl⟩ := Int.eq_ofNat_of_zero_le (show 0 ≤ a by omega)
  obtain ⟨n, rfl⟩ := Int.eq_ofNat_of_zero_le (show 0 ≤ b by omega)
  simp only [Int.lcm, Int.gcd, Int.natAbs_natCast, Nat.lcm]
  have h1 : m * n / m.gcd n = m * (n / m.gcd n) := Nat.mul_div_assoc _ (Nat.gcd_dvd_right m n)
  rw [h1]; simp
theorem lcm_pos_of (a b : Int) (ha : 1 ≤ a) (hb : 1 ≤ b) : 1 ≤ (Int.lcm a b : Int) := by
  have h0 : Int.lcm a b ≠ 0 := by
    intro h
    rw [Int.lcm_eq_zero_iff] at h
    omega
  omega
theorem lcm_dvd_of {a b c : Int} (h1 : a ∣ c) (h2 : b ∣ c) : (Int.lcm a b : Int) ∣ c := by
  rw [← Int.natAbs_dvd_natAbs, Int.natAbs_natCast]
  exact Nat.lcm_dvd (Int.natAbs_dvd_natAbs.2 h1) (Int.natAbs_dvd_natAbs.2 h2)

/-- The pinions' product. -/
def pins (ps : List (Int × Int)) : Int := prodI (ps.map (·.2))
theorem arbK_dvd (ps : List (Int × Int)) : ∀ k, k ≤ ps.length → (arbK ps k).2 ∣ prodI ((ps.take k).map (·.2)) := by
  intro k
  induction k with
  | zero => intro _; simp [arbK, prodI]
  | succ k ih =>
    intro hk
    rw [arbK_succ ps k (by omega), List.take_succ_eq_append_getElem (by omega), List.map_append, List.map_cons, List.map_nil, prodI_snoc]
    refine Int.dvd_trans ?_ (Int.mul_dvd_mul (ih (by omega)) (Int.dvd_refl _))
    exact Int.ediv_dvd_of_dvd (Int.gcd_dvd_right ..)
theorem take_dvd (ps : List (Int × Int)) (k : Nat) : prodI ((ps.take k).map (·.2)) ∣ pins ps := by
  have : pins ps = prodI ((ps.take k).map (·.2)) * prodI ((ps.drop k).map (·.2)) := by
    unfold pins
    rw [← prodI_append, ← List.map_append, List.take_append_drop]
  exact ⟨_, this⟩
theorem pins_bd (ps : List (Int × Int)) (h : OkPairs ps) : 1 ≤ pins ps ∧ pins ps ≤ 4096000000000000 := by
  have key : ∀ l : List (Int × Int), (∀ p, p ∈ l → 6 ≤ p.2 ∧ p.2 ≤ 400) → 1 ≤ prodI (l.map (·.2)) ∧ prodI (l.map (·.2)) ≤ 400 ^ l.length := by
    intro l
    induction l with
    | nil => intro _; simp [prodI]
    | cons p l ih =>
      intro hl
      obtain ⟨a, b⟩ := ih fun q hq => hl q (by simp [hq])
      obtain ⟨c, d⟩ := hl p (by simp)
      have h1 := Int.mul_le_mul (show 1 ≤ p.2 by omega) a (by omega) (by omega)
      have h2 := Int.mul_le_mul d b (by omega) (by omega)
      simp only [List.map_cons, prodI, List.length_cons]
      refine ⟨by omega, ?_⟩
      rw [Int.pow_succ, Int.mul_comm (400 ^ l.length)]
      exact h2
  obtain ⟨a, b⟩ := key ps fun p hp => (h.2 p hp).2
  exact ⟨a, Int.le_trans b (pow400 _ h.1)⟩
theorem arbs_mem {ps : List (Int × Int)} {r : Int × Int} (h : r ∈ arbs ps) : ∃ k, k ≤ ps.length ∧ r = arbK ps k := by
  simp only [arbs, List.mem_map, List.mem_range] at h
  obtain ⟨k, hk, rfl⟩ := h
  exact ⟨k, by omega, rfl⟩
theorem cycL_bd (ps : List (Int × Int)) (h : OkPairs ps) (rs : List (Int × Int)) (hr : ∀ r, r ∈ rs → r ∈ arbs ps) : 1 ≤ cycL rs ∧ cycL rs ∣ pins ps := by
  have key : ∀ (rs : List (Int × Int)) (n : Int), 1 ≤ n → n ∣ pins ps → (∀ r, r ∈ rs → r ∈ arbs ps) → 1 ≤ rs.foldl (fun n r => (Int.lcm n r.2 : Int)) n ∧ rs.foldl (fun n r => (Int.lcm n r.2 : Int)) n ∣ pins ps := by
    intro rs
    induction rs with
    | nil => intro n h1 h2 _; exact ⟨h1, h2⟩
    | cons r rs ih =>
      intro n h1 h2 h3
      obtain ⟨k, hk, rfl⟩ := arbs_mem (h3 r (by simp))
      have hb := arbK_bd ps h k hk
      exact ih _ (lcm_pos_of _ _ h1 hb.2.1) (lcm_dvd_of h2 (Int.dvd_trans (arbK_dvd ps k hk) (take_dvd ps k))) fun r hr => h3 r (by simp [hr])
  exact key rs 1 (by omega) (Int.one_dvd _) hr

set_option maxHeartbeats 1000000 in
theorem cycle_any (Z : Nat → Prop) (v : Value) (ps : List (Int × Int)) (w : World) (hps : Pairs Z w v ps) (hZ : ∀ k, Z k → k < w.heap.size) (hok : pairsErr ps = 0) :
    Calls Try.prog 13 #[v] w fun e w' => e = .returned (.tuple #[.int .i64 (cycL (arbs ps)), .int .i64 0]) ∧ Below w.heap.size w w' := by
  have hcp := fun W h => checkPairs_any Z v ps W h
  rw [hok] at hcp
  have HC := Lib.hid hcp
  clear hcp
  have HO := Lib.hid hok
  clear hok
  obtain ⟨A, cap, rfl, hps1⟩ : ∃ A cap, v = .slice A ps.length cap ∧ Pairs Z w (.slice A ps.length cap) ps := by obtain ⟨A, cap, rfl, h⟩ := hps; exact ⟨A, cap, rfl, A, cap, rfl, h⟩
  refine (callsIn_wide (n := 0)).1 (callsIn_of_wp_marks Try.func13 rfl trivial ?_ rfl)
  simp only [Try.ntmps13, List.size_toArray, List.length_cons, List.length_nil, Nat.reduceAdd, Nat.reduceSub, Array.replicate_succ, Array.replicate_zero, List.push_toArray, List.append_toArray, List.nil_append, List.cons_append]
  gi_wp2_with (refine ⟨trivial, rfl, ?_⟩; gi_at_call 40; refine (callsIn_wide.2 (HC.out _ ?_)).mono ?_; (focus exact hps1.grow ((Below.refl _ _).alloc (Nat.le_refl _) _)); rintro e w1 ⟨rfl, hb1⟩; have hR := (Bx.new w 3 #[.int .i64 0]).grow hb1; have hRc := hR.cell 0; have hRf := hR.frozen 0; simp only [List.getElem?_toArray, List.getElem?_cons_zero] at hRc)
  have hb1' : Below w.heap.size w w1 := ((Below.refl _ _).alloc (Nat.le_refl _) _).trans (hb1.mono (by simp))
  have hR := (Bx.new w 3 #[.int .i64 0]).grow hb1
  have hsz := hb1'.size
  have hR1 := hR.lt
  clear hb1
  gi_wp2_with (refine ⟨trivial, rfl, ?_⟩; gi_at_call 41; refine (callsIn_wide.2 (arbors_any _ ⟨_, _, _, rfl⟩ _)).mono ?_; rintro e w2 ⟨rfl, rfl⟩)
  have hR2 := hR.set 0 (.int .i64 1)
  simp only [List.setIfInBounds_toArray, List.set_cons_zero] at hR2
  have hb1'' : Below w.heap.size w (w1.setCell ⟨w.heap.size, 0, none⟩ (.int .i64 1)) := hb1'.setCell (Nat.le_refl _) _
  have hsz1 : (w1.setCell ⟨w.heap.size, 0, none⟩ (.int .i64 1)).heap.size = w1.heap.size := by simp [World.setCell]
  generalize w1.setCell ⟨w.heap.size, 0, none⟩ (.int .i64 1) = wa at hR2 hb1'' hsz1 ⊢
  have HA := Lib.hid hsz1
  clear hsz1 hR hRf hRc
  have hB := Bx.new wa 22 #[.slice A ps.length cap]
  rw [HA.out] at hB
  have hb2 : Below w.heap.size w (wa.alloc (.cells #[.slice A ps.length cap] 22)) := hb1''.alloc (by have := HA.out; omega) _
  have hR3 := hR2.alloc (.cells #[.slice A ps.length cap] 22)
  have hps3 := hps1.grow hb2
  have hsz2 : (wa.alloc (.cells #[.slice A ps.length cap] 22)).heap.size = w1.heap.size + 1 := by simp [HA.out]
  have HS := Lib.hid hsz2
  clear hsz2 hb1' hR2
  generalize wa.alloc (.cells #[.slice A ps.length cap] 22) = w2 at hB hb2 hR3 hps3 HS ⊢
  refine range_law (gf := 65) (lb := #[.pointer (some ⟨w1.heap.size, 0, none⟩)]) rfl (enters_of Try.func65 (by kernel_rfl) rfl) (far := true) (encs := fun r => #[encR r]) (ok := fun _ _ => True)
    (M := fun b => b = w.heap.size) (S := fun xs => xs = arbs ps) (Sp := fun pre => pre <+: arbs ps) (by intro b hb; have := HS.out; omega) ?hit (fun _ => rfl)
    (fun pre _ W => Bx W w.heap.size 3 #[.int .i64 (cycL pre)]) (fun _ _ _ _ => False) (fun s G A A' h k => k.still h) (fun _ _ _ _ _ _ h => h)
    (fun _ => ⟨fun s G A A' h k => k.below h (by have := HS.out; omega), fun _ _ _ _ _ _ h => h⟩) hR3 ?round ?done ?stop
  case hit =>
    intro W l hb hl hlt
    have hso := HS.out
    refine arbors_iter w1.heap.size Z _ (.slice A ps.length cap) ps l W ?_ (hps3.grow hb) (pairsErr_ok HO.out) ?_ ?_ ?_
    · have := (hB.grow hb).cell 0
      simpa using this
    · rintro (h | h) <;> omega
    · rintro k (h | h) hz <;> have := hZ k hz <;> omega
    · rintro k (h | h) <;> have := hb.size <;> omega
  case round =>
    rintro l pre ⟨x1, x2⟩ G W hl _ hk hGs hI _ hsp
    have HGs := Lib.hid hGs
    clear hGs
    have hmem : ∀ r, r ∈ pre ++ [(x1, x2)] → r ∈ arbs ps := fun r h => hsp.subset h
    have hok := pairsErr_ok HO.out
    have hpb := pins_bd ps hok
    obtain ⟨g1, g2⟩ := cycL_bd ps hok (pre ++ [(x1, x2)]) hmem
    obtain ⟨g3, g4⟩ := cycL_bd ps hok pre fun r h => hmem r (by simp [h])
    obtain ⟨k, hk5, hkr⟩ := arbs_mem (hmem (x1, x2) (by simp))
    have hx2 : 1 ≤ x2 ∧ x2 ≤ 4096000000000000 := by
      have h1 := (arbK_bd ps hok k hk5).2.1
      have h2 := Int.le_of_dvd (by omega) (Int.dvd_trans (arbK_dvd ps k hk5) (take_dvd ps k))
      rw [← hkr] at h1 h2
      exact ⟨h1, by simp only at h2; omega⟩
    have g5 := Int.le_of_dvd (by omega) g2
    have g6 := Int.le_of_dvd (by omega) g4
    rw [cycL_snoc] at g5 g1
    have hll := lcm_left (cycL pre) x2 g3 hx2.1
    have HL := fun W => Lib.hid (leastMultiple_any (cycL pre) x2 W g3 hx2.1 (by rw [hll]; simp only at g5; omega) (by omega) (by omega))
    have hnew : cycL (pre ++ [(x1, x2)]) = cycL pre / Int.gcd (cycL pre) x2 * x2 := by rw [hll, cycL_snoc]
    have HN := Lib.hid hnew
    clear hnew hll g1 g2 g3 g4 g5 g6 hx2 hkr hk5 hpb hok hmem
    simp only [encR]
    gi_wp2
    refine ⟨(Below.refl _ _).alloc (Nat.le_refl _) _, fun W2 hst _ => ?_⟩
    have hs2 := hst.size
    simp only [World.size_alloc] at hs2
    have hP := (Bx.new W 26 #[.int .i64 x1, .int .i64 x2]).still hst
    have hI2 := (hI.alloc (.cells #[.int .i64 x1, .int .i64 x2] 26)).still hst
    have p1 := hP.cell 1
    have c0 := hI2.cell 0
    have f0 := hI2.frozen 0
    simp only [List.getElem?_toArray, List.getElem?_cons_zero, List.getElem?_cons_succ] at p1 c0
    clear hst
    gi_wp2_with (refine ⟨trivial, rfl, ?_⟩; gi_at_call 42; refine (CallsIn.inRound _ (callsIn_wide.2 (HL _).out)).mono ?_; rintro e w3 ⟨rfl, n, rfl⟩)
    refine ⟨G, fun k h => ⟨.inl h, by have := HGs.out k h; simp [World.setCell]; omega⟩, ?_, ?_⟩
    · exact Kept.trans (Kept.grow (below_drewN (Below.refl _ _) _)) (Kept.set (M := fun b => b = w.heap.size ∨ G b) (p := ⟨w.heap.size, 0, none⟩) (.inl rfl) _)
    · show Bx _ _ _ _
      rw [HN.out]
      exact ((hI2.drewN n).set 0 _)
  case done =>
    intro D xs G W hD hk hS _ hI hdef
    subst hS
    have c0 := hI.cell 0
    have f0 := hI.frozen 0
    simp only [List.getElem?_toArray, List.getElem?_cons_zero] at c0
    have HI := Lib.hid hI
    clear hI
    have hso := HS.out
    gi_wp2
    have hfin := HI.out.set 0 (.int .i64 (cycL (arbs ps)))
    have hdef2 := heap_set (p := ⟨w.heap.size, 0, none⟩) (u := .int .i64 (cycL (arbs ps))) hdef (show D ≠ w.heap.size by omega)
    have hb3 := ((hk.far (a := w2) (Below.refl _ _)).below (B := w.heap.size) (fun k hk' h => by omega) (by omega)).setCell (p := ⟨w.heap.size, 0, none⟩) (Nat.le_refl _) (.int .i64 (cycL (arbs ps)))
    have hb4 := (hb2.trans hb3).trans ((Below.refl w.heap.size _).grown (grownBy_putObj' _ D (.deferred none)) (by have := hb2.size; have := hb3.size; omega) (fun k e => by cases e; omega))
    have hx := hfin.putObj (D := D) (o := .deferred none) (by omega)
    have x0 := hx.cell 0
    simp at x0
    refine ⟨by simp, .inl ⟨_, _, rfl, run_takeDeferred hdef2, ?_⟩⟩
    refine ⟨.tuple #[.int .i64 (cycL (arbs ps)), .int .i64 0], ?_, rfl, hb4⟩
    simp [results, Try.results13, go_sem, x0]
  case stop =>
    intro D c pre G W _ _ _ _ h _
    exact h.elim

set_option maxHeartbeats 1000000 in
theorem turns_err (Z : Nat → Prop) (v : Value) (ps : List (Int × Int)) (w : World) (hps : Pairs Z w v ps) (hok : pairsErr ps ≠ 0) :
    Calls Try.prog 12 #[v] w fun e w' => e = .returned (.tuple #[encR (0, 0), .bool false, .int .i64 (pairsErr ps)]) ∧ Below w.heap.size w w' := by
  have HC := fun W h => Lib.hid (checkPairs_any Z v ps W h)
  have hne : ((pairsErr ps) == 0) = false := by simpa using hok
  clear hok
  generalize pairsErr ps = er at hne HC ⊢
  refine (callsIn_wide (n := 0)).1 (callsIn_of_wp_marks Try.func12 rfl trivial ?_ rfl)
  simp only [Try.ntmps12, List.size_toArray, List.length_cons, List.length_nil, Nat.reduceAdd, Nat.reduceSub, Array.replicate_succ, Array.replicate_zero, List.push_toArray, List.append_toArray, List.nil_append, List.cons_append]
  gi_wp2_with (refine ⟨trivial, rfl, ?_⟩; gi_at_call 40; refine (callsIn_wide.2 (HC _ ?_).out).mono ?_; (focus exact hps.grow ((Below.refl _ _).alloc (Nat.le_refl _) _)); rintro e w1 ⟨rfl, hb1⟩; have hR := (Bx.new w 26 #[.int .i64 0, .int .i64 0]).grow hb1; have c0 := hR.cell 0; have f0 := hR.frozen 0; have c1 := hR.cell 1; have f1 := hR.frozen 1; simp only [List.getElem?_toArray, List.getElem?_cons_zero, List.getElem?_cons_succ] at c0 c1)
  have hx := (hR.set 0 (.int .i64 0)).set 1 (.int .i64 0)
  have x0 := hx.cell 0
  have x1 := hx.cell 1
  simp at x0 x1
  refine ⟨.tuple #[.agg #[.int .i64 0, .int .i64 0], .bool false, .int .i64 er], ?_, rfl, ?_⟩
  · simp [results, Try.results12, go_sem, x0, x1]
  · exact ((((Below.refl _ _).alloc (Nat.le_refl _) _).trans (hb1.mono (by simp))).setCell (Nat.le_refl _) _).setCell (Nat.le_refl _) _

set_option maxHeartbeats 1000000 in
theorem cycle_err (Z : Nat → Prop) (v : Value) (ps : List (Int × Int)) (w : World) (hps : Pairs Z w v ps) (hok : pairsErr ps ≠ 0) :
    Calls Try.prog 13 #[v] w fun e w' => e = .returned (.tuple #[.int .i64 0, .int .i64 (pairsErr ps)]) ∧ Below w.heap.size w w' := by
  have HC := fun W h => Lib.hid (checkPairs_any Z v ps W h)
  have hne : ((pairsErr ps) == 0) = false := by simpa using hok
  clear hok
  generalize pairsErr ps = er at hne HC ⊢
  refine (callsIn_wide (n := 0)).1 (callsIn_of_wp_marks Try.func13 rfl trivial ?_ rfl)
  simp only [Try.ntmps13, List.size_toArray, List.length_cons, List.length_nil, Nat.reduceAdd, Nat.reduceSub, Array.replicate_succ, Array.replicate_zero, List.push_toArray, List.append_toArray, List.nil_append, List.cons_append]
  gi_wp2_with (refine ⟨trivial, rfl, ?_⟩; gi_at_call 40; refine (callsIn_wide.2 (HC _ ?_).out).mono ?_; (focus exact hps.grow ((Below.refl _ _).alloc (Nat.le_refl _) _)); rintro e w1 ⟨rfl, hb1⟩; have hR := (Bx.new w 3 #[.int .i64 0]).grow hb1; have c0 := hR.cell 0; have f0 := hR.frozen 0; simp only [List.getElem?_toArray, List.getElem?_cons_zero, List.getElem?_cons_succ] at c0)
  have hx := (hR.set 0 (.int .i64 0))
  have x0 := hx.cell 0
  simp at x0
  refine ⟨.tuple #[.int .i64 0, .int .i64 er], ?_, rfl, ?_⟩
  · simp [results, Try.results13, go_sem, x0]
  · exact (((Below.refl _ _).alloc (Nat.le_refl _) _).trans (hb1.mono (by simp))).setCell (Nat.le_refl _) _

end Go.Proofs.Ythiifonejoejpaa
