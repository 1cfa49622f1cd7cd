/- Arithmetic of trains: products, lowest terms, turns, cycles. -/
import Derived.Test.YtoecekncncbjgaaGreatS5
set_option linter.unusedSimpArgs false
set_option linter.unusedVariables false
namespace Go.Proofs.YtoecekncncbjgaaGreat
namespace Tn
def prodI : List Int → Int
  | [] => 1
  | x :: xs => x * prodI xs
theorem prodI_snoc (xs : List Int) (x : Int) : prodI (xs ++ [x]) = prodI xs * x := by
  induction xs with
  | nil => simp [prodI]
  | cons a l ih => simp only [List.cons_append, prodI, ih, Int.mul_assoc]
theorem prodI_append (xs ys : List Int) : prodI (xs ++ ys) = prodI xs * prodI ys := by
  induction xs with
  | nil => simp [prodI]
  | cons a l ih => simp only [List.cons_append, prodI, ih, Int.mul_assoc]
theorem prodI_take_succ (xs : List Int) (k : Nat) (h : k < xs.length) : prodI (xs.take (k + 1)) = prodI (xs.take k) * xs[k] := by
  rw [List.take_succ_eq_append_getElem h, prodI_snoc]
theorem prodI_pos (xs : List Int) (h : ∀ x, x ∈ xs → 1 ≤ x) : 1 ≤ prodI xs := by
  induction xs with
  | nil => simp [prodI]
  | cons a l ih =>
    have h1 := h a (by simp)
    have h2 := ih fun x hx => h x (by simp [hx])
    have := Int.mul_le_mul h1 h2 (by omega) (by omega)
    simpa [prodI] using this
theorem prodI_take_le (xs : List Int) (h : ∀ x, x ∈ xs → 1 ≤ x) (k : Nat) : prodI (xs.take k) ≤ prodI xs := by
  have e : xs = xs.take k ++ xs.drop k := (List.take_append_drop k xs).symm
  have h1 := prodI_pos (xs.take k) fun x hx => h x (List.mem_of_mem_take hx)
  have h2 := prodI_pos (xs.drop k) fun x hx => h x (List.mem_of_mem_drop hx)
  have h3 : prodI xs = prodI (xs.take k) * prodI (xs.drop k) := by rw [← prodI_append, List.take_append_drop]
  rw [h3]
  have := Int.mul_le_mul_of_nonneg_left h2 (show 0 ≤ prodI (xs.take k) by omega)
  omega
/-- A ratio in lowest terms. -/
def lowR (a b : Int) : Int × Int := (a / Int.gcd a b, b / Int.gcd a b)
theorem gcd_pos_of (a b : Int) (hb : 1 ≤ b) : 1 ≤ (Int.gcd a b : Int) := by
  have : Int.gcd a b ≠ 0 := by
    intro h
    rw [Int.gcd_eq_zero_iff] at h
    omega
  omega
theorem gcd_le_of (a b : Int) (ha : 1 ≤ a) : (Int.gcd a b : Int) ≤ a := Int.le_of_dvd (by omega) (Int.gcd_dvd_left ..)
theorem gcd_le_of' (a b : Int) (hb : 1 ≤ b) : (Int.gcd a b : Int) ≤ b := Int.le_of_dvd (by omega) (Int.gcd_dvd_right ..)
/-- How often the arbor behind the first k pairs turns. -/
def arbK (ps : List (Int × Int)) (k : Nat) : Int × Int := (ps.take k).foldl (fun r p => lowR (r.1 * p.1) (r.2 * p.2)) (1, 1)
theorem arbK_succ (ps : List (Int × Int)) (k : Nat) (h : k < ps.length) : arbK ps (k + 1) = lowR ((arbK ps k).1 * ps[k].1) ((arbK ps k).2 * ps[k].2) := by
  unfold arbK; rw [List.take_succ_eq_append_getElem h, List.foldl_append]; rfl
def arbs (ps : List (Int × Int)) : List (Int × Int) := (List.range (ps.length + 1)).map (arbK ps)
/-- Valid pairs. -/
def OkPairs (ps : List (Int × Int)) : Prop := ps.length ≤ 6 ∧ ∀ p, p ∈ ps → (6 ≤ p.1 ∧ p.1 ≤ 400) ∧ (6 ≤ p.2 ∧ p.2 ≤ 400)
theorem lowR_bd (a b c d : Int) (ha : 1 ≤ a) (hb : 1 ≤ b) (hc : a ≤ c) (hd : b ≤ d) : (1 ≤ (lowR a b).1 ∧ (lowR a b).1 ≤ c) ∧ (1 ≤ (lowR a b).2 ∧ (lowR a b).2 ≤ d) := by
  have hg := gcd_pos_of a b hb
  have h1 : (Int.gcd a b : Int) ∣ a := Int.gcd_dvd_left ..
  have h2 : (Int.gcd a b : Int) ∣ b := Int.gcd_dvd_right ..
  refine ⟨⟨?_, ?_⟩, ?_, ?_⟩
  · exact (Int.le_ediv_iff_mul_le (by omega)).2 (by have := gcd_le_of a b ha; omega)
  · exact Int.le_trans (Int.ediv_le_self _ (by omega)) hc
  · exact (Int.le_ediv_iff_mul_le (by omega)).2 (by have := gcd_le_of' a b hb; omega)
  · exact Int.le_trans (Int.ediv_le_self _ (by omega)) hd
theorem arbK_bd (ps : List (Int × Int)) (h : OkPairs ps) : ∀ k, k ≤ ps.length → (1 ≤ (arbK ps k).1 ∧ (arbK ps k).1 ≤ 400 ^ k) ∧ (1 ≤ (arbK ps k).2 ∧ (arbK ps k).2 ≤ 400 ^ k) := by
  intro k
  induction k with
  | zero => intro _; simp [arbK]
  | succ k ih =>
    intro hk
    obtain ⟨⟨a1, a2⟩, b1, b2⟩ := ih (by omega)
    obtain ⟨⟨p1, p2⟩, q1, q2⟩ := h.2 ps[k] (List.getElem_mem (by omega))
    rw [arbK_succ ps k (by omega)]
    have h1 := Int.mul_le_mul a1 (show 1 ≤ ps[k].1 by omega) (by omega) (by omega)
    have h2 := Int.mul_le_mul b1 (show 1 ≤ ps[k].2 by omega) (by omega) (by omega)
    have h3 := Int.mul_le_mul a2 p2 (by omega) (Int.pow_nonneg (by omega))
    have h4 := Int.mul_le_mul b2 q2 (by omega) (Int.pow_nonneg (by omega))
    exact lowR_bd _ _ _ _ (by omega) (by omega) (by rw [Int.pow_succ]; exact h3) (by rw [Int.pow_succ]; exact h4)
theorem pow400 (k : Nat) (hk : k ≤ 6) : (400 : Int) ^ k ≤ 4096000000000000 := by
  match k, hk with
  | 0, _ | 1, _ | 2, _ | 3, _ | 4, _ | 5, _ | 6, _ => decide
/-- The least number of turns after which each of these has made a whole number. -/
def cycL (rs : List (Int × Int)) : Int := rs.foldl (fun n r => (Int.lcm n r.2 : Int)) 1
theorem cycL_snoc (rs : List (Int × Int)) (r : Int × Int) : cycL (rs ++ [r]) = (Int.lcm (cycL rs) r.2 : Int) := by simp [cycL, List.foldl_append]
theorem lcm_left (a b : Int) (ha : 1 ≤ a) (hb : 1 ≤ b) : a / Int.gcd a b * b = (Int.lcm a b : Int) := by
  obtain ⟨m, rfl⟩ := Int.eq_ofNat_of_zero_le (show 0 ≤ a by omega)
  obtain ⟨n, rfl⟩ := Int.eq_ofNat_of_zero_le (show 0 ≤ b by omega)
  have hm : 0 < m := by omega
  simp only [Int.lcm, Int.gcd, Int.natAbs_natCast, Nat.lcm]
  have h1 : m * n / m.gcd n = m / m.gcd n * n := by rw [Nat.mul_comm m n, Nat.mul_div_assoc _ (Nat.gcd_dvd_left m n), Nat.mul_comm]
  rw [h1]; simp
theorem lcm_right (a b : Int) (ha : 1 ≤ a) (hb : 1 ≤ b) : a * (b / Int.gcd a b) = (Int.lcm a b : Int) := by
  obtain ⟨m, rfl⟩ := Int.eq_ofNat_of_zero_le (show 0 ≤ a by omega)
  obtain ⟨n, rfl⟩ := Int.eq_ofNat_of_zero_le (show 0 ≤ b by omega)
  simp only [Int.lcm, Int.gcd, Int.natAbs_natCast, Nat.lcm]
  have h1 : m * n / m.gcd n = m * (n / m.gcd n) := Nat.mul_div_assoc _ (Nat.gcd_dvd_right m n)
  rw [h1]; simp
theorem lcm_pos_of (a b : Int) (ha : 1 ≤ a) (hb : 1 ≤ b) : 1 ≤ (Int.lcm a b : Int) := by
  have h0 : Int.lcm a b ≠ 0 := by
    intro h
    rw [Int.lcm_eq_zero_iff] at h
    omega
  omega
theorem lcm_dvd_of {a b c : Int} (h1 : a ∣ c) (h2 : b ∣ c) : (Int.lcm a b : Int) ∣ c := by
  rw [← Int.natAbs_dvd_natAbs, Int.natAbs_natCast]
  exact Nat.lcm_dvd (Int.natAbs_dvd_natAbs.2 h1) (Int.natAbs_dvd_natAbs.2 h2)
/-- The pinions' product. -/
def pins (ps : List (Int × Int)) : Int := prodI (ps.map (·.2))
theorem arbK_dvd (ps : List (Int × Int)) : ∀ k, k ≤ ps.length → (arbK ps k).2 ∣ prodI ((ps.take k).map (·.2)) := by
  intro k
  induction k with
  | zero => intro _; simp [arbK, prodI]
  | succ k ih =>
    intro hk
    rw [arbK_succ ps k (by omega), List.take_succ_eq_append_getElem (by omega), List.map_append, List.map_cons, List.map_nil, prodI_snoc]
    refine Int.dvd_trans ?_ (Int.mul_dvd_mul (ih (by omega)) (Int.dvd_refl _))
    exact Int.ediv_dvd_of_dvd (Int.gcd_dvd_right ..)
theorem take_dvd (ps : List (Int × Int)) (k : Nat) : prodI ((ps.take k).map (·.2)) ∣ pins ps := by
  have : pins ps = prodI ((ps.take k).map (·.2)) * prodI ((ps.drop k).map (·.2)) := by
    unfold pins
    rw [← prodI_append, ← List.map_append, List.take_append_drop]
  exact ⟨_, this⟩
theorem pins_bd (ps : List (Int × Int)) (h : OkPairs ps) : 1 ≤ pins ps ∧ pins ps ≤ 4096000000000000 := by
  have key : ∀ l : List (Int × Int), (∀ p, p ∈ l → 6 ≤ p.2 ∧ p.2 ≤ 400) → 1 ≤ prodI (l.map (·.2)) ∧ prodI (l.map (·.2)) ≤ 400 ^ l.length := by
    intro l
    induction l with
    | nil => intro _; simp [prodI]
    | cons p l ih =>
      intro hl
      obtain ⟨a, b⟩ := ih fun q hq => hl q (by simp [hq])
      obtain ⟨c, d⟩ := hl p (by simp)
      have h1 := Int.mul_le_mul (show 1 ≤ p.2 by omega) a (by omega) (by omega)
      have h2 := Int.mul_le_mul d b (by omega) (by omega)
      simp only [List.map_cons, prodI, List.length_cons]
      refine ⟨by omega, ?_⟩
      rw [Int.pow_succ, Int.mul_comm (400 ^ l.length)]
      exact h2
  obtain ⟨a, b⟩ := key ps fun p hp => (h.2 p hp).2
  exact ⟨a, Int.le_trans b (pow400 _ h.1)⟩
theorem arbs_mem {ps : List (Int × Int)} {r : Int × Int} (h : r ∈ arbs ps) : ∃ k, k ≤ ps.length ∧ r = arbK ps k := by
  simp only [arbs, List.mem_map, List.mem_range] at h
  obtain ⟨k, hk, rfl⟩ := h
  exact ⟨k, by omega, rfl⟩
theorem cycL_bd (ps : List (Int × Int)) (h : OkPairs ps) (rs : List (Int × Int)) (hr : ∀ r, r ∈ rs → r ∈ arbs ps) : 1 ≤ cycL rs ∧ cycL rs ∣ pins ps := by
  have key : ∀ (rs : List (Int × Int)) (n : Int), 1 ≤ n → n ∣ pins ps → (∀ r, r ∈ rs → r ∈ arbs ps) → 1 ≤ rs.foldl (fun n r => (Int.lcm n r.2 : Int)) n ∧ rs.foldl (fun n r => (Int.lcm n r.2 : Int)) n ∣ pins ps := by
    intro rs
    induction rs with
    | nil => intro n h1 h2 _; exact ⟨h1, h2⟩
    | cons r rs ih =>
      intro n h1 h2 h3
      obtain ⟨k, hk, rfl⟩ := arbs_mem (h3 r (by simp))
      have hb := arbK_bd ps h k hk
      exact ih _ (lcm_pos_of _ _ h1 hb.2.1) (lcm_dvd_of h2 (Int.dvd_trans (arbK_dvd ps k hk) (take_dvd ps k))) fun r hr => h3 r (by simp [hr])
  exact key rs 1 (by omega) (Int.one_dvd _) hr
theorem lowR_spec (a b : Int) (ha : 1 ≤ a) (hb : 1 ≤ b) : ∃ g : Int, 1 ≤ g ∧ a = (lowR a b).1 * g ∧ b = (lowR a b).2 * g ∧ Int.gcd (lowR a b).1 (lowR a b).2 = 1 ∧ 1 ≤ (lowR a b).1 ∧ 1 ≤ (lowR a b).2 := by
  have hg := gcd_pos_of a b hb
  have h1 : (Int.gcd a b : Int) ∣ a := Int.gcd_dvd_left ..
  have h2 : (Int.gcd a b : Int) ∣ b := Int.gcd_dvd_right ..
  have e1 : a = a / Int.gcd a b * Int.gcd a b := (Int.ediv_mul_cancel h1).symm
  have e2 : b = b / Int.gcd a b * Int.gcd a b := (Int.ediv_mul_cancel h2).symm
  obtain ⟨⟨p1, _⟩, ⟨p2, _⟩⟩ := lowR_bd a b a b ha hb (Int.le_refl _) (Int.le_refl _)
  refine ⟨Int.gcd a b, hg, e1, e2, ?_, p1, p2⟩
  have hne : 0 < Int.gcd a b := by omega
  show Int.gcd (a / Int.gcd a b) (b / Int.gcd a b) = 1
  rw [Int.gcd_ediv h1 h2]
  simp
  exact Nat.div_self hne
theorem natAbs_dvd' {x y : Int} : x ∣ y ↔ x.natAbs ∣ y.natAbs := Int.natAbs_dvd_natAbs.symm
theorem dvd_of_coprime {x y u : Int} (hc : Int.gcd x y = 1) (h : x ∣ u * y) : x ∣ u := by
  rw [natAbs_dvd'] at h ⊢
  rw [Int.natAbs_mul] at h
  exact Nat.Coprime.dvd_of_dvd_mul_right hc h
theorem low_unique {x y u v : Int} (hx : 1 ≤ x) (hu : 1 ≤ u) (hy : 1 ≤ y) (h1 : Int.gcd x y = 1) (h2 : Int.gcd u v = 1) (h : x * v = u * y) : x = u ∧ y = v := by
  have d1 : x ∣ u := dvd_of_coprime h1 ⟨v, h.symm⟩
  have d2 : u ∣ x := dvd_of_coprime h2 ⟨y, h⟩
  have l1 := Int.le_of_dvd (by omega) d1
  have l2 := Int.le_of_dvd (by omega) d2
  have e : x = u := by omega
  subst e
  exact ⟨rfl, (Int.eq_of_mul_eq_mul_left (by omega) h).symm⟩
theorem lowR_eq {a b c d : Int} (ha : 1 ≤ a) (hb : 1 ≤ b) (hc : 1 ≤ c) (hd : 1 ≤ d) (h : a * d = c * b) : lowR a b = lowR c d := by
  obtain ⟨g, g1, e1, e2, e3, e4, e5⟩ := lowR_spec a b ha hb
  obtain ⟨k, k1, f1, f2, f3, f4, f5⟩ := lowR_spec c d hc hd
  generalize lowR a b = r at e1 e2 e3 e4 e5 ⊢
  generalize lowR c d = s at f1 f2 f3 f4 f5 ⊢
  obtain ⟨r1, r2⟩ := r
  obtain ⟨s1, s2⟩ := s
  simp only at *
  subst e1 e2 f1 f2
  have hgk : g * k ≠ 0 := by
    have := Int.mul_le_mul g1 k1 (by omega) (by omega)
    omega
  have key : r1 * s2 = s1 * r2 := by
    have h3 : r1 * s2 * (g * k) = s1 * r2 * (g * k) := by
      have a1 : r1 * g * (s2 * k) = r1 * s2 * (g * k) := by ac_rfl
      have a2 : s1 * k * (r2 * g) = s1 * r2 * (g * k) := by ac_rfl
      rw [← a1, ← a2]; exact h
    exact Int.eq_of_mul_eq_mul_right hgk h3
  obtain ⟨a1, a2⟩ := low_unique e4 f4 e5 e3 f3 key
  rw [a1, a2]
/-- The turns of the arbor behind k pairs, after m turns of the first one. -/
def qK (m : Int) (ps : List (Int × Int)) (k : Nat) : Int × Int := (ps.take k).foldl (fun r p => lowR (r.1 * p.1) (r.2 * p.2)) (m, 1)
theorem qK_succ (m : Int) (ps : List (Int × Int)) (k : Nat) (h : k < ps.length) : qK m ps (k + 1) = lowR ((qK m ps k).1 * ps[k].1) ((qK m ps k).2 * ps[k].2) := by
  unfold qK; rw [List.take_succ_eq_append_getElem h, List.foldl_append]; rfl
theorem lowR_one (m : Int) (hm : 1 ≤ m) : lowR m 1 = (m, 1) := by simp [lowR]
theorem qK_eq (m : Int) (hm : 1 ≤ m) (ps : List (Int × Int)) (hok : OkPairs ps) : ∀ k, k ≤ ps.length → qK m ps k = lowR (m * (arbK ps k).1) (arbK ps k).2 := by
  intro k
  induction k with
  | zero => intro _; simp [qK, arbK, lowR_one m hm]
  | succ k ih =>
    intro hk
    have ih := ih (by omega)
    rw [qK_succ m ps k (by omega), arbK_succ ps k (by omega), ih]
    have ho := hok.2 ps[k] (List.getElem_mem _)
    have hb := arbK_bd ps hok k (by omega)
    generalize ps[k] = p at ho
    generalize arbK ps k = r at hb
    obtain ⟨p1, p2⟩ := p
    obtain ⟨a, b⟩ := r
    simp only at *
    have pos : ∀ {x y : Int}, 1 ≤ x → 1 ≤ y → 1 ≤ x * y := fun hx hy => by
      have := Int.mul_le_mul hx hy (by omega) (by omega); simpa using this
    have ma := pos hm hb.1.1
    have aw := pos hb.1.1 (show 1 ≤ p1 by omega)
    have bp := pos hb.2.1 (show 1 ≤ p2 by omega)
    obtain ⟨g, g1, e1, e2, _, e4, e5⟩ := lowR_spec (m * a) b ma hb.2.1
    obtain ⟨h, h1, f1, f2, _, f4, f5⟩ := lowR_spec (a * p1) (b * p2) aw bp
    generalize lowR (m * a) b = q at *
    generalize lowR (a * p1) (b * p2) = s at *
    obtain ⟨q1, q2⟩ := q
    obtain ⟨s1, s2⟩ := s
    simp only at *
    refine lowR_eq (pos e4 (by omega)) (pos e5 (by omega)) (pos hm f4) f5 ?_
    have hgh : g * h ≠ 0 := by have := pos g1 h1; omega
    refine Int.eq_of_mul_eq_mul_right hgh ?_
    have x1 : q1 * p1 * s2 * (g * h) = (q1 * g) * p1 * (s2 * h) := by ac_rfl
    have x2 : m * s1 * (q2 * p2) * (g * h) = m * (s1 * h) * (q2 * g) * p2 := by ac_rfl
    rw [x1, x2, ← e1, ← e2, ← f1, ← f2]
    ac_rfl
theorem lowR_den (a b m : Int) (hm : 1 ≤ m) (ha : 1 ≤ a) (hb : 1 ≤ b) (hc : Int.gcd a b = 1) : (lowR (m * a) b).2 = 1 ↔ b ∣ m := by
  have ma : 1 ≤ m * a := by have := Int.mul_le_mul hm ha (by omega) (by omega); simpa using this
  obtain ⟨g, g1, e1, e2, e3, e4, e5⟩ := lowR_spec (m * a) b ma hb
  generalize lowR (m * a) b = q at *
  obtain ⟨q1, q2⟩ := q
  simp only at *
  constructor
  · rintro rfl
    rw [Int.one_mul] at e2
    subst e2
    rw [Int.gcd_comm] at hc
    exact dvd_of_coprime hc ⟨q1, by rw [e1, Int.mul_comm]⟩
  · intro h
    obtain ⟨c, hc2⟩ := Int.dvd_trans h (Int.dvd_mul_right m a)
    have hb2 : q2 * g ∣ q1 * g := ⟨c, by rw [← e1, ← e2]; exact hc2⟩
    have hd : q2 ∣ q1 := (Int.mul_dvd_mul_iff_right (by omega)).1 hb2
    have := Int.gcd_eq_right (show (0 : Int) ≤ q2 by omega) hd
    have h3 : (Int.gcd q1 q2 : Int) = q2 := this
    rw [e3] at h3
    exact h3.symm
theorem arbK_low (ps : List (Int × Int)) (hok : OkPairs ps) : ∀ k, k ≤ ps.length → Int.gcd (arbK ps k).1 (arbK ps k).2 = 1 := by
  intro k hk
  cases k with
  | zero => simp [arbK]
  | succ k =>
    have ho := hok.2 ps[k] (List.getElem_mem _)
    have hb := arbK_bd ps hok k (by omega)
    rw [arbK_succ ps k (by omega)]
    have pos : ∀ {x y : Int}, 1 ≤ x → 1 ≤ y → 1 ≤ x * y := fun hx hy => by
      have := Int.mul_le_mul hx hy (by omega) (by omega); simpa using this
    obtain ⟨_, _, _, _, h, _⟩ := lowR_spec _ _ (pos hb.1.1 (show 1 ≤ ps[k].1 by omega)) (pos hb.2.1 (show 1 ≤ ps[k].2 by omega))
    exact h
theorem whole_iff (m : Int) (hm : 1 ≤ m) (ps : List (Int × Int)) (hok : OkPairs ps) (k : Nat) (hk : k ≤ ps.length) : (qK m ps k).2 = 1 ↔ (arbK ps k).2 ∣ m := by
  rw [qK_eq m hm ps hok k hk]
  have hb := arbK_bd ps hok k hk
  exact lowR_den _ _ m hm hb.1.1 hb.2.1 (arbK_low ps hok k hk)
theorem cycL_dvd (m : Int) (rs : List (Int × Int)) : (∀ r, r ∈ rs → r.2 ∣ m) → cycL rs ∣ m := by
  have key : ∀ (rs : List (Int × Int)) (n : Int), n ∣ m → (∀ r, r ∈ rs → r.2 ∣ m) → rs.foldl (fun n r => (Int.lcm n r.2 : Int)) n ∣ m := by
    intro rs
    induction rs with
    | nil => intro n h _; exact h
    | cons r rs ih => intro n h1 h2; exact ih _ (lcm_dvd_of h1 (h2 r (by simp))) fun x hx => h2 x (by simp [hx])
  exact key rs 1 (Int.one_dvd _)
theorem dvd_cycL (rs : List (Int × Int)) : ∀ r, r ∈ rs → r.2 ∣ cycL rs := by
  have key : ∀ (rs : List (Int × Int)) (n : Int), n ∣ rs.foldl (fun n r => (Int.lcm n r.2 : Int)) n ∧ ∀ r, r ∈ rs → r.2 ∣ rs.foldl (fun n r => (Int.lcm n r.2 : Int)) n := by
    intro rs
    induction rs with
    | nil => intro n; exact ⟨Int.dvd_refl _, fun r h => by simp at h⟩
    | cons r rs ih =>
      intro n
      obtain ⟨h1, h2⟩ := ih (Int.lcm n r.2 : Int)
      refine ⟨Int.dvd_trans (Int.dvd_lcm_left ..) h1, fun x hx => ?_⟩
      rcases List.mem_cons.1 hx with rfl | hx
      · exact Int.dvd_trans (Int.dvd_lcm_right ..) h1
      · exact h2 x hx
  exact fun r hr => (key rs 1).2 r hr
/-- After m turns all arbors have made whole turns just when the cycle divides m. -/
theorem cycle_iff (m : Int) (hm : 1 ≤ m) (ps : List (Int × Int)) (hok : OkPairs ps) : (∀ k, k < ps.length → (qK m ps (k + 1)).2 = 1) ↔ cycL (arbs ps) ∣ m := by
  constructor
  · intro h
    refine cycL_dvd m _ fun r hr => ?_
    obtain ⟨k, hk, rfl⟩ := arbs_mem hr
    cases k with
    | zero => simp [arbK]
    | succ k => exact (whole_iff m hm ps hok _ hk).1 (h k (by omega))
  · intro h k hk
    refine (whole_iff m hm ps hok (k + 1) (by omega)).2 (Int.dvd_trans (dvd_cycL _ _ ?_) h)
    simp only [arbs, List.mem_map, List.mem_range]
    exact ⟨k + 1, by omega, rfl⟩
/-- Only the products count. -/
theorem arbK_prod (ps : List (Int × Int)) (hok : OkPairs ps) : ∀ k, k ≤ ps.length → arbK ps k = lowR (prodI ((ps.take k).map (·.1))) (prodI ((ps.take k).map (·.2))) := by
  intro k
  induction k with
  | zero => intro _; simp [arbK, prodI, lowR]
  | succ k ih =>
    intro hk
    have ih := ih (by omega)
    have hpos : ∀ f : Int × Int → Int, (∀ p, p ∈ ps → 1 ≤ f p) → 1 ≤ prodI ((ps.take k).map f) := fun f hf => prodI_pos _ fun x hx => by
      obtain ⟨p, hp, rfl⟩ := List.mem_map.1 hx
      exact hf p (List.mem_of_mem_take hp)
    have q1 := hpos (·.1) fun p hp => by have := hok.2 p hp; omega
    have q2 := hpos (·.2) fun p hp => by have := hok.2 p hp; omega
    rw [arbK_succ ps k (by omega), List.take_succ_eq_append_getElem (by omega), List.map_append, List.map_append, List.map_cons, List.map_cons, List.map_nil, List.map_nil, prodI_snoc, prodI_snoc, ih]
    have ho := hok.2 ps[k] (List.getElem_mem _)
    generalize ps[k] = p at ho
    generalize prodI ((ps.take k).map (·.1)) = x at q1
    generalize prodI ((ps.take k).map (·.2)) = y at q2
    obtain ⟨p1, p2⟩ := p
    simp only at *
    have pos : ∀ {x y : Int}, 1 ≤ x → 1 ≤ y → 1 ≤ x * y := fun hx hy => by
      have := Int.mul_le_mul hx hy (by omega) (by omega); simpa using this
    obtain ⟨g, g1, e1, e2, _, e4, e5⟩ := lowR_spec x y q1 q2
    generalize lowR x y = r at *
    obtain ⟨r1, r2⟩ := r
    simp only at *
    refine lowR_eq (pos e4 (by omega)) (pos e5 (by omega)) (pos q1 (by omega)) (pos q2 (by omega)) ?_
    rw [e1, e2]; ac_rfl
def wh (m : Int) (ps : List (Int × Int)) (k : Nat) : Bool := (List.range k).all fun j => decide ((qK m ps (j + 1)).2 = 1)
theorem wh_succ (m : Int) (ps : List (Int × Int)) (k : Nat) : wh m ps (k + 1) = (wh m ps k && decide ((qK m ps (k + 1)).2 = 1)) := by
  simp [wh, List.range_succ]
theorem wh_iff (m : Int) (hm : 1 ≤ m) (ps : List (Int × Int)) (hok : OkPairs ps) : wh m ps ps.length = decide (m % cycL (arbs ps) = 0) := by
  rw [Bool.eq_iff_iff, decide_eq_true_iff, ← Int.dvd_iff_emod_eq_zero, ← cycle_iff m hm ps hok]
  simp [wh]
theorem prodI_le (l : List Int) (h : ∀ x, x ∈ l → 1 ≤ x ∧ x ≤ 400) : 1 ≤ prodI l ∧ prodI l ≤ 400 ^ l.length := by
  induction l with
  | nil => simp [prodI]
  | cons a l ih =>
    obtain ⟨h1, h2⟩ := ih fun x hx => h x (by simp [hx])
    obtain ⟨h3, h4⟩ := h a (by simp)
    have e1 := Int.mul_le_mul h3 h1 (by omega) (by omega)
    have e2 := Int.mul_le_mul h4 h2 (by omega) (by omega)
    simp only [prodI, List.length_cons, Int.pow_succ]
    refine ⟨by omega, ?_⟩
    rw [Int.mul_comm (400 ^ l.length)]
    exact e2
theorem pow3 (k : Nat) (hk : k ≤ 3) : (400 : Int) ^ k ≤ 64000000 := by
  have : k = 0 ∨ k = 1 ∨ k = 2 ∨ k = 3 := by omega
  rcases this with rfl | rfl | rfl | rfl <;> decide
theorem pins3 (ps : List (Int × Int)) (h : OkPairs ps) (h3 : ps.length ≤ 3) : pins ps ≤ 64000000 := by
  have := (prodI_le (ps.map (·.2)) fun x hx => by
    obtain ⟨p, hp, rfl⟩ := List.mem_map.1 hx
    have := h.2 p hp
    omega).2
  rw [List.length_map] at this
  exact Int.le_trans this (pow3 _ h3)
theorem qK_bd (m : Int) (hm : 1 ≤ m) (ps : List (Int × Int)) (h : OkPairs ps) : ∀ k, k ≤ ps.length → (1 ≤ (qK m ps k).1 ∧ (qK m ps k).1 ≤ m * 400 ^ k) ∧ (1 ≤ (qK m ps k).2 ∧ (qK m ps k).2 ≤ 400 ^ k) := by
  intro k
  induction k with
  | zero => intro _; simp [qK, hm]
  | succ k ih =>
    intro hk
    obtain ⟨⟨a1, a2⟩, b1, b2⟩ := ih (by omega)
    have ho := h.2 ps[k] (List.getElem_mem _)
    rw [qK_succ m ps k (by omega)]
    have e1 := Int.mul_le_mul a1 (show 1 ≤ ps[k].1 by omega) (by omega) (by omega)
    have e2 := Int.mul_le_mul a2 ho.1.2 (by omega) (Int.le_trans (by omega) a2)
    have e3 := Int.mul_le_mul b1 (show 1 ≤ ps[k].2 by omega) (by omega) (by omega)
    have e4 := Int.mul_le_mul b2 ho.2.2 (by omega) (Int.le_trans (by omega) b2)
    refine lowR_bd _ _ _ _ (by omega) (by omega) ?_ ?_
    · rw [Int.pow_succ, ← Int.mul_assoc]; exact e2
    · rw [Int.pow_succ]; exact e4
end Tn
end Go.Proofs.YtoecekncncbjgaaGreat
