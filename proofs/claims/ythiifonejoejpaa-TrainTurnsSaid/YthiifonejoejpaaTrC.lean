/- Products and ratios. -/
import Derived.Test.YthiifonejoejpaaTrB
import Derived.RegionTactic
import Derived.ChangeAlike
import Derived.Laws.ResultCell
import Derived.Deep.QuietTactic
namespace Go.Proofs.Ythiifonejoejpaa
open Go.RowKit Go.Shelf

def prodI : List Int → Int
  | [] => 1
  | x :: xs => x * prodI xs
theorem prodI_snoc (xs : List Int) (x : Int) : prodI (xs ++ [x]) = prodI xs * x := by
  induction xs with
  | nil => simp [prodI]
  | cons a l ih => simp only [List.cons_append, prodI, ih, Int.mul_assoc]
theorem prodI_append (xs ys : List Int) : prodI (xs ++ ys) = prodI xs * prodI ys := by
  induction xs with
  | nil => simp [prodI]
  | cons a l ih => simp only [List.cons_append, prodI, ih, Int.mul_assoc]
theorem prodI_take_succ (xs : List Int) (k : Nat) (h : k < xs.length) : prodI (xs.take (k + 1)) = prodI (xs.take k) * xs[k] := by
  rw [List.take_succ_eq_append_getElem h, prodI_snoc]
theorem prodI_pos (xs : List Int) (h : ∀ x, x ∈ xs → 1 ≤ x) : 1 ≤ prodI xs := by
  induction xs with
  | nil => simp [prodI]
  | cons a l ih =>
    have h1 := h a (by simp)
    have h2 := ih fun x hx => h x (by simp [hx])
    have := Int.mul_le_mul h1 h2 (by omega) (by omega)
    simpa [prodI] using this
theorem prodI_take_le (xs : List Int) (h : ∀ x, x ∈ xs → 1 ≤ x) (k : Nat) : prodI (xs.take k) ≤ prodI xs := by
  have e : xs = xs.take k ++ xs.drop k := (List.take_append_drop k xs).symm
  have h1 := prodI_pos (xs.take k) fun x hx => h x (List.mem_of_mem_take hx)
  have h2 := prodI_pos (xs.drop k) fun x hx => h x (List.mem_of_mem_drop hx)
  have h3 : prodI xs = prodI (xs.take k) * prodI (xs.drop k) := by rw [← prodI_append, List.take_append_drop]
  rw [h3]
  have := Int.mul_le_mul_of_nonneg_left h2 (show 0 ≤ prodI (xs.take k) by omega)
  omega

set_option maxHeartbeats 400000 in
theorem product_any (Z : Nat → Prop) (v : Value) (xs : List Int) (w : World) (hI : Ints Z w v xs) (hpos : ∀ x, x ∈ xs → 1 ≤ x) (hbd : prodI xs ≤ 9223372036854775807) :
    Calls Try.prog 67 #[v] w fun e w' => e = .returned (.int .i64 (prodI xs)) ∧ w' = w := by
  obtain ⟨A, cap, rfl, _, _, hA⟩ := hI
  have hlen := hA.1
  have HP := Lib.hid hpos
  clear hpos
  go_enter Try.func67, Try.ntmps67
  go_wp2
  go_loop [3, 8] (fun n i => ∃ k : Nat, k ≤ xs.length ∧ i = .int .i64 k ∧ n = .int .i64 (prodI (xs.take k))) (fun _ i => xs.length - (intOf i).toNat)
  case atStart => exact ⟨0, Nat.zero_le _, rfl, rfl⟩
  case round =>
    obtain ⟨k, hk, rfl, rfl⟩ := hrel
    by_cases hlt : k < xs.length
    · have hlt' : (k : Int) < (xs.length : Int) := by omega
      obtain ⟨b, off, rfl, hc⟩ := hA.at_ hlt
      have h1 := prodI_take_le xs HP.out (k + 1)
      have h2 := prodI_pos (xs.take (k + 1)) fun x hx => HP.out x (List.mem_of_mem_take hx)
      have hstep := prodI_take_succ xs k hlt
      rw [hstep] at h1 h2
      have HS := Lib.hid hstep
      clear hstep
      generalize xs[k] = x at hc h1 h2 HS
      go_wp2
      go_round
      case rel => exact ⟨k + 1, by omega, by go_num, by rw [HS.out]⟩
      case measure => simp [intOf]; omega
    · have hlt' : ¬ (k : Int) < (xs.length : Int) := by omega
      go_wp2
      go_ret
      have : k = xs.length := by omega
      subst this
      exact ⟨ret_int (by rw [List.take_length]), rfl⟩

/-- A ratio in lowest terms. -/
def lowR (a b : Int) : Int × Int := (a / Int.gcd a b, b / Int.gcd a b)
def encR (r : Int × Int) : Value := .agg #[.int .i64 r.1, .int .i64 r.2]

theorem gcd_pos_of (a b : Int) (hb : 1 ≤ b) : 1 ≤ (Int.gcd a b : Int) := by
  have : Int.gcd a b ≠ 0 := by
    intro h
    rw [Int.gcd_eq_zero_iff] at h
    omega
  omega
theorem gcd_le_of (a b : Int) (ha : 1 ≤ a) : (Int.gcd a b : Int) ≤ a := Int.le_of_dvd (by omega) (Int.gcd_dvd_left ..)
theorem gcd_le_of' (a b : Int) (hb : 1 ≤ b) : (Int.gcd a b : Int) ≤ b := Int.le_of_dvd (by omega) (Int.gcd_dvd_right ..)

set_option maxHeartbeats 400000 in
theorem lowest_any (a b : Int) (w : World) (ha : 1 ≤ a) (hb : 1 ≤ b) (ha2 : a ≤ 9223372036854775807) (hb2 : b ≤ 9223372036854775807) :
    Calls Try.prog 66 #[.agg #[.int .i64 a, .int .i64 b]] w fun e w' => e = .returned (encR (lowR a b)) ∧ Below w.heap.size w w' := by
  have hg := gcd_pos_of a b hb
  have hgd : encR (lowR a b) = .agg #[.int .i64 (a / Int.gcd a b), .int .i64 (b / Int.gcd a b)] := rfl
  have HG := Lib.hid hgd
  clear hgd
  have hgcd := gcd_any a b
  generalize Int.gcd a b = g at hg hgcd HG
  go_enter Try.func66, Try.ntmps66
  go_wp2_with (go_at_call 68; refine (hgcd _ (by omega) (by omega) (by omega) (by omega)).mono ?_; rintro e w' ⟨rfl, n, rfl⟩)
  have hne : ¬ (g : Int) = 0 := by omega
  go_region
  all_goals go_wp2
  refine bodyPost_ret (v := .agg #[.int .i64 (a / g), .int .i64 (b / g)]) (by simp [results, Try.results66, go_sem]) rfl ⟨by rw [HG.out], ?_⟩
  exact ((below_drewN (((Below.refl _ _).alloc (Nat.le_refl _) _).alloc (by simp) _) _).setCell (by simp) _).setCell (by simp) _

set_option maxHeartbeats 400000 in
theorem leastMultiple_any (a b : Int) (w : World) (ha : 1 ≤ a) (hb : 1 ≤ b) (hab : a / Int.gcd a b * b ≤ 9223372036854775807) (ha2 : a ≤ 9223372036854775807) (hb2 : b ≤ 9223372036854775807) :
    Calls Try.prog 42 #[.int .i64 a, .int .i64 b] w fun e w' => e = .returned (.int .i64 (a / Int.gcd a b * b)) ∧ ∃ n, w' = w.drewN n := by
  have hg := gcd_pos_of a b hb
  have hgcd := gcd_any a b
  generalize Int.gcd a b = g at hg hgcd hab ⊢
  have hne : ¬ (g : Int) = 0 := by omega
  have hq : 0 ≤ a / g := Int.ediv_nonneg (by omega) (by omega)
  have hq3 : a / g ≤ 9223372036854775807 := Int.le_trans (Int.ediv_le_self _ (by omega)) ha2
  have hq2 : 0 ≤ a / g * b := Int.mul_nonneg hq (by omega)
  go_enter Try.func42, Try.ntmps42
  go_wp2_with (go_at_call 68; refine (hgcd _ (by omega) (by omega) (by omega) (by omega)).mono ?_; rintro e w' ⟨rfl, n, rfl⟩)
  go_ret
  exact ⟨rfl, n, rfl⟩

set_option maxHeartbeats 400000 in
theorem less_any (a b c d : Int) (w : World) (h1 : -9223372036854775808 ≤ a * d) (h2 : a * d ≤ 9223372036854775807) (h3 : -9223372036854775808 ≤ c * b) (h4 : c * b ≤ 9223372036854775807) :
    Calls Try.prog 58 #[.agg #[.int .i64 a, .int .i64 b], .agg #[.int .i64 c, .int .i64 d]] w fun e w' => e = .returned (.bool (decide (a * d < c * b))) ∧ Below w.heap.size w w' := by
  go_enter Try.func58, Try.ntmps58
  go_wp2
  go_ret
  exact ⟨rfl, ((Below.refl _ _).alloc (Nat.le_refl _) _).alloc (by simp) _⟩

set_option maxHeartbeats 400000 in
theorem refTeeth_any (n : Int) (w : World) : Calls Try.prog 43 #[.int .i64 n] w fun e w' => e = .returned (.bool (!badT n)) ∧ w = w' := by
  by_cases h1 : 6 ≤ n
  · go_enter Try.func43, Try.ntmps43
    go_wp2
    go_ret
    exact ⟨ret_bool (by by_cases h2 : n ≤ 400 <;> simp [badT, h1, h2] <;> omega), rfl⟩
  · go_enter Try.func43, Try.ntmps43
    go_wp2
    go_ret
    exact ⟨ret_bool (by simp [badT]; omega), rfl⟩

set_option maxHeartbeats 400000 in
theorem refLowest_any (a b : Int) (w : World) (ha : 1 ≤ a) (hb : 1 ≤ b) (ha2 : a ≤ 9223372036854775807) (hb2 : b ≤ 9223372036854775807) :
    Calls Try.prog 23 #[.int .i64 a, .int .i64 b] w fun e w' => e = .returned (encR (lowR a b)) ∧ Below w.heap.size w w' := by
  have hg := gcd_pos_of a b hb
  have hgd : encR (lowR a b) = .agg #[.int .i64 (a / Int.gcd a b), .int .i64 (b / Int.gcd a b)] := rfl
  have HG := Lib.hid hgd
  clear hgd
  have hgcd := refGcd_any a b
  generalize Int.gcd a b = g at hg hgcd HG
  have hne : ¬ (g : Int) = 0 := by omega
  go_enter Try.func23, Try.ntmps23
  go_wp2_with (go_at_call 44; refine (hgcd _ (by omega) (by omega) (by omega) (by omega)).mono ?_; rintro e w' ⟨rfl, n, rfl⟩)
  go_region
  all_goals go_wp2
  refine bodyPost_ret (v := .agg #[.int .i64 (a / g), .int .i64 (b / g)]) (by simp [results, Try.results23, go_sem]) rfl ⟨by rw [HG.out], ?_⟩
  exact ((below_drewN ((Below.refl _ _).alloc (Nat.le_refl _) _) _).setCell (by simp) _).setCell (by simp) _

set_option maxHeartbeats 400000 in
theorem refProduct_any (Z : Nat → Prop) (v : Value) (xs : List Int) (w : World) (hI : Ints Z w v xs) (hpos : ∀ x, x ∈ xs → 1 ≤ x) (hbd : prodI xs ≤ 9223372036854775807) :
    Calls Try.prog 80 #[v] w fun e w' => e = .returned (.int .i64 (prodI xs)) ∧ w' = w := by
  obtain ⟨A, cap, rfl, _, _, hA⟩ := hI
  have hlen := hA.1
  have HP := Lib.hid hpos
  clear hpos
  go_enter Try.func80, Try.ntmps80
  go_wp2
  go_loop [3, 4] (fun n i => ∃ k : Nat, k ≤ xs.length ∧ i = .int .i64 k ∧ n = .int .i64 (prodI (xs.take k))) (fun _ i => xs.length - (intOf i).toNat)
  case atStart => exact ⟨0, Nat.zero_le _, rfl, rfl⟩
  case round =>
    obtain ⟨k, hk, rfl, rfl⟩ := hrel
    by_cases hlt : k < xs.length
    · have hlt' : (k : Int) < (xs.length : Int) := by omega
      obtain ⟨b, off, rfl, hc⟩ := hA.at_ hlt
      have h1 := prodI_take_le xs HP.out (k + 1)
      have h2 := prodI_pos (xs.take (k + 1)) fun x hx => HP.out x (List.mem_of_mem_take hx)
      have hstep := prodI_take_succ xs k hlt
      rw [hstep] at h1 h2
      have HS := Lib.hid hstep
      clear hstep
      generalize xs[k] = x at hc h1 h2 HS
      go_wp2
      go_round
      case rel => exact ⟨k + 1, by omega, by go_num, by rw [HS.out]⟩
      case measure => simp [intOf]; omega
    · have hlt' : ¬ (k : Int) < (xs.length : Int) := by omega
      go_wp2
      go_ret
      have : k = xs.length := by omega
      subst this
      exact ⟨ret_int (by rw [List.take_length]), rfl⟩

/-- A call that computes only, in a region that draws. -/
theorem quiet_here {P : Program} {f : FuncId} {args : Array Value} {w : World} {n : Nat} {v : Value} (h : Calls P f args (w.drewN n) fun e w' => e = .returned v ∧ w' = w.drewN n) :
    Calls P f args (w.drewN n) fun e w' => e = .returned v ∧ ∃ m, w' = w.drewN m := h.mono fun _ _ h => ⟨h.1, n, h.2⟩

set_option maxHeartbeats 400000 in
theorem gap_any (Z : Nat → Prop) (ws ps tw tp : Value) (num den : Int) (xs ys : List Int) (w : World) (hx : Ints Z w tw xs) (hy : Ints Z w tp ys) (hxp : ∀ x, x ∈ xs → 1 ≤ x) (hyp : ∀ x, x ∈ ys → 1 ≤ x)
    (h1 : 0 ≤ prodI xs * den) (h2 : prodI xs * den ≤ 4611686018427387904) (h3 : 0 ≤ prodI ys * num) (h4 : prodI ys * num ≤ 4611686018427387904) (h5 : prodI xs ≤ 4611686018427387904) (h6 : prodI ys ≤ 4611686018427387904) :
    Calls Try.prog 57 #[.agg #[ws, ps, .int .i64 num, .int .i64 den], .agg #[tw, tp]] w fun e w' =>
      e = .returned (encR (max (prodI xs * den - prodI ys * num) (-(prodI xs * den - prodI ys * num)), prodI ys)) ∧ Below w.heap.size w w' := by
  have hX : ∀ W, Below w.heap.size w W → Calls Try.prog 67 #[tw] W fun e w' => e = .returned (.int .i64 (prodI xs)) ∧ w' = W := fun W hb => product_any Z tw xs W (hx.grow hb) hxp (by omega)
  have hY : ∀ W, Below w.heap.size w W → Calls Try.prog 67 #[tp] W fun e w' => e = .returned (.int .i64 (prodI ys)) ∧ w' = W := fun W hb => product_any Z tp ys W (hy.grow hb) hyp (by omega)
  have hxs : ∃ A n cap, tw = .slice A n cap := let ⟨A, cap, h, _⟩ := hx; ⟨A, _, cap, h⟩
  have hys : ∃ A n cap, tp = .slice A n cap := let ⟨A, cap, h, _⟩ := hy; ⟨A, _, cap, h⟩
  clear hx hy hxp hyp
  obtain ⟨A, m, cap, rfl⟩ := hxs
  obtain ⟨A', m', cap', rfl⟩ := hys
  generalize prodI xs = X at h1 h2 h5 hX ⊢
  generalize prodI ys = Y at h3 h4 h6 hY ⊢
  have hb0 : ∀ n, Below w.heap.size w ((((w.alloc (Obj.cells #[ws, ps, .int .i64 num, .int .i64 den] 88)).alloc (Obj.cells #[.slice A m cap, .slice A' m' cap'] 57)).alloc (Obj.cells #[.int .i64 0, .int .i64 0] 26)).drewN n) :=
    fun n => below_drewN ((((Below.refl _ _).alloc (Nat.le_refl _) _).alloc (by simp) _).alloc (by simp; omega) _) _
  have HB := Lib.hid hb0
  clear hb0
  go_enter Try.func57, Try.ntmps57
  go_wp2
  go_quiet ((go_at_call 67; first | with_reducible exact quiet_here (hX _ (HB.out _)) | with_reducible exact quiet_here (hY _ (HB.out _))))
  go_wp2
  · refine bodyPost_ret (v := .agg #[.int .i64 (-(X * den - Y * num)), .int .i64 Y]) (by simp [results, Try.results57, go_sem]) rfl ⟨?_, ((HB.out _).setCell (by simp; omega) _).setCell (by simp; omega) _⟩
    have : max (X * den - Y * num) (-(X * den - Y * num)) = -(X * den - Y * num) := by omega
    rw [this]; rfl
  · refine bodyPost_ret (v := .agg #[.int .i64 (X * den - Y * num), .int .i64 Y]) (by simp [results, Try.results57, go_sem]) rfl ⟨?_, ((HB.out _).setCell (by simp; omega) _).setCell (by simp; omega) _⟩
    have : max (X * den - Y * num) (-(X * den - Y * num)) = X * den - Y * num := by omega
    rw [this]; rfl

end Go.Proofs.Ythiifonejoejpaa
