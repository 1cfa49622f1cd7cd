/- Valid counts of teeth, and valid pairs. -/
import Derived.Test.YthiifonejoejpaaMem
import Derived.Test.YthiifonejoejpaaTrA
namespace Go.Proofs.Ythiifonejoejpaa
open Go.RowKit Go.Shelf

def badT (n : Int) : Bool := decide (n < 6) || decide (400 < n)
theorem badT_no {n : Int} (h : badT n = false) : 6 ≤ n ∧ n ≤ 400 := by
  simp [badT] at h; omega

/-- A new block of integers. -/
theorem Ints.newAt (w : World) {b n : Nat} {cs : Array Value} (hb : b = w.heap.size) (xs : List Int) (hcs : cs = (xs.map (Value.int .i64)).toArray) (hn : n = xs.length) (h : xs.length ≤ 1099511627776) :
    Ints (fun b => w.heap.size ≤ b) (w.alloc (.cells cs 3)) (.slice (some ⟨b, 0, none⟩) n n) xs := by
  subst hb hcs hn
  refine ⟨_, _, rfl, Nat.le_refl _, by simp, h, fun k hk => ⟨w.heap.size, 0, rfl, Nat.le_refl _, ?_⟩⟩
  rw [cell_of_row (w.alloc (.cells (xs.map (Value.int .i64)).toArray 3)) w.heap.size (0 + k) _ 3 (0, 0) (World.alloc_heap_new w _)]
  simp [hk]

set_option maxHeartbeats 400000 in
theorem validTeeth1 (n : Int) : ∀ w : World, Answers Try.prog 83 #[] (.int .i64 n) (badT n) w := by
  intro _ w _
  by_cases h1 : n < 6
  · go_enter Try.func83, Try.ntmps83
    go_wp2
    go_ret
    exact ⟨ret_bool (by simp [badT, h1]), Below.refl _ _⟩
  · go_enter Try.func83, Try.ntmps83
    go_wp2
    go_ret
    exact ⟨ret_bool (by simp [badT]; omega), Below.refl _ _⟩

set_option maxHeartbeats 400000 in
theorem validTeeth_any (Z : Nat → Prop) (v : Value) (xs : List Int) (w : World) (hI : Ints Z w v xs) :
    Calls Try.prog 63 #[v] w fun e w' => e = .returned (.bool (!(xs.any badT))) ∧ Below w.heap.size w w' := by
  go_enter Try.func63, Try.ntmps63
  go_wp2_with (go_at_call 74; refine (anyI 83 #[] (enters_of Try.func83 (by kernel_rfl) rfl) badT Z v xs _ hI (fun x _ => validTeeth1 x _)).mono ?_; rintro e w' ⟨rfl, hb⟩)
  go_ret
  exact ⟨rfl, hb⟩

set_option maxHeartbeats 400000 in
theorem checkPairs1 (a b : Int) : ∀ w : World, Answers Try.prog 62 #[] (.agg #[.int .i64 a, .int .i64 b]) ([a, b].any badT) w := by
  intro _ w _
  go_enter Try.func62, Try.ntmps62
  go_wp2_with (go_at_call 63; refine (validTeeth_any _ _ [a, b] _ (Ints.newAt _ (by simp) [a, b] rfl rfl (by simp))).mono ?_; rintro e w' ⟨rfl, hb⟩)
  go_ret
  exact ⟨ret_bool (by simp), (((Below.refl _ _).alloc (Nat.le_refl _) _).alloc (by simp) _).trans (hb.mono (by simp; omega))⟩

/-- At A lie the pairs ps, in a block from lo on. -/
def PairsA (Z : Nat → Prop) (w : World) (A : Option Addr) (ps : List (Int × Int)) : Prop :=
  ps.length ≤ 1099511627776 ∧ ∀ k, k < ps.length → ∃ b off, A = some ⟨b, off, none⟩ ∧ Z b ∧ w.cell? ⟨b, off + k * 2, none⟩ = some (.int .i64 (ps.getD k (0, 0)).1) ∧ w.cell? ⟨b, off + k * 2 + 1, none⟩ = some (.int .i64 (ps.getD k (0, 0)).2)
/-- v is a slice of the pairs ps, in a block from lo on. -/
def Pairs (Z : Nat → Prop) (w : World) (v : Value) (ps : List (Int × Int)) : Prop := ∃ A cap, v = .slice A ps.length cap ∧ ps.length ≤ cap ∧ (A = none → cap = 0) ∧ PairsA Z w A ps

section pairs
variable {Z Z' : Nat → Prop} {w w' : World} {v : Value} {ps : List (Int × Int)} {M : Nat → Prop} {A : Option Addr}
theorem PairsA.kept (h : PairsA Z w A ps) (hk : Kept M w w') (hM : ∀ k, M k → ¬ Z k) : PairsA Z w' A ps :=
  ⟨h.1, fun k hlt => by
    obtain ⟨b, off, hA, hb, hc, hd⟩ := h.2 k hlt
    exact ⟨b, off, hA, hb, hk.cell hc (fun hm => hM _ hm hb), hk.cell hd (fun hm => hM _ hm hb)⟩⟩
theorem PairsA.grow (h : PairsA Z w A ps) (hb : Below w.heap.size w w') : PairsA Z w' A ps := h.kept (M := fun _ => False) ((Kept.grow hb).mono fun _ _ h => h) (fun _ h => h.elim)
theorem PairsA.still {B : Nat} (h : PairsA Z w A ps) (hs : Still B w w') : PairsA Z w' A ps :=
  ⟨h.1, fun k hlt => by
    obtain ⟨b, off, hA, hb, hc, hd⟩ := h.2 k hlt
    exact ⟨b, off, hA, hb, hs.cell hc, hs.cell hd⟩⟩
theorem PairsA.at_ (h : PairsA Z w A ps) {k : Nat} (hk : k < ps.length) : ∃ b off, A = some ⟨b, off, none⟩ ∧ w.cell? ⟨b, off + k * 2, none⟩ = some (.int .i64 ps[k].1) ∧ w.cell? ⟨b, off + k * 2 + 1, none⟩ = some (.int .i64 ps[k].2) := by
  obtain ⟨b, off, hA, _, hc, hd⟩ := h.2 k hk
  exact ⟨b, off, hA, by rw [hc]; simp [hk], by rw [hd]; simp [hk]⟩
theorem Pairs.kept (h : Pairs Z w v ps) (hk : Kept M w w') (hM : ∀ k, M k → ¬ Z k) : Pairs Z w' v ps := let ⟨A, cap, a, b, c, d⟩ := h; ⟨A, cap, a, b, c, d.kept hk hM⟩
theorem Pairs.grow (h : Pairs Z w v ps) (hb : Below w.heap.size w w') : Pairs Z w' v ps := let ⟨A, cap, a, b, c, d⟩ := h; ⟨A, cap, a, b, c, d.grow hb⟩
theorem Pairs.still {B : Nat} (h : Pairs Z w v ps) (hs : Still B w w') : Pairs Z w' v ps := let ⟨A, cap, a, b, c, d⟩ := h; ⟨A, cap, a, b, c, d.still hs⟩
end pairs
def encP (p : Int × Int) : Value := .agg #[.int .i64 p.1, .int .i64 p.2]

set_option maxHeartbeats 400000 in
theorem idxP (g : Nat) (lb : Array Value) (eg : ∀ args w, (callFunc g args).run Try.prog w = .ok (.enter g args) w) (p : Int × Int → Bool) (Z : Nat → Prop) (v : Value) (xs : List (Int × Int)) (w : World) (hI : Pairs Z w v xs)
    (hp : AnswersAll Try.prog g lb encP p xs w) :
    Calls Try.prog 84 #[v, .func (.func g) #[] lb] w fun e w' => IsIdx (xs.any p) e ∧ Below w.heap.size w w' := by
  obtain ⟨A, cap, rfl, _, _, hA⟩ := hI
  have hlen := hA.1
  go_enter Try.func84, Try.ntmps84
  go_wp2
  go_loopw [8] (fun i wr => ∃ k : Nat, k ≤ xs.length ∧ i = .int .i64 k ∧ Hid ((xs.take k).any p = false) ∧ Below w.heap.size w wr) (fun i _ => xs.length - (intOf i).toNat)
  case atStart => exact ⟨0, Nat.zero_le _, rfl, by simp [Hid], Below.refl _ _⟩
  case round =>
    obtain ⟨k, hk, rfl, hno, hb⟩ := hrel
    by_cases hlt : k < xs.length
    · have hlt' : (k : Int) < (xs.length : Int) := by omega
      obtain ⟨b, off, rfl, hc, hd⟩ := (hA.grow hb).at_ hlt
      have hans := hp xs[k] (List.getElem_mem hlt) _ hb
      have hmem := List.getElem_mem hlt
      have hstep := any_take_succ p xs k hlt
      generalize xs[k] = x at hc hd hans hmem hstep
      obtain ⟨x1, x2⟩ := x
      simp only [encP] at hc hd hans
      cases hq : p (x1, x2) with
      | true =>
        rw [hq] at hans
        clear hstep
        go_wp2_with (go_at_fn g; refine hans.mono ?_; rintro e w' ⟨rfl, hb'⟩)
        go_ret
        have hany : xs.any p = true := List.any_eq_true.2 ⟨_, hmem, hq⟩
        exact ⟨⟨k, rfl, by rw [hany]; simp⟩, hb.trans (hb'.mono hb.size)⟩
      | false =>
        rw [hq] at hans
        rw [hno.out, hq] at hstep
        have HS := Lib.hid hstep
        clear hstep hno
        go_wp2_with (go_at_fn g; refine hans.mono ?_; rintro e w' ⟨rfl, hb'⟩)
        go_roundw
        case rel => exact ⟨k + 1, by omega, by go_num, HS, hb.trans (hb'.mono hb.size)⟩
        case measure => simp [intOf]; omega
    · have hlt' : ¬ (k : Int) < (xs.length : Int) := by omega
      go_wp2
      go_ret
      have : k = xs.length := by omega
      subst this
      exact ⟨⟨-1, rfl, by have := hno.out; rw [List.take_length] at this; rw [this]; rfl⟩, hb⟩

set_option maxHeartbeats 400000 in
theorem anyP (g : Nat) (lb : Array Value) (eg : ∀ args w, (callFunc g args).run Try.prog w = .ok (.enter g args) w) (p : Int × Int → Bool) (Z : Nat → Prop) (v : Value) (xs : List (Int × Int)) (w : World) (hI : Pairs Z w v xs)
    (hp : AnswersAll Try.prog g lb encP p xs w) :
    Calls Try.prog 64 #[v, .func (.func g) #[] lb] w fun e w' => e = .returned (.bool (xs.any p)) ∧ Below w.heap.size w w' := by
  go_enter Try.func64, Try.ntmps64
  go_wp2_with (go_at_call 84; refine (idxP g lb eg p Z v xs _ hI hp).mono ?_; rintro e w' ⟨⟨r, rfl, hr⟩, hb⟩)
  go_ret
  exact ⟨rfl, hb⟩

/-- The error of pairs: 0, 5 (too many) or 2 (a count that is not valid). -/
def pairsErr (ps : List (Int × Int)) : Int := if 6 < ps.length then 5 else if ps.any (fun p => [p.1, p.2].any badT) then 2 else 0

set_option maxHeartbeats 400000 in
theorem checkPairs_any (Z : Nat → Prop) (v : Value) (ps : List (Int × Int)) (w : World) (hI : Pairs Z w v ps) :
    Calls Try.prog 40 #[v] w fun e w' => e = .returned (.int .i64 (pairsErr ps)) ∧ Below w.heap.size w w' := by
  have hI' := hI
  obtain ⟨A, cap, rfl, _, _, hA⟩ := hI
  have hlen := hA.1
  by_cases h6 : 6 < ps.length
  · have h6' : (6 : Int) < (ps.length : Int) := by omega
    go_enter Try.func40, Try.ntmps40
    go_wp2_with fail
    go_ret
    exact ⟨ret_int (by simp [pairsErr, h6]), Below.refl _ _⟩
  · have h6' : ¬ (6 : Int) < (ps.length : Int) := by omega
    have hcon := fun W => anyP 62 #[] (enters_of Try.func62 (by kernel_rfl) rfl) (fun p => [p.1, p.2].any badT) Z (.slice A ps.length cap) ps W
    cases hq : ps.any (fun p => [p.1, p.2].any badT) with
    | true =>
      rw [hq] at hcon
      go_enter Try.func40, Try.ntmps40
      go_wp2_with (go_at_call 64; refine (hcon _ hI' (fun x _ => checkPairs1 x.1 x.2 _)).mono ?_; rintro e w' ⟨rfl, hb⟩)
      go_ret
      exact ⟨ret_int (by simp only [pairsErr, if_neg h6, hq]; rfl), hb⟩
    | false =>
      rw [hq] at hcon
      go_enter Try.func40, Try.ntmps40
      go_wp2_with (go_at_call 64; refine (hcon _ hI' (fun x _ => checkPairs1 x.1 x.2 _)).mono ?_; rintro e w' ⟨rfl, hb⟩)
      go_ret
      exact ⟨ret_int (by simp only [pairsErr, if_neg h6, hq]; rfl), hb⟩

end Go.Proofs.Ythiifonejoejpaa
