/- What slices of integers hold in a world; an index function over them; small facts. -/
import Derived.Test.YthiifonejoejpaaKit
import Derived.BigQuiet
import Derived.Deep.QuietTactic
namespace Go.Proofs.Ythiifonejoejpaa
open Go.RowKit Go.Shelf

theorem ret_int {k : IntKind} {a b : Int} (h : a = b) : Ending.returned (.int k a) = .returned (.int k b) := by rw [h]
theorem ret_bool {a b : Bool} (h : a = b) : Ending.returned (.bool a) = .returned (.bool b) := by rw [h]

/-- At A lie the integers xs, in a block from lo on. -/
def IntsA (Z : Nat → Prop) (w : World) (A : Option Addr) (xs : List Int) : Prop :=
  xs.length ≤ 1099511627776 ∧ ∀ k, k < xs.length → ∃ b off, A = some ⟨b, off, none⟩ ∧ Z b ∧ w.cell? ⟨b, off + k, none⟩ = some (.int .i64 (xs.getD k 0))
/-- v is a slice of the integers xs, in a block from lo on. -/
def Ints (Z : Nat → Prop) (w : World) (v : Value) (xs : List Int) : Prop := ∃ A cap, v = .slice A xs.length cap ∧ xs.length ≤ cap ∧ (A = none → cap = 0) ∧ IntsA Z w A xs

section ints
variable {Z Z' : Nat → Prop} {w w' : World} {v : Value} {xs : List Int} {M : Nat → Prop} {A : Option Addr}
theorem IntsA.kept (h : IntsA Z w A xs) (hk : Kept M w w') (hM : ∀ k, M k → ¬ Z k) : IntsA Z w' A xs :=
  ⟨h.1, fun k hlt => by
    obtain ⟨b, off, hA, hb, hc⟩ := h.2 k hlt
    exact ⟨b, off, hA, hb, hk.cell hc (fun hm => hM _ hm hb)⟩⟩
theorem IntsA.grow (h : IntsA Z w A xs) (hb : Below w.heap.size w w') : IntsA Z w' A xs := h.kept (M := fun _ => False) ((Kept.grow hb).mono fun _ _ h => h) (fun _ h => h.elim)
theorem IntsA.still {B : Nat} (h : IntsA Z w A xs) (hs : Still B w w') : IntsA Z w' A xs :=
  ⟨h.1, fun k hlt => by
    obtain ⟨b, off, hA, hb, hc⟩ := h.2 k hlt
    exact ⟨b, off, hA, hb, hs.cell hc⟩⟩
theorem IntsA.mono (h : IntsA Z w A xs) (hl : ∀ b, Z b → Z' b) : IntsA Z' w A xs :=
  ⟨h.1, fun k hlt => by
    obtain ⟨b, off, hA, hb, hc⟩ := h.2 k hlt
    exact ⟨b, off, hA, hl _ hb, hc⟩⟩
theorem IntsA.at_ (h : IntsA Z w A xs) {k : Nat} (hk : k < xs.length) : ∃ b off, A = some ⟨b, off, none⟩ ∧ w.cell? ⟨b, off + k, none⟩ = some (.int .i64 xs[k]) := by
  obtain ⟨b, off, hA, _, hc⟩ := h.2 k hk
  exact ⟨b, off, hA, by rw [hc]; simp [hk]⟩
theorem Ints.kept (h : Ints Z w v xs) (hk : Kept M w w') (hM : ∀ k, M k → ¬ Z k) : Ints Z w' v xs := let ⟨A, cap, a, b, c, d⟩ := h; ⟨A, cap, a, b, c, d.kept hk hM⟩
theorem Ints.grow (h : Ints Z w v xs) (hb : Below w.heap.size w w') : Ints Z w' v xs := let ⟨A, cap, a, b, c, d⟩ := h; ⟨A, cap, a, b, c, d.grow hb⟩
theorem Ints.still {B : Nat} (h : Ints Z w v xs) (hs : Still B w w') : Ints Z w' v xs := let ⟨A, cap, a, b, c, d⟩ := h; ⟨A, cap, a, b, c, d.still hs⟩
theorem Ints.mono (h : Ints Z w v xs) (hl : ∀ b, Z b → Z' b) : Ints Z' w v xs := let ⟨A, cap, a, b, c, d⟩ := h; ⟨A, cap, a, b, c, d.mono hl⟩
theorem Ints.nil (Z : Nat → Prop) (w : World) : Ints Z w (.slice none 0 0) [] := ⟨none, 0, rfl, Nat.le_refl _, fun _ => rfl, by simp, fun k h => by simp at h⟩
end ints

/-- The closure value g with lb answers b at arg, whatever has been laid since. -/
def Answers (P : Program) (g : Nat) (lb : Array Value) (arg : Value) (b : Bool) (w : World) : Prop :=
  ∀ W, Below w.heap.size w W → Calls P g (#[arg] ++ lb) W fun e W' => e = .returned (.bool b) ∧ Below W.heap.size W W'
theorem Answers.later {P : Program} {g : Nat} {lb : Array Value} {arg : Value} {b : Bool} {w w' : World} (h : Answers P g lb arg b w) (hb : Below w.heap.size w w') : Answers P g lb arg b w' :=
  fun W hW => h W (hb.trans (hW.mono hb.size))
/-- .. at each element of xs, as enc gives it. -/
def AnswersAll {α : Type} (P : Program) (g : Nat) (lb : Array Value) (enc : α → Value) (p : α → Bool) (xs : List α) (w : World) : Prop := ∀ x, x ∈ xs → Answers P g lb (enc x) (p x) w

/-- An index, 0 or more just if b. -/
def IsIdx (b : Bool) (e : Ending) : Prop := ∃ r : Int, e = .returned (.int .i64 r) ∧ decide (0 ≤ r) = b

theorem any_take_succ {α : Type} (p : α → Bool) (xs : List α) (k : Nat) (h : k < xs.length) : (xs.take (k + 1)).any p = ((xs.take k).any p || p xs[k]) := by
  rw [List.take_succ_eq_append_getElem h, List.any_append]; simp

set_option maxHeartbeats 400000 in
theorem idxI (g : Nat) (lb : Array Value) (eg : ∀ args w, (callFunc g args).run Try.prog w = .ok (.enter g args) w) (p : Int → Bool) (Z : Nat → Prop) (v : Value) (xs : List Int) (w : World) (hI : Ints Z w v xs)
    (hp : AnswersAll Try.prog g lb (.int .i64) p xs w) :
    Calls Try.prog 86 #[v, .func (.func g) #[] lb] w fun e w' => IsIdx (xs.any p) e ∧ Below w.heap.size w w' := by
  obtain ⟨A, cap, rfl, _, _, hA⟩ := hI
  have hlen := hA.1
  go_enter Try.func86, Try.ntmps86
  go_wp2
  go_loopw [8] (fun i wr => ∃ k : Nat, k ≤ xs.length ∧ i = .int .i64 k ∧ Hid ((xs.take k).any p = false) ∧ Below w.heap.size w wr) (fun i _ => xs.length - (intOf i).toNat)
  case atStart => exact ⟨0, Nat.zero_le _, rfl, by simp [Hid], Below.refl _ _⟩
  case round =>
    obtain ⟨k, hk, rfl, hno, hb⟩ := hrel
    by_cases hlt : k < xs.length
    · have hlt' : (k : Int) < (xs.length : Int) := by omega
      obtain ⟨b, off, rfl, hc⟩ := (hA.grow hb).at_ hlt
      have hans := hp xs[k] (List.getElem_mem hlt) _ hb
      have hmem := List.getElem_mem hlt
      have hstep := any_take_succ p xs k hlt
      generalize xs[k] = x at hc hans hmem hstep
      cases hq : p x with
      | true =>
        rw [hq] at hans
        clear hstep
        go_wp2_with (go_at_fn g; refine hans.mono ?_; rintro e w' ⟨rfl, hb'⟩)
        go_ret
        have hany : xs.any p = true := List.any_eq_true.2 ⟨_, hmem, hq⟩
        exact ⟨⟨k, rfl, by rw [hany]; simp⟩, hb.trans (hb'.mono hb.size)⟩
      | false =>
        rw [hq] at hans
        rw [hno.out, hq] at hstep
        have HS := Lib.hid hstep
        clear hstep hno
        go_wp2_with (go_at_fn g; refine hans.mono ?_; rintro e w' ⟨rfl, hb'⟩)
        go_roundw
        case rel => exact ⟨k + 1, by omega, by go_num, HS, hb.trans (hb'.mono hb.size)⟩
        case measure => simp [intOf]; omega
    · have hlt' : ¬ (k : Int) < (xs.length : Int) := by omega
      go_wp2
      go_ret
      have : k = xs.length := by omega
      subst this
      exact ⟨⟨-1, rfl, by have := hno.out; rw [List.take_length] at this; rw [this]; rfl⟩, hb⟩

set_option maxHeartbeats 400000 in
theorem anyI (g : Nat) (lb : Array Value) (eg : ∀ args w, (callFunc g args).run Try.prog w = .ok (.enter g args) w) (p : Int → Bool) (Z : Nat → Prop) (v : Value) (xs : List Int) (w : World) (hI : Ints Z w v xs)
    (hp : AnswersAll Try.prog g lb (.int .i64) p xs w) :
    Calls Try.prog 74 #[v, .func (.func g) #[] lb] w fun e w' => e = .returned (.bool (xs.any p)) ∧ Below w.heap.size w w' := by
  go_enter Try.func74, Try.ntmps74
  go_wp2_with (go_at_call 86; refine (idxI g lb eg p Z v xs _ hI hp).mono ?_; rintro e w' ⟨⟨r, rfl, hr⟩, hb⟩)
  go_ret
  exact ⟨rfl, hb⟩

end Go.Proofs.Ythiifonejoejpaa
