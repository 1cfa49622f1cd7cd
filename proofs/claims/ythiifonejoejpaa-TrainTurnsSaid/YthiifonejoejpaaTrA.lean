/- Leaf functions of package train and of its reference: greatest common divisors. -/
import Derived.Test.YthiifonejoejpaaRows
import Derived.WalkKit
import Derived.WalkSpells
import Derived.WalkLawsBesides
import Derived.BigQuiet
import Derived.Deep.QuietTactic
import Derived.Lib.Hide
namespace Go.Proofs.Ythiifonejoejpaa
open Go.RowKit

theorem gcd_step (a b : Int) : Int.gcd b (a % b) = Int.gcd a b := by
  rw [Int.emod_def, Int.gcd_sub_mul_left_right, Int.gcd_comm]

set_option maxHeartbeats 400000 in
theorem gcd_any (a b : Int) (w : World) (ha : 0 ≤ a) (hb : 0 ≤ b) (ha2 : a ≤ 9223372036854775807) (hb2 : b ≤ 9223372036854775807) :
    Calls Try.prog 68 #[.int .i64 a, .int .i64 b] w fun e w' => e = .returned (.int .i64 (Int.gcd a b)) ∧ ∃ n, w' = w.drewN n := by
  go_enter Try.func68, Try.ntmps68
  go_wp2
  go_loopw [0, 1] (fun x y wr => ∃ (p q : Int) (n : Nat), x = .int .i64 p ∧ y = .int .i64 q ∧ 0 ≤ p ∧ 0 ≤ q ∧ p ≤ 9223372036854775807 ∧ q ≤ 9223372036854775807 ∧ Int.gcd p q = Int.gcd a b ∧ wr = w.drewN n) (fun _ y _ => (intOf y).toNat)
  case atStart => exact ⟨a, b, 0, rfl, rfl, ha, hb, ha2, hb2, rfl, rfl⟩
  case round =>
    obtain ⟨p, q, n, rfl, rfl, hp, hq, hp2, hq2, hg, rfl⟩ := hrel
    have Hg := Lib.hid hg
    clear hg
    by_cases hz : q = 0
    · have hz' : (q != 0) = false := by simp [hz]
      go_wp2
      subst hz
      go_ret
      exact ⟨by rw [← Hg.out]; simp [Int.gcd, Int.natAbs_of_nonneg hp], _, rfl⟩
    · have hz' : (q != 0) = true := by simp [hz]
      have hpos : 1 ≤ q := by omega
      go_wp2
      go_quiet (fail)
      go_wp2
      go_roundw
      case rel => exact ⟨q, p % q, _, rfl, rfl, hq, Int.emod_nonneg _ hz, hq2, by have := Int.emod_lt_of_pos p (show 0 < q by omega); omega, by rw [gcd_step]; exact Hg.out, World.drewN_drewN _ _ _⟩
      case measure => simp only [intOf]; have := Int.emod_lt_of_pos p (show 0 < q by omega); have := Int.emod_nonneg p hz; omega

set_option maxHeartbeats 400000 in
theorem refGcd_any (a b : Int) (w : World) (ha : 0 ≤ a) (hb : 0 ≤ b) (ha2 : a ≤ 9223372036854775807) (hb2 : b ≤ 9223372036854775807) :
    Calls Try.prog 44 #[.int .i64 a, .int .i64 b] w fun e w' => e = .returned (.int .i64 (Int.gcd a b)) ∧ ∃ n, w' = w.drewN n := by
  go_enter Try.func44, Try.ntmps44
  go_wp2
  go_loopw [0, 1] (fun x y wr => ∃ (p q : Int) (n : Nat), x = .int .i64 p ∧ y = .int .i64 q ∧ 0 ≤ p ∧ 0 ≤ q ∧ p ≤ 9223372036854775807 ∧ q ≤ 9223372036854775807 ∧ Int.gcd p q = Int.gcd a b ∧ wr = w.drewN n) (fun _ y _ => (intOf y).toNat)
  case atStart => exact ⟨a, b, 0, rfl, rfl, ha, hb, ha2, hb2, rfl, rfl⟩
  case round =>
    obtain ⟨p, q, n, rfl, rfl, hp, hq, hp2, hq2, hg, rfl⟩ := hrel
    have Hg := Lib.hid hg
    clear hg
    by_cases hz : q = 0
    · have hz' : ¬ 0 < q := by omega
      go_wp2
      subst hz
      go_ret
      exact ⟨by rw [← Hg.out]; simp [Int.gcd, Int.natAbs_of_nonneg hp], _, rfl⟩
    · have hpos : 1 ≤ q := by omega
      have hz' : 0 < q := by omega
      go_wp2
      go_quiet (fail)
      go_wp2
      go_roundw
      case rel => exact ⟨q, p % q, _, rfl, rfl, hq, Int.emod_nonneg _ hz, hq2, by have := Int.emod_lt_of_pos p (show 0 < q by omega); omega, by rw [gcd_step]; exact Hg.out, World.drewN_drewN _ _ _⟩
      case measure => simp only [intOf]; have := Int.emod_lt_of_pos p (show 0 < q by omega); have := Int.emod_nonneg p hz; omega

end Go.Proofs.Ythiifonejoejpaa
