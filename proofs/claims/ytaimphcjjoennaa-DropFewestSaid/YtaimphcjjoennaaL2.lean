/- DropFewest: Rig of clocks whose hours are written out. -/
import Derived.Test.YtaimphcjjoennaaL1
set_option linter.unusedSimpArgs false
set_option linter.unusedVariables false
namespace Go.Proofs.Ytaimphcjjoennaa
open Abs Sx
set_option maxRecDepth 100000
namespace Dl
/-! The fewest parts. -/
def rigT : OT SV := (.ask (.bin .lt (.var 0) (.bin .mul (.bin .add (.bin .add (.bin .add (.bin .add (.bin .add (.bin .add (.bin .add (.bin .add (.bin .add (.bin .add (.bin .add (.bin .add (.bin .add (.bin .add (.bin .add (.bin .add (.bin .add (.bin .add (.bin .add (.bin .add (.bin .add (.bin .add (.bin .add (.var 6) (.var 8)) (.var 10)) (.var 12)) (.var 14)) (.var 16)) (.var 18)) (.var 20)) (.var 22)) (.var 24)) (.var 26)) (.var 28)) (.var 30)) (.var 32)) (.var 34)) (.var 36)) (.var 38)) (.var 40)) (.var 42)) (.var 44)) (.var 46)) (.var 48)) (.var 50)) (.var 52)) (.var 1))) (.ask (.bin .lt (.bin .mul (.var 0) (.lit 2)) (.bin .mul (.bin .add (.bin .add (.bin .add (.bin .add (.bin .add (.bin .add (.bin .add (.bin .add (.bin .add (.bin .add (.bin .add (.bin .add (.bin .add (.bin .add (.bin .add (.bin .add (.bin .add (.bin .add (.bin .add (.bin .add (.bin .add (.bin .add (.bin .add (.var 6) (.var 8)) (.var 10)) (.var 12)) (.var 14)) (.var 16)) (.var 18)) (.var 20)) (.var 22)) (.var 24)) (.var 26)) (.var 28)) (.var 30)) (.var 32)) (.var 34)) (.var 36)) (.var 38)) (.var 40)) (.var 42)) (.var 44)) (.var 46)) (.var 48)) (.var 50)) (.var 52)) (.var 1))) (.ask (.bin .lt (.bin .mul (.var 0) (.lit 3)) (.bin .mul (.bin .add (.bin .add (.bin .add (.bin .add (.bin .add (.bin .add (.bin .add (.bin .add (.bin .add (.bin .add (.bin .add (.bin .add (.bin .add (.bin .add (.bin .add (.bin .add (.bin .add (.bin .add (.bin .add (.bin .add (.bin .add (.bin .add (.bin .add (.var 6) (.var 8)) (.var 10)) (.var 12)) (.var 14)) (.var 16)) (.var 18)) (.var 20)) (.var 22)) (.var 24)) (.var 26)) (.var 28)) (.var 30)) (.var 32)) (.var 34)) (.var 36)) (.var 38)) (.var 40)) (.var 42)) (.var 44)) (.var 46)) (.var 48)) (.var 50)) (.var 52)) (.var 1))) (.ask (.bin .lt (.bin .mul (.var 0) (.lit 4)) (.bin .mul (.bin .add (.bin .add (.bin .add (.bin .add (.bin .add (.bin .add (.bin .add (.bin .add (.bin .add (.bin .add (.bin .add (.bin .add (.bin .add (.bin .add (.bin .add (.bin .add (.bin .add (.bin .add (.bin .add (.bin .add (.bin .add (.bin .add (.bin .add (.var 6) (.var 8)) (.var 10)) (.var 12)) (.var 14)) (.var 16)) (.var 18)) (.var 20)) (.var 22)) (.var 24)) (.var 26)) (.var 28)) (.var 30)) (.var 32)) (.var 34)) (.var 36)) (.var 38)) (.var 40)) (.var 42)) (.var 44)) (.var 46)) (.var 48)) (.var 50)) (.var 52)) (.var 1))) (.ask (.bin .lt (.bin .mul (.var 0) (.lit 5)) (.bin .mul (.bin .add (.bin .add (.bin .add (.bin .add (.bin .add (.bin .add (.bin .add (.bin .add (.bin .add (.bin .add (.bin .add (.bin .add (.bin .add (.bin .add (.bin .add (.bin .add (.bin .add (.bin .add (.bin .add (.bin .add (.bin .add (.bin .add (.bin .add (.var 6) (.var 8)) (.var 10)) (.var 12)) (.var 14)) (.var 16)) (.var 18)) (.var 20)) (.var 22)) (.var 24)) (.var 26)) (.var 28)) (.var 30)) (.var 32)) (.var 34)) (.var 36)) (.var 38)) (.var 40)) (.var 42)) (.var 44)) (.var 46)) (.var 48)) (.var 50)) (.var 52)) (.var 1))) (.ask (.bin .lt (.bin .mul (.var 0) (.lit 6)) (.bin .mul (.bin .add (.bin .add (.bin .add (.bin .add (.bin .add (.bin .add (.bin .add (.bin .add (.bin .add (.bin .add (.bin .add (.bin .add (.bin .add (.bin .add (.bin .add (.bin .add (.bin .add (.bin .add (.bin .add (.bin .add (.bin .add (.bin .add (.bin .add (.var 6) (.var 8)) (.var 10)) (.var 12)) (.var 14)) (.var 16)) (.var 18)) (.var 20)) (.var 22)) (.var 24)) (.var 26)) (.var 28)) (.var 30)) (.var 32)) (.var 34)) (.var 36)) (.var 38)) (.var 40)) (.var 42)) (.var 44)) (.var 46)) (.var 48)) (.var 50)) (.var 52)) (.var 1))) (.ask (.bin .lt (.bin .mul (.var 0) (.lit 7)) (.bin .mul (.bin .add (.bin .add (.bin .add (.bin .add (.bin .add (.bin .add (.bin .add (.bin .add (.bin .add (.bin .add (.bin .add (.bin .add (.bin .add (.bin .add (.bin .add (.bin .add (.bin .add (.bin .add (.bin .add (.bin .add (.bin .add (.bin .add (.bin .add (.var 6) (.var 8)) (.var 10)) (.var 12)) (.var 14)) (.var 16)) (.var 18)) (.var 20)) (.var 22)) (.var 24)) (.var 26)) (.var 28)) (.var 30)) (.var 32)) (.var 34)) (.var 36)) (.var 38)) (.var 40)) (.var 42)) (.var 44)) (.var 46)) (.var 48)) (.var 50)) (.var 52)) (.var 1))) (.ask (.bin .lt (.bin .mul (.var 0) (.lit 8)) (.bin .mul (.bin .add (.bin .add (.bin .add (.bin .add (.bin .add (.bin .add (.bin .add (.bin .add (.bin .add (.bin .add (.bin .add (.bin .add (.bin .add (.bin .add (.bin .add (.bin .add (.bin .add (.bin .add (.bin .add (.bin .add (.bin .add (.bin .add (.bin .add (.var 6) (.var 8)) (.var 10)) (.var 12)) (.var 14)) (.var 16)) (.var 18)) (.var 20)) (.var 22)) (.var 24)) (.var 26)) (.var 28)) (.var 30)) (.var 32)) (.var 34)) (.var 36)) (.var 38)) (.var 40)) (.var 42)) (.var 44)) (.var 46)) (.var 48)) (.var 50)) (.var 52)) (.var 1))) (.leaf (.tuple [(.int .i64 (.lit 0)), (.int .i64 (.lit 0)), (.int .i64 (.lit 7))])) (.ask (.bin .lt (.var 3) (.bin .mul (.var 2) (.lit 8))) (.leaf (.tuple [(.int .i64 (.lit 0)), (.int .i64 (.lit 0)), (.int .i64 (.lit 7))])) (.ask (.bin .lt (.lit 3000) (.bin .mul (.var 0) (.lit 8))) (.leaf (.tuple [(.int .i64 (.lit 0)), (.int .i64 (.lit 0)), (.int .i64 (.lit 7))])) (.leaf (.tuple [(.int .i64 (.lit 8)), (.int .i64 (.bin .mul (.var 0) (.lit 8))), (.int .i64 (.lit 0))]))))) (.ask (.bin .lt (.var 3) (.bin .mul (.var 2) (.lit 7))) (.leaf (.tuple [(.int .i64 (.lit 0)), (.int .i64 (.lit 0)), (.int .i64 (.lit 7))])) (.ask (.bin .lt (.lit 3000) (.bin .mul (.var 0) (.lit 7))) (.leaf (.tuple [(.int .i64 (.lit 0)), (.int .i64 (.lit 0)), (.int .i64 (.lit 7))])) (.leaf (.tuple [(.int .i64 (.lit 7)), (.int .i64 (.bin .mul (.var 0) (.lit 7))), (.int .i64 (.lit 0))]))))) (.ask (.bin .lt (.var 3) (.bin .mul (.var 2) (.lit 6))) (.leaf (.tuple [(.int .i64 (.lit 0)), (.int .i64 (.lit 0)), (.int .i64 (.lit 7))])) (.ask (.bin .lt (.lit 3000) (.bin .mul (.var 0) (.lit 6))) (.leaf (.tuple [(.int .i64 (.lit 0)), (.int .i64 (.lit 0)), (.int .i64 (.lit 7))])) (.leaf (.tuple [(.int .i64 (.lit 6)), (.int .i64 (.bin .mul (.var 0) (.lit 6))), (.int .i64 (.lit 0))]))))) (.ask (.bin .lt (.var 3) (.bin .mul (.var 2) (.lit 5))) (.leaf (.tuple [(.int .i64 (.lit 0)), (.int .i64 (.lit 0)), (.int .i64 (.lit 7))])) (.ask (.bin .lt (.lit 3000) (.bin .mul (.var 0) (.lit 5))) (.leaf (.tuple [(.int .i64 (.lit 0)), (.int .i64 (.lit 0)), (.int .i64 (.lit 7))])) (.leaf (.tuple [(.int .i64 (.lit 5)), (.int .i64 (.bin .mul (.var 0) (.lit 5))), (.int .i64 (.lit 0))]))))) (.ask (.bin .lt (.var 3) (.bin .mul (.var 2) (.lit 4))) (.leaf (.tuple [(.int .i64 (.lit 0)), (.int .i64 (.lit 0)), (.int .i64 (.lit 7))])) (.ask (.bin .lt (.lit 3000) (.bin .mul (.var 0) (.lit 4))) (.leaf (.tuple [(.int .i64 (.lit 0)), (.int .i64 (.lit 0)), (.int .i64 (.lit 7))])) (.leaf (.tuple [(.int .i64 (.lit 4)), (.int .i64 (.bin .mul (.var 0) (.lit 4))), (.int .i64 (.lit 0))]))))) (.ask (.bin .lt (.var 3) (.bin .mul (.var 2) (.lit 3))) (.leaf (.tuple [(.int .i64 (.lit 0)), (.int .i64 (.lit 0)), (.int .i64 (.lit 7))])) (.ask (.bin .lt (.lit 3000) (.bin .mul (.var 0) (.lit 3))) (.leaf (.tuple [(.int .i64 (.lit 0)), (.int .i64 (.lit 0)), (.int .i64 (.lit 7))])) (.leaf (.tuple [(.int .i64 (.lit 3)), (.int .i64 (.bin .mul (.var 0) (.lit 3))), (.int .i64 (.lit 0))]))))) (.ask (.bin .lt (.var 3) (.bin .mul (.var 2) (.lit 2))) (.leaf (.tuple [(.int .i64 (.lit 0)), (.int .i64 (.lit 0)), (.int .i64 (.lit 7))])) (.ask (.bin .lt (.lit 3000) (.bin .mul (.var 0) (.lit 2))) (.leaf (.tuple [(.int .i64 (.lit 0)), (.int .i64 (.lit 0)), (.int .i64 (.lit 7))])) (.leaf (.tuple [(.int .i64 (.lit 2)), (.int .i64 (.bin .mul (.var 0) (.lit 2))), (.int .i64 (.lit 0))]))))) (.ask (.bin .lt (.var 3) (.var 2)) (.leaf (.tuple [(.int .i64 (.lit 0)), (.int .i64 (.lit 0)), (.int .i64 (.lit 7))])) (.leaf (.tuple [(.int .i64 (.lit 1)), (.int .i64 (.var 0)), (.int .i64 (.lit 0))]))))
theorem rig_run1 : runP0 Try.prog RV [] pRig 600 [true] = rigT := by kernel_rfl
theorem rig_run2 : runP0 Try.prog RV [] pRig 600 [false] = rigT := by kernel_rfl
section
variable {bs : List Int}
theorem rig_at {de da pu li day : Int} {n : Int} (h2 : day * da ≤ de * n) : ∀ (k : Nat) (n0 : Int), n0 ≤ n → n < n0 + k → (∀ j, n0 ≤ j → j < n → de * j < day * da) → rigP de da pu li day k n0 = if li < pu * n ∨ 3000 < de * n then 0 else n
  | 0, n0, h3, h4, _ => by omega
  | k + 1, n0, h3, h4, h5 => by
    rcases Int.lt_or_eq_of_le h3 with h | h
    · simp only [rigP]
      rw [if_pos (h5 n0 (Int.le_refl _) h)]
      exact rig_at h2 k (n0 + 1) (by omega) (by omega) (fun j h6 h7 => h5 j (by omega) h7)
    · subst h
      simp only [rigP]
      rw [if_neg (by omega)]
theorem rig_none {de da pu li day : Int} : ∀ (k : Nat) (n0 : Int), (∀ j, n0 ≤ j → j < n0 + k → de * j < day * da) → rigP de da pu li day k n0 = 0
  | 0, _, _ => rfl
  | k + 1, n0, h => by
    simp only [rigP]
    rw [if_pos (h n0 (Int.le_refl _) (by omega))]
    exact rig_none k (n0 + 1) (fun j h6 h7 => h j (by omega) (by omega))
/-- What the number of parts is. -/
def RigIs (de pu li D P : Int) : Prop :=
  (de * 1 < D ∧ de * 2 < D ∧ de * 3 < D ∧ de * 4 < D ∧ de * 5 < D ∧ de * 6 < D ∧ de * 7 < D ∧ de * 8 < D ∧ P = 0) ∨
  (D ≤ de * 1 ∧ (li < pu * 1 ∨ 3000 < de * 1) ∧ P = 0) ∨
  (D ≤ de * 1 ∧ ¬ (li < pu * 1 ∨ 3000 < de * 1) ∧ P = 1) ∨
  (de * 1 < D ∧ D ≤ de * 2 ∧ (li < pu * 2 ∨ 3000 < de * 2) ∧ P = 0) ∨
  (de * 1 < D ∧ D ≤ de * 2 ∧ ¬ (li < pu * 2 ∨ 3000 < de * 2) ∧ P = 2) ∨
  (de * 1 < D ∧ de * 2 < D ∧ D ≤ de * 3 ∧ (li < pu * 3 ∨ 3000 < de * 3) ∧ P = 0) ∨
  (de * 1 < D ∧ de * 2 < D ∧ D ≤ de * 3 ∧ ¬ (li < pu * 3 ∨ 3000 < de * 3) ∧ P = 3) ∨
  (de * 1 < D ∧ de * 2 < D ∧ de * 3 < D ∧ D ≤ de * 4 ∧ (li < pu * 4 ∨ 3000 < de * 4) ∧ P = 0) ∨
  (de * 1 < D ∧ de * 2 < D ∧ de * 3 < D ∧ D ≤ de * 4 ∧ ¬ (li < pu * 4 ∨ 3000 < de * 4) ∧ P = 4) ∨
  (de * 1 < D ∧ de * 2 < D ∧ de * 3 < D ∧ de * 4 < D ∧ D ≤ de * 5 ∧ (li < pu * 5 ∨ 3000 < de * 5) ∧ P = 0) ∨
  (de * 1 < D ∧ de * 2 < D ∧ de * 3 < D ∧ de * 4 < D ∧ D ≤ de * 5 ∧ ¬ (li < pu * 5 ∨ 3000 < de * 5) ∧ P = 5) ∨
  (de * 1 < D ∧ de * 2 < D ∧ de * 3 < D ∧ de * 4 < D ∧ de * 5 < D ∧ D ≤ de * 6 ∧ (li < pu * 6 ∨ 3000 < de * 6) ∧ P = 0) ∨
  (de * 1 < D ∧ de * 2 < D ∧ de * 3 < D ∧ de * 4 < D ∧ de * 5 < D ∧ D ≤ de * 6 ∧ ¬ (li < pu * 6 ∨ 3000 < de * 6) ∧ P = 6) ∨
  (de * 1 < D ∧ de * 2 < D ∧ de * 3 < D ∧ de * 4 < D ∧ de * 5 < D ∧ de * 6 < D ∧ D ≤ de * 7 ∧ (li < pu * 7 ∨ 3000 < de * 7) ∧ P = 0) ∨
  (de * 1 < D ∧ de * 2 < D ∧ de * 3 < D ∧ de * 4 < D ∧ de * 5 < D ∧ de * 6 < D ∧ D ≤ de * 7 ∧ ¬ (li < pu * 7 ∨ 3000 < de * 7) ∧ P = 7) ∨
  (de * 1 < D ∧ de * 2 < D ∧ de * 3 < D ∧ de * 4 < D ∧ de * 5 < D ∧ de * 6 < D ∧ de * 7 < D ∧ D ≤ de * 8 ∧ (li < pu * 8 ∨ 3000 < de * 8) ∧ P = 0) ∨
  (de * 1 < D ∧ de * 2 < D ∧ de * 3 < D ∧ de * 4 < D ∧ de * 5 < D ∧ de * 6 < D ∧ de * 7 < D ∧ D ≤ de * 8 ∧ ¬ (li < pu * 8 ∨ 3000 < de * 8) ∧ P = 8)
theorem rig_is (de da pu li day : Int) : RigIs de pu li (day * da) (rigP de da pu li day 8 1) := by
  unfold RigIs
  by_cases h1 : day * da ≤ de * 1
  · have e := rig_at (pu := pu) (li := li) h1 8 1 (by omega) (by omega) (fun j a b => by omega)
    by_cases c : li < pu * 1 ∨ 3000 < de * 1
    · rw [if_pos c] at e; exact .inr (.inl (⟨h1, c, e⟩))
    · rw [if_neg c] at e; exact .inr (.inr (.inl (⟨h1, c, e⟩)))
  by_cases h2 : day * da ≤ de * 2
  · have e := rig_at (pu := pu) (li := li) h2 8 1 (by omega) (by omega) (fun j a b => by
      have : j = 1 := by omega
      rcases this with rfl <;> omega)
    by_cases c : li < pu * 2 ∨ 3000 < de * 2
    · rw [if_pos c] at e; exact .inr (.inr (.inr (.inl (⟨by omega, h2, c, e⟩))))
    · rw [if_neg c] at e; exact .inr (.inr (.inr (.inr (.inl (⟨by omega, h2, c, e⟩)))))
  by_cases h3 : day * da ≤ de * 3
  · have e := rig_at (pu := pu) (li := li) h3 8 1 (by omega) (by omega) (fun j a b => by
      have : j = 1 ∨ j = 2 := by omega
      rcases this with rfl | rfl <;> omega)
    by_cases c : li < pu * 3 ∨ 3000 < de * 3
    · rw [if_pos c] at e; exact .inr (.inr (.inr (.inr (.inr (.inl (⟨by omega, by omega, h3, c, e⟩))))))
    · rw [if_neg c] at e; exact .inr (.inr (.inr (.inr (.inr (.inr (.inl (⟨by omega, by omega, h3, c, e⟩)))))))
  by_cases h4 : day * da ≤ de * 4
  · have e := rig_at (pu := pu) (li := li) h4 8 1 (by omega) (by omega) (fun j a b => by
      have : j = 1 ∨ j = 2 ∨ j = 3 := by omega
      rcases this with rfl | rfl | rfl <;> omega)
    by_cases c : li < pu * 4 ∨ 3000 < de * 4
    · rw [if_pos c] at e; exact .inr (.inr (.inr (.inr (.inr (.inr (.inr (.inl (⟨by omega, by omega, by omega, h4, c, e⟩))))))))
    · rw [if_neg c] at e; exact .inr (.inr (.inr (.inr (.inr (.inr (.inr (.inr (.inl (⟨by omega, by omega, by omega, h4, c, e⟩)))))))))
  by_cases h5 : day * da ≤ de * 5
  · have e := rig_at (pu := pu) (li := li) h5 8 1 (by omega) (by omega) (fun j a b => by
      have : j = 1 ∨ j = 2 ∨ j = 3 ∨ j = 4 := by omega
      rcases this with rfl | rfl | rfl | rfl <;> omega)
    by_cases c : li < pu * 5 ∨ 3000 < de * 5
    · rw [if_pos c] at e; exact .inr (.inr (.inr (.inr (.inr (.inr (.inr (.inr (.inr (.inl (⟨by omega, by omega, by omega, by omega, h5, c, e⟩))))))))))
    · rw [if_neg c] at e; exact .inr (.inr (.inr (.inr (.inr (.inr (.inr (.inr (.inr (.inr (.inl (⟨by omega, by omega, by omega, by omega, h5, c, e⟩)))))))))))
  by_cases h6 : day * da ≤ de * 6
  · have e := rig_at (pu := pu) (li := li) h6 8 1 (by omega) (by omega) (fun j a b => by
      have : j = 1 ∨ j = 2 ∨ j = 3 ∨ j = 4 ∨ j = 5 := by omega
      rcases this with rfl | rfl | rfl | rfl | rfl <;> omega)
    by_cases c : li < pu * 6 ∨ 3000 < de * 6
    · rw [if_pos c] at e; exact .inr (.inr (.inr (.inr (.inr (.inr (.inr (.inr (.inr (.inr (.inr (.inl (⟨by omega, by omega, by omega, by omega, by omega, h6, c, e⟩))))))))))))
    · rw [if_neg c] at e; exact .inr (.inr (.inr (.inr (.inr (.inr (.inr (.inr (.inr (.inr (.inr (.inr (.inl (⟨by omega, by omega, by omega, by omega, by omega, h6, c, e⟩)))))))))))))
  by_cases h7 : day * da ≤ de * 7
  · have e := rig_at (pu := pu) (li := li) h7 8 1 (by omega) (by omega) (fun j a b => by
      have : j = 1 ∨ j = 2 ∨ j = 3 ∨ j = 4 ∨ j = 5 ∨ j = 6 := by omega
      rcases this with rfl | rfl | rfl | rfl | rfl | rfl <;> omega)
    by_cases c : li < pu * 7 ∨ 3000 < de * 7
    · rw [if_pos c] at e; exact .inr (.inr (.inr (.inr (.inr (.inr (.inr (.inr (.inr (.inr (.inr (.inr (.inr (.inl (⟨by omega, by omega, by omega, by omega, by omega, by omega, h7, c, e⟩))))))))))))))
    · rw [if_neg c] at e; exact .inr (.inr (.inr (.inr (.inr (.inr (.inr (.inr (.inr (.inr (.inr (.inr (.inr (.inr (.inl (⟨by omega, by omega, by omega, by omega, by omega, by omega, h7, c, e⟩)))))))))))))))
  by_cases h8 : day * da ≤ de * 8
  · have e := rig_at (pu := pu) (li := li) h8 8 1 (by omega) (by omega) (fun j a b => by
      have : j = 1 ∨ j = 2 ∨ j = 3 ∨ j = 4 ∨ j = 5 ∨ j = 6 ∨ j = 7 := by omega
      rcases this with rfl | rfl | rfl | rfl | rfl | rfl | rfl <;> omega)
    by_cases c : li < pu * 8 ∨ 3000 < de * 8
    · rw [if_pos c] at e; exact .inr (.inr (.inr (.inr (.inr (.inr (.inr (.inr (.inr (.inr (.inr (.inr (.inr (.inr (.inr (.inl (⟨by omega, by omega, by omega, by omega, by omega, by omega, by omega, h8, c, e⟩))))))))))))))))
    · rw [if_neg c] at e; exact .inr (.inr (.inr (.inr (.inr (.inr (.inr (.inr (.inr (.inr (.inr (.inr (.inr (.inr (.inr (.inr (⟨by omega, by omega, by omega, by omega, by omega, by omega, by omega, h8, c, e⟩))))))))))))))))
  · have e := rig_none (de := de) (da := da) (pu := pu) (li := li) (day := day) 8 1 (fun j a b => by
      have : j = 1 ∨ j = 2 ∨ j = 3 ∨ j = 4 ∨ j = 5 ∨ j = 6 ∨ j = 7 ∨ j = 8 := by omega
      rcases this with rfl | rfl | rfl | rfl | rfl | rfl | rfl | rfl <;> omega)
    exact .inl ⟨by omega, by omega, by omega, by omega, by omega, by omega, by omega, by omega, e⟩
variable (hb : Byte bs)
include hb
theorem pRig_ok : pRig.Ok Try.prog (fnL bs) := by
  refine un1 (l := []) (R := RV) (fuel := 600) (fun _ => rigT) prog_ok trivial rfl (frL_ok hb _) rfl rfl rig_run1 rig_run2 ?_
  intro xs es hlen hpre hrw
  clear hlen hrw
  simp only [rigT, pRig, rPre, rCell, rLo, rHi, rX, rCells, t3, consX, List.range, List.range.loop, List.flatMap_cons, List.flatMap_nil, List.map_cons, List.map_nil, List.cons_append, List.nil_append, List.append_nil, Nat.reduceMul, Nat.reduceAdd] at *
  ( simp only [OT.vc, LT.vc, OT.is, AllB, RgB, inR, nthR, idsF, fsOf, List.drop, List.flatMap_cons, List.flatMap_nil, List.append_nil, List.getElem?_cons_zero, List.getElem?_cons_succ, rwFs, rwF, List.nil_append, List.cons_append, mix_v, mix_fn, upd_fn, upd_nil, upd_cons, X.one, X.isL, cond_false, valX_fn, valX_v, setM_v, List.mem_cons, List.not_mem_nil, or_false, false_or, or_true, true_or, if_true, if_false, ite_true, ite_false, Nat.reduceEqDiff, SV.den, AV.int.injEq, AV.bool.injEq, true_and, and_true, X.dB_lt, X.dB_le, X.dB_eq, X.denB_and, X.denB_or, X.denB_not, X.denB_lit0, X.denB_lit1, X.den_lit, X.den_var, X.den_add, X.den_sub, X.den_mul, X.den_app, X.den_ite, X.den_wrap, X.dB_ite, cond_tf, X.denB_app, X.denB_var, X.sem_cons, X.sem_nil, leB_t, ltB_t, eqB_t, leB_f, ltB_f, eqB_f, Bool.and_eq_true, Bool.or_eq_true, Bool.not_eq_true', Bool.and_eq_false_iff, Bool.or_eq_false_iff, Bool.not_eq_false', le, lt, eq, v, lit, i64, X.den_mul, SV.dens, AV.tuple.injEq, List.cons.injEq] at *)
  obtain ⟨q0, q1, q2, q3, q4, q5, q6, q7, q8⟩ := hpre
  have hs : sumH (xs.getD 5 0 :: xs.getD 6 0 :: xs.getD 7 0 :: xs.getD 8 0 :: xs.getD 9 0 :: xs.getD 10 0 :: xs.getD 11 0 :: xs.getD 12 0 :: xs.getD 13 0 :: xs.getD 14 0 :: xs.getD 15 0 :: xs.getD 16 0 :: xs.getD 17 0 :: xs.getD 18 0 :: xs.getD 19 0 :: xs.getD 20 0 :: xs.getD 21 0 :: xs.getD 22 0 :: xs.getD 23 0 :: xs.getD 24 0 :: xs.getD 25 0 :: xs.getD 26 0 :: xs.getD 27 0 :: xs.getD 28 0 :: xs.getD 29 0 :: xs.getD 30 0 :: xs.getD 31 0 :: xs.getD 32 0 :: xs.getD 33 0 :: xs.getD 34 0 :: xs.getD 35 0 :: xs.getD 36 0 :: xs.getD 37 0 :: xs.getD 38 0 :: xs.getD 39 0 :: xs.getD 40 0 :: xs.getD 41 0 :: xs.getD 42 0 :: xs.getD 43 0 :: xs.getD 44 0 :: xs.getD 45 0 :: xs.getD 46 0 :: xs.getD 47 0 :: xs.getD 48 0 :: xs.getD 49 0 :: xs.getD 50 0 :: xs.getD 51 0 :: xs.getD 52 0 :: []) = (((((((((((((((((((((((xs.getD 6 0 + xs.getD 8 0) + xs.getD 10 0) + xs.getD 12 0) + xs.getD 14 0) + xs.getD 16 0) + xs.getD 18 0) + xs.getD 20 0) + xs.getD 22 0) + xs.getD 24 0) + xs.getD 26 0) + xs.getD 28 0) + xs.getD 30 0) + xs.getD 32 0) + xs.getD 34 0) + xs.getD 36 0) + xs.getD 38 0) + xs.getD 40 0) + xs.getD 42 0) + xs.getD 44 0) + xs.getD 46 0) + xs.getD 48 0) + xs.getD 50 0) + xs.getD 52 0) := by simp only [sumH]; omega
  have hP := rig_is (xs.getD 0 0) (xs.getD 1 0) (xs.getD 2 0) (xs.getD 3 0) (sumH (xs.getD 5 0 :: xs.getD 6 0 :: xs.getD 7 0 :: xs.getD 8 0 :: xs.getD 9 0 :: xs.getD 10 0 :: xs.getD 11 0 :: xs.getD 12 0 :: xs.getD 13 0 :: xs.getD 14 0 :: xs.getD 15 0 :: xs.getD 16 0 :: xs.getD 17 0 :: xs.getD 18 0 :: xs.getD 19 0 :: xs.getD 20 0 :: xs.getD 21 0 :: xs.getD 22 0 :: xs.getD 23 0 :: xs.getD 24 0 :: xs.getD 25 0 :: xs.getD 26 0 :: xs.getD 27 0 :: xs.getD 28 0 :: xs.getD 29 0 :: xs.getD 30 0 :: xs.getD 31 0 :: xs.getD 32 0 :: xs.getD 33 0 :: xs.getD 34 0 :: xs.getD 35 0 :: xs.getD 36 0 :: xs.getD 37 0 :: xs.getD 38 0 :: xs.getD 39 0 :: xs.getD 40 0 :: xs.getD 41 0 :: xs.getD 42 0 :: xs.getD 43 0 :: xs.getD 44 0 :: xs.getD 45 0 :: xs.getD 46 0 :: xs.getD 47 0 :: xs.getD 48 0 :: xs.getD 49 0 :: xs.getD 50 0 :: xs.getD 51 0 :: xs.getD 52 0 :: []))
  have e80 : fnL bs 80 (xs.getD 0 0 :: xs.getD 1 0 :: xs.getD 2 0 :: xs.getD 3 0 :: (xs.getD 5 0 :: xs.getD 6 0 :: xs.getD 7 0 :: xs.getD 8 0 :: xs.getD 9 0 :: xs.getD 10 0 :: xs.getD 11 0 :: xs.getD 12 0 :: xs.getD 13 0 :: xs.getD 14 0 :: xs.getD 15 0 :: xs.getD 16 0 :: xs.getD 17 0 :: xs.getD 18 0 :: xs.getD 19 0 :: xs.getD 20 0 :: xs.getD 21 0 :: xs.getD 22 0 :: xs.getD 23 0 :: xs.getD 24 0 :: xs.getD 25 0 :: xs.getD 26 0 :: xs.getD 27 0 :: xs.getD 28 0 :: xs.getD 29 0 :: xs.getD 30 0 :: xs.getD 31 0 :: xs.getD 32 0 :: xs.getD 33 0 :: xs.getD 34 0 :: xs.getD 35 0 :: xs.getD 36 0 :: xs.getD 37 0 :: xs.getD 38 0 :: xs.getD 39 0 :: xs.getD 40 0 :: xs.getD 41 0 :: xs.getD 42 0 :: xs.getD 43 0 :: xs.getD 44 0 :: xs.getD 45 0 :: xs.getD 46 0 :: xs.getD 47 0 :: xs.getD 48 0 :: xs.getD 49 0 :: xs.getD 50 0 :: xs.getD 51 0 :: xs.getD 52 0 :: [])) = rigP (xs.getD 0 0) (xs.getD 1 0) (xs.getD 2 0) (xs.getD 3 0) (sumH (xs.getD 5 0 :: xs.getD 6 0 :: xs.getD 7 0 :: xs.getD 8 0 :: xs.getD 9 0 :: xs.getD 10 0 :: xs.getD 11 0 :: xs.getD 12 0 :: xs.getD 13 0 :: xs.getD 14 0 :: xs.getD 15 0 :: xs.getD 16 0 :: xs.getD 17 0 :: xs.getD 18 0 :: xs.getD 19 0 :: xs.getD 20 0 :: xs.getD 21 0 :: xs.getD 22 0 :: xs.getD 23 0 :: xs.getD 24 0 :: xs.getD 25 0 :: xs.getD 26 0 :: xs.getD 27 0 :: xs.getD 28 0 :: xs.getD 29 0 :: xs.getD 30 0 :: xs.getD 31 0 :: xs.getD 32 0 :: xs.getD 33 0 :: xs.getD 34 0 :: xs.getD 35 0 :: xs.getD 36 0 :: xs.getD 37 0 :: xs.getD 38 0 :: xs.getD 39 0 :: xs.getD 40 0 :: xs.getD 41 0 :: xs.getD 42 0 :: xs.getD 43 0 :: xs.getD 44 0 :: xs.getD 45 0 :: xs.getD 46 0 :: xs.getD 47 0 :: xs.getD 48 0 :: xs.getD 49 0 :: xs.getD 50 0 :: xs.getD 51 0 :: xs.getD 52 0 :: [])) 8 1 := by
    show max 0 (min 8 (rigP (xs.getD 0 0) (xs.getD 1 0) (xs.getD 2 0) (xs.getD 3 0) (sumH (xs.getD 5 0 :: xs.getD 6 0 :: xs.getD 7 0 :: xs.getD 8 0 :: xs.getD 9 0 :: xs.getD 10 0 :: xs.getD 11 0 :: xs.getD 12 0 :: xs.getD 13 0 :: xs.getD 14 0 :: xs.getD 15 0 :: xs.getD 16 0 :: xs.getD 17 0 :: xs.getD 18 0 :: xs.getD 19 0 :: xs.getD 20 0 :: xs.getD 21 0 :: xs.getD 22 0 :: xs.getD 23 0 :: xs.getD 24 0 :: xs.getD 25 0 :: xs.getD 26 0 :: xs.getD 27 0 :: xs.getD 28 0 :: xs.getD 29 0 :: xs.getD 30 0 :: xs.getD 31 0 :: xs.getD 32 0 :: xs.getD 33 0 :: xs.getD 34 0 :: xs.getD 35 0 :: xs.getD 36 0 :: xs.getD 37 0 :: xs.getD 38 0 :: xs.getD 39 0 :: xs.getD 40 0 :: xs.getD 41 0 :: xs.getD 42 0 :: xs.getD 43 0 :: xs.getD 44 0 :: xs.getD 45 0 :: xs.getD 46 0 :: xs.getD 47 0 :: xs.getD 48 0 :: xs.getD 49 0 :: xs.getD 50 0 :: xs.getD 51 0 :: xs.getD 52 0 :: [])) 8 1)) = _
    unfold RigIs at hP
    omega
  rw [e80]
  rw [hs] at hP ⊢
  generalize rigP (xs.getD 0 0) (xs.getD 1 0) (xs.getD 2 0) (xs.getD 3 0) _ 8 1 = P at *
  generalize hD : ((((((((((((((((((((((((xs.getD 6 0 + xs.getD 8 0) + xs.getD 10 0) + xs.getD 12 0) + xs.getD 14 0) + xs.getD 16 0) + xs.getD 18 0) + xs.getD 20 0) + xs.getD 22 0) + xs.getD 24 0) + xs.getD 26 0) + xs.getD 28 0) + xs.getD 30 0) + xs.getD 32 0) + xs.getD 34 0) + xs.getD 36 0) + xs.getD 38 0) + xs.getD 40 0) + xs.getD 42 0) + xs.getD 44 0) + xs.getD 46 0) + xs.getD 48 0) + xs.getD 50 0) + xs.getD 52 0)) * xs.getD 1 0 = D at *
  clear e80 hs hD q8
  generalize xs.getD 0 0 = de at *
  generalize xs.getD 2 0 = pu at *
  generalize xs.getD 3 0 = li at *
  unfold RigIs at hP
  rcases hP with ⟨_h0, _h1, _h2, _h3, _h4, _h5, _h6, _h7, rfl⟩ | ⟨_h0, _h1, rfl⟩ | ⟨_h0, _h1, rfl⟩ | ⟨_h0, _h1, _h2, rfl⟩ | ⟨_h0, _h1, _h2, rfl⟩ | ⟨_h0, _h1, _h2, _h3, rfl⟩ | ⟨_h0, _h1, _h2, _h3, rfl⟩ | ⟨_h0, _h1, _h2, _h3, _h4, rfl⟩ | ⟨_h0, _h1, _h2, _h3, _h4, rfl⟩ | ⟨_h0, _h1, _h2, _h3, _h4, _h5, rfl⟩ | ⟨_h0, _h1, _h2, _h3, _h4, _h5, rfl⟩ | ⟨_h0, _h1, _h2, _h3, _h4, _h5, _h6, rfl⟩ | ⟨_h0, _h1, _h2, _h3, _h4, _h5, _h6, rfl⟩ | ⟨_h0, _h1, _h2, _h3, _h4, _h5, _h6, _h7, rfl⟩ | ⟨_h0, _h1, _h2, _h3, _h4, _h5, _h6, _h7, rfl⟩ | ⟨_h0, _h1, _h2, _h3, _h4, _h5, _h6, _h7, _h8, rfl⟩ | ⟨_h0, _h1, _h2, _h3, _h4, _h5, _h6, _h7, _h8, rfl⟩
  all_goals (repeat' (first | apply And.intro | intro _)) <;> first | exact True.intro | omega
end
end Dl
end Go.Proofs.Ytaimphcjjoennaa
