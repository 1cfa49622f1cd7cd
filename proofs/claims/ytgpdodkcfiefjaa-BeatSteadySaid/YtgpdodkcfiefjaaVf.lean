/- Made clocks: rows that come in, and what their cells can be. -/
import Derived.Test.YtgpdodkcfiefjaaU3
import Derived.Test.YtgpdodkcfiefjaaFr
import Derived.Test.YtgpdodkcfiefjaaFl
import Derived.Test.YtgpdodkcfiefjaaKc
set_option linter.unusedSimpArgs false
set_option linter.unusedVariables false
namespace Go.Proofs.Ytgpdodkcfiefjaa
open Abs Sx Go.RowKit
set_option maxRecDepth 100000
namespace Be
theorem wf_int {k : IntKind} {n : Int} (h : (Lit.int k n).wf = true) : k.min ≤ n ∧ n ≤ k.max := by
  simp only [Lit.wf, Bool.and_eq_true, decide_eq_true_eq] at h; exact h
def BdR (r : Rod) : Prop := (0 ≤ r.1 ∧ r.1 ≤ 65535) ∧ (0 ≤ r.2.1 ∧ r.2.1 ≤ 255) ∧ 0 ≤ r.2.2.1 ∧ r.2.2.1 ≤ 255
def rodE : Fr.El Rod where
  es := [.int .u16, .int .u8, .int .u8, .bool]
  f r := [.int .u16 r.1, .int .u8 r.2.1, .int .u8 r.2.2.1, .bool r.2.2.2]
  Bd := BdR
  pos := by decide
  of W vs h := by
    simp only [LKs, Fr.lk_int, Fr.lk_bool] at h
    obtain ⟨_, _, rfl, ⟨a, rfl, wa⟩, _, _, rfl, ⟨b, rfl, wb⟩, _, _, rfl, ⟨c, rfl, wc⟩, _, _, rfl, ⟨d, rfl⟩, rfl⟩ := h
    exact ⟨(a, b, c, d), ⟨wf_int wa, wf_int wb, wf_int wc⟩, fun m => .cons (by simp only [VR]) (.cons (by simp only [VR]) (.cons (by simp only [VR]) (.cons (by simp only [VR]) .nil)))⟩
theorem nthR_app : ∀ (a b : List (Option (Int × Int))) (i : Nat), nthR (a ++ b) i = if i < a.length then nthR a i else nthR b (i - a.length)
  | [], b, i => by simp
  | x :: a, b, 0 => by simp [nthR]
  | x :: a, b, i + 1 => by
    simp only [List.cons_append, nthR, nthR_app a b i, List.length_cons, Nat.add_lt_add_iff_right, Nat.add_sub_add_right]
theorem nthR_drop : ∀ (k : Nat) (a : List (Option (Int × Int))) (i : Nat), nthR (a.drop k) i = nthR a (k + i)
  | 0, a, i => by simp
  | k + 1, [], i => by
    rw [List.drop_nil, show k + 1 + i = (k + i) + 1 by omega]
    cases i <;> rfl
  | k + 1, x :: a, i => by
    rw [List.drop_succ_cons, nthR_drop k a i, show k + 1 + i = (k + i) + 1 by omega]; rfl
theorem at_bd {rods : List Rod} (h : ∀ r ∈ rods, BdR r) (l : List Int) : BdR (at_ rods l) := by
  unfold at_
  rw [List.getD_eq_getElem?_getD]
  cases hg : rods[(hdI l).toNat]? with
  | none => exact ⟨by decide, by decide, by decide, by decide⟩
  | some r => exact h r (List.mem_of_getElem? hg)
theorem get_bd {grow : List Int} (h : ∀ x ∈ grow, 0 ≤ x ∧ x ≤ 255) (i : Nat) : 0 ≤ grow.getD i 0 ∧ grow.getD i 0 ≤ 255 := by
  rw [List.getD_eq_getElem?_getD]
  cases hg : grow[i]? with
  | none => exact ⟨by decide, by decide⟩
  | some r => exact h r (List.mem_of_getElem? hg)
theorem cl_in {a b x : Int} (h : a ≤ b) : a ≤ max a (min b x) ∧ max a (min b x) ≤ b := by omega
theorem RU_ok {rods : List Rod} {grow : List Int} (hr : ∀ r ∈ rods, BdR r) (hg : ∀ x ∈ grow, 0 ≤ x ∧ x ≤ 255) : ∀ i l, inR (fnB rods grow i l) (nthR RU.fr i) := by
  intro i l
  show inR _ (nthR ([some (0, 65535), u255, u255, some (0, 1), u255, u255, u255] ++ _) i)
  rw [nthR_app]
  split
  · rename_i h
    have hb := at_bd hr l
    match i, h with
    | 0, _ => exact hb.1
    | 1, _ => exact hb.2.1
    | 2, _ => exact hb.2.2
    | 3, _ =>
      show 0 ≤ b2i (at_ rods l).2.2.2 ∧ b2i (at_ rods l).2.2.2 ≤ 1
      cases (at_ rods l).2.2.2 <;> decide
    | 4, _ => exact get_bd hg _
    | 5, _ => exact get_bd hg _
    | 6, _ => exact get_bd hg _
    | n + 7, h => exact absurd h (by simp)
  · rename_i h
    rw [nthR_app]
    split
    · rw [nthR_drop, show 7 + (i - List.length [some (0, 65535), u255, u255, some (0, 1), u255, u255, u255]) = i by have : ¬ i < 7 := h; show 7 + (i - 7) = i; omega]
      exact RL_ok rods grow i l
    · rename_i h2
      have hlen : (frL.drop 7).length = 75 := by decide
      rw [hlen] at h2 ⊢
      obtain ⟨j, rfl⟩ : ∃ j, i = 82 + j := ⟨i - 82, by have : ¬ i - 7 < 75 := h2; omega⟩
      rw [show 82 + j - List.length [some (0, 65535), u255, u255, some (0, 1), u255, u255, u255] - 75 = j by show 82 + j - 7 - 75 = j; omega, nth_rep]
      split
      · trivial
      · rename_i h3
        obtain ⟨j, rfl⟩ : ∃ k, j = 9 + k := ⟨j - 9, by omega⟩
        rw [show 9 + j - 9 = j by omega, show 82 + (9 + j) = 91 + j by omega]
        match j with
        | 0 => exact clampM_in (by decide)
        | 1 => exact clampM_in (by decide)
        | j + 2 =>
          rw [show 91 + (j + 2) = 93 + j by omega]
          show inR _ (nthR (List.replicate 8 none ++ _) j)
          rw [nth_rep]
          split
          · trivial
          · obtain ⟨j, rfl⟩ : ∃ k, j = 8 + k := ⟨j - 8, by omega⟩
            rw [show 8 + j - 8 = j by omega, show 93 + (8 + j) = 101 + j by omega]
            match j with
            | 0 => exact (by cases l <;> simp only [fnB, wLo, inR, nthR] <;> omega)
            | 1 => exact (by rcases l with _ | ⟨a, _ | ⟨b, l⟩⟩ <;> simp only [fnB, wHi, inR, nthR] <;> omega)
            | 2 => exact (by cases l <;> simp only [fnB, wLo, inR, nthR] <;> omega)
            | 3 => exact (by rcases l with _ | ⟨a, _ | ⟨b, l⟩⟩ <;> simp only [fnB, wHi, inR, nthR] <;> omega)
            | 4 => exact (by cases l <;> simp only [fnB, wLo, inR, nthR] <;> omega)
            | 5 => exact (by rcases l with _ | ⟨a, _ | ⟨b, l⟩⟩ <;> simp only [fnB, wHi, inR, nthR] <;> omega)
            | 6 => exact (by cases l <;> simp only [fnB, wLo, inR, nthR] <;> omega)
            | 7 => exact (by rcases l with _ | ⟨a, _ | ⟨b, l⟩⟩ <;> simp only [fnB, wHi, inR, nthR] <;> omega)
            | 8 => trivial
            | 9 => exact cl_in (by decide)
            | 10 => exact (by cases l <;> simp only [fnB, arLo, inR, nthR] <;> omega)
            | 11 => exact (by rcases l with _ | ⟨a, _ | ⟨b, l⟩⟩ <;> simp only [fnB, arHi, inR, nthR] <;> omega)
            | 12 => exact (by rcases l with _ | ⟨a, _ | ⟨b, l⟩⟩ <;> simp only [fnB, drLo, inR, nthR] <;> omega)
            | 13 => exact (by rcases l with _ | ⟨a, _ | ⟨b, _ | ⟨c, l⟩⟩⟩ <;> simp only [fnB, drHi, inR, nthR] <;> omega)
            | 14 => exact cl_in (by decide)
            | 15 => exact cl_in (by decide)
            | 16 => exact cl_in (by decide)
            | 17 =>
              show 0 ≤ upA rods (hdI l).toNat ∧ upA rods (hdI l).toNat ≤ 1
              unfold upA; split <;> decide
            | 18 => exact (by rcases l with _ | ⟨a, _ | ⟨b, l⟩⟩ <;> simp only [fnB, byA, inR, nthR, u255] <;> omega)
            | 19 => exact (by rcases l with _ | ⟨a, _ | ⟨b, l⟩⟩ <;> simp only [fnB, byA, inR, nthR, u255] <;> omega)
            | 20 => exact (by rcases l with _ | ⟨a, _ | ⟨b, l⟩⟩ <;> simp only [fnB, byA, inR, nthR, u255] <;> omega)
            | 21 => exact cl_in (by decide)
            | n + 22 => trivial
theorem pKn3_ok (rods : List Rod) (grow : List Int) : pKn3.Ok Try.prog (fnB rods grow) := Fl.true_ok ⟨_, _, Try.func11, rfl⟩ (kcgood prog_ok) _
theorem rods_row (l : List Rod) (grow xs : List Int) : rowD (valX (fnB l grow) xs) cmM [] 0 l.length = Fr.rowC rodE l := Fr.rowD_rowC rodE l 0 fun j e hj => by
  have e0 : at_ l [((0 + j : Nat) : Int)] = e := by
    show l.getD ((0 + j : Nat) : Int).toNat d0 = e
    rw [Int.toNat_natCast, Nat.zero_add, List.getD_eq_getElem?_getD, hj]; rfl
  show [AV.int .u16 (at_ l [((0 + j : Nat) : Int)]).1, AV.int .u8 (at_ l [((0 + j : Nat) : Int)]).2.1, AV.int .u8 (at_ l [((0 + j : Nat) : Int)]).2.2.1, AV.bool (i2b (b2i (at_ l [((0 + j : Nat) : Int)]).2.2.2))] = _
  rw [e0, i2b_b2i]; rfl
end Be
end Go.Proofs.Ytgpdodkcfiefjaa
