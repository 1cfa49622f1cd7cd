/- BeatNarrows: the law over names, whatever its slices are. -/
import Derived.Test.YtikmjmaglinpaaaVh
import Derived.Test.YtikmjmaglinpaaaVn0
import Derived.Test.YtikmjmaglinpaaaVn0r
import Derived.Test.YtikmjmaglinpaaaVn1
import Derived.Test.YtikmjmaglinpaaaVn2
import Derived.Test.YtikmjmaglinpaaaVn3
import Derived.Test.YtikmjmaglinpaaaVn4
set_option linter.unusedSimpArgs false
set_option linter.unusedVariables false
namespace Go.Proofs.Ytikmjmaglinpaaa
open Abs Sx Go.RowKit
set_option maxRecDepth 100000
namespace Be
section
variable (s0 : Fr.Slot Rod) (s1 : Fr.Slot Int) (x2 x3 x4 x5 x6 x7 x8 x9 x10 x11 x12 x13 x14 x15 : Int)
abbrev nwX : List Int := [lenS s0, capS s0, x2, x3, x4, x5, x6, x7, x8, x9, x10, x11, x12, x13, x14, x15, lenS s1, capS s1]
variable {s0 s1 x2 x3 x4 x5 x6 x7 x8 x9 x10 x11 x12 x13 x14 x15}
theorem nw_pre (n : Nat) (hc : X.denB (valX (fnB (rodsOf s0) (bysOf s1)) (nwX s0 s1 x2 x3 x4 x5 x6 x7 x8 x9 x10 x11 x12 x13 x14 x15)) (cnt n) = true) (z2 : 0 ≤ x2 ∧ x2 ≤ 255) (z3 : -32768 ≤ x3 ∧ x3 ≤ 32767) (z4 : 0 ≤ x4 ∧ x4 ≤ 255) (z5 : 0 ≤ x5 ∧ x5 ≤ 255) (z6 : 0 ≤ x6 ∧ x6 ≤ 255) (z7 : 0 ≤ x7 ∧ x7 ≤ 255) (z8 : 0 ≤ x8 ∧ x8 ≤ 255) (z9 : 0 ≤ x9 ∧ x9 ≤ 255) (z10 : 0 ≤ x10 ∧ x10 ≤ 255) (z11 : 0 ≤ x11 ∧ x11 ≤ 255) (z12 : 0 ≤ x12 ∧ x12 ≤ 255) (z13 : 0 ≤ x13 ∧ x13 ≤ 255) (z14 : 0 ≤ x14 ∧ x14 ≤ 255) (z15 : 0 ≤ x15 ∧ x15 ≤ 255) : AllB (valX (fnB (rodsOf s0) (bysOf s1)) (nwX s0 s1 x2 x3 x4 x5 x6 x7 x8 x9 x10 x11 x12 x13 x14 x15)) (nwP n) := by
  have a0 := lenS_nn s0
  have a1 := lenS_nn s1
  refine ⟨hc, ?_⟩
  show AllB _ (le (lit 0) (v 0) :: le (lit 0) (v 16) :: (b8 2 ++ (rgN (-32768) 32767 (v 3) ++ (List.range 12).flatMap (fun i => b8 (4 + i)))))
  simp only [b8, rgN, le, v, lit, List.range, List.range.loop, List.flatMap_cons, List.flatMap_nil, List.cons_append, List.nil_append, List.append_nil, Nat.reduceAdd, Nat.add_zero, AllB, X.dB_le, leB_t, X.den_lit, X.den_var, valX_v, nwX, List.getD_cons_zero, List.getD_cons_succ]
  refine ⟨a0, a1, z2.1, z2.2, z3.1, z3.2, z4.1, z4.2, z5.1, z5.2, z6.1, z6.2, z7.1, z7.2, z8.1, z8.2, z9.1, z9.2, z10.1, z10.2, z11.1, z11.2, z12.1, z12.2, z13.1, z13.2, z14.1, z14.2, z15.1, z15.2, trivial⟩
theorem nw_call (o0 : s0.Ok rodE) (o1 : s1.Ok byE) (z2 : 0 ≤ x2 ∧ x2 ≤ 255) (z3 : -32768 ≤ x3 ∧ x3 ≤ 32767) (z4 : 0 ≤ x4 ∧ x4 ≤ 255) (z5 : 0 ≤ x5 ∧ x5 ≤ 255) (z6 : 0 ≤ x6 ∧ x6 ≤ 255) (z7 : 0 ≤ x7 ∧ x7 ≤ 255) (z8 : 0 ≤ x8 ∧ x8 ≤ 255) (z9 : 0 ≤ x9 ∧ x9 ≤ 255) (z10 : 0 ≤ x10 ∧ x10 ≤ 255) (z11 : 0 ≤ x11 ∧ x11 ≤ 255) (z12 : 0 ≤ x12 ∧ x12 ≤ 255) (z13 : 0 ≤ x13 ∧ x13 ≤ 255) (z14 : 0 ≤ x14 ∧ x14 ≤ 255) (z15 : 0 ≤ x15 ∧ x15 ≤ 255) :
    CallH Try.prog 3 [.agg [s0.av rodE 0, .int .u8 x2, .int .i16 x3, .int .u8 x4, .int .u8 x5, .int .u8 x6, .int .u8 x7], .agg [.int .u8 x8, .int .u8 x9, .int .u8 x10, .int .u8 x11, .int .u8 x12, .int .u8 x13, .int .u8 x14, .int .u8 x15], s1.av byE 1] ⟨objs (s0.obs rodE 0 ++ s1.obs byE 1), [], 0⟩ 2 (fun v H' nx' => v = .bool true ∧ H' = ⟨objs (s0.obs rodE 0 ++ s1.obs byE 1), [], 0⟩ ∧ nx' = 2) := by
  have hM := RU_ok (rodsOf_bd o0) (bysOf_bd o1)
  have hK := pKn3_ok (rodsOf s0) (bysOf s1)
  have hp : ∀ n, X.denB (valX (fnB (rodsOf s0) (bysOf s1)) (nwX s0 s1 x2 x3 x4 x5 x6 x7 x8 x9 x10 x11 x12 x13 x14 x15)) (cnt n) = true → AllB (valX (fnB (rodsOf s0) (bysOf s1)) (nwX s0 s1 x2 x3 x4 x5 x6 x7 x8 x9 x10 x11 x12 x13 x14 x15)) (nwP n) := fun n hc => nw_pre n hc z2 z3 z4 z5 z6 z7 z8 z9 z10 z11 z12 z13 z14 z15
  refine call_forget ?_ (by cases s0 <;> cases s1 <;> kernel_rfl) (true_ren 2)
  cases s0 with
  | nil =>
    cases s1 with
    | nil => exact nw1nn _ _ _ hK hM (hp 1 rfl)
    | free => exact nw1nf _ _ _ hK hM (hp 1 rfl)
    | row l c =>
      have := nw1nr _ _ _ hK hM (hp 1 rfl)
      refine fit this rfl ((tpl_objs _).trans ?_)
      show (⟨objs [(1, .cells false (rowD (valX (fnB _ l) _) [.int .u8 4] [] 0 l.length))], [], 0⟩ : Hp) = _
      rw [by_row]; rfl
  | free =>
    cases s1 with
    | nil => exact nw1fn _ _ _ hK hM (hp 1 rfl)
    | free => exact nw1ff _ _ _ hK hM (hp 1 rfl)
    | row l c =>
      have := nw1fr _ _ _ hK hM (hp 1 rfl)
      refine fit this rfl ((tpl_objs _).trans ?_)
      show (⟨objs [(1, .cells false (rowD (valX (fnB _ l) _) [.int .u8 4] [] 0 l.length))], [], 0⟩ : Hp) = _
      rw [by_row]; rfl
  | row r c0 =>
    have hlen : r.length = 0 ∨ r.length = 1 ∨ r.length = 2 ∨ 3 ≤ r.length := by omega
    cases s1 with
    | nil =>
      rcases hlen with h | h | h | h
      · have := nw1rn _ _ _ hK hM (hp 1 (by simp only [cnt, eq, v, lit, X.dB_eq, eqB_t, X.den_var, X.den_lit, valX_v, nwX, List.getD_cons_zero, lenS]; omega))
        refine fit this rfl ((tpl_objs _).trans ?_)
        show (⟨objs [(0, .cells false (rowD (valX (fnB r _) _) cmM [] 0 r.length))], [], 0⟩ : Hp) = _
        rw [rods_row]; rfl
      · have := nw2rn _ _ _ hK hM (hp 2 (by simp only [cnt, eq, v, lit, X.dB_eq, eqB_t, X.den_var, X.den_lit, valX_v, nwX, List.getD_cons_zero, lenS]; omega))
        refine fit this rfl ((tpl_objs _).trans ?_)
        show (⟨objs [(0, .cells false (rowD (valX (fnB r _) _) cmM [] 0 r.length))], [], 0⟩ : Hp) = _
        rw [rods_row]; rfl
      · have := nw3rn _ _ _ hK hM (hp 3 (by simp only [cnt, eq, v, lit, X.dB_eq, eqB_t, X.den_var, X.den_lit, valX_v, nwX, List.getD_cons_zero, lenS]; omega))
        refine fit this rfl ((tpl_objs _).trans ?_)
        show (⟨objs [(0, .cells false (rowD (valX (fnB r _) _) cmM [] 0 r.length))], [], 0⟩ : Hp) = _
        rw [rods_row]; rfl
      · have := nw4rn _ _ _ hK hM (hp 4 (by simp only [cnt, le, v, lit, X.dB_le, leB_t, X.den_var, X.den_lit, valX_v, nwX, List.getD_cons_zero, lenS]; omega))
        refine fit this rfl ((tpl_objs _).trans ?_)
        show (⟨objs [(0, .cells false (rowD (valX (fnB r _) _) cmM [] 0 r.length))], [], 0⟩ : Hp) = _
        rw [rods_row]; rfl
    | free =>
      rcases hlen with h | h | h | h
      · have := nw1rf _ _ _ hK hM (hp 1 (by simp only [cnt, eq, v, lit, X.dB_eq, eqB_t, X.den_var, X.den_lit, valX_v, nwX, List.getD_cons_zero, lenS]; omega))
        refine fit this rfl ((tpl_objs _).trans ?_)
        show (⟨objs [(0, .cells false (rowD (valX (fnB r _) _) cmM [] 0 r.length))], [], 0⟩ : Hp) = _
        rw [rods_row]; rfl
      · have := nw2rf _ _ _ hK hM (hp 2 (by simp only [cnt, eq, v, lit, X.dB_eq, eqB_t, X.den_var, X.den_lit, valX_v, nwX, List.getD_cons_zero, lenS]; omega))
        refine fit this rfl ((tpl_objs _).trans ?_)
        show (⟨objs [(0, .cells false (rowD (valX (fnB r _) _) cmM [] 0 r.length))], [], 0⟩ : Hp) = _
        rw [rods_row]; rfl
      · have := nw3rf _ _ _ hK hM (hp 3 (by simp only [cnt, eq, v, lit, X.dB_eq, eqB_t, X.den_var, X.den_lit, valX_v, nwX, List.getD_cons_zero, lenS]; omega))
        refine fit this rfl ((tpl_objs _).trans ?_)
        show (⟨objs [(0, .cells false (rowD (valX (fnB r _) _) cmM [] 0 r.length))], [], 0⟩ : Hp) = _
        rw [rods_row]; rfl
      · have := nw4rf _ _ _ hK hM (hp 4 (by simp only [cnt, le, v, lit, X.dB_le, leB_t, X.den_var, X.den_lit, valX_v, nwX, List.getD_cons_zero, lenS]; omega))
        refine fit this rfl ((tpl_objs _).trans ?_)
        show (⟨objs [(0, .cells false (rowD (valX (fnB r _) _) cmM [] 0 r.length))], [], 0⟩ : Hp) = _
        rw [rods_row]; rfl
    | row l c =>
      rcases hlen with h | h | h | h
      · have := nw1rr _ _ _ hK hM (hp 1 (by simp only [cnt, eq, v, lit, X.dB_eq, eqB_t, X.den_var, X.den_lit, valX_v, nwX, List.getD_cons_zero, lenS]; omega))
        refine fit this rfl ((tpl_objs _).trans ?_)
        show (⟨objs [(0, .cells false (rowD (valX (fnB r l) _) cmM [] 0 r.length)), (1, .cells false (rowD (valX (fnB r l) _) [.int .u8 4] [] 0 l.length))], [], 0⟩ : Hp) = _
        rw [rods_row, by_row]; rfl
      · have := nw2rr _ _ _ hK hM (hp 2 (by simp only [cnt, eq, v, lit, X.dB_eq, eqB_t, X.den_var, X.den_lit, valX_v, nwX, List.getD_cons_zero, lenS]; omega))
        refine fit this rfl ((tpl_objs _).trans ?_)
        show (⟨objs [(0, .cells false (rowD (valX (fnB r l) _) cmM [] 0 r.length)), (1, .cells false (rowD (valX (fnB r l) _) [.int .u8 4] [] 0 l.length))], [], 0⟩ : Hp) = _
        rw [rods_row, by_row]; rfl
      · have := nw3rr _ _ _ hK hM (hp 3 (by simp only [cnt, eq, v, lit, X.dB_eq, eqB_t, X.den_var, X.den_lit, valX_v, nwX, List.getD_cons_zero, lenS]; omega))
        refine fit this rfl ((tpl_objs _).trans ?_)
        show (⟨objs [(0, .cells false (rowD (valX (fnB r l) _) cmM [] 0 r.length)), (1, .cells false (rowD (valX (fnB r l) _) [.int .u8 4] [] 0 l.length))], [], 0⟩ : Hp) = _
        rw [rods_row, by_row]; rfl
      · have := nw4rr _ _ _ hK hM (hp 4 (by simp only [cnt, le, v, lit, X.dB_le, leB_t, X.den_var, X.den_lit, valX_v, nwX, List.getD_cons_zero, lenS]; omega))
        refine fit this rfl ((tpl_objs _).trans ?_)
        show (⟨objs [(0, .cells false (rowD (valX (fnB r l) _) cmM [] 0 r.length)), (1, .cells false (rowD (valX (fnB r l) _) [.int .u8 4] [] 0 l.length))], [], 0⟩ : Hp) = _
        rw [rods_row, by_row]; rfl
end
end Be
end Go.Proofs.Ytikmjmaglinpaaa
