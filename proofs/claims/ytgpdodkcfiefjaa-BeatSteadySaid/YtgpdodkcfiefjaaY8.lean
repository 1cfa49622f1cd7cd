/- BeatSteady: the law, whatever the slice. -/
import Derived.Test.YtgpdodkcfiefjaaVh
import Derived.Test.YtgpdodkcfiefjaaY5a
import Derived.Test.YtgpdodkcfiefjaaY5b
import Derived.Test.YtgpdodkcfiefjaaY7
set_option linter.unusedSimpArgs false
set_option linter.unusedVariables false
namespace Go.Proofs.Ytgpdodkcfiefjaa
open Abs Sx Go.RowKit
set_option maxRecDepth 100000
namespace Be
theorem isK_t {ρ : Val} {n k : Nat} : (isK n k).denB ρ = true ↔ (ρ.v 8).tmod n = k := by simp only [isK, eq, X.dB_eq, eqB_t, X.den_rem, v, X.den_var, lit, X.den_lit]
theorem not_t {ρ : Val} {a : X} (h : ¬ a.denB ρ = true) : X.denB ρ (.not a) = true := by simp only [X.denB_not]; cases ha : a.denB ρ <;> simp_all
theorem kdX_t {ρ : Val} {i : Int} : (kdX i).denB ρ = true ↔ 1 + (ρ.v 2).tmod 3 = i := by simp only [kdX, eq, X.dB_eq, eqB_t, add, X.den_add, X.den_rem, v, X.den_var, lit, X.den_lit]
section
variable (s0 : Fr.Slot Rod) (x2 x3 x4 x5 x6 x7 x8 x9 : Int)
abbrev stX : List Int := [lenS s0, capS s0, x2, x3, x4, x5, x6, x7, x8, x9]
variable {s0 x2 x3 x4 x5 x6 x7 x8 x9}
theorem st_pre (n : Nat) (hc : X.denB (valX (fnB (rodsOf s0) []) (stX s0 x2 x3 x4 x5 x6 x7 x8 x9)) (cnt n) = true) (z2 : 0 ≤ x2 ∧ x2 ≤ 255) (z3 : -32768 ≤ x3 ∧ x3 ≤ 32767) (z4 : 0 ≤ x4 ∧ x4 ≤ 255) (z5 : 0 ≤ x5 ∧ x5 ≤ 255) (z6 : 0 ≤ x6 ∧ x6 ≤ 255) (z7 : 0 ≤ x7 ∧ x7 ≤ 255) (z8 : 0 ≤ x8 ∧ x8 ≤ 255) (z9 : 0 ≤ x9 ∧ x9 ≤ 65535) : AllB (valX (fnB (rodsOf s0) []) (stX s0 x2 x3 x4 x5 x6 x7 x8 x9)) (stP n) := by
  have a0 := lenS_nn s0
  refine ⟨hc, ?_⟩
  show AllB _ (le (lit 0) (v 0) :: (b8 2 ++ (rgN (-32768) 32767 (v 3) ++ ((List.range 5).flatMap (fun i => b8 (4 + i)) ++ rgN 0 65535 (v 9)))))
  simp only [b8, rgN, le, v, lit, List.range, List.range.loop, List.flatMap_cons, List.flatMap_nil, List.cons_append, List.nil_append, List.append_nil, Nat.reduceAdd, Nat.add_zero, AllB, X.dB_le, leB_t, X.den_lit, X.den_var, valX_v, stX, List.getD_cons_zero, List.getD_cons_succ]
  exact ⟨a0, z2.1, z2.2, z3.1, z3.2, z4.1, z4.2, z5.1, z5.2, z6.1, z6.2, z7.1, z7.2, z8.1, z8.2, z9.1, z9.2, trivial⟩
theorem st_1n (hM : ∀ i l, inR (fnB (rodsOf s0) [] i l) (nthR RU.fr i)) (hK : pKn3.Ok Try.prog (fnB (rodsOf s0) [])) (hp : AllB (valX (fnB (rodsOf s0) []) (stX s0 x2 x3 x4 x5 x6 x7 x8 x9)) (stP 1)) : CallH Try.prog 4 (SV.dens (valX (fnB (rodsOf s0) []) (stX s0 x2 x3 x4 x5 x6 x7 x8 x9)) (stA .nils)) (hD (valX (fnB (rodsOf s0) []) (stX s0 x2 x3 x4 x5 x6 x7 x8 x9)) ⟨tplT [], [], 0⟩) 1 (fun v _ _ => v = .bool true) := by
  have hq := pre_n hp
  by_cases k3 : 1 + x2.tmod 3 = 3
  · exact call_st (n := 1) (e := []) ⟨(pBn1_ok _ _).toN, (pEf1_ok _ _).toN, (pCx1_ok _ _).toN, (pRaL1_ok _ _).toN, hK.toN, trivial⟩ hM run_st1nc (AllB.append ⟨kdX_t.2 k3, trivial⟩ hp) rfl (st_all1c hq)
  · by_cases k1 : 1 + x2.tmod 3 = 1
    · exact call_st (n := 1) (e := []) ⟨(pBn1_ok _ _).toN, (pEf1_ok _ _).toN, (pCx1_ok _ _).toN, (pRaL1_ok _ _).toN, hK.toN, trivial⟩ hM run_st1na (AllB.append ⟨not_t fun z => k3 (kdX_t.1 z), kdX_t.2 k1, trivial⟩ hp) rfl (st_all1a hq)
    · exact call_st (n := 1) (e := []) ⟨(pBn1_ok _ _).toN, (pEf1_ok _ _).toN, (pCx1_ok _ _).toN, (pRaL1_ok _ _).toN, hK.toN, trivial⟩ hM run_st1nb (AllB.append ⟨not_t fun z => k3 (kdX_t.1 z), not_t fun z => k1 (kdX_t.1 z), trivial⟩ hp) rfl (st_all1b hq)
theorem st_1f (hM : ∀ i l, inR (fnB (rodsOf s0) [] i l) (nthR RU.fr i)) (hK : pKn3.Ok Try.prog (fnB (rodsOf s0) [])) (hp : AllB (valX (fnB (rodsOf s0) []) (stX s0 x2 x3 x4 x5 x6 x7 x8 x9)) (stP 1)) : CallH Try.prog 4 (SV.dens (valX (fnB (rodsOf s0) []) (stX s0 x2 x3 x4 x5 x6 x7 x8 x9)) (stA (frV 0 4))) (hD (valX (fnB (rodsOf s0) []) (stX s0 x2 x3 x4 x5 x6 x7 x8 x9)) ⟨tplT [], [], 0⟩) 1 (fun v _ _ => v = .bool true) := by
  have hq := pre_n hp
  by_cases k3 : 1 + x2.tmod 3 = 3
  · exact call_st (n := 1) (e := []) ⟨(pBn1_ok _ _).toN, (pEf1_ok _ _).toN, (pCx1_ok _ _).toN, (pRaL1_ok _ _).toN, hK.toN, trivial⟩ hM run_st1fc (AllB.append ⟨kdX_t.2 k3, trivial⟩ hp) rfl (st_all1c hq)
  · by_cases k1 : 1 + x2.tmod 3 = 1
    · exact call_st (n := 1) (e := []) ⟨(pBn1_ok _ _).toN, (pEf1_ok _ _).toN, (pCx1_ok _ _).toN, (pRaL1_ok _ _).toN, hK.toN, trivial⟩ hM run_st1fa (AllB.append ⟨not_t fun z => k3 (kdX_t.1 z), kdX_t.2 k1, trivial⟩ hp) rfl (st_all1a hq)
    · exact call_st (n := 1) (e := []) ⟨(pBn1_ok _ _).toN, (pEf1_ok _ _).toN, (pCx1_ok _ _).toN, (pRaL1_ok _ _).toN, hK.toN, trivial⟩ hM run_st1fb (AllB.append ⟨not_t fun z => k3 (kdX_t.1 z), not_t fun z => k1 (kdX_t.1 z), trivial⟩ hp) rfl (st_all1b hq)
theorem st_1r (hM : ∀ i l, inR (fnB (rodsOf s0) [] i l) (nthR RU.fr i)) (hK : pKn3.Ok Try.prog (fnB (rodsOf s0) [])) (hp : AllB (valX (fnB (rodsOf s0) []) (stX s0 x2 x3 x4 x5 x6 x7 x8 x9)) (stP 1)) : CallH Try.prog 4 (SV.dens (valX (fnB (rodsOf s0) []) (stX s0 x2 x3 x4 x5 x6 x7 x8 x9)) (stA (rwV 0 0 4))) (hD (valX (fnB (rodsOf s0) []) (stX s0 x2 x3 x4 x5 x6 x7 x8 x9)) ⟨tplT [rodS], [], 0⟩) 1 (fun v _ _ => v = .bool true) := by
  have hq := pre_n hp
  by_cases k3 : 1 + x2.tmod 3 = 3
  · exact call_st (n := 1) (e := []) ⟨(pBn1_ok _ _).toN, (pEf1_ok _ _).toN, (pCx1_ok _ _).toN, (pRaL1_ok _ _).toN, hK.toN, trivial⟩ hM run_st1rc (AllB.append ⟨kdX_t.2 k3, trivial⟩ hp) rfl (st_all1c hq)
  · by_cases k1 : 1 + x2.tmod 3 = 1
    · exact call_st (n := 1) (e := []) ⟨(pBn1_ok _ _).toN, (pEf1_ok _ _).toN, (pCx1_ok _ _).toN, (pRaL1_ok _ _).toN, hK.toN, trivial⟩ hM run_st1ra (AllB.append ⟨not_t fun z => k3 (kdX_t.1 z), kdX_t.2 k1, trivial⟩ hp) rfl (st_all1a hq)
    · exact call_st (n := 1) (e := []) ⟨(pBn1_ok _ _).toN, (pEf1_ok _ _).toN, (pCx1_ok _ _).toN, (pRaL1_ok _ _).toN, hK.toN, trivial⟩ hM run_st1rb (AllB.append ⟨not_t fun z => k3 (kdX_t.1 z), not_t fun z => k1 (kdX_t.1 z), trivial⟩ hp) rfl (st_all1b hq)
theorem st_2r (hM : ∀ i l, inR (fnB (rodsOf s0) [] i l) (nthR RU.fr i)) (hK : pKn3.Ok Try.prog (fnB (rodsOf s0) [])) (hp : AllB (valX (fnB (rodsOf s0) []) (stX s0 x2 x3 x4 x5 x6 x7 x8 x9)) (stP 2)) : CallH Try.prog 4 (SV.dens (valX (fnB (rodsOf s0) []) (stX s0 x2 x3 x4 x5 x6 x7 x8 x9)) (stA (rwV 0 0 4))) (hD (valX (fnB (rodsOf s0) []) (stX s0 x2 x3 x4 x5 x6 x7 x8 x9)) ⟨tplT [rodS], [], 0⟩) 1 (fun v _ _ => v = .bool true) := by
  have hq := pre_n hp
  have y1 : 0 ≤ x8.tmod ((2 : Nat) : Int) := Int.tmod_nonneg _ hq.p8
  have y2 := Int.tmod_lt_of_pos x8 (show (0 : Int) < ((2 : Nat) : Int) by decide)
  by_cases h0 : x8.tmod ((2 : Nat) : Int) = ((0 : Nat) : Int)
  · exact call_st (n := 2) (e := [pClock 2]) ⟨(pBn2_ok _ _).toN, (pEf2_ok _ _).toN, (pCx2_ok _ _).toN, (pRaL2_ok _ _).toN, hK.toN, (pClock2_ok hM), trivial⟩ hM run_st20 (AllB.append ⟨isK_t.2 h0, trivial⟩ hp) rfl (st_all20 hM hq)
  have h1 : x8.tmod ((2 : Nat) : Int) = ((1 : Nat) : Int) := by omega
  exact call_st (n := 2) (e := [pClock 2]) ⟨(pBn2_ok _ _).toN, (pEf2_ok _ _).toN, (pCx2_ok _ _).toN, (pRaL2_ok _ _).toN, hK.toN, (pClock2_ok hM), trivial⟩ hM run_st21 (AllB.append ⟨not_t fun z => h0 (isK_t.1 z), isK_t.2 h1, trivial⟩ hp) rfl (st_all21 hM hq)
theorem st_3r (hM : ∀ i l, inR (fnB (rodsOf s0) [] i l) (nthR RU.fr i)) (hK : pKn3.Ok Try.prog (fnB (rodsOf s0) [])) (hp : AllB (valX (fnB (rodsOf s0) []) (stX s0 x2 x3 x4 x5 x6 x7 x8 x9)) (stP 3)) : CallH Try.prog 4 (SV.dens (valX (fnB (rodsOf s0) []) (stX s0 x2 x3 x4 x5 x6 x7 x8 x9)) (stA (rwV 0 0 4))) (hD (valX (fnB (rodsOf s0) []) (stX s0 x2 x3 x4 x5 x6 x7 x8 x9)) ⟨tplT [rodS], [], 0⟩) 1 (fun v _ _ => v = .bool true) := by
  have hq := pre_n hp
  have y1 : 0 ≤ x8.tmod ((3 : Nat) : Int) := Int.tmod_nonneg _ hq.p8
  have y2 := Int.tmod_lt_of_pos x8 (show (0 : Int) < ((3 : Nat) : Int) by decide)
  by_cases h0 : x8.tmod ((3 : Nat) : Int) = ((0 : Nat) : Int)
  · exact call_st (n := 3) (e := [pClock 3]) ⟨(pBn3_ok _ _).toN, (pEf3_ok _ _).toN, (pCx3_ok _ _).toN, (pRaL3_ok _ _).toN, hK.toN, (pClock3_ok hM), trivial⟩ hM run_st30 (AllB.append ⟨isK_t.2 h0, trivial⟩ hp) rfl (st_all30 hM hq)
  by_cases h1 : x8.tmod ((3 : Nat) : Int) = ((1 : Nat) : Int)
  · exact call_st (n := 3) (e := [pClock 3]) ⟨(pBn3_ok _ _).toN, (pEf3_ok _ _).toN, (pCx3_ok _ _).toN, (pRaL3_ok _ _).toN, hK.toN, (pClock3_ok hM), trivial⟩ hM run_st31 (AllB.append ⟨not_t fun z => h0 (isK_t.1 z), isK_t.2 h1, trivial⟩ hp) rfl (st_all31 hM hq)
  have h2 : x8.tmod ((3 : Nat) : Int) = ((2 : Nat) : Int) := by omega
  exact call_st (n := 3) (e := [pClock 3]) ⟨(pBn3_ok _ _).toN, (pEf3_ok _ _).toN, (pCx3_ok _ _).toN, (pRaL3_ok _ _).toN, hK.toN, (pClock3_ok hM), trivial⟩ hM run_st32 (AllB.append ⟨not_t fun z => h0 (isK_t.1 z), not_t fun z => h1 (isK_t.1 z), isK_t.2 h2, trivial⟩ hp) rfl (st_all32 hM hq)
theorem st_4r (hM : ∀ i l, inR (fnB (rodsOf s0) [] i l) (nthR RU.fr i)) (hK : pKn3.Ok Try.prog (fnB (rodsOf s0) [])) (hp : AllB (valX (fnB (rodsOf s0) []) (stX s0 x2 x3 x4 x5 x6 x7 x8 x9)) (stP 4)) : CallH Try.prog 4 (SV.dens (valX (fnB (rodsOf s0) []) (stX s0 x2 x3 x4 x5 x6 x7 x8 x9)) (stA (rwV 0 0 4))) (hD (valX (fnB (rodsOf s0) []) (stX s0 x2 x3 x4 x5 x6 x7 x8 x9)) ⟨tplT [rodS], [], 0⟩) 1 (fun v _ _ => v = .bool true) := by
  have hq := pre_n hp
  have y1 : 0 ≤ x8.tmod ((4 : Nat) : Int) := Int.tmod_nonneg _ hq.p8
  have y2 := Int.tmod_lt_of_pos x8 (show (0 : Int) < ((4 : Nat) : Int) by decide)
  by_cases h0 : x8.tmod ((4 : Nat) : Int) = ((0 : Nat) : Int)
  · exact call_st (n := 4) (e := [pClock 4]) ⟨(pBn4_ok _ _).toN, (pEf4_ok _ _).toN, (pCx4_ok _ _).toN, (pRaL4_ok _ _).toN, hK.toN, (pClock4_ok hM), trivial⟩ hM run_st40 (AllB.append ⟨isK_t.2 h0, trivial⟩ hp) rfl (st_all40 hM hq)
  by_cases h1 : x8.tmod ((4 : Nat) : Int) = ((1 : Nat) : Int)
  · exact call_st (n := 4) (e := [pClock 4]) ⟨(pBn4_ok _ _).toN, (pEf4_ok _ _).toN, (pCx4_ok _ _).toN, (pRaL4_ok _ _).toN, hK.toN, (pClock4_ok hM), trivial⟩ hM run_st41 (AllB.append ⟨not_t fun z => h0 (isK_t.1 z), isK_t.2 h1, trivial⟩ hp) rfl (st_all41 hM hq)
  by_cases h2 : x8.tmod ((4 : Nat) : Int) = ((2 : Nat) : Int)
  · exact call_st (n := 4) (e := [pClock 4]) ⟨(pBn4_ok _ _).toN, (pEf4_ok _ _).toN, (pCx4_ok _ _).toN, (pRaL4_ok _ _).toN, hK.toN, (pClock4_ok hM), trivial⟩ hM run_st42 (AllB.append ⟨not_t fun z => h0 (isK_t.1 z), not_t fun z => h1 (isK_t.1 z), isK_t.2 h2, trivial⟩ hp) rfl (st_all42 hM hq)
  have h3 : x8.tmod ((4 : Nat) : Int) = ((3 : Nat) : Int) := by omega
  exact call_st (n := 4) (e := [pClock 4]) ⟨(pBn4_ok _ _).toN, (pEf4_ok _ _).toN, (pCx4_ok _ _).toN, (pRaL4_ok _ _).toN, hK.toN, (pClock4_ok hM), trivial⟩ hM run_st43 (AllB.append ⟨not_t fun z => h0 (isK_t.1 z), not_t fun z => h1 (isK_t.1 z), not_t fun z => h2 (isK_t.1 z), isK_t.2 h3, trivial⟩ hp) rfl (st_all43 hM hq)
theorem st_call (o0 : s0.Ok rodE) (z2 : 0 ≤ x2 ∧ x2 ≤ 255) (z3 : -32768 ≤ x3 ∧ x3 ≤ 32767) (z4 : 0 ≤ x4 ∧ x4 ≤ 255) (z5 : 0 ≤ x5 ∧ x5 ≤ 255) (z6 : 0 ≤ x6 ∧ x6 ≤ 255) (z7 : 0 ≤ x7 ∧ x7 ≤ 255) (z8 : 0 ≤ x8 ∧ x8 ≤ 255) (z9 : 0 ≤ x9 ∧ x9 ≤ 65535) :
    CallH Try.prog 4 [.agg [s0.av rodE 0, .int .u8 x2, .int .i16 x3, .int .u8 x4, .int .u8 x5, .int .u8 x6, .int .u8 x7], .int .u8 x8, .int .u16 x9] ⟨objs (s0.obs rodE 0), [], 0⟩ 1 (fun v H' nx' => v = .bool true ∧ H' = ⟨objs (s0.obs rodE 0), [], 0⟩ ∧ nx' = 1) := by
  have hM := RU_ok (rodsOf_bd o0) (grow := []) (fun x hx => by cases hx)
  have hK := pKn3_ok (rodsOf s0) []
  have hp : ∀ n, X.denB (valX (fnB (rodsOf s0) []) (stX s0 x2 x3 x4 x5 x6 x7 x8 x9)) (cnt n) = true → AllB (valX (fnB (rodsOf s0) []) (stX s0 x2 x3 x4 x5 x6 x7 x8 x9)) (stP n) := fun n hc => st_pre n hc z2 z3 z4 z5 z6 z7 z8 z9
  refine call_forget ?_ (by cases s0 <;> kernel_rfl) (true_ren 1)
  cases s0 with
  | nil => exact st_1n hM hK (hp 1 rfl)
  | free => exact st_1f hM hK (hp 1 rfl)
  | row r c0 =>
    have hlen : r.length = 0 ∨ r.length = 1 ∨ r.length = 2 ∨ 3 ≤ r.length := by omega
    rcases hlen with h | h | h | h
    · have := st_1r hM hK (hp 1 (by simp only [cnt, eq, v, lit, X.dB_eq, eqB_t, X.den_var, X.den_lit, valX_v, stX, List.getD_cons_zero, lenS]; omega))
      refine fit this rfl ((tpl_objs _).trans ?_)
      show (⟨objs [(0, .cells false (rowD (valX (fnB r _) _) cmM [] 0 r.length))], [], 0⟩ : Hp) = _
      rw [rods_row]; rfl
    · have := st_2r hM hK (hp 2 (by simp only [cnt, eq, v, lit, X.dB_eq, eqB_t, X.den_var, X.den_lit, valX_v, stX, List.getD_cons_zero, lenS]; omega))
      refine fit this rfl ((tpl_objs _).trans ?_)
      show (⟨objs [(0, .cells false (rowD (valX (fnB r _) _) cmM [] 0 r.length))], [], 0⟩ : Hp) = _
      rw [rods_row]; rfl
    · have := st_3r hM hK (hp 3 (by simp only [cnt, eq, v, lit, X.dB_eq, eqB_t, X.den_var, X.den_lit, valX_v, stX, List.getD_cons_zero, lenS]; omega))
      refine fit this rfl ((tpl_objs _).trans ?_)
      show (⟨objs [(0, .cells false (rowD (valX (fnB r _) _) cmM [] 0 r.length))], [], 0⟩ : Hp) = _
      rw [rods_row]; rfl
    · have := st_4r hM hK (hp 4 (by simp only [cnt, le, v, lit, X.dB_le, leB_t, X.den_var, X.den_lit, valX_v, stX, List.getD_cons_zero, lenS]; omega))
      refine fit this rfl ((tpl_objs _).trans ?_)
      show (⟨objs [(0, .cells false (rowD (valX (fnB r _) _) cmM [] 0 r.length))], [], 0⟩ : Hp) = _
      rw [rods_row]; rfl
end
end Be
end Go.Proofs.Ytgpdodkcfiefjaa
