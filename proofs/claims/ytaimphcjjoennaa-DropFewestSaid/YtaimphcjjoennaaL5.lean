/- DropFewest over the machine. -/
import Derived.Test.YtaimphcjjoennaaL4r
import Derived.Test.YtaimphcjjoennaaL4z
import Derived.Test.YtaimphcjjoennaaL4n
set_option linter.unusedSimpArgs false
set_option linter.unusedVariables false
namespace Go.Proofs.Ytaimphcjjoennaa
open Abs Sx Go.RowKit
set_option maxRecDepth 100000
namespace Dl
theorem pKn_ok (fn : Nat → List Int → Int) : pKn.Ok Try.prog fn := pr_ok fun xs es _ _ _ _ => Dw.known_spec fn xs
theorem lawPs_ok {bs : List Int} (hb : Byte bs) : PrsOk Try.prog (fnL bs) lawPs := ⟨pKn_ok _, pGoesL_ok hb, pRig_ok hb, trivial⟩
theorem run_of {bs : List Int} (hb : Byte bs) {xs : List Int} {tps : List Tpl} {fs : List X} {args : List SV} {ob : List (Nat × SO)} {T : Sx.LT SV} (h : RunIs tps fs args ob T) (hf : AllB (valX (fnL bs) xs) fs) (h7 : xs.getD 7 0 = 0)
    (k : LT.vc RF tps I0 mu0 Qb T (valX (fnL bs) xs) (fun _ => 0)) : CallH Try.prog g6 (SV.dens (valX (fnL bs) xs) args) (hD (valX (fnL bs) xs) ⟨tplT ob, [], 0⟩) 3 (fun v _ _ => v = .bool true) := by
  have hR : RF.ok (valX (fnL bs) xs) := ⟨fun i => by
    match i with
    | 0 | 1 | 2 | 3 | 4 | 5 | 6 => trivial
    | 7 =>
      show (0 : Int) ≤ xs.getD 7 0 ∧ xs.getD 7 0 ≤ (9 : Int)
      omega
    | _ + 8 => trivial, frL_ok hb _⟩
  exact fn_ex (V := fun v => v = .bool true) prog_ok Try.func4 rfl hR (allB_fcs hf) (fun ρ' hf' hR' => ctsOf_has lawPs (lawPs_ok hb) hf' hR') h k
def vals (L S x y z len cap vl vc tl tc : Int) : List Int := [L, S, x, y, z, len, cap, 0, vl, vc, tl, tc]
def B8 (n : Int) : Prop := 0 ≤ n ∧ n ≤ 255
section
variable {bs : List Int} {L S x y z len cap vl vc tl tc : Int}
theorem bPre_ok (hL : B8 L) (hS : B8 S) (hx : B8 x) (hy : B8 y) (hz : B8 z) : AllB (valX (fnL bs) (vals L S x y z len cap vl vc tl tc)) bPre := by
  simp only [bPre, b8, List.range, List.range.loop, List.flatMap_cons, List.flatMap_nil, List.cons_append, List.nil_append, AllB, le, lit, v, X.dB_le, leB_t, X.den_lit, X.den_var]
  exact ⟨hL.1, hL.2, hS.1, hS.2, hx.1, hx.2, hy.1, hy.2, hz.1, hz.2, trivial⟩
theorem in_ok (hx : B8 x) (hy : B8 y) (hz : B8 z) : In (valX (fnL bs) (vals L S x y z len cap vl vc tl tc)) := ⟨hx, hy, hz⟩
theorem bool_ren (nx : Nat) : ∀ v : AV, v = .bool true → ren (upS nx) v = some v := fun v h => by subst h; rfl
theorem allB_append {ρ : Val} {a b : List X} (h : AllB ρ a) (k : AllB ρ b) : AllB ρ (a ++ b) := AllB_of ((allB_fcs h).append (allB_fcs k))
end
def towA (u a b : AV) (L S x y z : Int) : List AV := [.agg [.int .u8 L, .int .u8 S, u, a, b], .agg [.int .u8 x, .int .u8 y, .int .u8 z]]
def uC : List Int → List AV
  | [] => []
  | r :: l => .int .u8 r :: uC l
theorem uC_row (bs : List Int) (xs : List Int) : ∀ (n i : Nat), i + n = bs.length → rowD (valX (fnL bs) xs) [.int .u8 0] [] i n = uC (bs.drop i)
  | 0, i, h => by rw [List.drop_eq_nil_of_le (by omega)]; rfl
  | n + 1, i, h => by
    have hi : i < bs.length := by omega
    rw [List.drop_eq_getElem_cons hi, rowD, uC_row bs xs n (i + 1) (by omega)]
    have hg : bs[i] = bs.getD i 0 := by rw [List.getD_eq_getElem?_getD, List.getElem?_eq_getElem hi]; rfl
    rw [hg]
    show AV.int .u8 (fnL bs 0 [(i : Int)]) :: _ = _
    have e0 : fnL bs 0 [(i : Int)] = bs.getD i 0 := by show bs.getD ((i : Int)).toNat 0 = _; rw [Int.toNat_natCast]
    rw [e0]; rfl
theorem byte_nil : Byte [] := fun i => by simp
def visA (vl vc : Nat) : AV := .slice 1 0 vl vc 4 true
def truA (tl tc : Nat) : AV := .slice 2 0 tl tc 1 true
section
variable {L S x y z : Int} (hL : B8 L) (hS : B8 S) (hx : B8 x) (hy : B8 y) (hz : B8 z) (vl vc tl tc : Nat)
include hL hS hx hy hz vl vc tl tc
theorem call_nnn : CallH Try.prog g6 (towA .nils .nils .nils L S x y z) ⟨objs [], [], 0⟩ 3 (fun v H' nx' => v = .bool true ∧ H' = ⟨objs [], [], 0⟩ ∧ nx' = 3) :=
  call_forget (run_of (bs := []) (xs := vals L S x y z 0 0 vl vc tl tc) byte_nil run_nnn (bPre_ok hL hS hx hy hz) rfl (treeZ_vc rfl (in_ok hx hy hz))) rfl (bool_ren 3)
theorem call_znn (cap : Nat) : CallH Try.prog g6 (towA (.slice 0 0 0 cap 1 true) .nils .nils L S x y z) ⟨objs [], [], 0⟩ 3 (fun v H' nx' => v = .bool true ∧ H' = ⟨objs [], [], 0⟩ ∧ nx' = 3) :=
  call_forget (run_of (bs := []) (xs := vals L S x y z 0 cap vl vc tl tc) byte_nil run_znn (allB_append (bPre_ok hL hS hx hy hz) ⟨by simp only [eq, lit, v, X.dB_eq, eqB_t, X.den_lit, X.den_var]; rfl, by simp only [le, lit, v, X.dB_le, leB_t, X.den_lit, X.den_var]; exact Int.natCast_nonneg _, trivial⟩) rfl (treeZ_vc rfl (in_ok hx hy hz))) rfl (bool_ren 3)
theorem call_rnn {bs : List Int} (hb : Byte bs) (h0 : 0 < bs.length) (cap : Nat) : CallH Try.prog g6 (towA (.slice 0 0 bs.length cap 1 true) .nils .nils L S x y z) ⟨objs [(0, .cells false (uC bs))], [], 0⟩ 3 (fun v H' nx' => v = .bool true ∧ H' = ⟨objs [(0, .cells false (uC bs))], [], 0⟩ ∧ nx' = 3) := by
  have run := run_of hb (xs := vals L S x y z bs.length cap vl vc tl tc) run_rnn (allB_append (bPre_ok hL hS hx hy hz) ⟨by simp only [lt, lit, v, X.dB_lt, ltB_t, X.den_lit, X.den_var]; show (0 : Int) < (bs.length : Int); omega, by simp only [le, lit, v, X.dB_le, leB_t, X.den_lit, X.den_var]; exact Int.natCast_nonneg _, trivial⟩) rfl
    (treeR_vc hb rfl (in_ok hx hy hz) (show (0 : Int) < (bs.length : Int) by omega))
  have ho : hD (valX (fnL bs) (vals L S x y z bs.length cap vl vc tl tc)) ⟨tplT obR, [], 0⟩ = ⟨objs [(0, .cells false (uC bs))], [], 0⟩ := by
    have hr := uC_row bs (vals L S x y z bs.length cap vl vc tl tc) bs.length 0 (by omega)
    show (⟨objs [(0, .cells false (rowD (valX (fnL bs) (vals L S x y z bs.length cap vl vc tl tc)) [.int .u8 0] [] 0 ((bs.length : Int)).toNat))], [], 0⟩ : Hp) = _
    rw [Int.toNat_natCast, hr]; rfl
  rw [ho] at run
  exact call_forget run rfl (bool_ren 3)
theorem call_nns : CallH Try.prog g6 (towA .nils .nils (truA tl tc) L S x y z) ⟨objs [], [], 0⟩ 3 (fun v H' nx' => v = .bool true ∧ H' = ⟨objs [], [], 0⟩ ∧ nx' = 3) :=
  call_forget (run_of (bs := []) (xs := vals L S x y z 0 0 vl vc tl tc) byte_nil run_nns (bPre_ok hL hS hx hy hz) rfl (treeZ_vc rfl (in_ok hx hy hz))) rfl (bool_ren 3)
theorem call_zns (cap : Nat) : CallH Try.prog g6 (towA (.slice 0 0 0 cap 1 true) .nils (truA tl tc) L S x y z) ⟨objs [], [], 0⟩ 3 (fun v H' nx' => v = .bool true ∧ H' = ⟨objs [], [], 0⟩ ∧ nx' = 3) :=
  call_forget (run_of (bs := []) (xs := vals L S x y z 0 cap vl vc tl tc) byte_nil run_zns (allB_append (bPre_ok hL hS hx hy hz) ⟨by simp only [eq, lit, v, X.dB_eq, eqB_t, X.den_lit, X.den_var]; rfl, by simp only [le, lit, v, X.dB_le, leB_t, X.den_lit, X.den_var]; exact Int.natCast_nonneg _, trivial⟩) rfl (treeZ_vc rfl (in_ok hx hy hz))) rfl (bool_ren 3)
theorem call_rns {bs : List Int} (hb : Byte bs) (h0 : 0 < bs.length) (cap : Nat) : CallH Try.prog g6 (towA (.slice 0 0 bs.length cap 1 true) .nils (truA tl tc) L S x y z) ⟨objs [(0, .cells false (uC bs))], [], 0⟩ 3 (fun v H' nx' => v = .bool true ∧ H' = ⟨objs [(0, .cells false (uC bs))], [], 0⟩ ∧ nx' = 3) := by
  have run := run_of hb (xs := vals L S x y z bs.length cap vl vc tl tc) run_rns (allB_append (bPre_ok hL hS hx hy hz) ⟨by simp only [lt, lit, v, X.dB_lt, ltB_t, X.den_lit, X.den_var]; show (0 : Int) < (bs.length : Int); omega, by simp only [le, lit, v, X.dB_le, leB_t, X.den_lit, X.den_var]; exact Int.natCast_nonneg _, trivial⟩) rfl
    (treeR_vc hb rfl (in_ok hx hy hz) (show (0 : Int) < (bs.length : Int) by omega))
  have ho : hD (valX (fnL bs) (vals L S x y z bs.length cap vl vc tl tc)) ⟨tplT obR, [], 0⟩ = ⟨objs [(0, .cells false (uC bs))], [], 0⟩ := by
    have hr := uC_row bs (vals L S x y z bs.length cap vl vc tl tc) bs.length 0 (by omega)
    show (⟨objs [(0, .cells false (rowD (valX (fnL bs) (vals L S x y z bs.length cap vl vc tl tc)) [.int .u8 0] [] 0 ((bs.length : Int)).toNat))], [], 0⟩ : Hp) = _
    rw [Int.toNat_natCast, hr]; rfl
  rw [ho] at run
  exact call_forget run rfl (bool_ren 3)
theorem call_nsn : CallH Try.prog g6 (towA .nils (visA vl vc) .nils L S x y z) ⟨objs [], [], 0⟩ 3 (fun v H' nx' => v = .bool true ∧ H' = ⟨objs [], [], 0⟩ ∧ nx' = 3) :=
  call_forget (run_of (bs := []) (xs := vals L S x y z 0 0 vl vc tl tc) byte_nil run_nsn (bPre_ok hL hS hx hy hz) rfl (treeZ_vc rfl (in_ok hx hy hz))) rfl (bool_ren 3)
theorem call_zsn (cap : Nat) : CallH Try.prog g6 (towA (.slice 0 0 0 cap 1 true) (visA vl vc) .nils L S x y z) ⟨objs [], [], 0⟩ 3 (fun v H' nx' => v = .bool true ∧ H' = ⟨objs [], [], 0⟩ ∧ nx' = 3) :=
  call_forget (run_of (bs := []) (xs := vals L S x y z 0 cap vl vc tl tc) byte_nil run_zsn (allB_append (bPre_ok hL hS hx hy hz) ⟨by simp only [eq, lit, v, X.dB_eq, eqB_t, X.den_lit, X.den_var]; rfl, by simp only [le, lit, v, X.dB_le, leB_t, X.den_lit, X.den_var]; exact Int.natCast_nonneg _, trivial⟩) rfl (treeZ_vc rfl (in_ok hx hy hz))) rfl (bool_ren 3)
theorem call_rsn {bs : List Int} (hb : Byte bs) (h0 : 0 < bs.length) (cap : Nat) : CallH Try.prog g6 (towA (.slice 0 0 bs.length cap 1 true) (visA vl vc) .nils L S x y z) ⟨objs [(0, .cells false (uC bs))], [], 0⟩ 3 (fun v H' nx' => v = .bool true ∧ H' = ⟨objs [(0, .cells false (uC bs))], [], 0⟩ ∧ nx' = 3) := by
  have run := run_of hb (xs := vals L S x y z bs.length cap vl vc tl tc) run_rsn (allB_append (bPre_ok hL hS hx hy hz) ⟨by simp only [lt, lit, v, X.dB_lt, ltB_t, X.den_lit, X.den_var]; show (0 : Int) < (bs.length : Int); omega, by simp only [le, lit, v, X.dB_le, leB_t, X.den_lit, X.den_var]; exact Int.natCast_nonneg _, trivial⟩) rfl
    (treeR_vc hb rfl (in_ok hx hy hz) (show (0 : Int) < (bs.length : Int) by omega))
  have ho : hD (valX (fnL bs) (vals L S x y z bs.length cap vl vc tl tc)) ⟨tplT obR, [], 0⟩ = ⟨objs [(0, .cells false (uC bs))], [], 0⟩ := by
    have hr := uC_row bs (vals L S x y z bs.length cap vl vc tl tc) bs.length 0 (by omega)
    show (⟨objs [(0, .cells false (rowD (valX (fnL bs) (vals L S x y z bs.length cap vl vc tl tc)) [.int .u8 0] [] 0 ((bs.length : Int)).toNat))], [], 0⟩ : Hp) = _
    rw [Int.toNat_natCast, hr]; rfl
  rw [ho] at run
  exact call_forget run rfl (bool_ren 3)
theorem call_nss : CallH Try.prog g6 (towA .nils (visA vl vc) (truA tl tc) L S x y z) ⟨objs [], [], 0⟩ 3 (fun v H' nx' => v = .bool true ∧ H' = ⟨objs [], [], 0⟩ ∧ nx' = 3) :=
  call_forget (run_of (bs := []) (xs := vals L S x y z 0 0 vl vc tl tc) byte_nil run_nss (bPre_ok hL hS hx hy hz) rfl (treeZ_vc rfl (in_ok hx hy hz))) rfl (bool_ren 3)
theorem call_zss (cap : Nat) : CallH Try.prog g6 (towA (.slice 0 0 0 cap 1 true) (visA vl vc) (truA tl tc) L S x y z) ⟨objs [], [], 0⟩ 3 (fun v H' nx' => v = .bool true ∧ H' = ⟨objs [], [], 0⟩ ∧ nx' = 3) :=
  call_forget (run_of (bs := []) (xs := vals L S x y z 0 cap vl vc tl tc) byte_nil run_zss (allB_append (bPre_ok hL hS hx hy hz) ⟨by simp only [eq, lit, v, X.dB_eq, eqB_t, X.den_lit, X.den_var]; rfl, by simp only [le, lit, v, X.dB_le, leB_t, X.den_lit, X.den_var]; exact Int.natCast_nonneg _, trivial⟩) rfl (treeZ_vc rfl (in_ok hx hy hz))) rfl (bool_ren 3)
theorem call_rss {bs : List Int} (hb : Byte bs) (h0 : 0 < bs.length) (cap : Nat) : CallH Try.prog g6 (towA (.slice 0 0 bs.length cap 1 true) (visA vl vc) (truA tl tc) L S x y z) ⟨objs [(0, .cells false (uC bs))], [], 0⟩ 3 (fun v H' nx' => v = .bool true ∧ H' = ⟨objs [(0, .cells false (uC bs))], [], 0⟩ ∧ nx' = 3) := by
  have run := run_of hb (xs := vals L S x y z bs.length cap vl vc tl tc) run_rss (allB_append (bPre_ok hL hS hx hy hz) ⟨by simp only [lt, lit, v, X.dB_lt, ltB_t, X.den_lit, X.den_var]; show (0 : Int) < (bs.length : Int); omega, by simp only [le, lit, v, X.dB_le, leB_t, X.den_lit, X.den_var]; exact Int.natCast_nonneg _, trivial⟩) rfl
    (treeR_vc hb rfl (in_ok hx hy hz) (show (0 : Int) < (bs.length : Int) by omega))
  have ho : hD (valX (fnL bs) (vals L S x y z bs.length cap vl vc tl tc)) ⟨tplT obR, [], 0⟩ = ⟨objs [(0, .cells false (uC bs))], [], 0⟩ := by
    have hr := uC_row bs (vals L S x y z bs.length cap vl vc tl tc) bs.length 0 (by omega)
    show (⟨objs [(0, .cells false (rowD (valX (fnL bs) (vals L S x y z bs.length cap vl vc tl tc)) [.int .u8 0] [] 0 ((bs.length : Int)).toNat))], [], 0⟩ : Hp) = _
    rw [Int.toNat_natCast, hr]; rfl
  rw [ho] at run
  exact call_forget run rfl (bool_ren 3)
end
end Dl
end Go.Proofs.Ytaimphcjjoennaa
