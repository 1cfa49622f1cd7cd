/- TrainCycles over the machine. -/
import Derived.Test.YtiafbooogggdnaaT4r
set_option linter.unusedSimpArgs false
set_option linter.unusedVariables false
namespace Go.Proofs.Ytiafbooogggdnaa
open Abs Sx Go.RowKit
set_option maxRecDepth 100000
namespace Tn
def g9 : Nat := 9
theorem law_at {pre : List X} {bs : List (Int × Int)} (hk : (law pre).Ok Try.prog (fnT bs)) {a : List AV} {H : Hp} {nx : Nat} {xs : List Int} {ns : List Nat} {es : List Bool}
    (hfl : FlRs (valX (fnT bs) []) H [.row cmB, .int .u16] a xs ns es) (hpre : AllB (valX (fnT bs) xs) pre) : CallOk Try.prog g9 a H nx (.bool true) H nx :=
  hk a H nx (.bool true) ⟨xs, ns, es, .bool (lit 1), hfl, hpre, rfl, rfl, rfl⟩
theorem allB_append {ρ : Val} {a b : List X} (h : AllB ρ a) (k : AllB ρ b) : AllB ρ (a ++ b) := AllB_of ((allB_fcs h).append (allB_fcs k))
theorem law_all {bs : List (Int × Int)} (hb : Byte bs) {a : List AV} {H : Hp} {nx : Nat} {xs : List Int} {ns : List Nat} {es : List Bool}
    (hfl : FlRs (valX (fnT bs) []) H [.row cmB, .int .u16] a xs ns es) (h0 : 0 ≤ xs.getD 0 0) (h1 : 0 ≤ xs.getD 2 0) (h2 : xs.getD 2 0 ≤ 65535) : CallOk Try.prog g9 a H nx (.bool true) H nx := by
  have h16 : AllB (valX (fnT bs) xs) n16 := by simp only [n16, AllB, le, v, lit, X.dB_le, leB_t, X.den_lit, X.den_var, valX_v, and_true]; omega
  by_cases c0 : xs.getD 0 0 = 0
  · exact law_at (law0 hb) hfl (allB_append (by simp only [AllB, eq, v, lit, X.dB_eq, eqB_t, X.den_lit, X.den_var, valX_v, and_true]; omega) h16)
  by_cases c1 : xs.getD 0 0 = 1
  · exact law_at (law1 hb) hfl (allB_append (by simp only [AllB, eq, v, lit, X.dB_eq, eqB_t, X.den_lit, X.den_var, valX_v, and_true]; omega) h16)
  by_cases c2 : xs.getD 0 0 = 2
  · exact law_at (law2 hb) hfl (allB_append (by simp only [AllB, eq, v, lit, X.dB_eq, eqB_t, X.den_lit, X.den_var, valX_v, and_true]; omega) h16)
  by_cases c3 : xs.getD 0 0 = 3
  · exact law_at (law3 hb) hfl (allB_append (by simp only [AllB, eq, v, lit, X.dB_eq, eqB_t, X.den_lit, X.den_var, valX_v, and_true]; omega) h16)
  · exact law_at (law4 hb) hfl (allB_append (by simp only [pre4, AllB, lt, v, lit, X.dB_lt, ltB_t, X.den_lit, X.den_var, valX_v, and_true]; omega) h16)
/-! Slices that have no room. -/
def one93 : List X := [eq (ap2 93 (lit 1) (lit 1)) (lit 1), eq (ap2 90 (lit 1) (lit 1)) (lit 1), le (lit 0) (v 0), le (v 0) (lit 65535)]
def R9 : Rgs := ⟨[], frT⟩
theorem byte_nil : Byte [] := fun i => by simp
theorem run_at {xs : List Int} {args : List SV} (T : OT SV) (hf : AllB (valX (fnT []) xs) one93)
    (h : (exS Try.prog R9 (ksOf R9 lawPs) 2000 one93 (.call g9 args ⟨tplT [], [], 0⟩ 0)).map retV = T) (k : OT.vc (valX (fnT []) xs) (fun v => v.den (valX (fnT []) xs) = .bool true) T) :
    CallH Try.prog g9 (SV.dens (valX (fnT []) xs) args) (hD (valX (fnT []) xs) ⟨tplT [], [], 0⟩) 0 (fun v _ _ => v = .bool true) :=
  have hR : R9.ok (valX (fnT []) xs) := ⟨fun i => by cases i <;> trivial, frT_ok byte_nil _⟩
  call_ex (V := fun v => v = .bool true) prog_ok hR (ctsOf_has lawPs (lawPs_ok byte_nil) rfl hR) (allB_fcs hf) rfl h k
theorem run_nil {xs : List Int} (hf : AllB (valX (fnT []) xs) one93) : CallH Try.prog g9 (SV.dens (valX (fnT []) xs) [.nils, .int .u16 (v 0)]) (hD (valX (fnT []) xs) ⟨tplT [], [], 0⟩) 0 (fun v _ _ => v = .bool true) :=
  run_at (.leaf (.bool (lit 1))) hf (by kernel_rfl) rfl
theorem run_free {xs : List Int} (hf : AllB (valX (fnT []) xs) one93) : CallH Try.prog g9 (SV.dens (valX (fnT []) xs) [.slice 9 0 (lit 0) (lit 0) (lit 0) 2 true, .int .u16 (v 0)]) (hD (valX (fnT []) xs) ⟨tplT [], [], 0⟩) 0 (fun v _ _ => v = .bool true) :=
  run_at (.leaf (.bool (lit 1))) hf (by kernel_rfl) rfl
theorem one93_ok {n : Int} (h1 : 0 ≤ n) (h2 : n ≤ 65535) : AllB (valX (fnT []) [n]) one93 := by
  have a : fnT [] 93 [1, 1] = 1 := by decide
  have b : fnT [] 90 [1, 1] = 1 := by decide
  refine ⟨?_, ?_, ?_, ?_, trivial⟩
  · simp only [eq, lit, X.dB_eq, eqB_t, X.den_lit, ap2_den]; exact a
  · simp only [eq, lit, X.dB_eq, eqB_t, X.den_lit, ap2_den]; exact b
  · simp only [le, v, lit, X.dB_le, leB_t, X.den_lit, X.den_var]; exact h1
  · simp only [le, v, lit, X.dB_le, leB_t, X.den_lit, X.den_var]; exact h2
theorem bool_ren (nx : Nat) : ∀ v : AV, v = .bool true → ren (upS nx) v = some v := fun v h => by subst h; rfl
theorem call_nil {n : Int} (h1 : 0 ≤ n) (h2 : n ≤ 65535) : CallH Try.prog g9 [.nils, .int .u16 n] ⟨objs [], [], 0⟩ 0 (fun v H' nx' => v = .bool true ∧ H' = ⟨objs [], [], 0⟩ ∧ nx' = 0) :=
  call_forget (run_nil (one93_ok h1 h2)) rfl (bool_ren 0)
theorem call_free {n : Int} (h1 : 0 ≤ n) (h2 : n ≤ 65535) : CallH Try.prog g9 [.slice 9 0 0 0 2 true, .int .u16 n] ⟨objs [], [], 0⟩ 0 (fun v H' nx' => v = .bool true ∧ H' = ⟨objs [], [], 0⟩ ∧ nx' = 0) :=
  call_forget (run_free (one93_ok h1 h2)) rfl (bool_ren 0)
/-! Rows. -/
def byC : List (Int × Int) → List AV
  | [] => []
  | r :: l => .int .u8 r.1 :: .int .u8 r.2 :: byC l
theorem byC_row (bs : List (Int × Int)) : ∀ (n i : Nat), i + n = bs.length → rowD (valX (fnT bs) []) cmB [] i n = byC (bs.drop i)
  | 0, i, h => by rw [List.drop_eq_nil_of_le (by omega)]; rfl
  | n + 1, i, h => by
    have hi : i < bs.length := by omega
    rw [List.drop_eq_getElem_cons hi, rowD, byC_row bs n (i + 1) (by omega)]
    have hg : bs[i] = bs.getD i (0, 0) := by rw [List.getD_eq_getElem?_getD, List.getElem?_eq_getElem hi]; rfl
    rw [hg]
    show AV.int .u8 (fnT bs 0 [(i : Int)]) :: AV.int .u8 (fnT bs 1 [(i : Int)]) :: _ = _
    have e0 : fnT bs 0 [(i : Int)] = (bs.getD i (0, 0)).1 := by show (bs.getD ((i : Int)).toNat (0, 0)).1 = _; rw [Int.toNat_natCast]
    have e1 : fnT bs 1 [(i : Int)] = (bs.getD i (0, 0)).2 := by show (bs.getD ((i : Int)).toNat (0, 0)).2 = _; rw [Int.toNat_natCast]
    rw [e0, e1]; rfl
theorem fl_nil {ρ : Val} {H : Hp} : FlRs ρ H [] [] [] [] [] := ⟨rfl, rfl, rfl, rfl⟩
theorem fl_int {ρ : Val} {H : Hp} {k : IntKind} {l : List Sh} {t : List AV} {y : List Int} {m : List Nat} {d : List Bool} (n : Int) (h : FlRs ρ H l t y m d) : FlRs ρ H (.int k :: l) (.int k n :: t) (n :: y) m d :=
  ⟨_, t, [n], y, [], m, [], d, rfl, ⟨n, rfl, rfl, rfl, rfl⟩, h, rfl, rfl, rfl⟩
theorem fl_row {ρ : Val} {H : Hp} {cm : List Cmp} {l : List Sh} {t : List AV} {y : List Int} {m : List Nat} {d : List Bool} (n len cap : Nat) (ex w : Bool) (hg : H.get n = some (.cells w (rowD ρ cm [] 0 len))) (h : FlRs ρ H l t y m d) :
    FlRs ρ H (.row cm :: l) (.slice n 0 len cap cm.length ex :: t) ((len : Int) :: (cap : Int) :: y) (n :: m) (ex :: d) :=
  ⟨_, t, [(len : Int), (cap : Int)], y, [n], m, [ex], d, rfl, ⟨n, len, cap, ex, w, rfl, hg, rfl, rfl, rfl⟩, h, rfl, rfl, rfl⟩
theorem call_row {bs : List (Int × Int)} (hb : Byte bs) (cap : Nat) {n : Int} (h1 : 0 ≤ n) (h2 : n ≤ 65535) : CallH Try.prog g9 [.slice 0 0 bs.length cap 2 true, .int .u16 n] ⟨objs [(0, .cells false (byC bs))], [], 0⟩ 1 (fun v H' nx' => v = .bool true ∧ H' = ⟨objs [(0, .cells false (byC bs))], [], 0⟩ ∧ nx' = 1) := by
  refine callH_of_ok (law_all hb (xs := [bs.length, cap, n]) (ns := [0]) (es := [true]) ?_ (Int.natCast_nonneg _) h1 h2)
  have h0 : (⟨objs [(0, .cells false (byC bs))], [], 0⟩ : Hp).get 0 = some (.cells false (rowD (valX (fnT bs) []) cmB [] 0 bs.length)) := by
    rw [byC_row bs bs.length 0 (by omega)]; rfl
  exact fl_row (cm := cmB) 0 bs.length cap true false h0 (fl_int n fl_nil)
end Tn
end Go.Proofs.Ytiafbooogggdnaa
