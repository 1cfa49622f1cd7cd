/- DropGoes: the law, over the machine. -/
import Derived.Test.YtaimphcjjoennaaKb
import Derived.Test.YtaimphcjjoennaaW2
set_option linter.unusedSimpArgs false
set_option linter.unusedVariables false
namespace Go.Proofs.Ytaimphcjjoennaa
open Abs Sx Go.RowKit
set_option maxRecDepth 100000
namespace Dw
theorem known_spec (fn : Nat → List Int → Int) (xs : List Int) : CallH Try.prog 6 [] (hD (valX fn xs) ⟨tplT [], [], 0⟩) 0 (fun v _ _ => ∃ w, OT.sem (valX fn xs) (OT.leaf (SV.bool (lit 1))) = some w ∧ v = w.den (valX fn xs)) := by
  intro _
  obtain ⟨f, c, h1, h2⟩ : ∃ f c, Try.prog.funcs[6]? = some f ∧ f.body = some c := ⟨_, _, Try.func6, rfl⟩
  refine ⟨(progOk_fn prog_ok h1 h2).2, fun m W ys hxs hR ht => ?_⟩
  have hx : ys = #[] := by
    have := hxs.nil_inv
    exact Array.toList_eq_nil_iff.1 this
  subst hx
  refine (kbgood prog_ok W).mono ?_
  rintro e W' ⟨rfl, hB⟩
  have hgn : ∀ n, (hD (valX fn xs) ⟨tplT [], [], 0⟩).get n = none := fun n => rfl
  refine ⟨.bool true, .bool true, hD (valX fn xs) ⟨tplT [], [], 0⟩, 0, m, rfl, ?_, by simp only [VR], ⟨_, rfl, rfl⟩⟩
  exact { erel := hR, eq := fun _ h => (by cases h), new := fun n k _ h => (by rw [ht n (Nat.zero_le _)] at h; cases h), top := ht, rel := ⟨fun n ob h => (by rw [hgn] at h; cases h), fun i j oi oj ki kj h => (by rw [hgn] at h; cases h)⟩, frame := fun b hb _ => hB.block b hb, os := hB.os, tape := hB.tape, output := hB.output, size := hB.size, ap := .refl (wf_of rfl rfl) }
def pKnown : Pr := ⟨6, [], [], fun _ => .leaf (.bool (lit 1))⟩
theorem pKnown_ok (fn : Nat → List Int → Int) : pKnown.Ok Try.prog fn := pr_ok fun xs es _ _ _ _ => known_spec fn xs
def lawP (pre : List X) : Pr := ⟨3, [clkSh, i64, i64], pre, fun _ => .leaf (.bool (lit 1))⟩
def R0 : Rgs := ⟨[], frW⟩
def R1 : Rgs := ⟨[], frV⟩
def l30 : List X := [le (v 1) (lit 30)]
section
variable {hs : List Hr}
def preA : List X := [lt (lit 30) (v 1)]
def preB : List X := l30 ++ [lt (v 0) (lit 1)]
def preC : List X := l30 ++ [le (lit 1) (v 0), lt (lit 3000) (v 0)]
def preD : List X := l30 ++ [le (lit 1) (v 0), le (v 0) (lit 3000), eq (v 1) (lit 0)]
def preE : List X := l30 ++ [le (lit 1) (v 0), le (v 0) (lit 3000), .not (eq (v 1) (lit 24)), .not (eq (v 1) (lit 0))]
def preF : List X := l30 ++ [le (lit 1) (v 0), le (v 0) (lit 3000), eq (v 1) (lit 24), le (lit 0) (ap 64 (v 1))]
def preG : List X := l30 ++ goPre
theorem lawA : (lawP preA).Ok Try.prog (fnW hs) := by
  refine un1 (l := [pKnown]) (R := R0) (fuel := 400) (fun _ => .leaf (.bool (.lit 1))) prog_ok ⟨pKnown_ok _, trivial⟩ rfl (frW_ok _ _) rfl rfl ?h1 ?h2 ?_
  case h1 => kernel_rfl
  case h2 => kernel_rfl
  intro xs es hlen hpre hrw
  rfl
theorem lawB : (lawP preB).Ok Try.prog (fnW hs) := by
  refine un1 (l := [pKnown, pVH, rHrs]) (R := R0) (fuel := 400) (fun _ => .ask (.bin .eq (.var 1) (.lit 0)) (.leaf (.bool (.lit 1))) (.leaf (.bool (.lit 1)))) prog_ok ⟨pKnown_ok _, pVH_ok, rHrs_ok, trivial⟩ rfl (frW_ok _ _) rfl rfl ?h1 ?h2 ?_
  case h1 => kernel_rfl
  case h2 => kernel_rfl
  intro xs es hlen hpre hrw
  exact ⟨fun _ => rfl, fun _ => rfl⟩
theorem lawC : (lawP preC).Ok Try.prog (fnW hs) := by
  refine un1 (l := [pKnown, pVH, rHrs]) (R := R0) (fuel := 400) (fun _ => .ask (.bin .eq (.var 1) (.lit 0)) (.leaf (.bool (.lit 1))) (.leaf (.bool (.lit 1)))) prog_ok ⟨pKnown_ok _, pVH_ok, rHrs_ok, trivial⟩ rfl (frW_ok _ _) rfl rfl ?h1 ?h2 ?_
  case h1 => kernel_rfl
  case h2 => kernel_rfl
  intro xs es hlen hpre hrw
  exact ⟨fun _ => rfl, fun _ => rfl⟩
theorem lawD : (lawP preD).Ok Try.prog (fnW hs) := by
  refine un1 (l := [pKnown]) (R := R0) (fuel := 400) (fun _ => .leaf (.bool (.lit 1))) prog_ok ⟨pKnown_ok _, trivial⟩ rfl (frW_ok _ _) rfl rfl ?h1 ?h2 ?_
  case h1 => kernel_rfl
  case h2 => kernel_rfl
  intro xs es hlen hpre hrw
  rfl
theorem lawE : (lawP preE).Ok Try.prog (fnW hs) := by
  refine un1 (l := [pKnown, pVH, rHrs]) (R := R0) (fuel := 400) (fun _ => .leaf (.bool (.lit 1))) prog_ok ⟨pKnown_ok _, pVH_ok, rHrs_ok, trivial⟩ rfl (frW_ok _ _) rfl rfl ?h1 ?h2 ?_
  case h1 => kernel_rfl
  case h2 => kernel_rfl
  intro xs es hlen hpre hrw
  rfl
theorem lawF : (lawP preF).Ok Try.prog (fnW hs) := by
  refine un1 (l := [pKnown, pVH, rHrs]) (R := R0) (fuel := 400) (fun _ => .leaf (.bool (.lit 1))) prog_ok ⟨pKnown_ok _, pVH_ok, rHrs_ok, trivial⟩ rfl (frW_ok _ _) rfl rfl ?h1 ?h2 ?_
  case h1 => kernel_rfl
  case h2 => kernel_rfl
  intro xs es hlen hpre hrw
  rfl
theorem lawG (hok : AllOk hs) : (lawP preG).Ok Try.prog (fnW hs) := by
  refine un1 (l := [pKnown, pVH, rHrs, pGoes, rGoes]) (R := R1) (fuel := 400) (fun _ => .ask (.bin .le (.lit 0) (.var 3)) (.ask (.bin .le (.var 3) (.var 0)) (.ask (.bin .le (.lit 0) (.var 4)) (.ask (.bin .le (.var 4) (.lit 2000)) (.leaf (.bool (.lit 1))) (.leaf (.bool (.lit 1)))) (.leaf (.bool (.lit 1)))) (.leaf (.bool (.lit 1)))) (.leaf (.bool (.lit 1)))) prog_ok ⟨pKnown_ok _, pVH_ok, rHrs_ok, pGoes_ok hok, rGoes_ok hok, trivial⟩ rfl (frV_ok hok _) rfl rfl ?h1 ?h2 ?_
  case h1 => kernel_rfl
  case h2 => kernel_rfl
  intro xs es hlen hpre hrw
  exact ⟨fun _ => ⟨fun _ => ⟨fun _ => ⟨fun _ => rfl, fun _ => rfl⟩, fun _ => rfl⟩, fun _ => rfl⟩, fun _ => rfl⟩
def g2 : Nat := 3
theorem law_at {pre : List X} (hk : (lawP pre).Ok Try.prog (fnW hs)) {a : List AV} {H : Hp} {nx : Nat} {xs : List Int} {ns : List Nat} {es : List Bool}
    (hfl : FlRs (valX (fnW hs) []) H [clkSh, i64, i64] a xs ns es) (hpre : AllB (valX (fnW hs) xs) pre) : CallOk Try.prog g2 a H nx (.bool true) H nx :=
  hk a H nx (.bool true) ⟨xs, ns, es, .bool (lit 1), hfl, hpre, rfl, rfl, rfl⟩
/-- All hours are valid, if no one of them is not. -/
theorem allOk_of {n : Int} (hl : (hs.length : Int) = n) (hn : n ≤ 1000) (h : fnW hs 64 [n] < 0) : AllOk hs := by
  intro i
  by_cases hi : i.toNat < hs.length
  · have h2 : firstN (fun i => !(okH (at_ hs i))) (min n.toNat 1000) < 0 := h
    have := firstN_neg h2 i.toNat (by omega)
    simp only [Bool.not_eq_false'] at this
    have e : at_ hs i = at_ hs (i.toNat : Int) := by unfold at_; rw [Int.toNat_natCast]
    rw [e]; exact this
  · have e : at_ hs i = h0 := by unfold at_; rw [List.getD_eq_getElem?_getD, List.getElem?_eq_none (by omega)]; rfl
    rw [e]; rfl
theorem law_all {a : List AV} {H : Hp} {nx : Nat} {xs : List Int} {ns : List Nat} {es : List Bool}
    (hfl : FlRs (valX (fnW hs) []) H [clkSh, i64, i64] a xs ns es) (hl : (hs.length : Int) = xs.getD 1 0) : CallOk Try.prog g2 a H nx (.bool true) H nx := by
  have key : ∀ {pre : List X}, AllB (valX (fnW hs) xs) pre → (lawP pre).Ok Try.prog (fnW hs) → CallOk Try.prog g2 a H nx (.bool true) H nx := fun h k => law_at k hfl h
  by_cases c1 : 30 < xs.getD 1 0
  · refine key (pre := preA) ?_ lawA
    simp only [preA, AllB, lt, v, lit, X.dB_lt, ltB_t, X.den_lit, X.den_var, valX_v, and_true]; exact c1
  by_cases c2 : xs.getD 0 0 < 1
  · refine key (pre := preB) ?_ lawB
    simp only [preB, l30, List.cons_append, List.nil_append, AllB, le, lt, v, lit, X.dB_lt, X.dB_le, ltB_t, leB_t, X.den_lit, X.den_var, valX_v, and_true]; omega
  by_cases c3 : 3000 < xs.getD 0 0
  · refine key (pre := preC) ?_ lawC
    simp only [preC, l30, List.cons_append, List.nil_append, AllB, le, lt, v, lit, X.dB_lt, X.dB_le, ltB_t, leB_t, X.den_lit, X.den_var, valX_v, and_true]; omega
  by_cases c4 : xs.getD 1 0 = 0
  · refine key (pre := preD) ?_ lawD
    simp only [preD, l30, List.cons_append, List.nil_append, AllB, le, eq, v, lit, X.dB_eq, X.dB_le, eqB_t, leB_t, X.den_lit, X.den_var, valX_v, and_true]; omega
  by_cases c5 : xs.getD 1 0 = 24
  · by_cases c6 : fnW hs 64 [xs.getD 1 0] < 0
    · refine key (pre := preG) ?_ (lawG (allOk_of hl (by omega) c6))
      simp only [preG, goPre, l30, List.cons_append, List.nil_append, AllB, le, lt, eq, ap, v, lit, X.dB_lt, X.dB_eq, X.dB_le, ltB_t, eqB_t, leB_t, X.den_lit, X.den_var, X.den_app, X.sem_cons, X.sem_nil, valX_v, valX_fn, and_true]; omega
    · refine key (pre := preF) ?_ lawF
      simp only [preF, l30, List.cons_append, List.nil_append, AllB, le, lt, eq, ap, v, lit, X.dB_lt, X.dB_eq, X.dB_le, ltB_t, eqB_t, leB_t, X.den_lit, X.den_var, X.den_app, X.sem_cons, X.sem_nil, valX_v, valX_fn, and_true]; omega
  · refine key (pre := preE) ?_ lawE
    simp only [preE, l30, List.cons_append, List.nil_append, AllB, le, lt, eq, v, lit, X.dB_lt, X.dB_eq, X.dB_le, X.denB_not, Bool.not_eq_true', eqB_f, ltB_t, eqB_t, leB_t, X.den_lit, X.den_var, valX_v, and_true]; omega
end
/-! Slices that have no room. -/
theorem lawPs0 : PrsOk Try.prog (fnW []) [pKnown] := ⟨pKnown_ok _, trivial⟩
theorem run_at {xs : List Int} {args : List SV} (T : OT SV)
    (h : (exS Try.prog R0 (ksOf R0 [pKnown]) 400 [] (.call g2 args ⟨tplT [], [], 0⟩ 0)).map retV = T) (k : OT.vc (valX (fnW []) xs) (fun v => v.den (valX (fnW []) xs) = .bool true) T) :
    CallH Try.prog g2 (SV.dens (valX (fnW []) xs) args) (hD (valX (fnW []) xs) ⟨tplT [], [], 0⟩) 0 (fun v _ _ => v = .bool true) :=
  have hR : R0.ok (valX (fnW []) xs) := ⟨fun i => by cases i <;> trivial, frW_ok _ _⟩
  call_ex (V := fun v => v = .bool true) prog_ok hR (ctsOf_has [pKnown] lawPs0 rfl hR) (fun x hx => by cases hx) rfl h k
def goS (a : SV) : List SV := [.agg [.int .i64 (v 0), a], .int .i64 (v 1), .int .i64 (v 2)]
def treeN : OT SV := .ask (.bin .lt (.var 0) (.lit 1)) (.leaf (.bool (.lit 1))) (.ask (.bin .lt (.lit 3000) (.var 0)) (.leaf (.bool (.lit 1))) (.leaf (.bool (.lit 1))))
theorem treeN_vc {ρ : Val} : OT.vc ρ (fun v => v.den ρ = .bool true) treeN := ⟨fun _ => rfl, fun _ => ⟨fun _ => rfl, fun _ => rfl⟩⟩
theorem run_nil {xs : List Int} : CallH Try.prog g2 (SV.dens (valX (fnW []) xs) (goS .nils)) (hD (valX (fnW []) xs) ⟨tplT [], [], 0⟩) 0 (fun v _ _ => v = .bool true) :=
  run_at treeN (by kernel_rfl) treeN_vc
theorem run_free {xs : List Int} : CallH Try.prog g2 (SV.dens (valX (fnW []) xs) (goS (.slice 9 0 (lit 0) (lit 0) (lit 0) 2 true))) (hD (valX (fnW []) xs) ⟨tplT [], [], 0⟩) 0 (fun v _ _ => v = .bool true) :=
  run_at treeN (by kernel_rfl) treeN_vc
theorem bool_ren (nx : Nat) : ∀ v : AV, v = .bool true → ren (upS nx) v = some v := fun v h => by subst h; rfl
def goA (L : Int) (a : AV) (s f : Int) : List AV := [.agg [.int .i64 L, a], .int .i64 s, .int .i64 f]
theorem call_nil (L s f : Int) : CallH Try.prog g2 (goA L .nils s f) ⟨objs [], [], 0⟩ 0 (fun v H' nx' => v = .bool true ∧ H' = ⟨objs [], [], 0⟩ ∧ nx' = 0) :=
  call_forget (run_nil (xs := [L, s, f])) rfl (bool_ren 0)
theorem call_free (L s f : Int) : CallH Try.prog g2 (goA L (.slice 9 0 0 0 2 true) s f) ⟨objs [], [], 0⟩ 0 (fun v H' nx' => v = .bool true ∧ H' = ⟨objs [], [], 0⟩ ∧ nx' = 0) :=
  call_forget (run_free (xs := [L, s, f])) rfl (bool_ren 0)
/-! Rows. -/
def hoC : List Hr → List AV
  | [] => []
  | r :: l => .int .i64 r.1 :: .int .i64 r.2 :: hoC l
theorem hoC_row (hs : List Hr) : ∀ (n i : Nat), i + n = hs.length → rowD (valX (fnW hs) []) cmH [] i n = hoC (hs.drop i)
  | 0, i, h => by rw [List.drop_eq_nil_of_le (by omega)]; rfl
  | n + 1, i, h => by
    have hi : i < hs.length := by omega
    rw [List.drop_eq_getElem_cons hi, rowD, hoC_row hs n (i + 1) (by omega)]
    have hg : hs[i] = hs.getD i h0 := by rw [List.getD_eq_getElem?_getD, List.getElem?_eq_getElem hi]; rfl
    rw [hg]
    show AV.int .i64 (fnW hs 0 [(i : Int)]) :: AV.int .i64 (fnW hs 1 [(i : Int)]) :: _ = _
    have e0 : fnW hs 0 [(i : Int)] = (hs.getD i h0).1 := by show (hs.getD ((i : Int)).toNat h0).1 = _; rw [Int.toNat_natCast]
    have e1 : fnW hs 1 [(i : Int)] = (hs.getD i h0).2 := by show (hs.getD ((i : Int)).toNat h0).2 = _; rw [Int.toNat_natCast]
    rw [e0, e1]; rfl
theorem fl_nil {ρ : Val} {H : Hp} : FlRs ρ H [] [] [] [] [] := ⟨rfl, rfl, rfl, rfl⟩
theorem fl_int {ρ : Val} {H : Hp} {k : IntKind} {l : List Sh} {t : List AV} {y : List Int} {m : List Nat} {d : List Bool} (n : Int) (h : FlRs ρ H l t y m d) : FlRs ρ H (.int k :: l) (.int k n :: t) (n :: y) m d :=
  ⟨_, t, [n], y, [], m, [], d, rfl, ⟨n, rfl, rfl, rfl, rfl⟩, h, rfl, rfl, rfl⟩
theorem fl_agg {ρ : Val} {H : Hp} {c l : List Sh} {u t : List AV} {x y : List Int} {k m : List Nat} {e d : List Bool} (g : FlRs ρ H c u x k e) (h : FlRs ρ H l t y m d) : FlRs ρ H (.agg c :: l) (.agg u :: t) (x ++ y) (k ++ m) (e ++ d) :=
  ⟨_, t, x, y, k, m, e, d, rfl, ⟨u, rfl, g⟩, h, rfl, rfl, rfl⟩
theorem fl_row {ρ : Val} {H : Hp} {cm : List Cmp} {l : List Sh} {t : List AV} {y : List Int} {m : List Nat} {d : List Bool} (n len cap : Nat) (ex w : Bool) (hg : H.get n = some (.cells w (rowD ρ cm [] 0 len))) (h : FlRs ρ H l t y m d) :
    FlRs ρ H (.row cm :: l) (.slice n 0 len cap cm.length ex :: t) ((len : Int) :: (cap : Int) :: y) (n :: m) (ex :: d) :=
  ⟨_, t, [(len : Int), (cap : Int)], y, [n], m, [ex], d, rfl, ⟨n, len, cap, ex, w, rfl, hg, rfl, rfl, rfl⟩, h, rfl, rfl, rfl⟩
theorem call_row (hs : List Hr) (cap : Nat) (L s f : Int) : CallH Try.prog g2 (goA L (.slice 0 0 hs.length cap 2 true) s f) ⟨objs [(0, .cells false (hoC hs))], [], 0⟩ 1 (fun v H' nx' => v = .bool true ∧ H' = ⟨objs [(0, .cells false (hoC hs))], [], 0⟩ ∧ nx' = 1) := by
  refine callH_of_ok (law_all (hs := hs) (xs := [L, hs.length, cap, s, f]) (ns := [0]) (es := [true]) ?_ rfl)
  have h0 : (⟨objs [(0, .cells false (hoC hs))], [], 0⟩ : Hp).get 0 = some (.cells false (rowD (valX (fnW hs) []) cmH [] 0 hs.length)) := by
    rw [hoC_row hs hs.length 0 (by omega)]; rfl
  exact fl_agg (x := [L, hs.length, cap]) (k := [0]) (e := [true]) (fl_int L (fl_row (cm := cmH) 0 hs.length cap true false h0 fl_nil)) (fl_int s (fl_int f fl_nil))
end Dw
end Go.Proofs.Ytaimphcjjoennaa
