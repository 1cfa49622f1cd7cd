/- TopTrainSlack: greatest divisors by the law's own function; the law over names, whatever its slice is. -/
import Derived.Test.YtjlolhdkjpfcoaaGreatTs7
import Derived.Test.YtjlolhdkjpfcoaaGreatTs4r
import Derived.Test.YtjlolhdkjpfcoaaGreatKt
import Derived.Test.YtjlolhdkjpfcoaaGreatKy
import Derived.Test.YtjlolhdkjpfcoaaGreatFl
import Derived.Test.YtjlolhdkjpfcoaaGreatFr
set_option linter.unusedSimpArgs false
set_option linter.unusedVariables false
namespace Go.Proofs.YtjlolhdkjpfcoaaGreat
open Abs Sx Tg Go.RowKit
set_option maxRecDepth 100000
namespace Ts
def tA : List Tpl := [⟨[2, 3], [(0, .int .i64 (Tg.v 2)), (1, .int .i64 (Tg.v 3))], [], [], 0, [Tg.le (Tg.lit 1) (Tg.v 3)], none⟩]
def RA : Rgs := ⟨[none, none, some (0, bg), some (0, bg)], frS⟩
theorem nth_app : ∀ (a b : List (Option (Int × Int))) (i : Nat), nthR (a ++ b) i = if i < a.length then nthR a i else nthR b (i - a.length)
  | [], b, i => by simp
  | x :: a, b, 0 => by simp [nthR]
  | x :: a, b, i + 1 => by
    simp only [List.cons_append, nthR, nth_app a b i, List.length_cons, Nat.add_lt_add_iff_right, Nat.add_sub_add_right]
theorem nth_none : ∀ n i : Nat, nthR (List.replicate n none) i = none
  | 0, _ => rfl
  | _ + 1, 0 => rfl
  | n + 1, i + 1 => nth_none n i
theorem fnS_ok {rows : List (Int × Int)} (hb : ∀ r ∈ rows, (0 ≤ r.1 ∧ r.1 ≤ 255) ∧ 0 ≤ r.2 ∧ r.2 ≤ 255) (i : Nat) (a : List Int) : inR (fnS rows i a) (nthR frS i) := by
  have hr : ∀ n : Nat, (0 ≤ (rows.getD n (0, 0)).1 ∧ (rows.getD n (0, 0)).1 ≤ 255) ∧ 0 ≤ (rows.getD n (0, 0)).2 ∧ (rows.getD n (0, 0)).2 ≤ 255 := fun n => by
    rw [List.getD_eq_getElem?_getD]
    cases he : rows[n]? with
    | none => exact ⟨⟨Int.le_refl 0, show (0 : Int) ≤ 255 by decide⟩, Int.le_refl 0, show (0 : Int) ≤ 255 by decide⟩
    | some r => exact hb r (List.mem_of_getElem? he)
  have c : i = 0 ∨ i = 1 ∨ (2 ≤ i ∧ i < 60) ∨ i = 60 ∨ (61 ≤ i ∧ i < 90) ∨ i = 90 ∨ i = 91 ∨ i = 92 ∨ 93 ≤ i := by omega
  rcases c with rfl | rfl | ⟨h1, h2⟩ | rfl | ⟨h1, h2⟩ | rfl | rfl | rfl | h1
  · exact (hr _).1
  · exact (hr _).2
  · have e : nthR frS i = none := by
      simp only [frS, nth_app, List.length_append, List.length_cons, List.length_nil, List.length_replicate]
      rw [if_pos (by omega), if_pos (by omega), if_pos (by omega), if_neg (by omega), nth_none]
    rw [e]; trivial
  · show 0 ≤ clK _ ∧ clK _ ≤ 4611686018427387904
    unfold clK; omega
  · have e : nthR frS i = none := by
      simp only [frS, nth_app, List.length_append, List.length_cons, List.length_nil, List.length_replicate]
      rw [if_pos (by omega), if_neg (by omega), nth_none]
    rw [e]; trivial
  · exact clampT_in (by decide)
  · exact clampT_in (by decide)
  · exact clampT_in (by decide)
  · rcases Nat.eq_or_lt_of_le h1 with rfl | h1
    · exact clampT_in (by decide)
    · have e : nthR frS i = none := by
        have : ∃ j, i = 94 + j := ⟨i - 94, by omega⟩
        obtain ⟨j, rfl⟩ := this
        rw [Nat.add_comm]; rfl
      rw [e]; trivial
theorem pArm_ok {rows : List (Int × Int)} (hM : ∀ i a, inR (fnS rows i a) (nthR frS i)) : pArm.Ok Tryz.prog (fnS rows) := by
  refine lp0 (l := []) (R := RA) (tps := fun _ => tA) (f := Tryz.f7) (fuel := 400) (Inv := fun xs _ ρ => Int.gcd (ρ.v 2) (ρ.v 3) = Int.gcd (xs.getD 0 0) (xs.getD 1 0)) (mu := fun xs _ ρ => (ρ.v 2).toNat) (fun _ => (.loop 0 [(2, (.var 0)), (3, (.var 1))] (.ask (.bin .lt (.lit 0) (.var 2)) (.back 0 [(2, (.bin .rem (.var 3) (.var 2))), (3, (.var 2))]) (.leaf (.int .i64 (.var 3))))))
    prog_ok Tryz.func7 rfl trivial rfl hM rfl ?h ?_
  case h => kernel_rfl
  intro xs es hlen hpre hrw
  ( simp only [OT.vc, LT.vc, OT.is, AllB, RgB, inR, nthR, idsF, fsOf, List.drop, List.flatMap_cons, List.flatMap_nil, List.append_nil, List.getElem?_cons_zero, List.getElem?_cons_succ, rwFs, rwF, List.nil_append, List.cons_append, mix_v, mix_fn, upd_fn, upd_nil, upd_cons, X.one, X.isL, cond_false, valX_fn, valX_v, setM_v, List.mem_cons, List.not_mem_nil, or_false, false_or, or_true, true_or, if_true, if_false, ite_true, ite_false, Nat.reduceEqDiff, SV.den, AV.int.injEq, AV.bool.injEq, true_and, and_true, X.dB_lt, X.dB_le, X.dB_eq, X.denB_and, X.denB_or, X.denB_not, X.denB_lit0, X.denB_lit1, X.den_lit, X.den_var, X.den_add, X.den_sub, X.den_mul, X.den_app, X.den_ite, X.den_wrap, X.dB_ite, cond_tf, X.denB_app, X.denB_var, X.sem_cons, X.sem_nil, leB_t, ltB_t, eqB_t, leB_f, ltB_f, eqB_f, Bool.and_eq_true, Bool.or_eq_true, Bool.not_eq_true', Bool.and_eq_false_iff, Bool.or_eq_false_iff, Bool.not_eq_false', pArm, armPre, Tg.le, Tg.lt, Tg.v, Tg.lit, ap2, tA, RA, X.den_rem] at *)
  refine fun w h0 h1 hg => ⟨fun h3 => ?_, fun h3 => ?_⟩
  · have s := gcd_step (a := w 3) (b := w 2) (by omega) h3
    exact ⟨by rw [Int.gcd_comm, s.1, Int.gcd_comm, hg], by omega⟩
  · have e : w 2 = 0 := by omega
    rw [e, Int.gcd_zero_left] at hg
    have h4 : (Int.gcd (xs.getD 0 0) (xs.getD 1 0) : Int) ≤ xs.getD 1 0 := Int.le_of_dvd (by omega) (Int.gcd_dvd_right _ _)
    show w 3 = clampT bg (Int.gcd (xs.getD 0 0) (xs.getD 1 0) : Int)
    rw [clampT_id (by omega) (by omega), ← hg]
    omega
theorem pTr_ok (fn : Nat → List Int → Int) : pTr.Ok Tryz.prog fn := Fl.true_ok ⟨_, _, Tryz.func8, rfl⟩ (ktgood prog_ok) fn
theorem pDi_ok (fn : Nat → List Int → Int) : pDi.Ok Tryz.prog fn := Fl.true_ok ⟨_, _, Tryz.func9, rfl⟩ (kygood prog_ok) fn
theorem L_ok {rows : List (Int × Int)} (hM : ∀ i a, inR (fnS rows i a) (nthR frS i)) : PrNsOk Tryz.prog (fnS rows) tlL :=
  ⟨(pArm_ok hM).toN, (pLst_ok (isT rows)).toN, (pSk1_ok (fun _ => rfl)).toN, (pSk2_ok (fun _ => rfl)).toN, (pSk3_ok (fun _ => rfl)).toN, (pSk4_ok (fun _ => rfl)).toN, (pTr_ok _).toN, (pDi_ok _).toN, trivial⟩
theorem tl_call {rows : List (Int × Int)} {xs : List Int} {z : List X} {r : SV} {ob : List (Nat × SO)} {n : Nat} (hM : ∀ i a, inR (fnS rows i a) (nthR frS i)) (hrun : tlR Tryz.prog z r ob = tre n) (hz : AllB (valX (fnS rows) xs) z) (hp : AllB (valX (fnS rows) xs) tlP) :
    CallH Tryz.prog 3 (SV.dens (valX (fnS rows) xs) (tlA r)) (hD (valX (fnS rows) xs) ⟨tplT ob, [], 0⟩) 1 (fun v _ _ => v = .bool true) :=
  have hRo : RS.ok (valX (fnS rows) xs) := ⟨fun i => by cases i <;> trivial, hM⟩
  call_ex (V := fun v => v = .bool true) prog_ok hRo (ctsN_has tlL (L_ok hM) rfl hRo) (allB_fcs (hz.append hp)) rfl hrun (tre_vc hM hp n)
theorem wf_u8 {n : Int} (h : (Lit.int .u8 n).wf = true) : 0 ≤ n ∧ n ≤ 255 := by
  simp only [Lit.wf, Bool.and_eq_true, decide_eq_true_eq] at h; exact h
def twoE : Fr.El (Int × Int) where
  es := [.int .u8, .int .u8]
  f e := [.int .u8 e.1, .int .u8 e.2]
  Bd e := (0 ≤ e.1 ∧ e.1 ≤ 255) ∧ 0 ≤ e.2 ∧ e.2 ≤ 255
  pos := by decide
  of W vs h := by
    simp only [LKs, Fr.lk_int] at h
    obtain ⟨_, _, rfl, ⟨a, rfl, wa⟩, _, _, rfl, ⟨b, rfl, wb⟩, rfl⟩ := h
    exact ⟨(a, b), ⟨wf_u8 wa, wf_u8 wb⟩, fun m => .cons (by simp only [VR]) (.cons (by simp only [VR]) .nil)⟩
theorem two_row (l : List (Int × Int)) (xs : List Int) : rowD (valX (fnS l) xs) [.int .u8 0, .int .u8 1] [] 0 l.length = Fr.rowC twoE l := Fr.rowD_rowC twoE l 0 fun j e hj => by
  show [AV.int .u8 (l.getD ((0 + j : Nat) : Int).toNat (0, 0)).1, AV.int .u8 (l.getD ((0 + j : Nat) : Int).toNat (0, 0)).2] = _
  rw [Int.toNat_natCast, Nat.zero_add, List.getD_eq_getElem?_getD, hj]; rfl
theorem true_ren (nx : Nat) : ∀ v : AV, v = .bool true → ren (upS nx) v = some v := fun v h => by subst h; rfl
theorem tpl_objs {ρ : Val} : ∀ ob : List (Nat × SO), hD ρ ⟨tplT ob, [], 0⟩ = ⟨objs (ob.map fun p => (p.1, p.2.den ρ)), [], 0⟩
  | [] => rfl
  | p :: ob => by
    have := tpl_objs (ρ := ρ) ob
    simp only [hD, Hp.mk.injEq, and_true] at this ⊢
    simp only [tplT, List.map_cons, objs, Tr.set_map, this]
theorem fit {f : FuncId} {args args' : List AV} {H H' : Hp} {nx : Nat} {Q : AV → Hp → Nat → Prop} (h : CallH Tryz.prog f args H nx Q) (ea : args = args') (eh : H = H') : CallH Tryz.prog f args' H' nx Q := by subst ea eh; exact h
section
variable {s0 : Fr.Slot (Int × Int)} {x0 x1 x2 x3 : Int}
theorem tl_pre {fn : Nat → List Int → Int} (n c : Int) (z0 : 0 ≤ x0 ∧ x0 ≤ 255) (z1 : 0 ≤ x1 ∧ x1 ≤ 255) (z2 : 0 ≤ x2 ∧ x2 ≤ 255) (z3 : 0 ≤ x3 ∧ x3 ≤ 255) : AllB (valX fn [n, c, x0, x1, x2, x3]) tlP := by
  simp only [tlP, rg, le, v, lit, List.cons_append, List.nil_append, AllB, X.dB_le, leB_t, X.den_lit, X.den_var, valX_v, List.getD_cons_zero, List.getD_cons_succ]
  exact ⟨z0.1, z0.2, z1.1, z1.2, z2.1, z2.2, z3.1, z3.2, trivial⟩
theorem ts_call (o0 : s0.Ok twoE) (z0 : 0 ≤ x0 ∧ x0 ≤ 255) (z1 : 0 ≤ x1 ∧ x1 ≤ 255) (z2 : 0 ≤ x2 ∧ x2 ≤ 255) (z3 : 0 ≤ x3 ∧ x3 ≤ 255) :
    CallH Tryz.prog 3 [s0.av twoE 0, .agg [.int .u8 x0, .int .u8 x1, .int .u8 x2, .int .u8 x3]] ⟨objs (s0.obs twoE 0), [], 0⟩ 1 (fun v H' nx' => v = .bool true ∧ H' = ⟨objs (s0.obs twoE 0), [], 0⟩ ∧ nx' = 1) := by
  refine call_forget ?_ (by cases s0 <;> kernel_rfl) (true_ren 1)
  have hN := fnS_ok (rows := []) (fun _ h => by cases h)
  cases s0 with
  | nil => exact fit (tl_call (xs := [0, 0, x0, x1, x2, x3]) hN run_n trivial (tl_pre _ _ z0 z1 z2 z3)) rfl rfl
  | free => exact fit (tl_call (xs := [0, 0, x0, x1, x2, x3]) hN run_f trivial (tl_pre _ _ z0 z1 z2 z3)) rfl rfl
  | row l c =>
    have hM := fnS_ok o0.1
    have hp : AllB (valX (fnS l) [(l.length : Int), (c : Int), x0, x1, x2, x3]) tlP := tl_pre _ _ z0 z1 z2 z3
    have key : CallH Tryz.prog 3 (SV.dens (valX (fnS l) [(l.length : Int), (c : Int), x0, x1, x2, x3]) (tlA rwV)) (hD (valX (fnS l) [(l.length : Int), (c : Int), x0, x1, x2, x3]) ⟨tplT [facO], [], 0⟩) 1 (fun v _ _ => v = .bool true) := by
      have e : ∀ n : Nat, l.length = n → X.denB (valX (fnS l) [(l.length : Int), (c : Int), x0, x1, x2, x3]) (eq (v 0) (lit n)) = true := fun n h => by
        simp only [eq, v, lit, X.dB_eq, eqB_t, X.den_var, X.den_lit, valX_v, List.getD_cons_zero, h]
      have g : ∀ n : Int, n < l.length → X.denB (valX (fnS l) [(l.length : Int), (c : Int), x0, x1, x2, x3]) (lt (lit n) (v 0)) = true := fun n h => by
        simp only [lt, v, lit, X.dB_lt, ltB_t, X.den_var, X.den_lit, valX_v, List.getD_cons_zero]; exact h
      rcases (by omega : l.length = 0 ∨ l.length = 1 ∨ l.length = 2 ∨ 3 ≤ l.length) with h | h | h | h
      · exact tl_call hM run_0 ⟨e 0 h, trivial⟩ hp
      · exact tl_call hM run_1 ⟨e 1 h, trivial⟩ hp
      · exact tl_call hM run_2 ⟨e 2 h, trivial⟩ hp
      · exact tl_call hM run_3 ⟨g 0 (by omega), g 1 (by omega), g 2 (by omega), trivial⟩ hp
    refine fit key rfl ((tpl_objs _).trans ?_)
    show (⟨objs [(0, .cells false (rowD (valX (fnS l) _) [.int .u8 0, .int .u8 1] [] 0 l.length))], [], 0⟩ : Hp) = _
    rw [two_row]; rfl
end
end Ts
end Go.Proofs.YtjlolhdkjpfcoaaGreat
