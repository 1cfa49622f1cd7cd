/- DialSteady: the law over names, whatever its slices are. -/
import Derived.Test.YtncfikkeagflkaaDt1
import Derived.Test.YtncfikkeagflkaaDt2
import Derived.Test.YtncfikkeagflkaaDt3
import Derived.Test.YtncfikkeagflkaaDt4
import Derived.Test.YtncfikkeagflkaaDt5
import Derived.Test.YtncfikkeagflkaaDt6
import Derived.Test.YtncfikkeagflkaaDt7
import Derived.Test.YtncfikkeagflkaaDt8
import Derived.Test.YtncfikkeagflkaaDr1
import Derived.Test.YtncfikkeagflkaaDr2
import Derived.Test.YtncfikkeagflkaaDr3
import Derived.Test.YtncfikkeagflkaaDr4
import Derived.Test.YtncfikkeagflkaaDr5
import Derived.Test.YtncfikkeagflkaaDr6
import Derived.Test.YtncfikkeagflkaaDr7
import Derived.Test.YtncfikkeagflkaaDr8
import Derived.Test.YtncfikkeagflkaaDr9
import Derived.Test.YtncfikkeagflkaaDr10
import Derived.Test.YtncfikkeagflkaaDr11
import Derived.Test.YtncfikkeagflkaaDr12
import Derived.Test.YtncfikkeagflkaaDe
import Derived.Test.YtncfikkeagflkaaK4
import Derived.Test.YtncfikkeagflkaaFl
import Derived.Test.YtncfikkeagflkaaFr
set_option linter.unusedSimpArgs false
set_option linter.unusedVariables false
namespace Go.Proofs.Ytncfikkeagflkaa
open Abs Sx Go.RowKit
set_option maxRecDepth 100000
namespace Dd
theorem wf_u8 {n : Int} (h : (Lit.int .u8 n).wf = true) : 0 ≤ n ∧ n ≤ 255 := by
  simp only [Lit.wf, Bool.and_eq_true, decide_eq_true_eq] at h; exact h
def sixE : Fr.El (Nat → Int) where
  es := [.int .u8, .int .u8, .int .u8, .int .u8, .int .u8, .int .u8]
  f e := [.int .u8 (e 0), .int .u8 (e 1), .int .u8 (e 2), .int .u8 (e 3), .int .u8 (e 4), .int .u8 (e 5)]
  Bd e := ∀ f, f < 6 → 0 ≤ e f ∧ e f ≤ 255
  pos := by decide
  of W vs h := by
    simp only [LKs, Fr.lk_int] at h
    obtain ⟨_, _, rfl, ⟨a, rfl, wa⟩, _, _, rfl, ⟨b, rfl, wb⟩, _, _, rfl, ⟨c, rfl, wc⟩, _, _, rfl, ⟨d, rfl, wd⟩, _, _, rfl, ⟨e, rfl, we⟩, _, _, rfl, ⟨g, rfl, wg⟩, rfl⟩ := h
    have r : ∀ (m : NM) (x : Int), VR m (.int .u8 x) (.int .u8 x) := fun m x => by simp only [VR]
    refine ⟨fun i => [a, b, c, d, e, g].getD i 0, fun f hf => ?_, fun m => .cons (r m a) (.cons (r m b) (.cons (r m c) (.cons (r m d) (.cons (r m e) (.cons (r m g) .nil)))))⟩
    match f, hf with
    | 0, _ => exact wf_u8 wa
    | 1, _ => exact wf_u8 wb
    | 2, _ => exact wf_u8 wc
    | 3, _ => exact wf_u8 wd
    | 4, _ => exact wf_u8 we
    | 5, _ => exact wf_u8 wg
    | n + 6, h => exact absurd h (by omega)
def byE : Fr.El Int where
  es := [.int .u8]
  f x := [.int .u8 x]
  Bd x := 0 ≤ x ∧ x ≤ 255
  pos := by decide
  of W vs h := by
    simp only [LKs, Fr.lk_int] at h
    obtain ⟨_, _, rfl, ⟨a, rfl, wa⟩, rfl⟩ := h
    exact ⟨a, wf_u8 wa, fun m => .cons (by simp only [VR]) .nil⟩
def fnD (l : List (Nat → Int)) (f : Nat) (a : List Int) : Int := l.getD (a.headD 0).toNat (fun _ => 0) f
theorem fnD_ok {l : List (Nat → Int)} (h : ∀ e ∈ l, sixE.Bd e) (i : Nat) (a : List Int) : inR (fnD l i a) (nthR RD.fr i) := by
  have hb : ∀ f, f < 6 → 0 ≤ fnD l f a ∧ fnD l f a ≤ 255 := fun f hf => by
    unfold fnD
    rw [List.getD_eq_getElem?_getD]
    cases he : l[(a.headD 0).toNat]? with
    | none => exact ⟨Int.le_refl 0, show (0 : Int) ≤ 255 by decide⟩
    | some e => exact h e (List.mem_of_getElem? he) f hf
  match i with
  | 0 => exact hb 0 (by decide)
  | 1 => exact hb 1 (by decide)
  | 2 => exact hb 2 (by decide)
  | 3 => exact hb 3 (by decide)
  | 4 => exact hb 4 (by decide)
  | 5 => exact hb 5 (by decide)
  | _ + 6 => trivial
theorem six_row (l : List (Nat → Int)) (xs : List Int) : rowD (valX (fnD l) xs) ((List.range 6).map fun i => .int .u8 i) [] 0 l.length = Fr.rowC sixE l := Fr.rowD_rowC sixE l 0 fun j e hj => by
  show [AV.int .u8 (l.getD ((0 + j : Nat) : Int).toNat (fun _ => 0) 0), AV.int .u8 (l.getD ((0 + j : Nat) : Int).toNat (fun _ => 0) 1), AV.int .u8 (l.getD ((0 + j : Nat) : Int).toNat (fun _ => 0) 2), AV.int .u8 (l.getD ((0 + j : Nat) : Int).toNat (fun _ => 0) 3), AV.int .u8 (l.getD ((0 + j : Nat) : Int).toNat (fun _ => 0) 4), AV.int .u8 (l.getD ((0 + j : Nat) : Int).toNat (fun _ => 0) 5)] = _
  rw [Int.toNat_natCast, Nat.zero_add, List.getD_eq_getElem?_getD, hj]; rfl
def tSV : Fr.Slot Int → SV
  | .nil => .nils
  | .free => .slice 1 0 (lit 0) (lit 0) (lit 0) 1 true
  | .row l c => .slice 1 0 (lit 0) (lit (l.length : Int)) (lit (c : Int)) 1 true
theorem tSV_den (s : Fr.Slot Int) (ρ : Val) : (tSV s).den ρ = s.av byE 1 := by cases s <;> rfl
theorem true_ren (nx : Nat) : ∀ v : AV, v = .bool true → ren (upS nx) v = some v := fun v h => by subst h; rfl
theorem tpl_objs {ρ : Val} : ∀ ob : List (Nat × SO), hD ρ ⟨tplT ob, [], 0⟩ = ⟨objs (ob.map fun p => (p.1, p.2.den ρ)), [], 0⟩
  | [] => rfl
  | p :: ob => by
    have := tpl_objs (ρ := ρ) ob
    simp only [hD, Hp.mk.injEq, and_true] at this ⊢
    simp only [tplT, List.map_cons, objs, Tr.set_map, this]
theorem fit {f : FuncId} {args args' : List AV} {H H' : Hp} {nx : Nat} {Q : AV → Hp → Nat → Prop} (h : CallH Try.prog f args H nx Q) (ea : args = args') (eh : H = H') : CallH Try.prog f args' H' nx Q := by subst ea eh; exact h
theorem gn1_0 (t : SV) : Goal (zF 1 0 [false]) t [facO] := goal_of (fun _ => o1_0) rfl (n1_0 t)
theorem gn2_0 (t : SV) : Goal (zF 1 0 [true]) t [facO] := goal_of (fun _ => o2_0) rfl (n2_0 t)
theorem gn11_0 (t : SV) : Goal (zF 2 0 [false, false]) t [facO] := goal_of (fun _ => o11_0) rfl (n11_0 t)
theorem gn11_1 (t : SV) : Goal (zF 2 1 [false, false]) t [facO] := goal_of (fun _ => o11_1) rfl (n11_1 t)
theorem gn12_0 (t : SV) : Goal (zF 2 0 [false, true]) t [facO] := goal_of (fun _ => o12_0) rfl (n12_0 t)
theorem gn12_1 (t : SV) : Goal (zF 2 1 [false, true]) t [facO] := goal_of (fun _ => o12_1) rfl (n12_1 t)
theorem gn21_0 (t : SV) : Goal (zF 2 0 [true, false]) t [facO] := goal_of (fun _ => o21_0) rfl (n21_0 t)
theorem gn21_1 (t : SV) : Goal (zF 2 1 [true, false]) t [facO] := goal_of (fun _ => o21_1) rfl (n21_1 t)
theorem gn22_0 (t : SV) : Goal (zF 2 0 [true, true]) t [facO] := goal_of (fun _ => o22_0) rfl (n22_0 t)
theorem gn22_1 (t : SV) : Goal (zF 2 1 [true, true]) t [facO] := goal_of (fun _ => o22_1) rfl (n22_1 t)
theorem gn111_0 (t : SV) : Goal (zF 3 0 [false, false, false]) t [facO] := goal_of (fun _ => o111_0) rfl (n111_0 t)
theorem gn111_1 (t : SV) : Goal (zF 3 1 [false, false, false]) t [facO] := goal_of (fun _ => o111_1) rfl (n111_1 t)
theorem gn111_2 (t : SV) : Goal (zF 3 2 [false, false, false]) t [facO] := goal_of (fun _ => o111_2) rfl (n111_2 t)
theorem gn112_0 (t : SV) : Goal (zF 3 0 [false, false, true]) t [facO] := goal_of (fun _ => o112_0) rfl (n112_0 t)
theorem gn112_1 (t : SV) : Goal (zF 3 1 [false, false, true]) t [facO] := goal_of (fun _ => o112_1) rfl (n112_1 t)
theorem gn112_2 (t : SV) : Goal (zF 3 2 [false, false, true]) t [facO] := goal_of (fun _ => o112_2) rfl (n112_2 t)
theorem gn121_0 (t : SV) : Goal (zF 3 0 [false, true, false]) t [facO] := goal_of (fun _ => o121_0) rfl (n121_0 t)
theorem gn121_1 (t : SV) : Goal (zF 3 1 [false, true, false]) t [facO] := goal_of (fun _ => o121_1) rfl (n121_1 t)
theorem gn121_2 (t : SV) : Goal (zF 3 2 [false, true, false]) t [facO] := goal_of (fun _ => o121_2) rfl (n121_2 t)
theorem gn122_0 (t : SV) : Goal (zF 3 0 [false, true, true]) t [facO] := goal_of (fun _ => o122_0) rfl (n122_0 t)
theorem gn122_1 (t : SV) : Goal (zF 3 1 [false, true, true]) t [facO] := goal_of (fun _ => o122_1) rfl (n122_1 t)
theorem gn122_2 (t : SV) : Goal (zF 3 2 [false, true, true]) t [facO] := goal_of (fun _ => o122_2) rfl (n122_2 t)
theorem gn211_0 (t : SV) : Goal (zF 3 0 [true, false, false]) t [facO] := goal_of (fun _ => o211_0) rfl (n211_0 t)
theorem gn211_1 (t : SV) : Goal (zF 3 1 [true, false, false]) t [facO] := goal_of (fun _ => o211_1) rfl (n211_1 t)
theorem gn211_2 (t : SV) : Goal (zF 3 2 [true, false, false]) t [facO] := goal_of (fun _ => o211_2) rfl (n211_2 t)
theorem gn212_0 (t : SV) : Goal (zF 3 0 [true, false, true]) t [facO] := goal_of (fun _ => o212_0) rfl (n212_0 t)
theorem gn212_1 (t : SV) : Goal (zF 3 1 [true, false, true]) t [facO] := goal_of (fun _ => o212_1) rfl (n212_1 t)
theorem gn212_2 (t : SV) : Goal (zF 3 2 [true, false, true]) t [facO] := goal_of (fun _ => o212_2) rfl (n212_2 t)
theorem gn221_0 (t : SV) : Goal (zF 3 0 [true, true, false]) t [facO] := goal_of (fun _ => o221_0) rfl (n221_0 t)
theorem gn221_1 (t : SV) : Goal (zF 3 1 [true, true, false]) t [facO] := goal_of (fun _ => o221_1) rfl (n221_1 t)
theorem gn221_2 (t : SV) : Goal (zF 3 2 [true, true, false]) t [facO] := goal_of (fun _ => o221_2) rfl (n221_2 t)
theorem gn222_0 (t : SV) : Goal (zF 3 0 [true, true, true]) t [facO] := goal_of (fun _ => o222_0) rfl (n222_0 t)
theorem gn222_1 (t : SV) : Goal (zF 3 1 [true, true, true]) t [facO] := goal_of (fun _ => o222_1) rfl (n222_1 t)
theorem gn222_2 (t : SV) : Goal (zF 3 2 [true, true, true]) t [facO] := goal_of (fun _ => o222_2) rfl (n222_2 t)
theorem g1 (t : SV) (a : Bool) : Goal (zF 1 0 [a]) t [facO] := by cases a <;> first | exact gn1_0 t | exact gn2_0 t
theorem g2 (t : SV) (a b : Bool) (k : Nat) (hk : k < 2) : Goal (zF 2 k [a, b]) t [facO] := by
  match k, hk with
  | 0, _ => exact match a, b with
    | false, false => gn11_0 t
    | false, true => gn12_0 t
    | true, false => gn21_0 t
    | true, true => gn22_0 t
  | 1, _ => exact match a, b with
    | false, false => gn11_1 t
    | false, true => gn12_1 t
    | true, false => gn21_1 t
    | true, true => gn22_1 t
  | i + 2, h => exact absurd h (by omega)
theorem g3 (t : SV) (a b c : Bool) (k : Nat) (hk : k < 3) : Goal (zF 3 k [a, b, c]) t [facO] := by
  match k, hk with
  | 0, _ => exact match a, b, c with
    | false, false, false => gn111_0 t
    | false, false, true => gn112_0 t
    | false, true, false => gn121_0 t
    | false, true, true => gn122_0 t
    | true, false, false => gn211_0 t
    | true, false, true => gn212_0 t
    | true, true, false => gn221_0 t
    | true, true, true => gn222_0 t
  | 1, _ => exact match a, b, c with
    | false, false, false => gn111_1 t
    | false, false, true => gn112_1 t
    | false, true, false => gn121_1 t
    | false, true, true => gn122_1 t
    | true, false, false => gn211_1 t
    | true, false, true => gn212_1 t
    | true, true, false => gn221_1 t
    | true, true, true => gn222_1 t
  | 2, _ => exact match a, b, c with
    | false, false, false => gn111_2 t
    | false, false, true => gn112_2 t
    | false, true, false => gn121_2 t
    | false, true, true => gn122_2 t
    | true, false, false => gn211_2 t
    | true, false, true => gn212_2 t
    | true, true, false => gn221_2 t
    | true, true, true => gn222_2 t
  | i + 3, h => exact absurd h (by omega)
theorem two_ok {ρ : Val} (i : Int) : X.denB ρ (two (decide (128 ≤ ρ.fn 5 [i])) i) = true := by
  cases h : decide (128 ≤ ρ.fn 5 [i]) with
  | true =>
    have := of_decide_eq_true h
    simp only [two, cond_true, le, ap1, lit, X.dB_le, leB_t, X.den_lit, X.den_app, X.sem_cons, X.sem_nil]; exact this
  | false =>
    have := of_decide_eq_false h
    simp only [two, cond_false, lt, ap1, lit, X.dB_lt, ltB_t, X.den_lit, X.den_app, X.sem_cons, X.sem_nil]; omega
theorem isN_ok {ρ : Val} {n k : Nat} (h : (ρ.v 9).tmod (n : Int) = (k : Int)) : AllB ρ (isN n k) := by
  refine AllB.append (AllB_of fun y hy => ?_) ⟨?_, trivial⟩
  · obtain ⟨i, hi, rfl⟩ := List.mem_map.1 hy
    have := List.mem_range.1 hi
    simp only [eq, rem, v, lit, X.denB_not, Bool.not_eq_true', X.dB_eq, eqB_f, X.den_rem, X.den_var, X.den_lit, h]
    omega
  · simp only [eq, rem, v, lit, X.dB_eq, eqB_t, X.den_rem, X.den_var, X.den_lit, h]
theorem pKn4_ok (fn : Nat → List Int → Int) : pKn4.Ok Try.prog fn := Fl.true_ok ⟨_, _, Try.func11, rfl⟩ (k4good prog_ok) _
section
variable {s0 : Fr.Slot (Nat → Int)} {s1 : Fr.Slot Int} {x0 x1 x2 x3 x4 x5 x6 x7 x8 : Int}
theorem rw_pre {fn : Nat → List Int → Int} (n c : Int) (z0 : 0 ≤ x0 ∧ x0 ≤ 255) (z1 : 0 ≤ x1 ∧ x1 ≤ 255) (z2 : 0 ≤ x2 ∧ x2 ≤ 255) (z3 : 0 ≤ x3 ∧ x3 ≤ 255) (z4 : 0 ≤ x4 ∧ x4 ≤ 65535) (z5 : 0 ≤ x5 ∧ x5 ≤ 255) (z6 : 0 ≤ x6 ∧ x6 ≤ 255) (z7 : 0 ≤ x7 ∧ x7 ≤ 255) (z8 : 0 ≤ x8 ∧ x8 ≤ 255) :
    AllB (valX fn [x0, x1, x2, x3, n, c, x4, x5, x6, x7, x8]) rwP := by
  simp only [rwP, rg, le, v, lit, List.cons_append, List.nil_append, AllB, X.dB_le, leB_t, X.den_lit, X.den_var, valX_v, List.getD_cons_zero, List.getD_cons_succ]
  exact ⟨z0.1, z0.2, z1.1, z1.2, z2.1, z2.2, z3.1, z3.2, z4.1, z4.2, z5.1, z5.2, z6.1, z6.2, z7.1, z7.2, z8.1, z8.2, trivial⟩
theorem ds_ok {fn : Nat → List Int → Int} {n c : Int} (hn : 0 ≤ n) (h : AllB (valX fn [x0, x1, x2, x3, n, c, x4, x5, x6, x7, x8]) rwP) : AllB (valX fn [x0, x1, x2, x3, n, c, x4, x5, x6, x7, x8]) dsP := by
  simp only [rwP, dsP, rg, le, v, lit, List.cons_append, List.nil_append, AllB, X.dB_le, leB_t, X.den_lit, X.den_var, valX_v, List.getD_cons_zero, List.getD_cons_succ] at h ⊢
  obtain ⟨a0, a1, a2, a3, a4, a5, a6, a7, r⟩ := h
  exact ⟨a0, a1, a2, a3, a4, a5, a6, a7, hn, r⟩
theorem row_call {l : List (Nat → Int)} {c : Nat} (t : SV) (hK : pKn4.Ok Try.prog (fnD l)) (hl : 0 < l.length) (hM : ∀ i a, inR (fnD l i a) (nthR RD.fr i)) (hp : AllB (valX (fnD l) [x0, x1, x2, x3, (l.length : Int), (c : Int), x4, x5, x6, x7, x8]) rwP) (h7 : 0 ≤ x7) :
    CallH Try.prog 3 (SV.dens (valX (fnD l) [x0, x1, x2, x3, (l.length : Int), (c : Int), x4, x5, x6, x7, x8]) (dsA rwV t)) (hD (valX (fnD l) [x0, x1, x2, x3, (l.length : Int), (c : Int), x4, x5, x6, x7, x8]) ⟨tplT [facO], [], 0⟩) 2 (fun v _ _ => v = .bool true) := by
  generalize hρ : valX (fnD l) [x0, x1, x2, x3, (l.length : Int), (c : Int), x4, x5, x6, x7, x8] = ρ at *
  have v9 : ρ.v 9 = x7 := by rw [← hρ]; rfl
  have v4 : ρ.v 4 = (l.length : Int) := by rw [← hρ]; rfl
  have hlen : l.length = 1 ∨ l.length = 2 ∨ 3 ≤ l.length := by omega
  have hmod : ∀ n : Nat, 0 < n → ∃ k : Nat, k < n ∧ (ρ.v 9).tmod (n : Int) = (k : Int) := fun n hn => by
    have a := Int.tmod_nonneg (n : Int) h7
    have b := Int.tmod_lt_of_pos x7 (show (0 : Int) < (n : Int) by omega)
    refine ⟨(x7.tmod n).toNat, by omega, ?_⟩
    rw [v9]; omega
  rcases hlen with h | h | h
  · obtain ⟨k, hk, e⟩ := hmod 1 (by decide)
    obtain rfl : k = 0 := by omega
    have := g1 t (decide (128 ≤ ρ.fn 5 [0])) (fnD l) [x0, x1, x2, x3, (l.length : Int), (c : Int), x4, x5, x6, x7, x8] hK hM
    rw [hρ] at this
    refine this (AllB.append (AllB.append (a := [eq (v 4) (lit 1)] ++ [two _ 0]) ⟨?_, two_ok 0, trivial⟩ (isN_ok e)) hp)
    simp only [eq, v, lit, X.dB_eq, eqB_t, X.den_var, X.den_lit, v4]; omega
  · obtain ⟨k, hk, e⟩ := hmod 2 (by decide)
    have := g2 t (decide (128 ≤ ρ.fn 5 [0])) (decide (128 ≤ ρ.fn 5 [1])) k hk (fnD l) [x0, x1, x2, x3, (l.length : Int), (c : Int), x4, x5, x6, x7, x8] hK hM
    rw [hρ] at this
    refine this (AllB.append (AllB.append (a := [eq (v 4) (lit 2)] ++ [two _ 0, two _ 1]) ⟨?_, two_ok 0, two_ok 1, trivial⟩ (isN_ok e)) hp)
    simp only [eq, v, lit, X.dB_eq, eqB_t, X.den_var, X.den_lit, v4]; omega
  · obtain ⟨k, hk, e⟩ := hmod 3 (by decide)
    have := g3 t (decide (128 ≤ ρ.fn 5 [0])) (decide (128 ≤ ρ.fn 5 [1])) (decide (128 ≤ ρ.fn 5 [2])) k hk (fnD l) [x0, x1, x2, x3, (l.length : Int), (c : Int), x4, x5, x6, x7, x8] hK hM
    rw [hρ] at this
    refine this (AllB.append (AllB.append (a := [lt (lit 0) (v 4), lt (lit 1) (v 4), lt (lit 2) (v 4)] ++ [two _ 0, two _ 1, two _ 2]) ⟨?_, ?_, ?_, two_ok 0, two_ok 1, two_ok 2, trivial⟩ (isN_ok e)) hp) <;>
      (simp only [lt, v, lit, X.dB_lt, ltB_t, X.den_var, X.den_lit, v4]; omega)
theorem none_call {fn : Nat → List Int → Int} {z : List X} {r : SV} {ob : List (Nat × SO)} {n c : Int} (t : SV) (hK : pKn4.Ok Try.prog fn) (hM : ∀ i a, inR (fn i a) (nthR RD.fr i)) (hrun : dsR Try.prog [(pOfM [1] 0).toN, pKn4.toN] z r t ob = dsT) (hz : AllB (valX fn [x0, x1, x2, x3, n, c, x4, x5, x6, x7, x8]) z) (hn : 0 ≤ n) (hp : AllB (valX fn [x0, x1, x2, x3, n, c, x4, x5, x6, x7, x8]) rwP) :
    CallH Try.prog 3 (SV.dens (valX fn [x0, x1, x2, x3, n, c, x4, x5, x6, x7, x8]) (dsA r t)) (hD (valX fn [x0, x1, x2, x3, n, c, x4, x5, x6, x7, x8]) ⟨tplT ob, [], 0⟩) 2 (fun v _ _ => v = .bool true) :=
  call_law (l := [(pOfM [1] 0).toN, pKn4.toN]) (R := RD) (fuel := 600) (pre := z ++ rwP) dsT ⟨o1_0.toN, hK.toN, (trivial : True)⟩ rfl hM rfl hrun (hz.append hp) (ds_vc (ds_ok hn hp))
theorem ds_call (o0 : s0.Ok sixE) (o1 : s1.Ok byE) (z0 : 0 ≤ x0 ∧ x0 ≤ 255) (z1 : 0 ≤ x1 ∧ x1 ≤ 255) (z2 : 0 ≤ x2 ∧ x2 ≤ 255) (z3 : 0 ≤ x3 ∧ x3 ≤ 255) (z4 : 0 ≤ x4 ∧ x4 ≤ 65535) (z5 : 0 ≤ x5 ∧ x5 ≤ 255) (z6 : 0 ≤ x6 ∧ x6 ≤ 255) (z7 : 0 ≤ x7 ∧ x7 ≤ 255) (z8 : 0 ≤ x8 ∧ x8 ≤ 255) :
    CallH Try.prog 3 [.agg [.int .u8 x0, .int .u8 x1, .int .u8 x2, .int .u8 x3, s0.av sixE 0, .int .u16 x4, .int .u8 x5, .int .u8 x6, s1.av byE 1], .int .u8 x7, .int .u8 x8] ⟨objs (s0.obs sixE 0), [], 0⟩ 2 (fun v H' nx' => v = .bool true ∧ H' = ⟨objs (s0.obs sixE 0), [], 0⟩ ∧ nx' = 2) := by
  clear o1
  refine call_forget ?_ (by cases s0 <;> kernel_rfl) (true_ren 2)
  cases s0 with
  | nil =>
    have := none_call (x0 := x0) (x1 := x1) (x2 := x2) (x3 := x3) (x4 := x4) (x5 := x5) (x6 := x6) (x7 := x7) (x8 := x8) (n := 0) (c := 0) (tSV s1) (pKn4_ok (fnD [])) (fnD_ok (fun _ h => by cases h)) (run_nil (tSV s1)) trivial (Int.le_refl 0) (rw_pre _ _ z0 z1 z2 z3 z4 z5 z6 z7 z8)
    refine fit this ?_ rfl
    simp only [dsA, SV.dens, SV.den, tSV_den]; rfl
  | free =>
    have := none_call (x0 := x0) (x1 := x1) (x2 := x2) (x3 := x3) (x4 := x4) (x5 := x5) (x6 := x6) (x7 := x7) (x8 := x8) (n := 0) (c := 0) (tSV s1) (pKn4_ok (fnD [])) (fnD_ok (fun _ h => by cases h)) (run_free (tSV s1)) trivial (Int.le_refl 0) (rw_pre _ _ z0 z1 z2 z3 z4 z5 z6 z7 z8)
    refine fit this ?_ rfl
    simp only [dsA, SV.dens, SV.den, tSV_den]; rfl
  | row l c =>
    have hM := fnD_ok o0.1
    have hp : AllB (valX (fnD l) [x0, x1, x2, x3, (l.length : Int), (c : Int), x4, x5, x6, x7, x8]) rwP := rw_pre _ _ z0 z1 z2 z3 z4 z5 z6 z7 z8
    have key : CallH Try.prog 3 (SV.dens (valX (fnD l) [x0, x1, x2, x3, (l.length : Int), (c : Int), x4, x5, x6, x7, x8]) (dsA rwV (tSV s1))) (hD (valX (fnD l) [x0, x1, x2, x3, (l.length : Int), (c : Int), x4, x5, x6, x7, x8]) ⟨tplT [facO], [], 0⟩) 2 (fun v _ _ => v = .bool true) := by
      rcases Nat.eq_zero_or_pos l.length with h | h
      · refine none_call (tSV s1) (pKn4_ok (fnD l)) hM (run_zero (tSV s1)) ⟨?_, trivial⟩ (by omega) hp
        simp only [eq, v, lit, X.dB_eq, eqB_t, X.den_var, X.den_lit, valX_v, List.getD_cons_zero, List.getD_cons_succ, h]; rfl
      · exact row_call (tSV s1) (pKn4_ok (fnD l)) h hM hp z7.1
    refine fit key ?_ ((tpl_objs _).trans ?_)
    · simp only [dsA, SV.dens, SV.den, tSV_den]; rfl
    · show (⟨objs [(0, .cells false (rowD (valX (fnD l) _) ((List.range 6).map fun i => .int .u8 i) [] 0 l.length))], [], 0⟩ : Hp) = _
      rw [six_row]; rfl
end
end Dd
end Go.Proofs.Ytncfikkeagflkaa
