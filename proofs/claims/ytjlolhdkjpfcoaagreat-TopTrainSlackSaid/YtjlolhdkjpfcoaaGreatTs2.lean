/- TopTrainSlack: the slack of a face with so many links. -/
import Derived.Test.YtjlolhdkjpfcoaaGreatTs1
set_option linter.unusedSimpArgs false
set_option linter.unusedVariables false
namespace Go.Proofs.YtjlolhdkjpfcoaaGreat
open Abs Sx
set_option maxRecDepth 100000
namespace Ts
def lit (n : Int) : X := .lit n
def v (n : Nat) : X := .var n
def le (a b : X) : X := .bin .le a b
def lt (a b : X) : X := .bin .lt a b
def eq (a b : X) : X := .bin .eq a b
def mul (a b : X) : X := .bin .mul a b
def add (a b : X) : X := .bin .add a b
def rem (a b : X) : X := .bin .rem a b
def i64 : Sh := .int .i64
def rg (a b : Int) (x : X) : List X := [le (lit a) x, le x (lit b)]
def xs_ : List X → X
  | [] => .nil
  | x :: l => .cons x (xs_ l)
def fr : List Int → Int × Int → Int × Int
  | s :: n :: d :: l, q => fr l (q.1 * n + s * 3600 * d * q.2, q.2 * n)
  | _, q => q
def frL : List Int → Int × Int
  | s :: n :: d :: l => fr l (s * 3600 * d, n)
  | _ => (0, 1)
def skI (l : List Int) : Int := ((frL l).1 + (frL l).2 * 1000 + -1).tdiv ((frL l).2 * 1000)
def clK (x : Int) : Int := max 0 (min 4611686018427387904 x)
def lnX (m : Nat) : List X := (List.range m).flatMap fun k => [v (1 + 3 * k), v (2 + 3 * k), v (3 + 3 * k)]
def skP (m : Nat) : List X := (List.range m).flatMap (fun k => rg 0 50 (v (1 + 3 * k)) ++ rg 1 200 (v (2 + 3 * k)) ++ rg 1 200 (v (3 + 3 * k)))
def pSk (m : Nat) : Pr := ⟨13, [.lst 3 ((List.range m).flatMap fun _ => [i64, i64, i64])], skP m, fun _ => .leaf (.int .i64 (.app 60 (xs_ (lnX m))))⟩
def nX : Nat → X × X
  | 0 => (lit 0, lit 1)
  | 1 => (mul (mul (v 1) (lit 3600)) (v 3), v 2)
  | m + 2 => (add (mul (nX (m + 1)).1 (v (5 + 3 * m))) (mul (mul (mul (v (4 + 3 * m)) (lit 3600)) (v (6 + 3 * m))) (nX (m + 1)).2), mul (nX (m + 1)).2 (v (5 + 3 * m)))
def skX (m : Nat) : X := .bin .quo (add (add (nX m).1 (mul (nX m).2 (lit 1000))) (lit (-1))) (mul (nX m).2 (lit 1000))
structure Bd (q : Int × Int) (A B : Int) : Prop where
  a0 : 0 ≤ q.1
  a1 : q.1 ≤ A
  b0 : 1 ≤ q.2
  b1 : q.2 ≤ B
theorem bd1 {s n d : Int} (hs : 0 ≤ s ∧ s ≤ 50) (hn : 1 ≤ n ∧ n ≤ 200) (hd : 1 ≤ d ∧ d ≤ 200) : 0 ≤ s * 3600 * d ∧ s * 3600 * d ≤ 36000000 := by
  have h1 : s * 3600 * d ≤ s * 3600 * 200 := Int.mul_le_mul_of_nonneg_left hd.2 (by omega)
  have h0 : 0 ≤ s * 3600 * d := Int.mul_nonneg (by omega) (by omega)
  omega
theorem bd_step {q : Int × Int} {A B s n d : Int} (h : Bd q A B) (hA : 0 ≤ A) (hB : 0 ≤ B) (hs : 0 ≤ s ∧ s ≤ 50) (hn : 1 ≤ n ∧ n ≤ 200) (hd : 1 ≤ d ∧ d ≤ 200) : Bd (q.1 * n + s * 3600 * d * q.2, q.2 * n) (A * 200 + 36000000 * B) (B * 200) := by
  obtain ⟨a0, a1, b0, b1⟩ := h
  have w := bd1 hs hn hd
  have e1 : q.1 * n ≤ A * 200 := Int.mul_le_mul a1 hn.2 (by omega) hA
  have e2 : s * 3600 * d * q.2 ≤ 36000000 * B := Int.mul_le_mul w.2 b1 (by omega) (by decide)
  have e3 : q.2 * n ≤ B * 200 := Int.mul_le_mul b1 hn.2 (by omega) hB
  have e4 : 0 ≤ q.1 * n := Int.mul_nonneg a0 (by omega)
  have e5 : 0 ≤ s * 3600 * d * q.2 := Int.mul_nonneg w.1 (by omega)
  exact ⟨by show 0 ≤ _ + _; omega, by show _ + _ ≤ _; omega, mul_p b0 hn.1, e3⟩
theorem ceil_ok {N D : Int} (h0 : 0 ≤ N) (hD : 1 ≤ D) : N ≤ (N + D * 1000 + -1).tdiv (D * 1000) * (1000 * D) ∧ ((N + D * 1000 + -1).tdiv (D * 1000) - 1) * (1000 * D) < N ∧ 0 ≤ (N + D * 1000 + -1).tdiv (D * 1000) ∧ (N + D * 1000 + -1).tdiv (D * 1000) ≤ N + D * 1000 := by
  have hp : 0 < D * 1000 := by omega
  rw [Int.mul_comm 1000 D]
  rw [Int.tdiv_eq_ediv_of_nonneg (by omega)]
  generalize D * 1000 = E at *
  have h1 := Int.emod_add_mul_ediv (N + E + -1) E
  have h2 := Int.emod_nonneg (N + E + -1) (show E ≠ 0 by omega)
  have h3 := Int.emod_lt_of_pos (N + E + -1) hp
  have h4 : 0 ≤ (N + E + -1) / E := Int.ediv_nonneg (by omega) (by omega)
  have h5 : (N + E + -1) / E ≤ N + E + -1 := Int.ediv_le_self _ (by omega)
  rw [Int.sub_mul, Int.one_mul]
  rw [Int.mul_comm E] at h1
  omega
def skB : Nat → Int × Int
  | 0 => (0, 1)
  | 1 => (36000000, 200)
  | m + 2 => ((skB (m + 1)).1 * 200 + 36000000 * (skB (m + 1)).2, (skB (m + 1)).2 * 200)
def OkL : List Int → Prop
  | s :: n :: d :: l => (0 ≤ s ∧ s ≤ 50) ∧ (1 ≤ n ∧ n ≤ 200) ∧ (1 ≤ d ∧ d ≤ 200) ∧ OkL l
  | _ => True
theorem fr_bd : ∀ (l : List Int) (m : Nat) (q : Int × Int), OkL l → Bd q (skB (m + 1)).1 (skB (m + 1)).2 → Bd (fr l q) (skB (m + 1 + l.length / 3)).1 (skB (m + 1 + l.length / 3)).2
  | [], m, q, _, h => h
  | [_], m, q, _, h => by simpa [fr] using h
  | [_, _], m, q, _, h => by simpa [fr] using h
  | s :: n :: d :: l, m, q, hl, h => by
    have p : ∀ k, 0 ≤ (skB (k + 1)).1 ∧ 0 ≤ (skB (k + 1)).2 := fun k => by
      induction k with
      | zero => exact ⟨by decide, by decide⟩
      | succ k ih =>
        simp only [skB] at ih ⊢
        exact ⟨by omega, by omega⟩
    have hb := bd_step h (p m).1 (p m).2 hl.1 hl.2.1 hl.2.2.1
    have := fr_bd l (m + 1) _ hl.2.2.2 hb
    have e : m + 1 + (s :: n :: d :: l).length / 3 = m + 1 + 1 + l.length / 3 := by
      simp only [List.length_cons]; omega
    rw [e]
    exact this
theorem skI_ok {l : List Int} (h : OkL l) (hl : 3 ≤ l.length ∧ l.length ≤ 14) : 0 ≤ (frL l).1 ∧ 1 ≤ (frL l).2 ∧ clK (skI l) = skI l ∧ (frL l).1 ≤ clK (skI l) * (1000 * (frL l).2) ∧ (clK (skI l) - 1) * (1000 * (frL l).2) < (frL l).1 := by
  match l, h, hl with
  | s :: n :: d :: l, h, hl =>
    have b := bd1 h.1 h.2.1 h.2.2.1
    have hb := fr_bd l 0 (s * 3600 * d, n) h.2.2.2 ⟨b.1, b.2, h.2.1.1, h.2.1.2⟩
    have hB : (skB (0 + 1 + l.length / 3)).1 ≤ 4000000000000000 ∧ (skB (0 + 1 + l.length / 3)).2 ≤ 1600000000 := by
      have : l.length / 3 = 0 ∨ l.length / 3 = 1 ∨ l.length / 3 = 2 ∨ l.length / 3 = 3 := by simp only [List.length_cons] at hl; omega
      rcases this with e | e | e | e <;> rw [e] <;> decide
    obtain ⟨a0, a1, b0, b1⟩ := hb
    have c := ceil_ok a0 b0
    have e : clK (skI (s :: n :: d :: l)) = skI (s :: n :: d :: l) := by
      simp only [clK, skI, frL]
      omega
    rw [e]
    exact ⟨a0, b0, rfl, c.1, c.2.1⟩
section
variable {fn : Nat → List Int → Int} (h60 : ∀ l, fn 60 l = clK (skI l))
def R0 : Rgs := ⟨[], []⟩
include h60
theorem sk_vc {m : Nat} {xs : List Int} {l : List Int} (e : (X.app 60 (xs_ (lnX m))).den (valX fn xs) = fn 60 l) (e2 : (skX m).den (valX fn xs) = skI l) (h : OkL l) (hl : 3 ≤ l.length ∧ l.length ≤ 14) :
    OT.vc (valX fn xs) (fun x : SV => OT.is (valX fn xs) (x.den (valX fn xs)) (OT.leaf (SV.int .i64 (.app 60 (xs_ (lnX m)))))) (OT.leaf (SV.int .i64 (skX m))) := by
  have k := (skI_ok h hl).2.2.1
  have e3 : (X.app 60 (xs_ (lnX m))).den (valX fn xs) = skI l := by rw [e, h60, k]
  simp only [OT.vc, OT.is, SV.den, e3, e2]
theorem pSk_of {m : Nat} (hrun : ∀ b : Bool, runP0 Tryz.prog R0 [] (pSk m) 400 [b] = .leaf (.int .i64 (skX m))) (hn : rowNs (pSk m).sh = 1)
    (k : ∀ xs : List Int, AllB (valX fn xs) (skP m) → ∃ l, (X.app 60 (xs_ (lnX m))).den (valX fn xs) = fn 60 l ∧ (skX m).den (valX fn xs) = skI l ∧ OkL l ∧ 3 ≤ l.length ∧ l.length ≤ 14) : (pSk m).Ok Tryz.prog fn := by
  refine fn_pr0 (l := []) (R := R0) (fuel := 400) (fun _ => .leaf (.int .i64 (skX m))) prog_ok trivial (by cases (rwFs (pSk m).sh 0).2 <;> rfl) (fun i l => by cases i <;> trivial) rfl ?_ fun xs es hlen hpre hrw => ?_
  · rw [hn]; exact ⟨hrun true, hrun false⟩
  · obtain ⟨l, e, e2, h1, h2⟩ := k xs hpre
    exact sk_vc h60 e e2 h1 h2
end
theorem run_sk1 (b : Bool) : runP0 Tryz.prog R0 [] (pSk 1) 400 [b] = .leaf (.int .i64 (skX 1)) := by kernel_rfl
theorem run_sk2 (b : Bool) : runP0 Tryz.prog R0 [] (pSk 2) 400 [b] = .leaf (.int .i64 (skX 2)) := by kernel_rfl
theorem run_sk3 (b : Bool) : runP0 Tryz.prog R0 [] (pSk 3) 400 [b] = .leaf (.int .i64 (skX 3)) := by kernel_rfl
theorem run_sk4 (b : Bool) : runP0 Tryz.prog R0 [] (pSk 4) 400 [b] = .leaf (.int .i64 (skX 4)) := by kernel_rfl
section
variable {fn : Nat → List Int → Int} (h60 : ∀ l, fn 60 l = clK (skI l))
include h60
theorem pSk1_ok : (pSk 1).Ok Tryz.prog fn := pSk_of h60 run_sk1 rfl fun xs hpre => by
  refine ⟨[xs.getD 1 0, xs.getD 2 0, xs.getD 3 0], rfl, ?_, ?_, by simp, by simp⟩
  · simp only [skX, nX, add, mul, lit, v, X.den_quo, X.den_add, X.den_mul, X.den_lit, X.den_var, valX_v, skI, frL, fr, Nat.reduceMul, Nat.reduceAdd]
  · simp only [skP, rg, le, eq, lit, v, List.range, List.range.loop, List.flatMap_cons, List.flatMap_nil, List.cons_append, List.nil_append, AllB, X.dB_le, leB_t, X.den_lit, X.den_var, valX_v, Nat.reduceMul, Nat.reduceAdd] at hpre
    (repeat' (refine And.intro ?_ ?_)) <;> first | omega | trivial
theorem pSk2_ok : (pSk 2).Ok Tryz.prog fn := pSk_of h60 run_sk2 rfl fun xs hpre => by
  refine ⟨[xs.getD 1 0, xs.getD 2 0, xs.getD 3 0, xs.getD 4 0, xs.getD 5 0, xs.getD 6 0], rfl, ?_, ?_, by simp, by simp⟩
  · simp only [skX, nX, add, mul, lit, v, X.den_quo, X.den_add, X.den_mul, X.den_lit, X.den_var, valX_v, skI, frL, fr, Nat.reduceMul, Nat.reduceAdd]
  · simp only [skP, rg, le, eq, lit, v, List.range, List.range.loop, List.flatMap_cons, List.flatMap_nil, List.cons_append, List.nil_append, AllB, X.dB_le, leB_t, X.den_lit, X.den_var, valX_v, Nat.reduceMul, Nat.reduceAdd] at hpre
    (repeat' (refine And.intro ?_ ?_)) <;> first | omega | trivial
theorem pSk3_ok : (pSk 3).Ok Tryz.prog fn := pSk_of h60 run_sk3 rfl fun xs hpre => by
  refine ⟨[xs.getD 1 0, xs.getD 2 0, xs.getD 3 0, xs.getD 4 0, xs.getD 5 0, xs.getD 6 0, xs.getD 7 0, xs.getD 8 0, xs.getD 9 0], rfl, ?_, ?_, by simp, by simp⟩
  · simp only [skX, nX, add, mul, lit, v, X.den_quo, X.den_add, X.den_mul, X.den_lit, X.den_var, valX_v, skI, frL, fr, Nat.reduceMul, Nat.reduceAdd]
  · simp only [skP, rg, le, eq, lit, v, List.range, List.range.loop, List.flatMap_cons, List.flatMap_nil, List.cons_append, List.nil_append, AllB, X.dB_le, leB_t, X.den_lit, X.den_var, valX_v, Nat.reduceMul, Nat.reduceAdd] at hpre
    (repeat' (refine And.intro ?_ ?_)) <;> first | omega | trivial
theorem pSk4_ok : (pSk 4).Ok Tryz.prog fn := pSk_of h60 run_sk4 rfl fun xs hpre => by
  refine ⟨[xs.getD 1 0, xs.getD 2 0, xs.getD 3 0, xs.getD 4 0, xs.getD 5 0, xs.getD 6 0, xs.getD 7 0, xs.getD 8 0, xs.getD 9 0, xs.getD 10 0, xs.getD 11 0, xs.getD 12 0], rfl, ?_, ?_, by simp, by simp⟩
  · simp only [skX, nX, add, mul, lit, v, X.den_quo, X.den_add, X.den_mul, X.den_lit, X.den_var, valX_v, skI, frL, fr, Nat.reduceMul, Nat.reduceAdd]
  · simp only [skP, rg, le, eq, lit, v, List.range, List.range.loop, List.flatMap_cons, List.flatMap_nil, List.cons_append, List.nil_append, AllB, X.dB_le, leB_t, X.den_lit, X.den_var, valX_v, Nat.reduceMul, Nat.reduceAdd] at hpre
    (repeat' (refine And.intro ?_ ?_)) <;> first | omega | trivial
end
end Ts
end Go.Proofs.YtjlolhdkjpfcoaaGreat
