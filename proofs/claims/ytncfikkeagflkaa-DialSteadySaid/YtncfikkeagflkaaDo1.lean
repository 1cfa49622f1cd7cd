/- dial.Off of works with up to three faces, each with one link or two, where the clock is fast by one number. -/
import Derived.Test.YtncfikkeagflkaaDu3
set_option linter.unusedSimpArgs false
set_option linter.unusedVariables false
namespace Go.Proofs.Ytncfikkeagflkaa
open Abs Sx
set_option maxRecDepth 100000
namespace Dd
def faceM (m : Nat) : List Sh := [i64, i64, .lst 3 ((List.range m).flatMap fun _ => [i64, i64, i64]), i64, i64]
def wrkM (ms : List Nat) : Sh := .agg [i64, i64, i64, .lst 5 (ms.flatMap faceM)]
def ofs : List Nat → Nat → Nat
  | _, 0 => 4
  | m :: ms, i + 1 => 5 + 3 * m + ofs ms i
  | [], _ + 1 => 4
def endO (ms : List Nat) : Nat := ofs ms ms.length
def slM (o m : Nat) : X := match m with
  | 1 => .bin .quo (add (add (mul (mul (v (o + 3)) (lit 3600)) (v (o + 5))) (mul (v (o + 4)) (lit 1000))) (lit (-1))) (mul (v (o + 4)) (lit 1000))
  | _ => .bin .quo (add (add (add (mul (mul (mul (v (o + 3)) (lit 3600)) (v (o + 5))) (v (o + 7))) (mul (mul (mul (v (o + 6)) (lit 3600)) (v (o + 8))) (v (o + 4)))) (mul (mul (v (o + 4)) (v (o + 7))) (lit 1000))) (lit (-1))) (mul (mul (v (o + 4)) (v (o + 7))) (lit 1000))
def facP (o m : Nat) : List X := rg (-3600) 3600 (v o) ++ rg (-3600) 3600 (v (o + 1)) ++ [le (v o) (v (o + 1))] ++ (List.range m).flatMap (fun k => rg 0 50 (v (o + 3 + 3 * k)) ++ rg 1 200 (v (o + 4 + 3 * k)) ++ rg 1 200 (v (o + 5 + 3 * k))) ++ rg (-10000) 10000 (v (o + 3 + 3 * m)) ++ rg 0 10000 (v (o + 4 + 3 * m)) ++ [le (slM o m) (lit 3600), le (lit 0) (slM o m)]
def plM (e : Nat) : X := sub (add (v (e + 1)) (v 1)) (modX (add (v (e + 1)) (v 1)) (v 0))
def offP (ms : List Nat) (i : Nat) : List X := eq (v 1) (v 2) :: le (plM (endO ms)) (add (v (endO ms + 1)) (v 2)) :: lt (add (v (endO ms + 1)) (v 2)) (add (plM (endO ms)) (v 0)) :: ([eq (v (endO ms)) (lit i)] ++ rg 1 3600 (v 0) ++ [eq (rem (lit 3600) (v 0)) (lit 0)] ++ rg (-3600) 3600 (v 1) ++ rg (-3600) 3600 (v 2) ++ rg 0 3155760000 (v (endO ms + 1)) ++ rg (-10000) 10000 (v (endO ms + 2)) ++ rg (-10000) 10000 (v (endO ms + 3)) ++ [le (v (endO ms + 2)) (v (endO ms + 3)), le (v 1) (v 2)] ++ (List.range ms.length).flatMap fun f => facP (ofs ms f) (ms.getD f 1))
def oLag (P sl w f wl wh : X) : X × X :=
  let pull : X := .ite (lt (modX P (lit 3600)) (lit 1800)) w (sub (lit 0) w)
  (.ite (le (add wl pull) f) sl (lit 0), .ite (lt (add wh pull) (sub (lit 0) f)) sl (lit 0))
def oOut (P so sh sl w f t wl wh : X) : OT SV := .leaf (.tuple [.agg [.int .i64 (sub (sub (add P so) (oLag P sl w f wl wh).1) t), .int .i64 (sub (sub (add P sh) (oLag P sl w f wl wh).2) t)], .int .i64 (lit 0)])
def oLeaf (a b : X) : OT SV := .leaf (.tuple [.agg [.int .i64 a, .int .i64 b], .int .i64 (lit 0)])
def oTree (P so sh sl w f t wl wh : X) : OT SV :=
  let mx := add t (.bin .max (v 1) (sub P t)); let Q := sub mx (modX mx (v 0))
  let L1 := sub (sub (add Q so) sl) t; let L0 := sub (add Q so) t; let H1 := sub (sub (add Q sh) sl) t; let H0 := sub (add Q sh) t
  let g (p : X) : OT SV := .ask (le (add wl p) f) (.ask (lt (add wh p) (sub (lit 0) f)) (oLeaf L1 H1) (.ask (eq (lit 0) sl) (oLeaf L1 H0) (oLeaf L1 H0)))
    (.ask (lt (add wh p) (sub (lit 0) f)) (.ask (eq (lit 0) sl) (oLeaf L0 H1) (oLeaf L0 H1)) (.ask (eq (lit 0) sl) (oLeaf L0 H0) (oLeaf L0 H0)))
  .ask (lt (modX P (lit 3600)) (lit 1800)) (g w) (g (sub (lit 0) w))
theorem oTree_vc {ρ : Val} {so sh sl w f t wl wh : X} (h : (sub (add t (v 1)) (modX (add t (v 1)) (v 0))).den ρ ≤ t.den ρ + ρ.v 1) : OT.vc ρ (fun x => OT.is ρ (x.den ρ) (oOut (sub (add t (v 1)) (modX (add t (v 1)) (v 0))) so sh sl w f t wl wh)) (oTree (sub (add t (v 1)) (modX (add t (v 1)) (v 0))) so sh sl w f t wl wh) := by
  simp only [oTree, oOut, oLeaf, oLag, OT.vc, OT.is, modX, le, lt, eq, sub, add, rem, lit, v, X.den_rem, X.den_max, X.den_ite, X.dB_le, X.dB_lt, X.dB_eq, X.den_add, X.den_sub, X.den_lit, X.den_var, SV.den, SV.dens, AV.tuple.injEq, AV.agg.injEq, List.cons.injEq, AV.int.injEq, true_and, and_true, leB_t, leB_f, ltB_t, ltB_f, eqB_t, eqB_f, bif_le, bif_lt] at h ⊢
  generalize hm : ((t.den ρ + ρ.v 1).tmod (ρ.v 0) + ρ.v 0).tmod (ρ.v 0) = m at *
  have hx : max (ρ.v 1) (t.den ρ + ρ.v 1 - m - t.den ρ) = ρ.v 1 := by omega
  simp only [hx, hm]
  generalize ((t.den ρ + ρ.v 1 - m).tmod 3600 + 3600).tmod 3600 = ph at *
  clear hm hx
  (repeat' (first | apply And.intro | intro _)) <;> first | trivial | omega
def oOf (ms : List Nat) (i : Nat) (T : X → X → X → X → X → X → X → X → X → OT SV) : OT SV :=
  let o := ofs ms i; let m := ms.getD i 1; let e := endO ms
  T (sub (add (v (e + 1)) (v 1)) (modX (add (v (e + 1)) (v 1)) (v 0))) (v o) (v (o + 1)) (slM o m) (v (o + 3 + 3 * m)) (v (o + 4 + 3 * m)) (v (e + 1)) (v (e + 2)) (v (e + 3))
def pOfM (ms : List Nat) (i : Nat) : Pr := ⟨9, [wrkM ms, i64, i64, .agg [i64, i64]], offP ms i, fun _ => oOf ms i oOut⟩
theorem allEs_of : ∀ {n : Nat} {p : List Bool → Prop}, (∀ es, es.length = n → p es) → allEs n p
  | 0, _, h => h [] rfl
  | _ + 1, _, h => ⟨allEs_of fun es e => h (true :: es) (by rw [List.length_cons, e]), allEs_of fun es e => h (false :: es) (by rw [List.length_cons, e])⟩
theorem pOfM_ok {ms : List Nat} {i : Nat} {fn : Nat → List Int → Int} (h : ∀ es, es.length = rowNs (pOfM ms i).sh → runP0 Try.prog R0 [] (pOfM ms i) 400 es = oOf ms i oTree) : (pOfM ms i).Ok Try.prog fn := by
  refine fn_pr0 (l := []) (R := R0) (fuel := 400) (fun _ => oOf ms i oTree) prog_ok trivial (by cases (rwFs (pOfM ms i).sh 0).2 <;> rfl) (fun i l => by cases i <;> trivial) rfl (allEs_of h) fun xs es hlen hpre hrw => ?_
  have h1 : X.denB (valX fn xs) (eq (v 1) (v 2)) = true := hpre.1
  have h2 : X.denB (valX fn xs) (le (plM (endO ms)) (add (v (endO ms + 1)) (v 2))) = true := hpre.2.1
  simp only [eq, v, X.dB_eq, eqB_t, X.den_var] at h1
  simp only [le, X.dB_le, leB_t, add, X.den_add, v, X.den_var] at h2
  refine oTree_vc ?_
  simp only [plM, add, v] at h2
  simp only [add, v, X.den_var]
  rw [h1]
  exact h2
end Dd
end Go.Proofs.Ytncfikkeagflkaa
