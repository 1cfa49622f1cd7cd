/- TopTrainDrop: hours that all use the same; quotients rounded down and up. -/
import Derived.Test.YtnnamdcpmbhboaaGreatW2
import Derived.Test.YtnnamdcpmbhboaaGreatTG
set_option linter.unusedSimpArgs false
set_option linter.unusedVariables false
namespace Go.Proofs.YtnnamdcpmbhboaaGreat
open Abs Sx
set_option maxRecDepth 100000
namespace Du
open Tg
def ap (f : Nat) (x : X) : X := .app f (.cons x .nil)
def c3 (m x : Int) : Int := max 0 (min m x)
def bt (bs : List (Int × Int)) (l : List Int) : Int × Int := bs.getD (hdI l).toNat (0, 0)
def fnV (bs : List (Int × Int)) (f : Nat) (l : List Int) : Int := match f with
  | 0 => (bt bs l).1
  | 1 => (bt bs l).2
  | 65 => c3 2000 (Dw.goes (fun _ => (l.getD 0 0, l.getD 1 0)) (2000 - l.getD 3 0).toNat (l.getD 3 0) (l.getD 2 0) (l.getD 2 0) 2000).1
  | 66 => c3 2000 (Dw.goes (fun _ => (l.getD 0 0, l.getD 1 0)) (2000 - l.getD 3 0).toNat (l.getD 3 0) (l.getD 2 0) (l.getD 2 0) 2000).2
  | 67 => c3 3000 (hdI l / hdI l.tail)
  | 68 => c3 3000 (-(-(hdI l) / hdI l.tail))
  | 70 => c3 3000 (l.getD 1 0)
  | 71 => c3 3000 (l.getD 2 0)
  | 90 => clampT bg (Int.gcd (hdI l) (hdI l.tail))
  | 91 => clampT 100000000 (Tn.lowR (hdI l) (hdI l.tail)).1
  | 92 => clampT 100000000 (Tn.lowR (hdI l) (hdI l.tail)).2
  | 93 => clampT 100000000 (Int.lcm (hdI l) (hdI l.tail))
  | _ => 0
def Byte (bs : List (Int × Int)) : Prop := ∀ l, (0 ≤ (bt bs l).1 ∧ (bt bs l).1 ≤ 255) ∧ (0 ≤ (bt bs l).2 ∧ (bt bs l).2 ≤ 255)
theorem isT (bs : List (Int × Int)) : IsT (fnV bs) := ⟨fun _ => rfl, fun _ => rfl, fun _ => rfl, fun _ => rfl⟩
def r3 : Option (Int × Int) := some (0, 3000)
def frU : List (Option (Int × Int)) := [some (0, 2000), some (0, 2000), r3, r3, none, r3, r3] ++ (List.replicate 18 none ++ [some (1, bg), some (1, 100000000), some (1, 100000000), some (1, 100000000)])
def frV : List (Option (Int × Int)) := some (0, 255) :: some (0, 255) :: (List.replicate 63 none ++ frU)
theorem c3_in {m : Int} (h : 0 ≤ m) (x : Int) : 0 ≤ c3 m x ∧ c3 m x ≤ m := by unfold c3; omega
theorem frU_ok (bs : List (Int × Int)) (i : Nat) (l : List Int) : inR (fnV bs (65 + i) l) (nthR frU i) := by
  match i with
  | 0 => exact c3_in (by decide) _
  | 1 => exact c3_in (by decide) _
  | 2 => exact c3_in (by decide) _
  | 3 => exact c3_in (by decide) _
  | 4 => trivial
  | 5 => exact c3_in (by decide) _
  | 6 => exact c3_in (by decide) _
  | i + 7 =>
    show inR _ (nthR (List.replicate 18 none ++ _) i)
    rw [Tg.nth_rep]
    split
    · trivial
    · rename_i h3
      obtain ⟨j, rfl⟩ : ∃ j, i = 18 + j := ⟨i - 18, by omega⟩
      rw [Nat.add_sub_cancel_left, show 65 + (18 + j + 7) = 90 + j by omega]
      match j with
      | 0 => exact clampT_in (by decide)
      | 1 => exact clampT_in (by decide)
      | 2 => exact clampT_in (by decide)
      | 3 => exact clampT_in (by decide)
      | _ + 4 => trivial
theorem frV_ok {bs : List (Int × Int)} (hb : Byte bs) (vr : List (Option (Int × Int))) : ∀ i l, inR (fnV bs i l) (nthR (Rgs.mk vr frV).fr i)
  | 0, l => (hb l).1
  | 1, l => (hb l).2
  | i + 2, l => by
    show inR _ (nthR (List.replicate 63 none ++ _) i)
    rw [Tg.nth_rep]
    split
    · trivial
    · rename_i h3
      obtain ⟨j, rfl⟩ : ∃ j, i = 63 + j := ⟨i - 63, by omega⟩
      rw [Nat.add_sub_cancel_left, show 63 + j + 2 = 65 + j by omega]
      exact frU_ok bs j l
def i64 : Sh := .int .i64
def RV : Rgs := ⟨[], frV⟩
def loX (i : Nat) : X := v (2 + 2 * i)
def hiX (i : Nat) : X := v (3 + 2 * i)
def cellF : List X := (List.range 24).flatMap fun (i : Nat) => [le (lit 0) (loX i), le (loX i) (lit 3000), le (lit 0) (hiX i), le (hiX i) (lit 3000), le (loX i) (hiX i)]
def uniF : List X := (List.range 23).flatMap fun (i : Nat) => [eq (loX (i + 1)) (loX 0), eq (hiX (i + 1)) (hiX 0)]
def ap4 (f : Nat) (a b c d : X) : X := .app f (.cons a (.cons b (.cons c (.cons d .nil))))
def uPre : List X := [le (lit 1) (v 0), le (v 0) (lit 3000), le (lit 0) (v 50), le (v 50) (v 0), le (v 50) (lit 3000), le (lit 0) (v 51), le (v 51) (lit 2000)] ++ (cellF ++ uniF)
def rowSh : Sh := .agg [i64, .lst 2 (List.replicate 48 i64)]
def pChk : Pr := ⟨81, [rowSh], [le (lit 1) (v 0), le (v 0) (lit 3000)] ++ cellF, fun _ => .leaf (.int .i64 (lit 0))⟩
def pGoesU : Pr := ⟨13, [rowSh, i64, i64], uPre, fun _ => .leaf (.tuple [.agg [.int .i64 (ap4 65 (v 2) (v 3) (v 50) (v 51)), .int .i64 (ap4 66 (v 2) (v 3) (v 50) (v 51))], .int .i64 (lit 0)])⟩
def RW : Rgs := ⟨List.replicate 52 none ++ [some (0, 2000), some (0, 3000), some (0, 3000), some (0, 1), some (0, 2000)], frV⟩
def rwU (es : List Bool) : SV := .slice 0 0 (lit 0) (lit 24) (v 1) 2 (hdB es)
def tU (es : List Bool) : List Tpl := [Dw.mk0 24, ⟨[52, 53, 54, 55, 56], [(0, .yield 25), (1, .ptr 22 0), (2, .ptr 23 0), (3, .ptr 21 0), (5, .int .i64 (v 52))],
  [(0, .row false (lit 24) (.cons (v 2) (.cons (v 3) .nil)) [.int .i64 70, .int .i64 71]), (1, .cells true [.int .i64 (v 0), rwU es]), (2, .cells true [.int .i64 (lit 0), .int .i64 (lit 0)]), (3, .cells true [.int .i64 (v 0), rwU es]), (4, .cells true [.int .i64 (v 0), rwU es]), (5, .cells true [.int .i64 (v 0), rwU es, .nils]), (6, .cells true [.int .i64 (lit 0), .int .i64 (lit 0)]), (7, .cells true [.int .i64 (v 0), rwU es, .nils]), (8, .cells true [.int .i64 (v 50)]), (9, .cells true [.int .i64 (lit 0)]), (10, .cells true [.int .i64 (v 0)]), (11, .cells true [.int .i64 (v 51)]), (12, .cells true [.int .i64 (lit 0)]), (13, .cells true [.int .i64 (lit 2000)]), (14, .map [(.int .i64 (lit 0), .slice 15 0 (lit 0) (lit 1) (lit 1) 2 true, 0)] 1), (15, .cells true [.int .i64 (v 53), .int .i64 (v 54)]), (16, .cells true [.int .i64 (v 0), rwU es, .nils, .map 14, .bool (v 55)]), (17, .cells true [.ptr 16 0]), (18, .cells true [.int .i64 (lit 0), .int .i64 (lit 0)]), (19, .map [(.int .i64 (lit 1), .int .i64 (v 56), 0), (.int .i64 (lit 2), .int .i64 (lit 2000), 1)] 2), (20, .cells true [.map 19]), (21, .cells true [.int .i64 (v 0), rwU es, .nils]), (22, .cells true [.int .i64 (v 51)]), (23, .cells true [.int .i64 (lit 2000)]), (24, .dfr true)], [], 26, [], some 84⟩]

section
variable {bs : List (Int × Int)} (hb : Byte bs)
theorem c3_id {m x : Int} (h0 : 0 ≤ x) (h1 : x ≤ m) : c3 m x = x := by unfold c3; omega
include hb
theorem pChk_ok : pChk.Ok Tryz.prog (fnV bs) := by
  refine un1 (l := []) (R := RV) (fuel := 400) (fun _ => (.leaf (.int .i64 (.lit 0)))) prog_ok trivial rfl (frV_ok hb _) rfl rfl ?h1 ?h2 ?_
  case h1 => kernel_rfl
  case h2 => kernel_rfl
  intro xs es hlen hpre hrw
  rfl
end
section
variable {bs : List (Int × Int)} (hb : Byte bs)
structure GInv (lo hi start from_ h many few d : Int) : Prop where
  a : from_ ≤ h ∧ h ≤ 2000 ∧ 0 ≤ many ∧ many ≤ few ∧ few ≤ 3000 ∧ 0 ≤ d ∧ d ≤ 2000
  g : Dw.goes (fun _ => (lo, hi)) (2000 - h).toNat h few many d = Dw.goes (fun _ => (lo, hi)) (2000 - from_).toNat from_ start start 2000
theorem g_end {lo hi start from_ h many few d : Int} (i : GInv lo hi start from_ h many few d) (hh : 2000 ≤ h) : fnV bs 65 [lo, hi, start, from_] = d ∧ fnV bs 66 [lo, hi, start, from_] = 2000 := by
  have e := i.g
  have := i.a
  rw [show (2000 - h).toNat = 0 by omega] at e
  simp only [Dw.goes] at e
  refine ⟨?_, ?_⟩
  · show c3 2000 (Dw.goes (fun _ => (lo, hi)) (2000 - from_).toNat from_ start start 2000).1 = d
    rw [← e]; unfold c3; simp only; omega
  · show c3 2000 (Dw.goes (fun _ => (lo, hi)) (2000 - from_).toNat from_ start start 2000).2 = 2000
    rw [← e]; rfl
theorem g_stop {lo hi start from_ h many few d : Int} (i : GInv lo hi start from_ h many few d) (h0 : 0 ≤ h) (hh : h < 2000) (hf : few < lo) :
    fnV bs 65 [lo, hi, start, from_] = (if many < hi ∧ d = 2000 then h else d) ∧ fnV bs 66 [lo, hi, start, from_] = h := by
  have e := i.g
  have := i.a
  rw [Dw.goes_succ _ hh] at e
  simp only at e
  rw [if_pos hf] at e
  refine ⟨?_, ?_⟩
  · show c3 2000 (Dw.goes (fun _ => (lo, hi)) (2000 - from_).toNat from_ start start 2000).1 = _
    rw [← e]; unfold c3; simp only; split <;> omega
  · show c3 2000 (Dw.goes (fun _ => (lo, hi)) (2000 - from_).toNat from_ start start 2000).2 = h
    rw [← e]; unfold c3; simp only; omega
theorem g_next {lo hi : Int} (hl : 0 ≤ lo) (hlh : lo ≤ hi) {start from_ h many few d d' : Int} (i : GInv lo hi start from_ h many few d) (h0 : 0 ≤ h) (hh : h < 2000) (hf : lo ≤ few) (hd : d' = if many < hi ∧ d = 2000 then h else d) :
    GInv lo hi start from_ (h + 1) (max 0 (many - hi)) (few - lo) d' := by
  have := i.a
  refine ⟨?_, ?_⟩
  · have hd2 : d' = h ∨ d' = d := by subst hd; split <;> simp
    omega
  · rw [hd, ← i.g, Dw.goes_succ _ hh few many d]
    simp only
    rw [if_neg (show ¬ few < lo by omega)]
include hb
theorem pGoesU_ok : pGoesU.Ok Tryz.prog (fnV bs) := by
  refine lp1 (l := [pChk]) (R := RW) (tps := tU) (f := Tryz.f13) (fuel := 600) (Inv := fun xs _ ρ => GInv (xs.getD 2 0) (xs.getD 3 0) (xs.getD 50 0) (xs.getD 51 0) (ρ.v 52) (ρ.v 53) (ρ.v 54) (ρ.v 56) ∧ (ρ.v 55 = 0 → ρ.v 56 = 2000) ∧ (ρ.v 55 ≠ 0 → ρ.v 56 ≤ ρ.v 52 ∧ ρ.v 56 < 2000)) (mu := fun xs _ ρ => (2000 - ρ.v 52).toNat) (fun _ => (.need [(.bin .eq (.app 70 (.cons (.lit 0) (.cons (.var 2) (.cons (.var 3) .nil)))) (.var 2)), (.bin .eq (.app 71 (.cons (.lit 0) (.cons (.var 2) (.cons (.var 3) .nil)))) (.var 3)), (.bin .eq (.app 70 (.cons (.lit 1) (.cons (.var 2) (.cons (.var 3) .nil)))) (.var 4)), (.bin .eq (.app 71 (.cons (.lit 1) (.cons (.var 2) (.cons (.var 3) .nil)))) (.var 5)), (.bin .eq (.app 70 (.cons (.lit 2) (.cons (.var 2) (.cons (.var 3) .nil)))) (.var 6)), (.bin .eq (.app 71 (.cons (.lit 2) (.cons (.var 2) (.cons (.var 3) .nil)))) (.var 7)), (.bin .eq (.app 70 (.cons (.lit 3) (.cons (.var 2) (.cons (.var 3) .nil)))) (.var 8)), (.bin .eq (.app 71 (.cons (.lit 3) (.cons (.var 2) (.cons (.var 3) .nil)))) (.var 9)), (.bin .eq (.app 70 (.cons (.lit 4) (.cons (.var 2) (.cons (.var 3) .nil)))) (.var 10)), (.bin .eq (.app 71 (.cons (.lit 4) (.cons (.var 2) (.cons (.var 3) .nil)))) (.var 11)), (.bin .eq (.app 70 (.cons (.lit 5) (.cons (.var 2) (.cons (.var 3) .nil)))) (.var 12)), (.bin .eq (.app 71 (.cons (.lit 5) (.cons (.var 2) (.cons (.var 3) .nil)))) (.var 13)), (.bin .eq (.app 70 (.cons (.lit 6) (.cons (.var 2) (.cons (.var 3) .nil)))) (.var 14)), (.bin .eq (.app 71 (.cons (.lit 6) (.cons (.var 2) (.cons (.var 3) .nil)))) (.var 15)), (.bin .eq (.app 70 (.cons (.lit 7) (.cons (.var 2) (.cons (.var 3) .nil)))) (.var 16)), (.bin .eq (.app 71 (.cons (.lit 7) (.cons (.var 2) (.cons (.var 3) .nil)))) (.var 17)), (.bin .eq (.app 70 (.cons (.lit 8) (.cons (.var 2) (.cons (.var 3) .nil)))) (.var 18)), (.bin .eq (.app 71 (.cons (.lit 8) (.cons (.var 2) (.cons (.var 3) .nil)))) (.var 19)), (.bin .eq (.app 70 (.cons (.lit 9) (.cons (.var 2) (.cons (.var 3) .nil)))) (.var 20)), (.bin .eq (.app 71 (.cons (.lit 9) (.cons (.var 2) (.cons (.var 3) .nil)))) (.var 21)), (.bin .eq (.app 70 (.cons (.lit 10) (.cons (.var 2) (.cons (.var 3) .nil)))) (.var 22)), (.bin .eq (.app 71 (.cons (.lit 10) (.cons (.var 2) (.cons (.var 3) .nil)))) (.var 23)), (.bin .eq (.app 70 (.cons (.lit 11) (.cons (.var 2) (.cons (.var 3) .nil)))) (.var 24)), (.bin .eq (.app 71 (.cons (.lit 11) (.cons (.var 2) (.cons (.var 3) .nil)))) (.var 25)), (.bin .eq (.app 70 (.cons (.lit 12) (.cons (.var 2) (.cons (.var 3) .nil)))) (.var 26)), (.bin .eq (.app 71 (.cons (.lit 12) (.cons (.var 2) (.cons (.var 3) .nil)))) (.var 27)), (.bin .eq (.app 70 (.cons (.lit 13) (.cons (.var 2) (.cons (.var 3) .nil)))) (.var 28)), (.bin .eq (.app 71 (.cons (.lit 13) (.cons (.var 2) (.cons (.var 3) .nil)))) (.var 29)), (.bin .eq (.app 70 (.cons (.lit 14) (.cons (.var 2) (.cons (.var 3) .nil)))) (.var 30)), (.bin .eq (.app 71 (.cons (.lit 14) (.cons (.var 2) (.cons (.var 3) .nil)))) (.var 31)), (.bin .eq (.app 70 (.cons (.lit 15) (.cons (.var 2) (.cons (.var 3) .nil)))) (.var 32)), (.bin .eq (.app 71 (.cons (.lit 15) (.cons (.var 2) (.cons (.var 3) .nil)))) (.var 33)), (.bin .eq (.app 70 (.cons (.lit 16) (.cons (.var 2) (.cons (.var 3) .nil)))) (.var 34)), (.bin .eq (.app 71 (.cons (.lit 16) (.cons (.var 2) (.cons (.var 3) .nil)))) (.var 35)), (.bin .eq (.app 70 (.cons (.lit 17) (.cons (.var 2) (.cons (.var 3) .nil)))) (.var 36)), (.bin .eq (.app 71 (.cons (.lit 17) (.cons (.var 2) (.cons (.var 3) .nil)))) (.var 37)), (.bin .eq (.app 70 (.cons (.lit 18) (.cons (.var 2) (.cons (.var 3) .nil)))) (.var 38)), (.bin .eq (.app 71 (.cons (.lit 18) (.cons (.var 2) (.cons (.var 3) .nil)))) (.var 39)), (.bin .eq (.app 70 (.cons (.lit 19) (.cons (.var 2) (.cons (.var 3) .nil)))) (.var 40)), (.bin .eq (.app 71 (.cons (.lit 19) (.cons (.var 2) (.cons (.var 3) .nil)))) (.var 41)), (.bin .eq (.app 70 (.cons (.lit 20) (.cons (.var 2) (.cons (.var 3) .nil)))) (.var 42)), (.bin .eq (.app 71 (.cons (.lit 20) (.cons (.var 2) (.cons (.var 3) .nil)))) (.var 43)), (.bin .eq (.app 70 (.cons (.lit 21) (.cons (.var 2) (.cons (.var 3) .nil)))) (.var 44)), (.bin .eq (.app 71 (.cons (.lit 21) (.cons (.var 2) (.cons (.var 3) .nil)))) (.var 45)), (.bin .eq (.app 70 (.cons (.lit 22) (.cons (.var 2) (.cons (.var 3) .nil)))) (.var 46)), (.bin .eq (.app 71 (.cons (.lit 22) (.cons (.var 2) (.cons (.var 3) .nil)))) (.var 47)), (.bin .eq (.app 70 (.cons (.lit 23) (.cons (.var 2) (.cons (.var 3) .nil)))) (.var 48)), (.bin .eq (.app 71 (.cons (.lit 23) (.cons (.var 2) (.cons (.var 3) .nil)))) (.var 49))] (.loop 1 [(52, (.var 51)), (53, (.var 50)), (54, (.var 50)), (55, (.lit 0)), (56, (.lit 2000))] (.ask (.bin .lt (.var 52) (.lit 2000)) (.ask (.bin .lt (.var 53) (.app 71 (.cons (.bin .rem (.var 52) (.lit 24)) (.cons (.var 2) (.cons (.var 3) .nil))))) (.ask (.bin .le (.app 70 (.cons (.bin .rem (.var 52) (.lit 24)) (.cons (.var 2) (.cons (.var 3) .nil)))) (.var 54)) (.need [(.bin .le (.lit 0) (.bin .sub (.var 54) (.app 70 (.cons (.bin .rem (.var 52) (.lit 24)) (.cons (.var 2) (.cons (.var 3) .nil))))))] (.back 1 [(52, (.bin .add (.var 52) (.lit 1))), (53, (.bin .max (.lit 0) (.bin .sub (.var 53) (.app 71 (.cons (.bin .rem (.var 52) (.lit 24)) (.cons (.var 2) (.cons (.var 3) .nil))))))), (54, (.bin .sub (.var 54) (.app 70 (.cons (.bin .rem (.var 52) (.lit 24)) (.cons (.var 2) (.cons (.var 3) .nil)))))), (55, (.lit 1)), (56, (.bin .min (.var 56) (.var 52)))])) (.leaf (.tuple [(.agg [(.int .i64 (.bin .min (.var 56) (.var 52))), (.int .i64 (.var 52))]), (.int .i64 (.lit 0))]))) (.ask (.bin .le (.app 70 (.cons (.bin .rem (.var 52) (.lit 24)) (.cons (.var 2) (.cons (.var 3) .nil)))) (.var 54)) (.ask (.not (.var 55)) (.need [(.bin .le (.lit 0) (.bin .sub (.var 54) (.app 70 (.cons (.bin .rem (.var 52) (.lit 24)) (.cons (.var 2) (.cons (.var 3) .nil))))))] (.back 1 [(52, (.bin .add (.var 52) (.lit 1))), (53, (.bin .max (.lit 0) (.bin .sub (.var 53) (.app 71 (.cons (.bin .rem (.var 52) (.lit 24)) (.cons (.var 2) (.cons (.var 3) .nil))))))), (54, (.bin .sub (.var 54) (.app 70 (.cons (.bin .rem (.var 52) (.lit 24)) (.cons (.var 2) (.cons (.var 3) .nil)))))), (55, (.var 55)), (56, (.var 56))])) (.need [(.bin .le (.lit 0) (.bin .sub (.var 54) (.app 70 (.cons (.bin .rem (.var 52) (.lit 24)) (.cons (.var 2) (.cons (.var 3) .nil))))))] (.back 1 [(52, (.bin .add (.var 52) (.lit 1))), (53, (.bin .max (.lit 0) (.bin .sub (.var 53) (.app 71 (.cons (.bin .rem (.var 52) (.lit 24)) (.cons (.var 2) (.cons (.var 3) .nil))))))), (54, (.bin .sub (.var 54) (.app 70 (.cons (.bin .rem (.var 52) (.lit 24)) (.cons (.var 2) (.cons (.var 3) .nil)))))), (55, (.var 55)), (56, (.bin .min (.var 56) (.var 52)))]))) (.ask (.not (.var 55)) (.need [(.bin .eq (.lit 1) (.lit 0))] (.back 1 [(52, (.bin .add (.var 52) (.lit 1))), (53, (.var 53)), (54, (.var 54)), (55, (.var 55)), (56, (.var 56))])) (.leaf (.tuple [(.agg [(.int .i64 (.bin .min (.var 56) (.var 52))), (.int .i64 (.var 52))]), (.int .i64 (.lit 0))]))))) (.leaf (.tuple [(.agg [(.int .i64 (.var 56)), (.int .i64 (.lit 2000))]), (.int .i64 (.lit 0))]))))))
    prog_ok Tryz.func13 rfl ⟨pChk_ok hb, trivial⟩ rfl (frV_ok hb _) rfl ?h1 ?h2 ?_
  case h1 => kernel_rfl
  case h2 => kernel_rfl
  intro xs es hlen hpre hrw
  clear hlen hrw
  simp only [pGoesU, uPre, cellF, uniF, loX, hiX, tU, Dw.mk0, RW, List.range, List.range.loop, List.flatMap_cons, List.flatMap_nil, List.cons_append, List.nil_append, List.append_nil, Nat.reduceMul, Nat.reduceAdd, List.replicate] at *
  ( simp only [OT.vc, LT.vc, OT.is, AllB, RgB, inR, nthR, idsF, fsOf, List.drop, List.flatMap_cons, List.flatMap_nil, List.append_nil, List.getElem?_cons_zero, List.getElem?_cons_succ, rwFs, rwF, List.nil_append, List.cons_append, mix_v, mix_fn, upd_fn, upd_nil, upd_cons, X.one, X.isL, cond_false, valX_fn, valX_v, setM_v, List.mem_cons, List.not_mem_nil, or_false, false_or, or_true, true_or, if_true, if_false, ite_true, ite_false, Nat.reduceEqDiff, SV.den, AV.int.injEq, AV.bool.injEq, true_and, and_true, X.dB_lt, X.dB_le, X.dB_eq, X.denB_and, X.denB_or, X.denB_not, X.denB_lit0, X.denB_lit1, X.den_lit, X.den_var, X.den_add, X.den_sub, X.den_mul, X.den_app, X.den_ite, X.den_wrap, X.dB_ite, cond_tf, X.denB_app, X.denB_var, X.sem_cons, X.sem_nil, leB_t, ltB_t, eqB_t, leB_f, ltB_f, eqB_f, Bool.and_eq_true, Bool.or_eq_true, Bool.not_eq_true', Bool.and_eq_false_iff, Bool.or_eq_false_iff, Bool.not_eq_false', le, lt, eq, v, lit, ap, ap2, ap4, i64, X.den_rem, X.den_max, X.den_min, SV.dens, AV.tuple.injEq, AV.agg.injEq, List.cons.injEq] at *)
  simp only [i2b, decide_eq_true_eq, decide_eq_false_iff_not] at *
  obtain ⟨q0, q1, s0, s1, s2, f0, f1, a0, b0, c0, d0, e0, a1, b1, c1, d1, e1, a2, b2, c2, d2, e2, a3, b3, c3, d3, e3, a4, b4, c4, d4, e4, a5, b5, c5, d5, e5, a6, b6, c6, d6, e6, a7, b7, c7, d7, e7, a8, b8, c8, d8, e8, a9, b9, c9, d9, e9, a10, b10, c10, d10, e10, a11, b11, c11, d11, e11, a12, b12, c12, d12, e12, a13, b13, c13, d13, e13, a14, b14, c14, d14, e14, a15, b15, c15, d15, e15, a16, b16, c16, d16, e16, a17, b17, c17, d17, e17, a18, b18, c18, d18, e18, a19, b19, c19, d19, e19, a20, b20, c20, d20, e20, a21, b21, c21, d21, e21, a22, b22, c22, d22, e22, a23, b23, c23, d23, e23, u0, w0, u1, w1, u2, w2, u3, w3, u4, w4, u5, w5, u6, w6, u7, w7, u8, w8, u9, w9, u10, w10, u11, w11, u12, w12, u13, w13, u14, w14, u15, w15, u16, w16, u17, w17, u18, w18, u19, w19, u20, w20, u21, w21, u22, w22⟩ := hpre
  have e70 : ∀ i, fnV bs 70 [i, xs.getD 2 0, xs.getD 3 0] = xs.getD 2 0 := fun i => c3_id (x := xs.getD 2 0) a0 b0
  have e71 : ∀ i, fnV bs 71 [i, xs.getD 2 0, xs.getD 3 0] = xs.getD 3 0 := fun i => c3_id (x := xs.getD 3 0) c0 d0
  simp only [e70, e71]
  refine ⟨?_, ⟨⟨by omega, rfl⟩, fun _ => trivial, fun h => absurd rfl h⟩, ?_⟩
  · repeat' apply And.intro
    all_goals first | exact True.intro | rfl | (apply Eq.symm; assumption)
  clear a1 b1 c1 d1 e1 a2 b2 c2 d2 e2 a3 b3 c3 d3 e3 a4 b4 c4 d4 e4 a5 b5 c5 d5 e5 a6 b6 c6 d6 e6 a7 b7 c7 d7 e7 a8 b8 c8 d8 e8 a9 b9 c9 d9 e9 a10 b10 c10 d10 e10 a11 b11 c11 d11 e11 a12 b12 c12 d12 e12 a13 b13 c13 d13 e13 a14 b14 c14 d14 e14 a15 b15 c15 d15 e15 a16 b16 c16 d16 e16 a17 b17 c17 d17 e17 a18 b18 c18 d18 e18 a19 b19 c19 d19 e19 a20 b20 c20 d20 e20 a21 b21 c21 d21 e21 a22 b22 c22 d22 e22 a23 b23 c23 d23 e23 u0 w0 u1 w1 u2 w2 u3 w3 u4 w4 u5 w5 u6 w6 u7 w7 u8 w8 u9 w9 u10 w10 u11 w11 u12 w12 u13 w13 u14 w14 u15 w15 u16 w16 u17 w17 u18 w18 u19 w19 u20 w20 u21 w21 u22 w22
  intro w h0 _ hi
  obtain ⟨gi, g8, g9⟩ := hi
  have ga := gi.a
  have ge := g_end (bs := bs) gi
  have gs := g_stop (bs := bs) gi
  have gn : ∀ d', _ := fun d' => g_next a0 e0 (d' := d') gi
  generalize xs.getD 2 0 = lo at *
  generalize xs.getD 3 0 = hi at *
  generalize xs.getD 50 0 = S at *
  generalize xs.getD 51 0 = F at *
  have by60 : ∀ x, w 52 < 2000 → w 54 < lo → (x = if w 53 < hi ∧ w 56 = 2000 then w 52 else w 56) → (x = fnV bs 65 [lo, hi, S, F] ∧ w 52 = fnV bs 66 [lo, hi, S, F]) := fun x h1 h2 h3 => by
    have := gs h0.1.1 h1 h2
    exact ⟨h3.trans this.1.symm, this.2.symm⟩
  refine ⟨fun e => ⟨fun f => ⟨fun g => ⟨by omega, ⟨gn _ (by omega) e g (by split <;> omega), fun h => by omega, fun _ => by omega⟩, by omega⟩, fun g => by60 _ e g (by split <;> omega)⟩,
    fun f => ⟨fun g => ⟨fun k => ⟨by omega, ⟨gn _ (by omega) e g (by split <;> omega), fun h => by omega, fun h => by omega⟩, by omega⟩, fun k => ⟨by omega, ⟨gn _ (by omega) e g (by split <;> omega), fun h => by omega, fun h => by omega⟩, by omega⟩⟩, fun g => by omega⟩⟩, fun e => ?_⟩
  have := ge e
  exact ⟨this.1.symm, this.2.symm⟩
end
end Du
end Go.Proofs.YtnnamdcpmbhboaaGreat
