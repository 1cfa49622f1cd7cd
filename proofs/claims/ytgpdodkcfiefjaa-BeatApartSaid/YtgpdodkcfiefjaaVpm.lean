/- BeatApart: the law over names, whatever its slices are. -/
import Derived.Test.YtgpdodkcfiefjaaVh
import Derived.Test.YtgpdodkcfiefjaaVp0a
import Derived.Test.YtgpdodkcfiefjaaVp0b
import Derived.Test.YtgpdodkcfiefjaaVp1
import Derived.Test.YtgpdodkcfiefjaaVp2
import Derived.Test.YtgpdodkcfiefjaaVp3
import Derived.Test.YtgpdodkcfiefjaaVp4
set_option linter.unusedSimpArgs false
set_option linter.unusedVariables false
namespace Go.Proofs.Ytgpdodkcfiefjaa
open Abs Sx Go.RowKit
set_option maxRecDepth 100000
namespace Be
def mixL (a b : List Int) : List Int := (List.range (a.length + b.length)).flatMap fun i => [a.getD i 0, b.getD i 0]
theorem mix_get : ∀ (n k : Nat) (f g : Nat → Int) (i : Nat), (((List.range' k n).flatMap fun i => [f i, g i]).getD (2 * i) 0 = if i < n then f (k + i) else 0) ∧ (((List.range' k n).flatMap fun i => [f i, g i]).getD (2 * i + 1) 0 = if i < n then g (k + i) else 0)
  | 0, k, f, g, i => by simp
  | n + 1, k, f, g, i => by
    rw [List.range'_succ, List.flatMap_cons]
    cases i with
    | zero => simp
    | succ i =>
      have := mix_get n (k + 1) f g i
      rw [show 2 * (i + 1) = 2 * i + 1 + 1 by omega, show k + (i + 1) = k + 1 + i by omega]
      simp only [List.cons_append, List.nil_append, List.getD_cons_succ, Nat.add_lt_add_iff_right]
      exact this
theorem mixL_get (a b : List Int) (i : Nat) : (mixL a b).getD (2 * i) 0 = a.getD i 0 ∧ (mixL a b).getD (2 * i + 1) 0 = b.getD i 0 := by
  have := mix_get (a.length + b.length) 0 (fun i => a.getD i 0) (fun i => b.getD i 0) i
  unfold mixL
  rw [List.range_eq_range']
  rw [this.1, this.2, Nat.zero_add]
  by_cases h : i < a.length + b.length
  · rw [if_pos h, if_pos h]; exact ⟨rfl, rfl⟩
  · rw [if_neg h, if_neg h]
    constructor <;> rw [List.getD_eq_getElem?_getD, List.getElem?_eq_none (by omega)] <;> rfl
theorem mixL_bd {a b : List Int} (ha : ∀ x ∈ a, 0 ≤ x ∧ x ≤ 255) (hb : ∀ x ∈ b, 0 ≤ x ∧ x ≤ 255) : ∀ x ∈ mixL a b, 0 ≤ x ∧ x ≤ 255 := by
  intro x hx
  simp only [mixL, List.mem_flatMap, List.mem_cons, List.not_mem_nil, or_false] at hx
  obtain ⟨i, _, rfl | rfl⟩ := hx
  · exact get_bd ha i
  · exact get_bd hb i
theorem by_row5 (rods : List Rod) (l m xs : List Int) : rowD (valX (fnB rods (mixL l m)) xs) [.int .u8 5] [] 0 l.length = Fr.rowC byE l := Fr.rowD_rowC byE l 0 fun j e hj => by
  show [AV.int .u8 ((mixL l m).getD (2 * ((0 + j : Nat) : Int).toNat) 0)] = _
  rw [Int.toNat_natCast, Nat.zero_add, (mixL_get l m j).1, List.getD_eq_getElem?_getD, hj]; rfl
theorem by_row6 (rods : List Rod) (l m xs : List Int) : rowD (valX (fnB rods (mixL m l)) xs) [.int .u8 6] [] 0 l.length = Fr.rowC byE l := Fr.rowD_rowC byE l 0 fun j e hj => by
  show [AV.int .u8 ((mixL m l).getD (2 * ((0 + j : Nat) : Int).toNat + 1) 0)] = _
  rw [Int.toNat_natCast, Nat.zero_add, (mixL_get m l j).2, List.getD_eq_getElem?_getD, hj]; rfl
section
variable (s0 : Fr.Slot Rod) (s1 s2 : Fr.Slot Int) (x2 x3 x4 x5 x6 x7 x8 x9 x10 x11 x12 x13 x14 x15 x16 x17 x18 x19 x20 x21 x22 x23 : Int)
abbrev apX : List Int := [lenS s0, capS s0, x2, x3, x4, x5, x6, x7, x8, x9, x10, x11, x12, x13, x14, x15, x16, x17, x18, x19, x20, x21, x22, x23, lenS s1, capS s1, lenS s2, capS s2]
abbrev apF : Nat → List Int → Int := fnB (rodsOf s0) (mixL (bysOf s1) (bysOf s2))
variable {s0 s1 s2 x2 x3 x4 x5 x6 x7 x8 x9 x10 x11 x12 x13 x14 x15 x16 x17 x18 x19 x20 x21 x22 x23}
theorem ap_pre (n : Nat) {z0 z1 : X} (h0 : X.denB (valX (apF s0 s1 s2) (apX s0 s1 s2 x2 x3 x4 x5 x6 x7 x8 x9 x10 x11 x12 x13 x14 x15 x16 x17 x18 x19 x20 x21 x22 x23)) z0 = true) (h1 : X.denB (valX (apF s0 s1 s2) (apX s0 s1 s2 x2 x3 x4 x5 x6 x7 x8 x9 x10 x11 x12 x13 x14 x15 x16 x17 x18 x19 x20 x21 x22 x23)) z1 = true) (hc : X.denB (valX (apF s0 s1 s2) (apX s0 s1 s2 x2 x3 x4 x5 x6 x7 x8 x9 x10 x11 x12 x13 x14 x15 x16 x17 x18 x19 x20 x21 x22 x23)) (cnt n) = true) (z2 : 0 ≤ x2 ∧ x2 ≤ 255) (z3 : -32768 ≤ x3 ∧ x3 ≤ 32767) (z4 : 0 ≤ x4 ∧ x4 ≤ 255) (z5 : 0 ≤ x5 ∧ x5 ≤ 255) (z6 : 0 ≤ x6 ∧ x6 ≤ 255) (z7 : 0 ≤ x7 ∧ x7 ≤ 255) (z8 : 0 ≤ x8 ∧ x8 ≤ 255) (z9 : 0 ≤ x9 ∧ x9 ≤ 255) (z10 : 0 ≤ x10 ∧ x10 ≤ 255) (z11 : 0 ≤ x11 ∧ x11 ≤ 255) (z12 : 0 ≤ x12 ∧ x12 ≤ 255) (z13 : 0 ≤ x13 ∧ x13 ≤ 255) (z14 : 0 ≤ x14 ∧ x14 ≤ 255) (z15 : 0 ≤ x15 ∧ x15 ≤ 255) (z16 : 0 ≤ x16 ∧ x16 ≤ 255) (z17 : 0 ≤ x17 ∧ x17 ≤ 255) (z18 : 0 ≤ x18 ∧ x18 ≤ 255) (z19 : 0 ≤ x19 ∧ x19 ≤ 255) (z20 : 0 ≤ x20 ∧ x20 ≤ 255) (z21 : 0 ≤ x21 ∧ x21 ≤ 255) (z22 : 0 ≤ x22 ∧ x22 ≤ 255) (z23 : 0 ≤ x23 ∧ x23 ≤ 255) : AllB (valX (apF s0 s1 s2) (apX s0 s1 s2 x2 x3 x4 x5 x6 x7 x8 x9 x10 x11 x12 x13 x14 x15 x16 x17 x18 x19 x20 x21 x22 x23)) (apP n z0 z1) := by
  have a0 := lenS_nn s0
  have a1 := lenS_nn s1
  have a2 := lenS_nn s2
  refine ⟨h0, h1, hc, ?_⟩
  show AllB _ (le (lit 0) (v 0) :: le (lit 0) (v 24) :: le (lit 0) (v 26) :: (b8 2 ++ (rgN (-32768) 32767 (v 3) ++ (List.range 20).flatMap (fun i => b8 (4 + i)))))
  simp only [b8, rgN, le, v, lit, List.range, List.range.loop, List.flatMap_cons, List.flatMap_nil, List.cons_append, List.nil_append, List.append_nil, Nat.reduceAdd, Nat.add_zero, AllB, X.dB_le, leB_t, X.den_lit, X.den_var, valX_v, apX, List.getD_cons_zero, List.getD_cons_succ]
  refine ⟨a0, a1, a2, z2.1, z2.2, z3.1, z3.2, z4.1, z4.2, z5.1, z5.2, z6.1, z6.2, z7.1, z7.2, z8.1, z8.2, z9.1, z9.2, z10.1, z10.2, z11.1, z11.2, z12.1, z12.2, z13.1, z13.2, z14.1, z14.2, z15.1, z15.2, z16.1, z16.2, z17.1, z17.2, z18.1, z18.2, z19.1, z19.2, z20.1, z20.2, z21.1, z21.2, z22.1, z22.2, z23.1, z23.2, trivial⟩
theorem zz_of {ρ : Val} {i : Nat} {l : List Int} (hv : ρ.v i = (l.length : Int)) (h : l.length = 0) : X.denB ρ (zzX i) = true := by
  simp only [zzX, eq, v, lit, X.dB_eq, eqB_t, X.den_var, X.den_lit, hv]; omega
theorem nz_of {ρ : Val} {i : Nat} {l : List Int} (hv : ρ.v i = (l.length : Int)) (h : ¬ l.length = 0) : X.denB ρ (nzX i) = true := by
  simp only [nzX, eq, v, lit, X.denB_not, X.dB_eq, eqB_f, Bool.not_eq_true', X.den_var, X.den_lit, hv]; omega
theorem cn_of {ρ : Val} {n : Nat} {l : List Rod} (hv : ρ.v 0 = (l.length : Int)) (hn : (n = 1 ∧ l.length = 0) ∨ (n = 2 ∧ l.length = 1) ∨ (n = 3 ∧ l.length = 2) ∨ (n = 4 ∧ 3 ≤ l.length)) : X.denB ρ (cnt n) = true := by
  rcases hn with ⟨rfl, h⟩ | ⟨rfl, h⟩ | ⟨rfl, h⟩ | ⟨rfl, h⟩ <;> simp only [cnt, eq, le, v, lit, X.dB_eq, X.dB_le, eqB_t, leB_t, X.den_var, X.den_lit, hv] <;> omega
def obR : Fr.Slot Rod → List (Nat × SO)
  | .row _ _ => [rodO]
  | _ => []
def ob5 : Fr.Slot Int → List (Nat × SO)
  | .row _ _ => [byO5]
  | _ => []
def ob6 : Fr.Slot Int → List (Nat × SO)
  | .row _ _ => [byO6]
  | _ => []
def obA (s0 : Fr.Slot Rod) (s1 s2 : Fr.Slot Int) : List (Nat × SO) := obR s0 ++ ob5 s1 ++ ob6 s2
theorem ap_heap : hD (valX (apF s0 s1 s2) (apX s0 s1 s2 x2 x3 x4 x5 x6 x7 x8 x9 x10 x11 x12 x13 x14 x15 x16 x17 x18 x19 x20 x21 x22 x23)) ⟨tplT (obA s0 s1 s2), [], 0⟩ = ⟨objs (s0.obs rodE 0 ++ s1.obs byE 1 ++ s2.obs byE 2), [], 0⟩ := by
  rw [tpl_objs]
  unfold obA
  rw [List.map_append, List.map_append]
  have cg : ∀ a a' b b' c c' : List (Nat × AObj), a = a' → b = b' → c = c' → (⟨objs (a ++ b ++ c), [], 0⟩ : Hp) = ⟨objs (a' ++ b' ++ c'), [], 0⟩ := by
    intro a a' b b' c c' h1 h2 h3; rw [h1, h2, h3]
  apply cg
  · cases s0 with
    | row l k => exact congrArg (fun c => [((0 : Nat), AObj.cells false c)]) (rods_row l (mixL (bysOf s1) (bysOf s2)) _)
    | _ => rfl
  · cases s1 with
    | row l k => exact congrArg (fun c => [((1 : Nat), AObj.cells false c)]) (by_row5 (rodsOf s0) l (bysOf s2) _)
    | _ => rfl
  · cases s2 with
    | row l k => exact congrArg (fun c => [((2 : Nat), AObj.cells false c)]) (by_row6 (rodsOf s0) l (bysOf s1) _)
    | _ => rfl
theorem ap_call (o0 : s0.Ok rodE) (o1 : s1.Ok byE) (o2 : s2.Ok byE) (z2 : 0 ≤ x2 ∧ x2 ≤ 255) (z3 : -32768 ≤ x3 ∧ x3 ≤ 32767) (z4 : 0 ≤ x4 ∧ x4 ≤ 255) (z5 : 0 ≤ x5 ∧ x5 ≤ 255) (z6 : 0 ≤ x6 ∧ x6 ≤ 255) (z7 : 0 ≤ x7 ∧ x7 ≤ 255) (z8 : 0 ≤ x8 ∧ x8 ≤ 255) (z9 : 0 ≤ x9 ∧ x9 ≤ 255) (z10 : 0 ≤ x10 ∧ x10 ≤ 255) (z11 : 0 ≤ x11 ∧ x11 ≤ 255) (z12 : 0 ≤ x12 ∧ x12 ≤ 255) (z13 : 0 ≤ x13 ∧ x13 ≤ 255) (z14 : 0 ≤ x14 ∧ x14 ≤ 255) (z15 : 0 ≤ x15 ∧ x15 ≤ 255) (z16 : 0 ≤ x16 ∧ x16 ≤ 255) (z17 : 0 ≤ x17 ∧ x17 ≤ 255) (z18 : 0 ≤ x18 ∧ x18 ≤ 255) (z19 : 0 ≤ x19 ∧ x19 ≤ 255) (z20 : 0 ≤ x20 ∧ x20 ≤ 255) (z21 : 0 ≤ x21 ∧ x21 ≤ 255) (z22 : 0 ≤ x22 ∧ x22 ≤ 255) (z23 : 0 ≤ x23 ∧ x23 ≤ 255) :
    CallH Try.prog 3 [.agg [s0.av rodE 0, .int .u8 x2, .int .i16 x3, .int .u8 x4, .int .u8 x5, .int .u8 x6, .int .u8 x7], .agg [.int .u8 x8, .int .u8 x9, .int .u8 x10, .int .u8 x11, .int .u8 x12, .int .u8 x13, .int .u8 x14, .int .u8 x15, .int .u8 x16, .int .u8 x17, .int .u8 x18, .int .u8 x19, .int .u8 x20, .int .u8 x21, .int .u8 x22, .int .u8 x23], .agg [s1.av byE 1, s2.av byE 2]] ⟨objs (s0.obs rodE 0 ++ s1.obs byE 1 ++ s2.obs byE 2), [], 0⟩ 3 (fun v H' nx' => v = .bool true ∧ H' = ⟨objs (s0.obs rodE 0 ++ s1.obs byE 1 ++ s2.obs byE 2), [], 0⟩ ∧ nx' = 3) := by
  have hM := RU_ok (rodsOf_bd o0) (mixL_bd (bysOf_bd o1) (bysOf_bd o2))
  have hK := pKn3_ok (rodsOf s0) (mixL (bysOf s1) (bysOf s2))
  have hp : ∀ n z0 z1, X.denB (valX (apF s0 s1 s2) (apX s0 s1 s2 x2 x3 x4 x5 x6 x7 x8 x9 x10 x11 x12 x13 x14 x15 x16 x17 x18 x19 x20 x21 x22 x23)) z0 = true → X.denB (valX (apF s0 s1 s2) (apX s0 s1 s2 x2 x3 x4 x5 x6 x7 x8 x9 x10 x11 x12 x13 x14 x15 x16 x17 x18 x19 x20 x21 x22 x23)) z1 = true → X.denB (valX (apF s0 s1 s2) (apX s0 s1 s2 x2 x3 x4 x5 x6 x7 x8 x9 x10 x11 x12 x13 x14 x15 x16 x17 x18 x19 x20 x21 x22 x23)) (cnt n) = true → AllB (valX (apF s0 s1 s2) (apX s0 s1 s2 x2 x3 x4 x5 x6 x7 x8 x9 x10 x11 x12 x13 x14 x15 x16 x17 x18 x19 x20 x21 x22 x23)) (apP n z0 z1) := fun n z0 z1 h0 h1 hc => ap_pre n h0 h1 hc z2 z3 z4 z5 z6 z7 z8 z9 z10 z11 z12 z13 z14 z15 z16 z17 z18 z19 z20 z21 z22 z23
  refine call_forget ?_ (by cases s0 <;> cases s1 <;> cases s2 <;> kernel_rfl) (true_ren 3)
  cases s0 with
  | nil =>
    cases s1 with
    | nil =>
      cases s2 with
      | nil =>
        exact fit (ap1nnn _ _ _ hK hM (hp 1 _ _ rfl rfl rfl)) rfl ap_heap
      | free =>
        exact fit (ap1nnf _ _ _ hK hM (hp 1 _ _ rfl rfl rfl)) rfl ap_heap
      | row l2 k2 =>
        by_cases g2 : l2.length = 0
        · exact fit (ap1nne _ _ _ hK hM (hp 1 _ _ rfl (zz_of rfl g2) rfl)) rfl ap_heap
        · exact fit (ap1nnr _ _ _ hK hM (hp 1 _ _ rfl (nz_of rfl g2) rfl)) rfl ap_heap
    | free =>
      cases s2 with
      | nil =>
        exact fit (ap1nfn _ _ _ hK hM (hp 1 _ _ rfl rfl rfl)) rfl ap_heap
      | free =>
        exact fit (ap1nff _ _ _ hK hM (hp 1 _ _ rfl rfl rfl)) rfl ap_heap
      | row l2 k2 =>
        by_cases g2 : l2.length = 0
        · exact fit (ap1nfe _ _ _ hK hM (hp 1 _ _ rfl (zz_of rfl g2) rfl)) rfl ap_heap
        · exact fit (ap1nfr _ _ _ hK hM (hp 1 _ _ rfl (nz_of rfl g2) rfl)) rfl ap_heap
    | row l1 k1 =>
      by_cases g1 : l1.length = 0
      · cases s2 with
        | nil =>
          exact fit (ap1nen _ _ _ hK hM (hp 1 _ _ (zz_of rfl g1) rfl rfl)) rfl ap_heap
        | free =>
          exact fit (ap1nef _ _ _ hK hM (hp 1 _ _ (zz_of rfl g1) rfl rfl)) rfl ap_heap
        | row l2 k2 =>
          by_cases g2 : l2.length = 0
          · exact fit (ap1nee _ _ _ hK hM (hp 1 _ _ (zz_of rfl g1) (zz_of rfl g2) rfl)) rfl ap_heap
          · exact fit (ap1ner _ _ _ hK hM (hp 1 _ _ (zz_of rfl g1) (nz_of rfl g2) rfl)) rfl ap_heap
      · cases s2 with
        | nil =>
          exact fit (ap1nrn _ _ _ hK hM (hp 1 _ _ (nz_of rfl g1) rfl rfl)) rfl ap_heap
        | free =>
          exact fit (ap1nrf _ _ _ hK hM (hp 1 _ _ (nz_of rfl g1) rfl rfl)) rfl ap_heap
        | row l2 k2 =>
          by_cases g2 : l2.length = 0
          · exact fit (ap1nre _ _ _ hK hM (hp 1 _ _ (nz_of rfl g1) (zz_of rfl g2) rfl)) rfl ap_heap
          · exact fit (ap1nrr _ _ _ hK hM (hp 1 _ _ (nz_of rfl g1) (nz_of rfl g2) rfl)) rfl ap_heap
  | free =>
    cases s1 with
    | nil =>
      cases s2 with
      | nil =>
        exact fit (ap1fnn _ _ _ hK hM (hp 1 _ _ rfl rfl rfl)) rfl ap_heap
      | free =>
        exact fit (ap1fnf _ _ _ hK hM (hp 1 _ _ rfl rfl rfl)) rfl ap_heap
      | row l2 k2 =>
        by_cases g2 : l2.length = 0
        · exact fit (ap1fne _ _ _ hK hM (hp 1 _ _ rfl (zz_of rfl g2) rfl)) rfl ap_heap
        · exact fit (ap1fnr _ _ _ hK hM (hp 1 _ _ rfl (nz_of rfl g2) rfl)) rfl ap_heap
    | free =>
      cases s2 with
      | nil =>
        exact fit (ap1ffn _ _ _ hK hM (hp 1 _ _ rfl rfl rfl)) rfl ap_heap
      | free =>
        exact fit (ap1fff _ _ _ hK hM (hp 1 _ _ rfl rfl rfl)) rfl ap_heap
      | row l2 k2 =>
        by_cases g2 : l2.length = 0
        · exact fit (ap1ffe _ _ _ hK hM (hp 1 _ _ rfl (zz_of rfl g2) rfl)) rfl ap_heap
        · exact fit (ap1ffr _ _ _ hK hM (hp 1 _ _ rfl (nz_of rfl g2) rfl)) rfl ap_heap
    | row l1 k1 =>
      by_cases g1 : l1.length = 0
      · cases s2 with
        | nil =>
          exact fit (ap1fen _ _ _ hK hM (hp 1 _ _ (zz_of rfl g1) rfl rfl)) rfl ap_heap
        | free =>
          exact fit (ap1fef _ _ _ hK hM (hp 1 _ _ (zz_of rfl g1) rfl rfl)) rfl ap_heap
        | row l2 k2 =>
          by_cases g2 : l2.length = 0
          · exact fit (ap1fee _ _ _ hK hM (hp 1 _ _ (zz_of rfl g1) (zz_of rfl g2) rfl)) rfl ap_heap
          · exact fit (ap1fer _ _ _ hK hM (hp 1 _ _ (zz_of rfl g1) (nz_of rfl g2) rfl)) rfl ap_heap
      · cases s2 with
        | nil =>
          exact fit (ap1frn _ _ _ hK hM (hp 1 _ _ (nz_of rfl g1) rfl rfl)) rfl ap_heap
        | free =>
          exact fit (ap1frf _ _ _ hK hM (hp 1 _ _ (nz_of rfl g1) rfl rfl)) rfl ap_heap
        | row l2 k2 =>
          by_cases g2 : l2.length = 0
          · exact fit (ap1fre _ _ _ hK hM (hp 1 _ _ (nz_of rfl g1) (zz_of rfl g2) rfl)) rfl ap_heap
          · exact fit (ap1frr _ _ _ hK hM (hp 1 _ _ (nz_of rfl g1) (nz_of rfl g2) rfl)) rfl ap_heap
  | row l0 k0 =>
    have hlen : l0.length = 0 ∨ l0.length = 1 ∨ l0.length = 2 ∨ 3 ≤ l0.length := by omega
    rcases hlen with h | h | h | h
    · cases s1 with
      | nil =>
        cases s2 with
        | nil =>
          exact fit (ap1rnn _ _ _ hK hM (hp 1 _ _ rfl rfl (cn_of rfl (by omega)))) rfl ap_heap
        | free =>
          exact fit (ap1rnf _ _ _ hK hM (hp 1 _ _ rfl rfl (cn_of rfl (by omega)))) rfl ap_heap
        | row l2 k2 =>
          by_cases g2 : l2.length = 0
          · exact fit (ap1rne _ _ _ hK hM (hp 1 _ _ rfl (zz_of rfl g2) (cn_of rfl (by omega)))) rfl ap_heap
          · exact fit (ap1rnr _ _ _ hK hM (hp 1 _ _ rfl (nz_of rfl g2) (cn_of rfl (by omega)))) rfl ap_heap
      | free =>
        cases s2 with
        | nil =>
          exact fit (ap1rfn _ _ _ hK hM (hp 1 _ _ rfl rfl (cn_of rfl (by omega)))) rfl ap_heap
        | free =>
          exact fit (ap1rff _ _ _ hK hM (hp 1 _ _ rfl rfl (cn_of rfl (by omega)))) rfl ap_heap
        | row l2 k2 =>
          by_cases g2 : l2.length = 0
          · exact fit (ap1rfe _ _ _ hK hM (hp 1 _ _ rfl (zz_of rfl g2) (cn_of rfl (by omega)))) rfl ap_heap
          · exact fit (ap1rfr _ _ _ hK hM (hp 1 _ _ rfl (nz_of rfl g2) (cn_of rfl (by omega)))) rfl ap_heap
      | row l1 k1 =>
        by_cases g1 : l1.length = 0
        · cases s2 with
          | nil =>
            exact fit (ap1ren _ _ _ hK hM (hp 1 _ _ (zz_of rfl g1) rfl (cn_of rfl (by omega)))) rfl ap_heap
          | free =>
            exact fit (ap1ref _ _ _ hK hM (hp 1 _ _ (zz_of rfl g1) rfl (cn_of rfl (by omega)))) rfl ap_heap
          | row l2 k2 =>
            by_cases g2 : l2.length = 0
            · exact fit (ap1ree _ _ _ hK hM (hp 1 _ _ (zz_of rfl g1) (zz_of rfl g2) (cn_of rfl (by omega)))) rfl ap_heap
            · exact fit (ap1rer _ _ _ hK hM (hp 1 _ _ (zz_of rfl g1) (nz_of rfl g2) (cn_of rfl (by omega)))) rfl ap_heap
        · cases s2 with
          | nil =>
            exact fit (ap1rrn _ _ _ hK hM (hp 1 _ _ (nz_of rfl g1) rfl (cn_of rfl (by omega)))) rfl ap_heap
          | free =>
            exact fit (ap1rrf _ _ _ hK hM (hp 1 _ _ (nz_of rfl g1) rfl (cn_of rfl (by omega)))) rfl ap_heap
          | row l2 k2 =>
            by_cases g2 : l2.length = 0
            · exact fit (ap1rre _ _ _ hK hM (hp 1 _ _ (nz_of rfl g1) (zz_of rfl g2) (cn_of rfl (by omega)))) rfl ap_heap
            · exact fit (ap1rrr _ _ _ hK hM (hp 1 _ _ (nz_of rfl g1) (nz_of rfl g2) (cn_of rfl (by omega)))) rfl ap_heap
    · cases s1 with
      | nil =>
        cases s2 with
        | nil =>
          exact fit (ap2rnn _ _ _ hK hM (hp 2 _ _ rfl rfl (cn_of rfl (by omega)))) rfl ap_heap
        | free =>
          exact fit (ap2rnf _ _ _ hK hM (hp 2 _ _ rfl rfl (cn_of rfl (by omega)))) rfl ap_heap
        | row l2 k2 =>
          by_cases g2 : l2.length = 0
          · exact fit (ap2rne _ _ _ hK hM (hp 2 _ _ rfl (zz_of rfl g2) (cn_of rfl (by omega)))) rfl ap_heap
          · exact fit (ap2rnr _ _ _ hK hM (hp 2 _ _ rfl (nz_of rfl g2) (cn_of rfl (by omega)))) rfl ap_heap
      | free =>
        cases s2 with
        | nil =>
          exact fit (ap2rfn _ _ _ hK hM (hp 2 _ _ rfl rfl (cn_of rfl (by omega)))) rfl ap_heap
        | free =>
          exact fit (ap2rff _ _ _ hK hM (hp 2 _ _ rfl rfl (cn_of rfl (by omega)))) rfl ap_heap
        | row l2 k2 =>
          by_cases g2 : l2.length = 0
          · exact fit (ap2rfe _ _ _ hK hM (hp 2 _ _ rfl (zz_of rfl g2) (cn_of rfl (by omega)))) rfl ap_heap
          · exact fit (ap2rfr _ _ _ hK hM (hp 2 _ _ rfl (nz_of rfl g2) (cn_of rfl (by omega)))) rfl ap_heap
      | row l1 k1 =>
        by_cases g1 : l1.length = 0
        · cases s2 with
          | nil =>
            exact fit (ap2ren _ _ _ hK hM (hp 2 _ _ (zz_of rfl g1) rfl (cn_of rfl (by omega)))) rfl ap_heap
          | free =>
            exact fit (ap2ref _ _ _ hK hM (hp 2 _ _ (zz_of rfl g1) rfl (cn_of rfl (by omega)))) rfl ap_heap
          | row l2 k2 =>
            by_cases g2 : l2.length = 0
            · exact fit (ap2ree _ _ _ hK hM (hp 2 _ _ (zz_of rfl g1) (zz_of rfl g2) (cn_of rfl (by omega)))) rfl ap_heap
            · exact fit (ap2rer _ _ _ hK hM (hp 2 _ _ (zz_of rfl g1) (nz_of rfl g2) (cn_of rfl (by omega)))) rfl ap_heap
        · cases s2 with
          | nil =>
            exact fit (ap2rrn _ _ _ hK hM (hp 2 _ _ (nz_of rfl g1) rfl (cn_of rfl (by omega)))) rfl ap_heap
          | free =>
            exact fit (ap2rrf _ _ _ hK hM (hp 2 _ _ (nz_of rfl g1) rfl (cn_of rfl (by omega)))) rfl ap_heap
          | row l2 k2 =>
            by_cases g2 : l2.length = 0
            · exact fit (ap2rre _ _ _ hK hM (hp 2 _ _ (nz_of rfl g1) (zz_of rfl g2) (cn_of rfl (by omega)))) rfl ap_heap
            · exact fit (ap2rrr _ _ _ hK hM (hp 2 _ _ (nz_of rfl g1) (nz_of rfl g2) (cn_of rfl (by omega)))) rfl ap_heap
    · cases s1 with
      | nil =>
        cases s2 with
        | nil =>
          exact fit (ap3rnn _ _ _ hK hM (hp 3 _ _ rfl rfl (cn_of rfl (by omega)))) rfl ap_heap
        | free =>
          exact fit (ap3rnf _ _ _ hK hM (hp 3 _ _ rfl rfl (cn_of rfl (by omega)))) rfl ap_heap
        | row l2 k2 =>
          by_cases g2 : l2.length = 0
          · exact fit (ap3rne _ _ _ hK hM (hp 3 _ _ rfl (zz_of rfl g2) (cn_of rfl (by omega)))) rfl ap_heap
          · exact fit (ap3rnr _ _ _ hK hM (hp 3 _ _ rfl (nz_of rfl g2) (cn_of rfl (by omega)))) rfl ap_heap
      | free =>
        cases s2 with
        | nil =>
          exact fit (ap3rfn _ _ _ hK hM (hp 3 _ _ rfl rfl (cn_of rfl (by omega)))) rfl ap_heap
        | free =>
          exact fit (ap3rff _ _ _ hK hM (hp 3 _ _ rfl rfl (cn_of rfl (by omega)))) rfl ap_heap
        | row l2 k2 =>
          by_cases g2 : l2.length = 0
          · exact fit (ap3rfe _ _ _ hK hM (hp 3 _ _ rfl (zz_of rfl g2) (cn_of rfl (by omega)))) rfl ap_heap
          · exact fit (ap3rfr _ _ _ hK hM (hp 3 _ _ rfl (nz_of rfl g2) (cn_of rfl (by omega)))) rfl ap_heap
      | row l1 k1 =>
        by_cases g1 : l1.length = 0
        · cases s2 with
          | nil =>
            exact fit (ap3ren _ _ _ hK hM (hp 3 _ _ (zz_of rfl g1) rfl (cn_of rfl (by omega)))) rfl ap_heap
          | free =>
            exact fit (ap3ref _ _ _ hK hM (hp 3 _ _ (zz_of rfl g1) rfl (cn_of rfl (by omega)))) rfl ap_heap
          | row l2 k2 =>
            by_cases g2 : l2.length = 0
            · exact fit (ap3ree _ _ _ hK hM (hp 3 _ _ (zz_of rfl g1) (zz_of rfl g2) (cn_of rfl (by omega)))) rfl ap_heap
            · exact fit (ap3rer _ _ _ hK hM (hp 3 _ _ (zz_of rfl g1) (nz_of rfl g2) (cn_of rfl (by omega)))) rfl ap_heap
        · cases s2 with
          | nil =>
            exact fit (ap3rrn _ _ _ hK hM (hp 3 _ _ (nz_of rfl g1) rfl (cn_of rfl (by omega)))) rfl ap_heap
          | free =>
            exact fit (ap3rrf _ _ _ hK hM (hp 3 _ _ (nz_of rfl g1) rfl (cn_of rfl (by omega)))) rfl ap_heap
          | row l2 k2 =>
            by_cases g2 : l2.length = 0
            · exact fit (ap3rre _ _ _ hK hM (hp 3 _ _ (nz_of rfl g1) (zz_of rfl g2) (cn_of rfl (by omega)))) rfl ap_heap
            · exact fit (ap3rrr _ _ _ hK hM (hp 3 _ _ (nz_of rfl g1) (nz_of rfl g2) (cn_of rfl (by omega)))) rfl ap_heap
    · cases s1 with
      | nil =>
        cases s2 with
        | nil =>
          exact fit (ap4rnn _ _ _ hK hM (hp 4 _ _ rfl rfl (cn_of rfl (by omega)))) rfl ap_heap
        | free =>
          exact fit (ap4rnf _ _ _ hK hM (hp 4 _ _ rfl rfl (cn_of rfl (by omega)))) rfl ap_heap
        | row l2 k2 =>
          by_cases g2 : l2.length = 0
          · exact fit (ap4rne _ _ _ hK hM (hp 4 _ _ rfl (zz_of rfl g2) (cn_of rfl (by omega)))) rfl ap_heap
          · exact fit (ap4rnr _ _ _ hK hM (hp 4 _ _ rfl (nz_of rfl g2) (cn_of rfl (by omega)))) rfl ap_heap
      | free =>
        cases s2 with
        | nil =>
          exact fit (ap4rfn _ _ _ hK hM (hp 4 _ _ rfl rfl (cn_of rfl (by omega)))) rfl ap_heap
        | free =>
          exact fit (ap4rff _ _ _ hK hM (hp 4 _ _ rfl rfl (cn_of rfl (by omega)))) rfl ap_heap
        | row l2 k2 =>
          by_cases g2 : l2.length = 0
          · exact fit (ap4rfe _ _ _ hK hM (hp 4 _ _ rfl (zz_of rfl g2) (cn_of rfl (by omega)))) rfl ap_heap
          · exact fit (ap4rfr _ _ _ hK hM (hp 4 _ _ rfl (nz_of rfl g2) (cn_of rfl (by omega)))) rfl ap_heap
      | row l1 k1 =>
        by_cases g1 : l1.length = 0
        · cases s2 with
          | nil =>
            exact fit (ap4ren _ _ _ hK hM (hp 4 _ _ (zz_of rfl g1) rfl (cn_of rfl (by omega)))) rfl ap_heap
          | free =>
            exact fit (ap4ref _ _ _ hK hM (hp 4 _ _ (zz_of rfl g1) rfl (cn_of rfl (by omega)))) rfl ap_heap
          | row l2 k2 =>
            by_cases g2 : l2.length = 0
            · exact fit (ap4ree _ _ _ hK hM (hp 4 _ _ (zz_of rfl g1) (zz_of rfl g2) (cn_of rfl (by omega)))) rfl ap_heap
            · exact fit (ap4rer _ _ _ hK hM (hp 4 _ _ (zz_of rfl g1) (nz_of rfl g2) (cn_of rfl (by omega)))) rfl ap_heap
        · cases s2 with
          | nil =>
            exact fit (ap4rrn _ _ _ hK hM (hp 4 _ _ (nz_of rfl g1) rfl (cn_of rfl (by omega)))) rfl ap_heap
          | free =>
            exact fit (ap4rrf _ _ _ hK hM (hp 4 _ _ (nz_of rfl g1) rfl (cn_of rfl (by omega)))) rfl ap_heap
          | row l2 k2 =>
            by_cases g2 : l2.length = 0
            · exact fit (ap4rre _ _ _ hK hM (hp 4 _ _ (nz_of rfl g1) (zz_of rfl g2) (cn_of rfl (by omega)))) rfl ap_heap
            · exact fit (ap4rrr _ _ _ hK hM (hp 4 _ _ (nz_of rfl g1) (nz_of rfl g2) (cn_of rfl (by omega)))) rfl ap_heap
end
end Be
end Go.Proofs.Ytgpdodkcfiefjaa
