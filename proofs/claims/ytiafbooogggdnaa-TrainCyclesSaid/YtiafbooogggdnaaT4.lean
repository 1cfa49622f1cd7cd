/- TrainCycles: the law, for rows of pairs and for slices that have no room. -/
import Derived.Test.YtiafbooogggdnaaT3
set_option linter.unusedSimpArgs false
set_option linter.unusedVariables false
namespace Go.Proofs.Ytiafbooogggdnaa
open Abs Sx Go.RowKit
set_option maxRecDepth 100000
namespace Tn
def psO (bs : List (Int × Int)) (n : Nat) : List (Int × Int) := (List.range n).map fun i => ((prB bs (n - 1 - i)).1, (prB bs ((n - i) % n)).2)
theorem psO_len (bs : List (Int × Int)) (n : Nat) : (psO bs n).length = n := by simp [psO]
theorem psO_ok {bs : List (Int × Int)} (hb : Byte bs) {n : Nat} (h3 : n ≤ 3) : OkPairs (psO bs n) := by
  refine ⟨by rw [psO_len]; omega, fun p hp => ?_⟩
  simp only [psO, List.mem_map, List.mem_range] at hp
  obtain ⟨i, _, rfl⟩ := hp
  exact ⟨(prB_bd hb _).1, (prB_bd hb _).2⟩
theorem arb_O {bs : List (Int × Int)} (hb : Byte bs) : arbK (psO bs 2) 2 = arbK (psB bs 2) 2 ∧ arbK (psO bs 3) 3 = arbK (psB bs 3) 3 := by
  constructor
  · rw [arbK_prod _ (psO_ok hb (by omega)) 2 (by rw [psO_len]; omega), arbK_prod _ (psB_ok hb (by omega)) 2 (by rw [psB_len]; omega)]
    simp only [psO, psB, List.range, List.range.loop, List.map_cons, List.map_nil, List.take_succ_cons, List.take_zero, prodI]
    congr 1 <;> simp only [Int.mul_one, Nat.reduceSub, Nat.reduceMod, Nat.sub_zero, Nat.sub_self] <;> ac_rfl
  · rw [arbK_prod _ (psO_ok hb (by omega)) 3 (by rw [psO_len]; omega), arbK_prod _ (psB_ok hb (by omega)) 3 (by rw [psB_len]; omega)]
    simp only [psO, psB, List.range, List.range.loop, List.map_cons, List.map_nil, List.take_succ_cons, List.take_zero, prodI]
    congr 1 <;> simp only [Int.mul_one, Nat.reduceSub, Nat.reduceMod, Nat.sub_zero, Nat.sub_self] <;> ac_rfl
section
variable {ρ : Val} {bs : List (Int × Int)} {R : Rgs} {tps : List Tpl} {Inv : Nat → Val → Prop} {mu : Nat → Val → Nat} {Q : Val → SV → Prop} {M : Nat → Nat}
theorem vals_O (hfn : ρ.fn = fnT bs) (n : Nat) : Vals ρ (wO n) (pO n) (psO bs n) := fun i h => by
  simp only [psO, List.getElem_map, List.getElem_range, wO, pO]; exact ⟨wX_den hfn _, vX_den hfn _⟩
theorem endX_vc (hfn : ρ.fn = fnT bs) (hb : Byte bs) {n : Nat} (h3 : n ≤ 3) (hQ : Q ρ (.bool (lit 1))) : LT.vc R tps Inv mu Q (endX n) ρ M := by
  have key : ∀ n, (n = 2 ∨ n = 3) → LT.vc R tps Inv mu Q (ndA (wO n) (pO n) n (.ask (.bin .and (eq (aX (wO n) (pO n) n).1 (aX wX vX n).1) (eq (aX (wO n) (pO n) n).2 (aX wX vX n).2)) tT fF) (n - 1)) ρ M := by
    intro n hn
    have h3 : n ≤ 3 := by omega
    have lO := psO_len bs n
    have lB := psB_len bs n
    have eO := aX_den hfn (vals_O hfn n) (psO_ok hb h3) (by omega) n (by omega)
    have eB := aX_den hfn (vals_B hfn n) (psB_ok hb h3) (by omega) n (by omega)
    have e : arbK (psO bs n) n = arbK (psB bs n) n := by
      rcases hn with rfl | rfl
      · exact (arb_O hb).1
      · exact (arb_O hb).2
    have ht : X.denB ρ (.bin .and (eq (aX (wO n) (pO n) n).1 (aX wX vX n).1) (eq (aX (wO n) (pO n) n).2 (aX wX vX n).2)) = true := by
      simp only [eq, X.denB_and, X.dB_eq, Bool.and_eq_true, eqB_t]
      exact ⟨by rw [eO.1, eB.1, e], by rw [eO.2, eB.2, e]⟩
    have h := ndA_vc (R := R) (tps := tps) (Inv := Inv) (mu := mu) (Q := Q) (M := M) hfn (vals_O hfn n) (psO_ok hb h3) (by omega) (t := .ask (.bin .and (eq (aX (wO n) (pO n) n).1 (aX wX vX n).1) (eq (aX (wO n) (pO n) n).2 (aX wX vX n).2)) tT fF) ⟨fun _ => hQ, fun h => (by rw [ht] at h; cases h)⟩ (n - 1) (by omega)
    rw [lO] at h
    exact h
  match n, h3 with
  | 0, _ => exact hQ
  | 1, _ => exact hQ
  | 2, _ => exact key 2 (.inl rfl)
  | 3, _ => exact key 3 (.inr rfl)
end
def invC : List Int → Nat → Val → Prop := fun _ _ _ => True
def muC : List Int → Nat → Val → Nat := fun _ _ ρ => (63 - ρ.v 3).toNat
theorem ids_C (n : Nat) : idsF (tCy n) 1 = [3] := rfl
theorem fs_C (n : Nat) : fsOf (tCy n) 1 = [le (lit 1) (v 3), le (v 3) (lit 63)] := rfl
theorem loop_vc {ρ : Val} {bs : List (Int × Int)} {Q : Val → SV → Prop} {M : Nat → Nat} (hfn : ρ.fn = fnT bs) (hb : Byte bs) {n : Nat} (h3 : n ≤ 3) (h2 : 0 ≤ ρ.v 2 ∧ ρ.v 2 ≤ 65535) (hQ : ∀ ρ', Q ρ' (.bool (lit 1))) (xs : List Int) :
    LT.vc RC (tCy n) (invC xs) (muC xs) Q (.loop 1 [(3, lit 1)] (.ask (le (v 3) (lit 62)) (.ask (eq (v 3) (lit 61)) (rd (.bin .add (v 2) (lit 1)) n) (.ask (eq (v 3) (lit 62)) (rd (cX n) n) (rd (v 3) n))) (endX n))) ρ M := by
  refine ⟨trivial, fun w _ hfs _ => ?_⟩
  rw [ids_C] at hfs ⊢
  rw [fs_C] at hfs
  obtain ⟨ρ', hρ⟩ : ∃ ρ', ρ.mix [3] w = ρ' := ⟨_, rfl⟩
  have hfn' : ρ'.fn = fnT bs := by rw [← hρ]; exact hfn
  have hv2 : ρ'.v 2 = ρ.v 2 := by rw [← hρ, mix_v]; rfl
  rw [hρ] at hfs ⊢
  simp only [AllB, le, v, lit, X.dB_le, leB_t, X.den_lit, X.den_var] at hfs
  have hbk : ρ'.v 3 ≤ 62 → LT.vc RC (tCy n) (invC xs) (muC xs) Q bk ρ' (setM M 1 (muC xs 1 ρ')) := fun h => by
    refine ⟨trivial, ?_⟩
    simp only [muC, setM_v, if_true, upd_cons, X.one, X.isL, cond_false, v, lit, X.den_add, X.den_var, X.den_lit]
    omega
  have hc : 1 ≤ (cX n).den ρ' ∧ (cX n).den ρ' ≤ 100000000 := by
    rw [cX_den hfn' hb h3 n (Nat.le_refl _)]
    have := cyc_bd (psB_ok hb h3) (by rw [psB_len]; exact h3) (k := n) (by rw [psB_len]; omega)
    omega
  refine ⟨fun h => ?_, fun _ => endX_vc hfn' hb h3 (hQ _)⟩
  simp only [le, v, lit, X.dB_le, leB_t, X.den_lit, X.den_var] at h
  refine ⟨fun _ => ?_, fun _ => ⟨fun _ => rd_vc hfn' hb h3 hc.1 hc.2 (hbk h), fun _ => ?_⟩⟩
  · refine rd_vc hfn' hb h3 ?_ ?_ (hbk h) <;> simp only [v, lit, X.den_add, X.den_var, X.den_lit] <;> omega
  · refine rd_vc hfn' hb h3 ?_ ?_ (hbk h) <;> simp only [v, X.den_var] <;> omega
theorem tree_vc {ρ : Val} {bs : List (Int × Int)} {Q : Val → SV → Prop} {M : Nat → Nat} (hfn : ρ.fn = fnT bs) (hb : Byte bs) {n : Nat} (h3 : n ≤ 3) (h2 : 0 ≤ ρ.v 2 ∧ ρ.v 2 ≤ 65535) (hQ : ∀ ρ', Q ρ' (.bool (lit 1))) (xs : List Int) :
    LT.vc RC (tCy n) (invC xs) (muC xs) Q (treeC n) ρ M := by
  have hl := loop_vc (M := M) hfn hb h3 h2 hQ xs
  have lB := psB_len bs n
  have hok := psB_ok hb h3
  have eB := aX_den hfn (vals_B hfn n) hok (by omega) n (by omega)
  have hlow := arbK_low (psB bs n) hok n (by omega)
  have hbd := arbK_bd (psB bs n) hok n (by omega)
  have h400 := pow400 n (by omega)
  have hg : X.denB ρ (.not (eq (ap2 90 (aX wX vX n).1 (aX wX vX n).2) (lit 1))) = false := by
    rw [X.denB_not]
    simp only [eq, lit, X.dB_eq, X.den_lit, ap2_den, eB.1, eB.2, hfn]
    rw [f90_at bs hbd.1.1 hbd.2.1 (by unfold bg; omega), hlow]; rfl
  have hr : ∀ t : Sx.LT SV, LT.vc RC (tCy n) (invC xs) (muC xs) Q t ρ M → LT.vc RC (tCy n) (invC xs) (muC xs) Q (remX n t) ρ M := by
    intro t ht
    match n, h3, lB, hok, eB, hbd with
    | 0, _, _, _, _, _ => exact ht
    | n + 1, h3, lB, hok, eB, hbd =>
      refine ⟨fun h => ?_, fun _ => ht⟩
      have hc := cX_den hfn hb h3 (n + 1) (Nat.le_refl _)
      have hc1 := cyc_bd hok (by rw [lB]; exact h3) (k := n + 1) (by rw [lB]; omega)
      have hd : (arbK (psB bs (n + 1)) (n + 1)).2 ∣ cycL ((List.range (n + 1 + 1)).map (arbK (psB bs (n + 1)))) := dvd_cycL _ _ (List.mem_map.2 ⟨n + 1, List.mem_range.2 (by omega), rfl⟩)
      rw [X.denB_not] at h
      simp only [eq, lit, X.dB_eq, X.den_lit, X.den_rem, hc, eB.2] at h
      rw [Int.tmod_eq_emod_of_nonneg (by omega), Int.emod_eq_zero_of_dvd hd] at h
      cases h
  have hin : LT.vc RC (tCy n) (invC xs) (muC xs) Q (ndC n (.ask (.not (eq (ap2 90 (aX wX vX n).1 (aX wX vX n).2) (lit 1))) fF (remX n (.loop 1 [(3, lit 1)] (.ask (le (v 3) (lit 62)) (.ask (eq (v 3) (lit 61)) (rd (.bin .add (v 2) (lit 1)) n) (.ask (eq (v 3) (lit 62)) (rd (cX n) n) (rd (v 3) n))) (endX n))))) n) ρ M :=
    ndC_vc (R := RC) (tps := tCy n) (Inv := invC xs) (mu := muC xs) (Q := Q) (M := M) hfn hb h3 (t := .ask (.not (eq (ap2 90 (aX wX vX n).1 (aX wX vX n).2) (lit 1))) fF (remX n (.loop 1 [(3, lit 1)] (.ask (le (v 3) (lit 62)) (.ask (eq (v 3) (lit 61)) (rd (.bin .add (v 2) (lit 1)) n) (.ask (eq (v 3) (lit 62)) (rd (cX n) n) (rd (v 3) n))) (endX n))))) ⟨fun h => (by rw [hg] at h; cases h), fun _ => hr _ hl⟩ n (Nat.le_refl _)
  unfold treeC
  match n, h3 with
  | 0, _ => exact hin
  | n + 1, h3 =>
    have h := ndA_vc (R := RC) (tps := tCy (n + 1)) (Inv := invC xs) (mu := muC xs) (Q := Q) (M := M) hfn (vals_B hfn (n + 1)) hok (by rw [lB]; exact h3) hin n (by rw [lB]; omega)
    rw [lB] at h
    exact h
theorem known_spec (fn : Nat → List Int → Int) (xs : List Int) : CallH Try.prog 10 [] (hD (valX fn xs) ⟨tplT [], [], 0⟩) 0 (fun v _ _ => ∃ w, OT.sem (valX fn xs) (OT.leaf (SV.bool (lit 1))) = some w ∧ v = w.den (valX fn xs)) := by
  intro _
  obtain ⟨f, c, h1, h2⟩ : ∃ f c, Try.prog.funcs[10]? = some f ∧ f.body = some c := ⟨_, _, Try.func10, rfl⟩
  refine ⟨(progOk_fn prog_ok h1 h2).2, fun m W ys hxs hR ht => ?_⟩
  have hx : ys = #[] := by
    have := hxs.nil_inv
    exact Array.toList_eq_nil_iff.1 this
  subst hx
  refine (kagood prog_ok W).mono ?_
  rintro e W' ⟨rfl, hB⟩
  have hgn : ∀ n, (hD (valX fn xs) ⟨tplT [], [], 0⟩).get n = none := fun n => rfl
  refine ⟨.bool true, .bool true, hD (valX fn xs) ⟨tplT [], [], 0⟩, 0, m, rfl, ?_, by simp only [VR], ⟨_, rfl, rfl⟩⟩
  exact { erel := hR, eq := fun _ h => (by cases h), new := fun n k _ h => (by rw [ht n (Nat.zero_le _)] at h; cases h), top := ht, rel := ⟨fun n ob h => (by rw [hgn] at h; cases h), fun i j oi oj ki kj h => (by rw [hgn] at h; cases h)⟩, frame := fun b hb _ => hB.block b hb, os := hB.os, tape := hB.tape, output := hB.output, size := hB.size, ap := .refl (wf_of rfl rfl) }
theorem pKn_ok (fn : Nat → List Int → Int) : pKn.Ok Try.prog fn := pr_ok fun xs es _ _ _ _ => known_spec fn xs
theorem lawPs_ok {bs : List (Int × Int)} (hb : Byte bs) : PrsOk Try.prog (fnT bs) lawPs := ⟨pGcd_ok hb, rGcd_ok hb, pLst_ok hb, pLcm_ok hb, pKn_ok _, trivial⟩
theorem law_of {bs : List (Int × Int)} (hb : Byte bs) (n : Nat) (h3 : n ≤ 3) (pre : List X)
    (hr : runP Try.prog RC lawPs (fun _ => tCy n) (law (pre ++ n16)) 2000 Try.f9 [true] = treeC n) (hr' : runP Try.prog RC lawPs (fun _ => tCy n) (law (pre ++ n16)) 2000 Try.f9 [false] = treeC n) :
    (law (pre ++ n16)).Ok Try.prog (fnT bs) := by
  refine lp1 (l := lawPs) (R := RC) (tps := fun _ => tCy n) (f := Try.f9) (fuel := 2000) (Inv := invC) (mu := muC) (fun _ => treeC n) prog_ok Try.func9 rfl (lawPs_ok hb) rfl (frT_ok hb _) rfl hr hr' ?_
  intro xs es hlen hpre hrw
  have h16 : AllB (valX (fnT bs) xs) n16 := AllB_of fun x hx => allB_fcs hpre x (List.mem_append_right _ hx)
  show LT.vc RC (tCy n) (invC xs) (muC xs) _ (treeC n) (valX (fnT bs) xs) _
  refine tree_vc (Q := fun ρ v => OT.is (valX (fnT bs) xs) (v.den ρ) ((law (pre ++ n16)).out es)) (ρ := valX (fnT bs) xs) rfl hb h3 ?_ (fun ρ' => (rfl : AV.bool true = AV.bool true)) xs
  simpa only [n16, AllB, le, v, lit, X.dB_le, leB_t, X.den_lit, X.den_var, and_true] using h16
end Tn
end Go.Proofs.Ytiafbooogggdnaa
