/- DropRigs: the law over names. -/
import Derived.Test.YtillboceclhoeaaDe
import Derived.Test.YtillboceclhoeaaKb
namespace Go.Proofs.Ytillboceclhoeaa
open Abs Go.RowKit
set_option maxRecDepth 100000
theorem known_spec : CallH Try.prog 14 [] (hp []) 0 (fun v H' nx' => v = .bool true ∧ H' = hp [] ∧ nx' = 0) := by
  intro _
  obtain ⟨fn, c, h1, h2⟩ : ∃ fn c, Try.prog.funcs[14]? = some fn ∧ fn.body = some c := ⟨_, _, Try.func14, rfl⟩
  refine ⟨(progOk_fn prog_ok h1 h2).2, fun m W xs hxs hR ht => ?_⟩
  have hx : xs = #[] := by
    have := hxs.nil_inv
    exact Array.toList_eq_nil_iff.1 this
  subst hx
  refine (kbgood prog_ok W).mono ?_
  rintro e W' ⟨rfl, hB⟩
  have hgn : ∀ n, (hp []).get n = none := fun n => by rw [hget]; rfl
  refine ⟨.bool true, .bool true, hp [], 0, m, rfl, ?_, by simp only [VR], rfl, rfl, rfl⟩
  exact { erel := hR, eq := fun _ h => (by cases h), new := fun n k _ h => (by rw [ht n (Nat.zero_le _)] at h; cases h), top := ht, rel := ⟨fun n ob h => (by rw [hgn] at h; cases h), fun i j oi oj ki kj h => (by rw [hgn] at h; cases h)⟩, frame := fun b hb _ => hB.block b hb, os := hB.os, tape := hB.tape, output := hB.output, size := hB.size, ap := .refl (wf_of rfl rfl) }
theorem RigR.tuple {D Y P L : Int} {l : List (Int × Int)} {v : AV} (h : RigR D Y P L l v) : ∃ a b c, v = .tuple [I a, I b, I c] := by
  unfold RigR at h
  split at h
  · rcases h with ⟨⟨n, _, _, _, _, _, rfl⟩, _⟩ | ⟨_, rfl⟩
    · exact ⟨_, _, _, rfl⟩
    · exact ⟨_, _, _, rfl⟩
  · subst h; exact ⟨_, _, _, rfl⟩
theorem takeN_all {cs : List AV} {n : Nat} (h : cs.length = n) : takeN cs 0 n = some cs := by
  unfold takeN
  rw [List.drop_zero, List.take_of_length_le (by omega), h]; simp
theorem spanC_length (l : List (Int × Int)) : (spanC l).length = l.length * 2 := by
  induction l with
  | nil => rfl
  | cons s l ih => simp only [spanC, List.map_cons, List.flatten_cons, List.length_append, cS, List.length_cons, List.length_nil] at ih ⊢; rw [ih]; omega
/-- A copy of a row: append to an empty one. -/
theorem append_row {P : Program} {t e xt : TypeId} {z : Nat} {n n0 len cp nx : Nat} {ex : Bool} {H : Hp} {cs : List AV}
    (h1 : (P.underlying t, P.underlying xt, (P.info? e).map (fun i => (i.size, Nat.ble i.bytes 1000)), (zero P e).map (fun v => v.cells.length), Nat.beq z 0) = (some (.slice e), some (.slice e), some (z, true), some z, false))
    (hlen : 0 < len) (hle : len ≤ 1000000) (hn : cellsAt H n0 = some cs) (hc : cs.length = len * z) :
    appendA P t xt (.slice n 0 0 0 z true) (.slice n0 0 len cp z ex) H nx = some (.slice nx 0 len len z false, H.lay nx (.cells true cs), nx + 1) := by
  simp only [Prod.mk.injEq, Option.map_eq_some_iff] at h1
  obtain ⟨ht, hx, ⟨i, hi, h1, h3⟩, ⟨zv, hz, h2⟩, h4⟩ := h1
  subst h1
  obtain ⟨k, rfl⟩ : ∃ k, len = k + 1 := ⟨len - 1, by omega⟩
  have hrow : rowA H n0 0 (k + 1) i.size = some cs := by
    simp only [rowA, show Nat.beq (k + 1) 0 = false from rfl, cond_false, hn, takeN_all hc]
  have hs : srcN P H e i.size xt (.slice n0 0 (k + 1) cp i.size ex) = some (k + 1, cs) := by simp only [srcN, hx, hrow]
  have hsm : small (k + 1) i.bytes = true := by simp only [small, h3, Bool.and_true, Nat.ble_eq]; exact hle
  have hsm2 : small (k + 1) 0 = true := by simp only [small, Nat.ble_eq, Bool.and_eq_true]; omega
  have hble : Nat.ble (k + 1) 0 = false := rfl
  simp only [appendA, ht, hi, hz, h2, Nat.beq_refl, cond_true, hs, hsm, h4, cond_false, growA, Nat.zero_add, hsm2, hble, rowA, List.nil_append, show Nat.beq 0 0 = true from rfl]
theorem app_rfl {P : Program} {t xt : TypeId} {s x v : AV} {H H' : Hp} {nx nx' : Nat} (h : appendA P t xt s x H nx = some (v, H', nx')) : Does P (.app t xt s x) H nx v H' nx' := h
theorem dropRigs_rest (D Y P L line : Int) (l : List (Int × Int)) (cp c : Nat) (ex e : Bool) (hl : l.length ≤ 30) {m0 : NM} {W0 : World} {k : Code} (hk : k = cB (cB (cB (bodyOf Try.prog 3)))) :
    TC Try.prog ⟨m0, hp [(0, .cells false (spanC l))], 1, W0⟩ (max Try.f3.ntmps [AV.agg (rigBox D Y P L l cp ex), I line].length) none k
      (lk [(1, I line), (2, .ptr 1 0), (4, .bool false), (5, .slice 2 0 (spanL l).length c 2 e)] noE) [] (hp [(0, .cells false (spanC l)), (1, .cells true (rigBox D Y P L l cp ex)), (2, .cells true (spanC l))]) 3
      (Qfun Try.prog Try.f3.results.toList (fun v H' nx' => v = .bool true ∧ H' = hp [(0, .cells false (spanC l))] ∧ nx' = 1)) := by
  have hl2 : l.length < 2 ^ 62 := by omega
  have hsame : CallH Try.prog 18 [.slice 0 0 (spanL l).length c 2 e, .slice 1 0 (spanL l).length cp 2 ex] (hp [(0, .cells false (spanC l)), (1, .cells false (spanC l))]) 2
    (fun v H' nx' => v = .bool true ∧ H' = hp [(0, .cells false (spanC l)), (1, .cells false (spanC l))] ∧ nx' = 2) := by
    have := refSame_spec l l c cp e ex hl2
    rwa [decide_eq_true rfl] at this
  subst hk
  refine tc_r [0, 2] ?k1 ?_
  case k1 => kernel_rfl
  refine tc_r [0, 2] ?k1 ?_
  case k1 => kernel_rfl
  refine tc_seqr [0, 2] ?k1 ?_
  case k1 => kernel_rfl
  refine to_callq 0 [(0, 2, 0)] (fun σ v h => RigR.ren h σ) (rig_spec D Y P L l c e hl2) ?k1 ⟨embP (spanC l) true ?k2 (spanC_plain l), trivial⟩ ?_
  case k1 => kernel_rfl
  case k2 => kernel_rfl
  intro v hv
  obtain ⟨v1, v2, v3, rfl⟩ := hv.tuple
  refine to_done 0 ?k1 ?_
  case k1 => kernel_rfl
  refine tc_keep [(1, I line), (2, .ptr 1 0), (5, .slice 2 0 (spanL l).length c 2 e), (7, I v1), (8, I v2), (9, I v3)] ⟨?k1, ?k2, ?k3, ?k4, ?k5, ?k6, trivial⟩ ?_
  case k1 => kernel_rfl
  case k2 => kernel_rfl
  case k3 => kernel_rfl
  case k4 => kernel_rfl
  case k5 => kernel_rfl
  case k6 => kernel_rfl
  have hck := check_spec line l c e hl2
  have hrc := refClock_spec line l cp ex hl2
  cases hcb : clockB line l with
  | true =>
    rw [hcb] at hck hrc
    refine tc_seqr [0, 2] ?k1 ?_
    case k1 => kernel_rfl
    refine to_callp 0 [(0, 2, 0)] hck ?k1 ⟨embP (spanC l) true ?k2 (spanC_plain l), trivial⟩ ?_
    case k1 => kernel_rfl
    case k2 => kernel_rfl
    refine to_done 0 ?k1 ?_
    case k1 => kernel_rfl
    refine tc_seqr [0, 2] ?k1 ?_
    case k1 => kernel_rfl
    refine to_callq 0 [(0, 0, 0)] (fun σ v h => RigR.ren h σ) (refRig_spec D Y P L l cp ex hl2) ?k1 ⟨embP (spanC l) false ?k2 (spanC_plain l), trivial⟩ ?_
    case k1 => kernel_rfl
    case k2 => kernel_rfl
    intro w hw
    have := hv.eq hw
    subst this
    refine to_done 0 ?k1 ?_
    case k1 => kernel_rfl
    refine tc_shift 1 3 [(1, 1, 0), (2, 2, 0)] [0, 2] [1, 2, 5, 7, 8, 9, 10, 11, 12, 13] rfl ⟨⟨false, spanC l, ?k1, spanC_plain l⟩, ⟨true, spanC l, ?k2, spanC_plain l⟩, trivial⟩ (L2 := [(1, I line), (2, .ptr 1 0), (5, .slice 2 0 (spanL l).length c 2 e), (7, I v1), (8, I v2), (9, I v3), (10, I 0), (11, I v1), (12, I v2), (13, I v3)]) (ds2 := []) (t2 := objs [(0, .cells false (spanC l)), (1, .cells true (rigBox D Y P L l cp ex)), (2, .cells true (spanC l))]) ?k3 ?_
    case k1 => kernel_rfl
    case k2 => kernel_rfl
    case k3 => kernel_rfl
    refine tc_seq ?k1 ?_
    case k1 => kernel_rfl
    refine tc_seqr [0, 2] ?k1 ?_
    case k1 => kernel_rfl
    refine to_callp 0 [(0, 2, 0), (1, 0, 0)] hsame ?k1 ⟨embP (spanC l) true ?k2 (spanC_plain l), embP (spanC l) false ?k3 (spanC_plain l), trivial⟩ ?_
    case k1 => kernel_rfl
    case k2 => kernel_rfl
    case k3 => kernel_rfl
    refine to_known 0 false ?k1 ?_
    case k1 => kernel_rfl
    refine to_callp 0 [(0, 0, 0)] hrc ?k1 ⟨embP (spanC l) false ?k2 (spanC_plain l), trivial⟩ ?_
    case k1 => kernel_rfl
    case k2 => kernel_rfl
    refine to_norm 13 [5] [(7, I v1), (8, I v2), (9, I v3), (10, I 0), (11, I v1), (12, I v2), (13, I v3), (47, .bool false), (49, .bool true), (54, .bool true)] (hp [(0, .cells false (spanC l)), (1, .cells true (rigBox D Y P L l cp ex)), (2, .cells true (spanC l))]) 3 ⟨?k1, ?k2, ?k3, ?k4, ?k5, ?k6, ?k7, ?k8, ?k9, ?k10, trivial⟩ ?k11 ?_
    case k1 => kernel_rfl
    case k2 => kernel_rfl
    case k3 => kernel_rfl
    case k4 => kernel_rfl
    case k5 => kernel_rfl
    case k6 => kernel_rfl
    case k7 => kernel_rfl
    case k8 => kernel_rfl
    case k9 => kernel_rfl
    case k10 => kernel_rfl
    case k11 => kernel_rfl
    refine to_known 0 false ?k1 ?_
    case k1 => kernel_rfl
    refine to_known 0 false ?k1 ?_
    case k1 => kernel_rfl
    refine to_done 0 ?k1 ?_
    case k1 => kernel_rfl
    refine tc_cond false ?k1 (fun e => by cases e) (fun _ => ?_)
    case k1 => kernel_rfl
    refine tc_skip ?k1 (qseq_normal ?_)
    case k1 => kernel_rfl
    refine tc_keep [(7, I v1), (8, I v2), (9, I v3), (11, I v1), (12, I v2), (13, I v3)] ⟨?k1, ?k2, ?k3, ?k4, ?k5, ?k6, trivial⟩ ?_
    case k1 => kernel_rfl
    case k2 => kernel_rfl
    case k3 => kernel_rfl
    case k4 => kernel_rfl
    case k5 => kernel_rfl
    case k6 => kernel_rfl
    refine tc_seqr [0, 2] ?k1 ?_
    case k1 => kernel_rfl
    refine to_ask 0 (v1 == v1) ?k1 (fun _ => ?_) (fun h => by simp at h)
    case k1 => kernel_rfl
    refine to_ask 0 (v2 == v2) ?k1 (fun _ => ?_) (fun h => by simp at h)
    case k1 => kernel_rfl
    refine to_ask 0 (v3 == v3) ?k1 (fun _ => ?_) (fun h => by simp at h)
    case k1 => kernel_rfl
    refine to_norm 14 [13] [(78, .bool true)] (hp [(0, .cells false (spanC l)), (1, .cells true (rigBox D Y P L l cp ex)), (2, .cells true (spanC l))]) 3 ⟨?k1, trivial⟩ ?k2 ?_
    case k1 => kernel_rfl
    case k2 => kernel_rfl
    refine to_callp 0 [] known_spec ?k1 trivial ?_
    case k1 => kernel_rfl
    refine to_done 0 ?k1 ?_
    case k1 => kernel_rfl
    refine tc_shift 1 1 [] [0] [4] rfl ⟨⟨false, spanC l, ?k1, spanC_plain l⟩, trivial⟩ (L2 := [(4, .bool true)]) (ds2 := []) (t2 := objs [(0, .cells false (spanC l))]) ?k2 ?_
    case k1 => kernel_rfl
    case k2 => kernel_rfl
    refine tc_ret ?k1 (qfun_ret (v := .bool true) ?k2 ⟨rfl, ?k3, ?k4⟩)
    case k1 => kernel_rfl
    case k2 => kernel_rfl
    case k3 => kernel_rfl
    case k4 => kernel_rfl
  | false =>
    rw [hcb] at hck hrc
    refine tc_seqr [0, 2] ?k1 ?_
    case k1 => kernel_rfl
    refine to_callp 0 [(0, 2, 0)] hck ?k1 ⟨embP (spanC l) true ?k2 (spanC_plain l), trivial⟩ ?_
    case k1 => kernel_rfl
    case k2 => kernel_rfl
    refine to_done 0 ?k1 ?_
    case k1 => kernel_rfl
    refine tc_seqr [0, 2] ?k1 ?_
    case k1 => kernel_rfl
    refine to_callq 0 [(0, 0, 0)] (fun σ v h => RigR.ren h σ) (refRig_spec D Y P L l cp ex hl2) ?k1 ⟨embP (spanC l) false ?k2 (spanC_plain l), trivial⟩ ?_
    case k1 => kernel_rfl
    case k2 => kernel_rfl
    intro w hw
    have := hv.eq hw
    subst this
    refine to_done 0 ?k1 ?_
    case k1 => kernel_rfl
    refine tc_shift 1 3 [(1, 1, 0), (2, 2, 0)] [0, 2] [1, 2, 5, 7, 8, 9, 10, 11, 12, 13] rfl ⟨⟨false, spanC l, ?k1, spanC_plain l⟩, ⟨true, spanC l, ?k2, spanC_plain l⟩, trivial⟩ (L2 := [(1, I line), (2, .ptr 1 0), (5, .slice 2 0 (spanL l).length c 2 e), (7, I v1), (8, I v2), (9, I v3), (10, I 2), (11, I v1), (12, I v2), (13, I v3)]) (ds2 := []) (t2 := objs [(0, .cells false (spanC l)), (1, .cells true (rigBox D Y P L l cp ex)), (2, .cells true (spanC l))]) ?k3 ?_
    case k1 => kernel_rfl
    case k2 => kernel_rfl
    case k3 => kernel_rfl
    refine tc_seq ?k1 ?_
    case k1 => kernel_rfl
    refine tc_seqr [0, 2] ?k1 ?_
    case k1 => kernel_rfl
    refine to_callp 0 [(0, 2, 0), (1, 0, 0)] hsame ?k1 ⟨embP (spanC l) true ?k2 (spanC_plain l), embP (spanC l) false ?k3 (spanC_plain l), trivial⟩ ?_
    case k1 => kernel_rfl
    case k2 => kernel_rfl
    case k3 => kernel_rfl
    refine to_known 0 false ?k1 ?_
    case k1 => kernel_rfl
    refine to_callp 0 [(0, 0, 0)] hrc ?k1 ⟨embP (spanC l) false ?k2 (spanC_plain l), trivial⟩ ?_
    case k1 => kernel_rfl
    case k2 => kernel_rfl
    refine to_norm 13 [5] [(7, I v1), (8, I v2), (9, I v3), (10, I 2), (11, I v1), (12, I v2), (13, I v3), (47, .bool false), (49, .bool false), (54, .bool false)] (hp [(0, .cells false (spanC l)), (1, .cells true (rigBox D Y P L l cp ex)), (2, .cells true (spanC l))]) 3 ⟨?k1, ?k2, ?k3, ?k4, ?k5, ?k6, ?k7, ?k8, ?k9, ?k10, trivial⟩ ?k11 ?_
    case k1 => kernel_rfl
    case k2 => kernel_rfl
    case k3 => kernel_rfl
    case k4 => kernel_rfl
    case k5 => kernel_rfl
    case k6 => kernel_rfl
    case k7 => kernel_rfl
    case k8 => kernel_rfl
    case k9 => kernel_rfl
    case k10 => kernel_rfl
    case k11 => kernel_rfl
    refine to_known 0 false ?k1 ?_
    case k1 => kernel_rfl
    refine to_known 0 true ?k1 ?_
    case k1 => kernel_rfl
    refine to_done 0 ?k1 ?_
    case k1 => kernel_rfl
    refine tc_cond false ?k1 (fun e => by cases e) (fun _ => ?_)
    case k1 => kernel_rfl
    refine tc_skip ?k1 (qseq_normal ?_)
    case k1 => kernel_rfl
    refine tc_keep [(7, I v1), (8, I v2), (9, I v3), (11, I v1), (12, I v2), (13, I v3)] ⟨?k1, ?k2, ?k3, ?k4, ?k5, ?k6, trivial⟩ ?_
    case k1 => kernel_rfl
    case k2 => kernel_rfl
    case k3 => kernel_rfl
    case k4 => kernel_rfl
    case k5 => kernel_rfl
    case k6 => kernel_rfl
    refine tc_seqr [0, 2] ?k1 ?_
    case k1 => kernel_rfl
    refine to_ask 0 (v1 == v1) ?k1 (fun _ => ?_) (fun h => by simp at h)
    case k1 => kernel_rfl
    refine to_ask 0 (v2 == v2) ?k1 (fun _ => ?_) (fun h => by simp at h)
    case k1 => kernel_rfl
    refine to_ask 0 (v3 == v3) ?k1 (fun _ => ?_) (fun h => by simp at h)
    case k1 => kernel_rfl
    refine to_norm 14 [13] [(78, .bool true)] (hp [(0, .cells false (spanC l)), (1, .cells true (rigBox D Y P L l cp ex)), (2, .cells true (spanC l))]) 3 ⟨?k1, trivial⟩ ?k2 ?_
    case k1 => kernel_rfl
    case k2 => kernel_rfl
    refine to_callp 0 [] known_spec ?k1 trivial ?_
    case k1 => kernel_rfl
    refine to_done 0 ?k1 ?_
    case k1 => kernel_rfl
    refine tc_shift 1 1 [] [0] [4] rfl ⟨⟨false, spanC l, ?k1, spanC_plain l⟩, trivial⟩ (L2 := [(4, .bool true)]) (ds2 := []) (t2 := objs [(0, .cells false (spanC l))]) ?k2 ?_
    case k1 => kernel_rfl
    case k2 => kernel_rfl
    refine tc_ret ?k1 (qfun_ret (v := .bool true) ?k2 ⟨rfl, ?k3, ?k4⟩)
    case k1 => kernel_rfl
    case k2 => kernel_rfl
    case k3 => kernel_rfl
    case k4 => kernel_rfl
/-- A rig with few hours. -/
theorem dropRigs_few (D Y P L line : Int) (l : List (Int × Int)) (cp : Nat) (ex : Bool) (hl : l.length ≤ 30) : CallH Try.prog 3 [.agg (rigBox D Y P L l cp ex), I line] (hp [(0, .cells false (spanC l))]) 1
    (fun v H' nx' => v = .bool true ∧ H' = hp [(0, .cells false (spanC l))] ∧ nx' = 1) := by
  refine call_intro prog_ok Try.func3 rfl fun m0 W0 => ?_
  refine tc_r [0] ?k1 ?_
  case k1 => kernel_rfl
  refine tc_seq ?k1 ?_
  case k1 => kernel_rfl
  refine tc_r [0] ?k1 ?_
  case k1 => kernel_rfl
  refine tc_cond (decide ((((spanL l).length : Nat) : Int) > 30)) ?k1 (fun h => by rw [decide_eq_true_eq, spanL_length] at h; omega) (fun _ => ?_)
  case k1 => kernel_rfl
  refine tc_skip ?k1 (qseq_normal ?_)
  case k1 => kernel_rfl
  refine tc_seqr [0] ?k1 ?_
  case k1 => kernel_rfl
  rcases Nat.eq_zero_or_pos l.length with h0 | hpos
  · have : l = [] := List.length_eq_zero_iff.1 h0
    subst this
    refine to_does 0 (w := .app 22 22 (.slice 2 0 0 0 2 true) (.slice 0 0 0 cp 2 ex)) (v := .slice 2 0 0 0 2 true) (H0 := hp [(0, .cells false []), (1, .cells true (rigBox D Y P L [] cp ex)), (2, .cells true [])]) (nx0 := 3) (H' := hp [(0, .cells false []), (1, .cells true (rigBox D Y P L [] cp ex)), (2, .cells true [])]) (nx' := 3) (app_rfl ?k1) ?k2 ?_
    case k1 => kernel_rfl
    case k2 => kernel_rfl
    refine to_done 0 ?k1 ?_
    case k1 => kernel_rfl
    refine tc_shift 1 3 [(1, 1, 0), (2, 2, 0)] [] [1, 2, 4, 5] rfl trivial (L2 := [(1, I line), (2, .ptr 1 0), (4, .bool false), (5, .slice 2 0 (spanL []).length 0 2 true)]) (ds2 := []) (t2 := objs [(0, .cells false (spanC [])), (1, .cells true (rigBox D Y P L [] cp ex)), (2, .cells true (spanC []))]) ?k1 ?_
    case k1 => kernel_rfl
    refine dropRigs_rest D Y P L line [] cp 0 ex true (by simp) ?k1
    case k1 => kernel_rfl
  · refine to_does 0 (w := .app 22 22 (.slice 2 0 0 0 2 true) (.slice 0 0 (spanL l).length cp 2 ex)) (v := .slice 3 0 (spanL l).length (spanL l).length 2 false) (H0 := hp [(0, .cells false (spanC l)), (1, .cells true (rigBox D Y P L l cp ex)), (2, .cells true [])]) (nx0 := 3) (H' := Hp.lay (hp [(0, .cells false (spanC l)), (1, .cells true (rigBox D Y P L l cp ex)), (2, .cells true [])]) 3 (.cells true (spanC l))) (nx' := 4) ?_ ?k1 ?_
    case k1 => kernel_rfl
    · refine append_row (e := 36) ?k1 (by rw [spanL_length]; exact hpos) (by rw [spanL_length]; omega) (cs := spanC l) ?k2 (by rw [spanC_length, spanL_length])
      case k1 => kernel_rfl
      case k2 => kernel_rfl
    refine to_done 0 ?k1 ?_
    case k1 => kernel_rfl
    refine tc_shift 1 3 [(1, 1, 0), (3, 2, 0)] [0, 3] [1, 2, 4, 5] rfl ⟨⟨false, spanC l, ?k1, spanC_plain l⟩, ⟨true, spanC l, ?k2, spanC_plain l⟩, trivial⟩ (L2 := [(1, I line), (2, .ptr 1 0), (4, .bool false), (5, .slice 2 0 (spanL l).length (spanL l).length 2 false)]) (ds2 := []) (t2 := objs [(0, .cells false (spanC l)), (1, .cells true (rigBox D Y P L l cp ex)), (2, .cells true (spanC l))]) ?k3 ?_
    case k1 => kernel_rfl
    case k2 => kernel_rfl
    case k3 => kernel_rfl
    refine dropRigs_rest D Y P L line l cp (spanL l).length ex false hl ?k1
    case k1 => kernel_rfl
/-- A rig with many hours: they are not looked at. -/
theorem dropRigs_many (D Y P L line : Int) (n cp : Nat) (ex : Bool) (hn : 30 < n) : CallH Try.prog 3 [.agg [I D, I Y, I P, I L, .slice 0 0 n cp 2 ex], I line] (hp []) 1
    (fun v H' nx' => v = .bool true ∧ H' = hp [] ∧ nx' = 1) := by
  refine call_intro prog_ok Try.func3 rfl fun m0 W0 => ?_
  refine tc_r [0] ?k1 ?_
  case k1 => kernel_rfl
  refine tc_seq ?k1 ?_
  case k1 => kernel_rfl
  refine tc_r [0] ?k1 ?_
  case k1 => kernel_rfl
  refine tc_cond (decide ((n : Int) > 30)) ?k1 (fun _ => ?_) (fun h => by rw [decide_eq_false_iff_not] at h; omega)
  case k1 => kernel_rfl
  refine tc_seqr [0] ?k1 ?_
  case k1 => kernel_rfl
  refine to_callp 0 [] known_spec ?k1 trivial ?_
  case k1 => kernel_rfl
  refine to_done 0 ?k1 ?_
  case k1 => kernel_rfl
  refine tc_shift 1 1 [] [] [4] rfl trivial (L2 := [(4, .bool true)]) (ds2 := []) (t2 := objs []) ?k1 ?_
  case k1 => kernel_rfl
  refine tc_ret ?k1 (qseq_ret (qfun_ret (v := .bool true) ?k2 ⟨rfl, ?k3, ?k4⟩))
  case k1 => kernel_rfl
  case k2 => kernel_rfl
  case k3 => kernel_rfl
  case k4 => kernel_rfl
end Go.Proofs.Ytillboceclhoeaa
