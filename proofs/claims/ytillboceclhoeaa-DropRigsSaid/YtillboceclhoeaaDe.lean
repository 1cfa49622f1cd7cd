/- Chapter 2: the reference's Rig. -/
import Derived.Test.YtillboceclhoeaaDd
namespace Go.Proofs.Ytillboceclhoeaa
open Abs
set_option maxRecDepth 100000
theorem flat_get {z : Nat} : ∀ {L : List (List AV)} (hL : ∀ x ∈ L, x.length = z) {i j : Nat} {x : List AV}, L[i]? = some x → j < z → L.flatten[i * z + j]? = x[j]?
  | [], _, i, j, x, h, _ => by simp at h
  | y :: L, hL, 0, j, x, h, hj => by
    simp only [List.getElem?_cons_zero, Option.some.injEq] at h; subst h
    have := hL y (by simp)
    rw [List.flatten_cons, Nat.zero_mul, Nat.zero_add, List.getElem?_append_left (by omega)]
  | y :: L, hL, i + 1, j, x, h, hj => by
    simp only [List.getElem?_cons_succ] at h
    have hy := hL y (by simp)
    rw [List.flatten_cons, List.getElem?_append_right (by rw [hy, Nat.add_mul]; omega), show (i + 1) * z + j - y.length = i * z + j by rw [hy, Nat.add_mul]; omega]
    exact flat_get (fun x hx => hL x (by simp [hx])) h hj
theorem span_high {t : Tr AObj} {k : Nat} {w : Bool} {l : List (Int × Int)} (hg : t.get k = some (.cells w (spanC l))) {i : Nat} (hi : i < l.length) : loadT Try.prog ⟨t, [], 0⟩ 3 k (0 + i * 2 + 1) = some (I l[i].2) := by
  rw [loadT_one hg (by kernel_rfl), Nat.zero_add, spanC, flat_get (cS_length l) (i := i) (j := 1) (x := cS l[i]) (by rw [List.getElem?_map, List.getElem?_eq_getElem hi]; rfl) (by omega)]; rfl
theorem span_low {t : Tr AObj} {k : Nat} {w : Bool} {l : List (Int × Int)} (hg : t.get k = some (.cells w (spanC l))) {i : Nat} (hi : i < l.length) : loadT Try.prog ⟨t, [], 0⟩ 3 k (0 + i * 2 + 0) = some (I l[i].1) := by
  rw [loadT_one hg (by kernel_rfl), Nat.zero_add, spanC, flat_get (cS_length l) (i := i) (j := 0) (x := cS l[i]) (by rw [List.getElem?_map, List.getElem?_eq_getElem hi]; rfl) (by omega)]; rfl
theorem refRig_spec (D Y P L : Int) (l : List (Int × Int)) (cp : Nat) (ex : Bool) (hl : l.length < 2 ^ 62) : CallH Try.prog 17 [.agg (rigBox D Y P L l cp ex)] (hp [(0, .cells false (spanC l))]) 1
    (fun v H' nx' => RigR D Y P L l v ∧ H' = hp [(0, .cells false (spanC l))] ∧ nx' = 1) := by
  have hbad : (inB D 1 3000 && inB Y 1 3000 && inB P 1 3000 && inB L 1 3000 && (decide (l.length = 24) && l.all (okSpan 3000))) = false → RigR D Y P L l (.tuple [I 0, I 0, I 2]) := by
    intro h
    unfold RigR
    rw [if_neg]
    rw [Bool.not_eq_true, ← h]
    simp only [allIn, List.all_cons, List.all_nil, inB, Bool.and_true, Bool.and_assoc, ge_iff_le]
  refine call_intro prog_ok Try.func17 rfl fun m0 W0 => ?_
  refine tc_r [0] ?k1 ?_
  case k1 => kernel_rfl
  refine tc_seq ?k1 ?_
  case k1 => kernel_rfl
  refine tc_seqr [0] ?k1 ?_
  case k1 => kernel_rfl
  refine to_callp 0 [] (refIn_spec D 1 3000) ?k1 trivial ?_
  case k1 => kernel_rfl
  refine to_ask 0 (!(inB D 1 3000)) ?k1 (fun h1 => ?_) (fun h1 => ?_)
  case k1 => kernel_rfl
  · refine to_norm 5 [4] [(1, .ptr 1 0), (12, .bool true)] (hp [(0, .cells false (spanC l)), (1, .cells true (rigBox D Y P L l cp ex))]) 2 ⟨?k1, ?k2, trivial⟩ ?k3 ?_
    case k1 => kernel_rfl
    case k2 => kernel_rfl
    case k3 => kernel_rfl
    refine to_known 0 true ?k1 ?_
    case k1 => kernel_rfl
    refine to_known 0 true ?k1 ?_
    case k1 => kernel_rfl
    refine to_known 0 true ?k1 ?_
    case k1 => kernel_rfl
    refine to_done 0 ?k1 ?_
    case k1 => kernel_rfl
    refine tc_cond true ?k1 (fun _ => ?_) (fun e => by cases e)
    case k1 => kernel_rfl
    refine tc_r [0] ?k1 ?_
    case k1 => kernel_rfl
    refine tc_shift 1 1 [] [0] [2, 3, 4] rfl ⟨⟨false, spanC l, ?k1, spanC_plain l⟩, trivial⟩ (L2 := [(2, I 0), (3, I 0), (4, I 2)]) (ds2 := []) (t2 := objs [(0, .cells false (spanC l))]) ?k2 ?_
    case k1 => kernel_rfl
    case k2 => kernel_rfl
    refine tc_ret ?k1 (qseq_ret (qfun_ret (v := .tuple [I 0, I 0, I 2]) ?k2 ⟨hbad (by rw [Bool.not_eq_true'] at h1; simp [h1]), ?k3, ?k4⟩))
    case k1 => kernel_rfl
    case k2 => kernel_rfl
    case k3 => kernel_rfl
    case k4 => kernel_rfl
  refine to_norm 5 [4] [(1, .ptr 1 0), (12, .bool false)] (hp [(0, .cells false (spanC l)), (1, .cells true (rigBox D Y P L l cp ex))]) 2 ⟨?k1, ?k2, trivial⟩ ?k3 ?_
  case k1 => kernel_rfl
  case k2 => kernel_rfl
  case k3 => kernel_rfl
  refine to_callp 0 [] (refIn_spec Y 1 3000) ?k1 trivial ?_
  case k1 => kernel_rfl
  refine to_ask 0 (!(inB Y 1 3000)) ?k1 (fun h2 => ?_) (fun h2 => ?_)
  case k1 => kernel_rfl
  · refine to_norm 11 [10] [(1, .ptr 1 0), (18, .bool true)] (hp [(0, .cells false (spanC l)), (1, .cells true (rigBox D Y P L l cp ex))]) 2 ⟨?k1, ?k2, trivial⟩ ?k3 ?_
    case k1 => kernel_rfl
    case k2 => kernel_rfl
    case k3 => kernel_rfl
    refine to_known 0 true ?k1 ?_
    case k1 => kernel_rfl
    refine to_known 0 true ?k1 ?_
    case k1 => kernel_rfl
    refine to_done 0 ?k1 ?_
    case k1 => kernel_rfl
    refine tc_cond true ?k1 (fun _ => ?_) (fun e => by cases e)
    case k1 => kernel_rfl
    refine tc_r [0] ?k1 ?_
    case k1 => kernel_rfl
    refine tc_shift 1 1 [] [0] [2, 3, 4] rfl ⟨⟨false, spanC l, ?k1, spanC_plain l⟩, trivial⟩ (L2 := [(2, I 0), (3, I 0), (4, I 2)]) (ds2 := []) (t2 := objs [(0, .cells false (spanC l))]) ?k2 ?_
    case k1 => kernel_rfl
    case k2 => kernel_rfl
    refine tc_ret ?k1 (qseq_ret (qfun_ret (v := .tuple [I 0, I 0, I 2]) ?k2 ⟨hbad (by rw [Bool.not_eq_true'] at h2; simp [h2]), ?k3, ?k4⟩))
    case k1 => kernel_rfl
    case k2 => kernel_rfl
    case k3 => kernel_rfl
    case k4 => kernel_rfl
  refine to_norm 11 [10] [(1, .ptr 1 0), (18, .bool false)] (hp [(0, .cells false (spanC l)), (1, .cells true (rigBox D Y P L l cp ex))]) 2 ⟨?k1, ?k2, trivial⟩ ?k3 ?_
  case k1 => kernel_rfl
  case k2 => kernel_rfl
  case k3 => kernel_rfl
  refine to_callp 0 [] (refIn_spec P 1 3000) ?k1 trivial ?_
  case k1 => kernel_rfl
  refine to_ask 0 (!(inB P 1 3000)) ?k1 (fun h3 => ?_) (fun h3 => ?_)
  case k1 => kernel_rfl
  · refine to_norm 17 [16] [(1, .ptr 1 0), (24, .bool true)] (hp [(0, .cells false (spanC l)), (1, .cells true (rigBox D Y P L l cp ex))]) 2 ⟨?k1, ?k2, trivial⟩ ?k3 ?_
    case k1 => kernel_rfl
    case k2 => kernel_rfl
    case k3 => kernel_rfl
    refine to_known 0 true ?k1 ?_
    case k1 => kernel_rfl
    refine to_done 0 ?k1 ?_
    case k1 => kernel_rfl
    refine tc_cond true ?k1 (fun _ => ?_) (fun e => by cases e)
    case k1 => kernel_rfl
    refine tc_r [0] ?k1 ?_
    case k1 => kernel_rfl
    refine tc_shift 1 1 [] [0] [2, 3, 4] rfl ⟨⟨false, spanC l, ?k1, spanC_plain l⟩, trivial⟩ (L2 := [(2, I 0), (3, I 0), (4, I 2)]) (ds2 := []) (t2 := objs [(0, .cells false (spanC l))]) ?k2 ?_
    case k1 => kernel_rfl
    case k2 => kernel_rfl
    refine tc_ret ?k1 (qseq_ret (qfun_ret (v := .tuple [I 0, I 0, I 2]) ?k2 ⟨hbad (by rw [Bool.not_eq_true'] at h3; simp [h3]), ?k3, ?k4⟩))
    case k1 => kernel_rfl
    case k2 => kernel_rfl
    case k3 => kernel_rfl
    case k4 => kernel_rfl
  refine to_norm 17 [16] [(1, .ptr 1 0), (24, .bool false)] (hp [(0, .cells false (spanC l)), (1, .cells true (rigBox D Y P L l cp ex))]) 2 ⟨?k1, ?k2, trivial⟩ ?k3 ?_
  case k1 => kernel_rfl
  case k2 => kernel_rfl
  case k3 => kernel_rfl
  refine to_callp 0 [] (refIn_spec L 1 3000) ?k1 trivial ?_
  case k1 => kernel_rfl
  refine to_ask 0 (!(inB L 1 3000)) ?k1 (fun h4 => ?_) (fun h4 => ?_)
  case k1 => kernel_rfl
  · refine to_norm 23 [22] [(1, .ptr 1 0), (30, .bool true)] (hp [(0, .cells false (spanC l)), (1, .cells true (rigBox D Y P L l cp ex))]) 2 ⟨?k1, ?k2, trivial⟩ ?k3 ?_
    case k1 => kernel_rfl
    case k2 => kernel_rfl
    case k3 => kernel_rfl
    refine to_done 0 ?k1 ?_
    case k1 => kernel_rfl
    refine tc_cond true ?k1 (fun _ => ?_) (fun e => by cases e)
    case k1 => kernel_rfl
    refine tc_r [0] ?k1 ?_
    case k1 => kernel_rfl
    refine tc_shift 1 1 [] [0] [2, 3, 4] rfl ⟨⟨false, spanC l, ?k1, spanC_plain l⟩, trivial⟩ (L2 := [(2, I 0), (3, I 0), (4, I 2)]) (ds2 := []) (t2 := objs [(0, .cells false (spanC l))]) ?k2 ?_
    case k1 => kernel_rfl
    case k2 => kernel_rfl
    refine tc_ret ?k1 (qseq_ret (qfun_ret (v := .tuple [I 0, I 0, I 2]) ?k2 ⟨hbad (by rw [Bool.not_eq_true'] at h4; simp [h4]), ?k3, ?k4⟩))
    case k1 => kernel_rfl
    case k2 => kernel_rfl
    case k3 => kernel_rfl
    case k4 => kernel_rfl
  refine to_norm 23 [22] [(1, .ptr 1 0), (30, .bool false)] (hp [(0, .cells false (spanC l)), (1, .cells true (rigBox D Y P L l cp ex))]) 2 ⟨?k1, ?k2, trivial⟩ ?k3 ?_
  case k1 => kernel_rfl
  case k2 => kernel_rfl
  case k3 => kernel_rfl
  refine to_callp 0 [(0, 0, 0)] (refHours_spec l cp ex hl) ?k1 ⟨embP (spanC l) false ?k2 (spanC_plain l), trivial⟩ ?_
  case k1 => kernel_rfl
  case k2 => kernel_rfl
  refine to_done 0 ?k1 ?_
  case k1 => kernel_rfl
  refine tc_cond (!(decide (l.length = 24) && l.all (okSpan 3000))) ?k1 (fun h5 => ?_) (fun h5 => ?_)
  case k1 => kernel_rfl
  · refine tc_r [0] ?k1 ?_
    case k1 => kernel_rfl
    refine tc_shift 1 1 [] [0] [2, 3, 4] rfl ⟨⟨false, spanC l, ?k1, spanC_plain l⟩, trivial⟩ (L2 := [(2, I 0), (3, I 0), (4, I 2)]) (ds2 := []) (t2 := objs [(0, .cells false (spanC l))]) ?k2 ?_
    case k1 => kernel_rfl
    case k2 => kernel_rfl
    refine tc_ret ?k1 (qseq_ret (qfun_ret (v := .tuple [I 0, I 0, I 2]) ?k2 ⟨hbad (by rw [Bool.not_eq_true'] at h5; rw [h5, Bool.and_false]), ?k3, ?k4⟩))
    case k1 => kernel_rfl
    case k2 => kernel_rfl
    case k3 => kernel_rfl
    case k4 => kernel_rfl
  rw [Bool.not_eq_false'] at h1 h2 h3 h4 h5
  have hR : ∀ v, RigV D Y P L (sumH l) v → RigR D Y P L l v := fun v hv => by
    unfold RigR
    rw [if_pos]
    · exact hv
    · rw [h5, Bool.and_true]; simp only [inB, Bool.and_eq_true, decide_eq_true_eq] at h1 h2 h3 h4; simp only [allIn, List.all_cons, List.all_nil, Bool.and_eq_true, decide_eq_true_eq, Bool.and_true]; omega
  simp only [Bool.and_eq_true, decide_eq_true_eq] at h5
  obtain ⟨h24, hok⟩ := h5
  simp only [inB, Bool.and_eq_true, decide_eq_true_eq] at h1 h2 h3 h4
  obtain ⟨hD1, hD2⟩ := h1
  obtain ⟨hY1, hY2⟩ := h2
  obtain ⟨hP1, hP2⟩ := h3
  obtain ⟨hL1, hL2⟩ := h4
  refine tc_skip ?k1 (qseq_normal ?_)
  case k1 => kernel_rfl
  refine tc_r [0] ?k1 ?_
  case k1 => kernel_rfl
  refine tc_seq ?k1 ?_
  case k1 => kernel_rfl
  refine tc_r [0] ?k1 ?_
  case k1 => kernel_rfl
  refine tc_shift 1 2 [(1, 1, 0)] [0] [1, 5, 6] rfl ⟨⟨false, spanC l, ?k1, spanC_plain l⟩, trivial⟩ (L2 := [(1, .ptr 1 0), (5, I 0), (6, I 0)]) (ds2 := []) (t2 := objs [(0, .cells false (spanC l)), (1, .cells true (rigBox D Y P L l cp ex))]) ?k2 ?_
  case k1 => kernel_rfl
  case k2 => kernel_rfl
  refine tc_block ?k1 ?_
  case k1 => kernel_rfl
  refine tc_loop (fun m E ds H nx' => ∃ i : Nat, m = 24 - i ∧ i ≤ 24 ∧ ds = [] ∧ H = hp [(0, .cells false (spanC l)), (1, .cells true (rigBox D Y P L l cp ex))] ∧ nx' = 2 ∧ Facts E [(1, .ptr 1 0), (5, I (sumH (l.take i))), (6, I i)]) ?k1 24 ⟨0, rfl, Nat.zero_le _, rfl, rfl, rfl, ?k2, ?k3, ?k4, trivial⟩ ?_
  case k1 => kernel_rfl
  case k2 => kernel_rfl
  case k3 => kernel_rfl
  case k4 => kernel_rfl
  rintro m E ds H nx' ⟨i, rfl, hi, rfl, rfl, rfl, hF⟩
  refine tc_keep _ hF ?_
  refine tc_seq ?k1 ?_
  case k1 => kernel_rfl
  refine tc_r [0] ?k1 ?_
  case k1 => kernel_rfl
  refine tc_cond (decide ((i : Int) < 24)) ?k1 (fun h => ?_) (fun h => ?_)
  case k1 => kernel_rfl
  · have hlt : i < l.length := by rw [decide_eq_true_eq] at h; omega
    have hlt2 : i < (spanL l).length := by rw [spanL_length]; exact hlt
    refine tc_skip ?k1 (qseq_normal ?_)
    case k1 => kernel_rfl
    refine tc_sb ?k1 ?_
    case k1 => kernel_rfl
    refine tc_reg [0] ?k1 ?_
    case k1 => kernel_rfl
    refine to_pure 5 (cond (Nat.blt i (spanL l).length) (some (.ptr 0 (0 + i * 2))) none) (by rw [show Nat.blt i (spanL l).length = true by simpa using hlt2]; rfl) ?k1 ?_
    case k1 => kernel_rfl
    have hrow := span_high (t := objs [(0, .cells false (spanC l)), (1, .cells true (rigBox D Y P L l cp ex))]) (k := 0) (w := false) (l := l) (by kernel_rfl) hlt
    refine to_load 2 hrow ?k1 ?_
    case k1 => kernel_rfl
    refine to_done 0 ?k1 ?_
    case k1 => kernel_rfl
    refine qblk_normal (qseq_normal ?_)
    refine tc_re [0] ?k1 ?_
    case k1 => kernel_rfl
    have hb := sumH_bound hok i
    have hs := (okSpan_iff 3000 l[i]).1 (List.all_eq_true.1 hok _ (by simp))
    refine ⟨24 - (i + 1), by omega, i + 1, rfl, by omega, ?k1, ?k2, ?k3, ?k4, fact_eq (v := I (IntKind.wrap .i64 (sumH (l.take i) + l[i].2))) ?k5 ?_, fact_eq (v := I (IntKind.wrap .i64 ((i : Int) + 1))) ?k6 ?_, trivial⟩
    case k1 => kernel_rfl
    case k2 => kernel_rfl
    case k3 => kernel_rfl
    case k4 => kernel_rfl
    case k5 => kernel_rfl
    case k6 => kernel_rfl
    · rw [List.take_add_one, List.getElem?_eq_getElem hlt, Option.toList_some, sumH_snoc, wrap64 (by omega) (by omega)]
    · rw [wrap64 (by omega) (by omega)]; rfl
  have hieq : i = 24 := by rw [decide_eq_false_iff_not] at h; omega
  subst hieq
  have hday := sumH_bound hok l.length
  rw [List.take_length, h24] at hday
  refine tc_exit ?k1 (qseq_exit (qloop_exit (qblk_hit ?k2 (qseq_normal ?_))))
  case k1 => kernel_rfl
  case k2 => kernel_rfl
  refine tc_seq ?k1 ?_
  case k1 => kernel_rfl
  refine tc_r [0] ?k1 ?_
  case k1 => kernel_rfl
  refine tc_block ?k1 ?_
  case k1 => kernel_rfl
  refine tc_loop (fun m E ds H nx' => ∃ i : Nat, m = 9 - i ∧ 1 ≤ i ∧ i ≤ 9 ∧ (∀ k : Nat, 1 ≤ k → k < i → ¬ (sumH l * Y ≤ D * k ∧ P * k ≤ L ∧ D * k ≤ 3000)) ∧ ds = [] ∧ H = hp [(0, .cells false (spanC l)), (1, .cells true (rigBox D Y P L l cp ex))] ∧ nx' = 2 ∧ Facts E [(1, .ptr 1 0), (5, I (sumH l)), (7, I i)]) ?k1 8 ⟨1, rfl, by omega, by omega, (fun k h1 h2 => by omega), rfl, rfl, rfl, ?k2, fact_eq (v := I (sumH (l.take 24))) ?k3 (by rw [List.take_of_length_le (by omega)]), ?k4, trivial⟩ ?_
  case k1 => kernel_rfl
  case k2 => kernel_rfl
  case k3 => kernel_rfl
  case k4 => kernel_rfl
  rintro m E ds H nx' ⟨i, rfl, hi1, hi, hno, rfl, rfl, rfl, hF⟩
  refine tc_keep _ hF ?_
  refine tc_seq ?k1 ?_
  case k1 => kernel_rfl
  refine tc_r [0] ?k1 ?_
  case k1 => kernel_rfl
  refine tc_cond (decide ((i : Int) ≤ 8)) ?k1 (fun h => ?_) (fun h => ?_)
  case k1 => kernel_rfl
  · have hlt : i ≤ 8 := by rw [decide_eq_true_eq] at h; omega
    refine tc_skip ?k1 (qseq_normal ?_)
    case k1 => kernel_rfl
    refine tc_sb ?k1 ?_
    case k1 => kernel_rfl
    have b1 : (i : Int) * D ≤ 24000 ∧ 0 ≤ (i : Int) * D := ⟨by
      have := Int.mul_le_mul (a := (i : Int)) (b := D) (c := 8) (d := 3000) (by omega) hD2 (by omega) (by omega); omega, Int.mul_nonneg (by omega) (by omega)⟩
    have b2 : (i : Int) * P ≤ 24000 ∧ 0 ≤ (i : Int) * P := ⟨by
      have := Int.mul_le_mul (a := (i : Int)) (b := P) (c := 8) (d := 3000) (by omega) hP2 (by omega) (by omega); omega, Int.mul_nonneg (by omega) (by omega)⟩
    have b3 : Y * sumH l ≤ 216000000 ∧ 0 ≤ Y * sumH l := ⟨by
      have := Int.mul_le_mul (a := Y) (b := sumH l) (c := 3000) (d := 72000) hY2 (by omega) (by omega) (by omega); omega, Int.mul_nonneg (by omega) (by omega)⟩
    have c1 : D * (i : Int) = (i : Int) * D := Int.mul_comm _ _
    have c2 : P * (i : Int) = (i : Int) * P := Int.mul_comm _ _
    have c3 : sumH l * Y = Y * sumH l := Int.mul_comm _ _
    have w1 : IntKind.wrap .i64 ((i : Int) * D) = (i : Int) * D := wrap64 (by omega) (by omega)
    have w2 : IntKind.wrap .i64 ((i : Int) * P) = (i : Int) * P := wrap64 (by omega) (by omega)
    have w3 : IntKind.wrap .i64 (Y * sumH l) = Y * sumH l := wrap64 (by omega) (by omega)
    have next : ¬ (sumH l * Y ≤ D * i ∧ P * i ≤ L ∧ D * i ≤ 3000) → ∀ k : Nat, 1 ≤ k → k < i + 1 → ¬ (sumH l * Y ≤ D * k ∧ P * k ≤ L ∧ D * k ≤ 3000) := by
      intro hn k hk1 hk2
      rcases Nat.lt_or_ge k i with hk | hk
      · exact hno k hk1 hk
      · have : k = i := by omega
        subst this; exact hn
    refine tc_seqr [0] ?k1 ?_
    case k1 => kernel_rfl
    refine to_ask 0 (decide (IntKind.wrap .i64 ((i : Int) * D) ≥ IntKind.wrap .i64 (Y * sumH l))) ?k1 (fun q1 => ?_) (fun q1 => ?_)
    case k1 => kernel_rfl
    · rw [w1, w3, decide_eq_true_eq] at q1
      refine to_ask 0 (decide (IntKind.wrap .i64 ((i : Int) * D) ≤ 3000)) ?k1 (fun q2 => ?_) (fun q2 => ?_)
      case k1 => kernel_rfl
      · rw [w1, decide_eq_true_eq] at q2
        refine to_done 0 ?k1 ?_
        case k1 => kernel_rfl
        refine tc_cond (decide (IntKind.wrap .i64 ((i : Int) * P) ≤ L)) ?k1 (fun q3 => ?_) (fun q3 => ?_)
        case k1 => kernel_rfl
        · rw [w2, decide_eq_true_eq] at q3
          refine tc_rd prog_ok [(1, .ptr 1 0), (7, I i)] ⟨?k1, ?k2, trivial⟩ ?k3 ?_
          case k1 => kernel_rfl
          case k2 => kernel_rfl
          case k3 => kernel_rfl
          refine tc_shift 1 1 [] [0] [2, 3, 4] rfl ⟨⟨false, spanC l, ?k1, spanC_plain l⟩, trivial⟩ (L2 := [(2, I i), (3, I (IntKind.wrap .i64 ((i : Int) * D))), (4, I 0)]) (ds2 := []) (t2 := objs [(0, .cells false (spanC l))]) ?k2 ?_
          case k1 => kernel_rfl
          case k2 => kernel_rfl
          refine tc_ret ?k1 (qblk_ret (qseq_ret (qloop_ret (qblk_ret (qseq_ret (qfun_ret (v := .tuple [I i, I (IntKind.wrap .i64 ((i : Int) * D)), I 0]) ?k2 ⟨hR _ (.inl ⟨⟨i, by omega, by omega, by omega, by omega, by omega, by rw [w1, c1]⟩, ?_⟩), ?k3, ?k4⟩))))))
          case k1 => kernel_rfl
          case k2 => kernel_rfl
          case k3 => kernel_rfl
          case k4 => kernel_rfl
          intro k hk1 hk2 he m hm1 hm2
          have : (i : Int) = (k : Int) := by injection he with he; injection he with he; injection he
          exact hno m hm1 (by omega)
        · rw [w2, decide_eq_false_iff_not] at q3
          refine tc_skip ?k1 (qblk_normal (qseq_normal ?_))
          case k1 => kernel_rfl
          refine tc_re [0] ?k1 ?_
          case k1 => kernel_rfl
          refine ⟨9 - (i + 1), by omega, i + 1, rfl, by omega, by omega, next (by omega), ?k1, ?k2, ?k3, ?k4, ?k5, fact_eq (v := I (IntKind.wrap .i64 ((i : Int) + 1))) ?k6 (by rw [wrap64 (by omega) (by omega)]; rfl), trivial⟩
          case k1 => kernel_rfl
          case k2 => kernel_rfl
          case k3 => kernel_rfl
          case k4 => kernel_rfl
          case k5 => kernel_rfl
          case k6 => kernel_rfl
      · rw [w1, decide_eq_false_iff_not] at q2
        refine to_done 0 ?k1 ?_
        case k1 => kernel_rfl
        refine tc_cond false ?k1 (fun e => by cases e) (fun _ => ?_)
        case k1 => kernel_rfl
        refine tc_skip ?k1 (qblk_normal (qseq_normal ?_))
        case k1 => kernel_rfl
        refine tc_re [0] ?k1 ?_
        case k1 => kernel_rfl
        refine ⟨9 - (i + 1), by omega, i + 1, rfl, by omega, by omega, next (by omega), ?k1, ?k2, ?k3, ?k4, ?k5, fact_eq (v := I (IntKind.wrap .i64 ((i : Int) + 1))) ?k6 (by rw [wrap64 (by omega) (by omega)]; rfl), trivial⟩
        case k1 => kernel_rfl
        case k2 => kernel_rfl
        case k3 => kernel_rfl
        case k4 => kernel_rfl
        case k5 => kernel_rfl
        case k6 => kernel_rfl
    · rw [w1, w3, decide_eq_false_iff_not] at q1
      refine to_known 0 false ?k1 ?_
      case k1 => kernel_rfl
      refine to_done 0 ?k1 ?_
      case k1 => kernel_rfl
      refine tc_cond false ?k1 (fun e => by cases e) (fun _ => ?_)
      case k1 => kernel_rfl
      refine tc_skip ?k1 (qblk_normal (qseq_normal ?_))
      case k1 => kernel_rfl
      refine tc_re [0] ?k1 ?_
      case k1 => kernel_rfl
      refine ⟨9 - (i + 1), by omega, i + 1, rfl, by omega, by omega, next (by omega), ?k1, ?k2, ?k3, ?k4, ?k5, fact_eq (v := I (IntKind.wrap .i64 ((i : Int) + 1))) ?k6 (by rw [wrap64 (by omega) (by omega)]; rfl), trivial⟩
      case k1 => kernel_rfl
      case k2 => kernel_rfl
      case k3 => kernel_rfl
      case k4 => kernel_rfl
      case k5 => kernel_rfl
      case k6 => kernel_rfl
  · have hieq : i = 9 := by rw [decide_eq_false_iff_not] at h; omega
    subst hieq
    refine tc_exit ?k1 (qseq_exit (qloop_exit (qblk_hit ?k2 (qseq_normal ?_))))
    case k1 => kernel_rfl
    case k2 => kernel_rfl
    refine tc_r [0] ?k1 ?_
    case k1 => kernel_rfl
    refine tc_shift 1 1 [] [0] [2, 3, 4] rfl ⟨⟨false, spanC l, ?k1, spanC_plain l⟩, trivial⟩ (L2 := [(2, I 0), (3, I 0), (4, I 7)]) (ds2 := []) (t2 := objs [(0, .cells false (spanC l))]) ?k2 ?_
    case k1 => kernel_rfl
    case k2 => kernel_rfl
    refine tc_ret ?k1 (qfun_ret (v := .tuple [I 0, I 0, I 7]) ?k2 ⟨hR _ (.inr ⟨fun k hk1 hk2 => hno k hk1 (by omega), rfl⟩), ?k3, ?k4⟩)
    case k1 => kernel_rfl
    case k2 => kernel_rfl
    case k3 => kernel_rfl
    case k4 => kernel_rfl
end Go.Proofs.Ytillboceclhoeaa
