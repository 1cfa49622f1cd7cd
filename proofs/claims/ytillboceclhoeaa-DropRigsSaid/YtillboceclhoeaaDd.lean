/- Chapter 2: the reference's small functions. -/
import Derived.Test.YtillboceclhoeaaDc
namespace Go.Proofs.Ytillboceclhoeaa
open Abs
set_option maxRecDepth 100000
def inB (n lo hi : Int) : Bool := decide (n ≥ lo) && decide (n ≤ hi)
theorem refIn_spec (n lo hi : Int) : CallH Try.prog 22 [I n, I lo, I hi] (hp []) 0 (fun v H' nx' => v = .bool (inB n lo hi) ∧ H' = hp [] ∧ nx' = 0) := by
  refine call_intro prog_ok Try.func22 rfl fun m0 W0 => ?_
  refine tc_r [] ?k1 ?_
  case k1 => kernel_rfl
  refine tc_seqr [] ?k1 ?_
  case k1 => kernel_rfl
  refine to_ask 0 (decide (n ≥ lo)) ?k1 (fun h => ?_) (fun h => ?_)
  case k1 => kernel_rfl
  · refine to_done 0 ?k1 ?_
    case k1 => kernel_rfl
    refine tc_ret ?k1 (qfun_ret (v := .bool (decide (n ≤ hi))) ?k2 ⟨by unfold inB; rw [h]; rfl, ?k3, ?k4⟩)
    case k1 => kernel_rfl
    case k2 => kernel_rfl
    case k3 => kernel_rfl
    case k4 => kernel_rfl
  · refine to_done 0 ?k1 ?_
    case k1 => kernel_rfl
    refine tc_ret ?k1 (qfun_ret (v := .bool false) ?k2 ⟨by unfold inB; rw [h]; rfl, ?k3, ?k4⟩)
    case k1 => kernel_rfl
    case k2 => kernel_rfl
    case k3 => kernel_rfl
    case k4 => kernel_rfl
theorem refSpan_spec (s : Int × Int) (most : Int) : CallH Try.prog 66 [.agg (cS s), I most] (hp []) 0 (fun v H' nx' => v = .bool (okSpan most s) ∧ H' = hp [] ∧ nx' = 0) := by
  have key : okSpan most s = (inB s.1 0 s.2 && decide (s.2 ≤ most)) := by
    rw [Bool.eq_iff_iff, okSpan_iff]; simp only [inB, Bool.and_eq_true, decide_eq_true_eq]; omega
  refine call_intro prog_ok Try.func66 rfl fun m0 W0 => ?_
  refine tc_r [] ?k1 ?_
  case k1 => kernel_rfl
  refine tc_seqr [] ?k1 ?_
  case k1 => kernel_rfl
  refine to_callp 0 [] (refIn_spec s.1 0 s.2) ?k1 trivial ?_
  case k1 => kernel_rfl
  refine to_ask 0 (inB s.1 0 s.2) ?k1 (fun h => ?_) (fun h => ?_)
  case k1 => kernel_rfl
  · refine to_done 0 ?k1 ?_
    case k1 => kernel_rfl
    refine tc_shift 0 0 [] [] [4] rfl trivial (L2 := [(4, .bool (decide (s.2 ≤ most)))]) (ds2 := []) (t2 := objs []) ?k1 ?_
    case k1 => kernel_rfl
    refine tc_ret ?k1 (qfun_ret (v := .bool (decide (s.2 ≤ most))) ?k2 ⟨by rw [key, h]; rfl, ?k3, ?k4⟩)
    case k1 => kernel_rfl
    case k2 => kernel_rfl
    case k3 => kernel_rfl
    case k4 => kernel_rfl
  · refine to_done 0 ?k1 ?_
    case k1 => kernel_rfl
    refine tc_shift 0 0 [] [] [4] rfl trivial (L2 := [(4, .bool false)]) (ds2 := []) (t2 := objs []) ?k1 ?_
    case k1 => kernel_rfl
    refine tc_ret ?k1 (qfun_ret (v := .bool false) ?k2 ⟨by rw [key, h]; rfl, ?k3, ?k4⟩)
    case k1 => kernel_rfl
    case k2 => kernel_rfl
    case k3 => kernel_rfl
    case k4 => kernel_rfl
theorem refHours_spec (l : List (Int × Int)) (cp : Nat) (ex : Bool) (hl : l.length < 2 ^ 62) : CallH Try.prog 58 [.slice 0 0 (spanL l).length cp 2 ex] (hp [(0, .cells false (spanC l))]) 1
    (fun v H' nx' => v = .bool (decide (l.length = 24) && l.all (okSpan 3000)) ∧ H' = hp [(0, .cells false (spanC l))] ∧ nx' = 1) := by
  have h24 : ((((spanL l).length : Nat) : Int) == 24) = decide (l.length = 24) := by
    rw [spanL_length, Bool.eq_iff_iff]; simp; omega
  refine call_intro prog_ok Try.func58 rfl fun m0 W0 => ?_
  refine tc_r [0] ?k1 ?_
  case k1 => kernel_rfl
  refine tc_seq ?k1 ?_
  case k1 => kernel_rfl
  refine tc_r [0] ?k1 ?_
  case k1 => kernel_rfl
  refine tc_block ?k1 ?_
  case k1 => kernel_rfl
  refine tc_loop (fun m E ds H nx' => ∃ i : Nat, m = l.length - i ∧ i ≤ l.length ∧ (l.take i).all (okSpan 3000) = true ∧ ds = [] ∧ H = hp [(0, .cells false (spanC l))] ∧ nx' = 1 ∧ Facts E [(0, .slice 0 0 (spanL l).length cp 2 ex), (3, I i)]) ?k1 l.length ⟨0, rfl, Nat.zero_le _, rfl, rfl, rfl, rfl, ?k2, ?k3, trivial⟩ ?_
  case k1 => kernel_rfl
  case k2 => kernel_rfl
  case k3 => kernel_rfl
  rintro m E ds H nx' ⟨i, rfl, hi, hok, rfl, rfl, rfl, hF⟩
  refine tc_keep _ hF ?_
  refine tc_seq ?k1 ?_
  case k1 => kernel_rfl
  refine tc_r [0] ?k1 ?_
  case k1 => kernel_rfl
  refine tc_cond (decide ((i : Int) < (spanL l).length)) ?k1 (fun h => ?_) (fun h => ?_)
  case k1 => kernel_rfl
  · have hlt : i < l.length := by rw [decide_eq_true_eq, spanL_length] at h; omega
    have hlt2 : i < (spanL l).length := by rw [spanL_length]; exact hlt
    refine tc_skip ?k1 (qseq_normal ?_)
    case k1 => kernel_rfl
    refine tc_sb ?k1 ?_
    case k1 => kernel_rfl
    refine tc_seqr [0] ?k1 ?_
    case k1 => kernel_rfl
    refine to_pure 3 (cond (Nat.blt i (spanL l).length) (some (.ptr 0 (0 + i * 2))) none) (by rw [show Nat.blt i (spanL l).length = true by simpa using hlt2]; rfl) ?k1 ?_
    case k1 => kernel_rfl
    have hrow := span_row (t := objs [(0, .cells false (spanC l))]) (k := 0) (w := false) (l := l) (by kernel_rfl) i (.agg (cS l[i])) (by simp only [spanL, List.getElem?_map, List.getElem?_eq_getElem hlt, Option.map_some])
    refine to_load 1 hrow ?k1 ?_
    case k1 => kernel_rfl
    refine to_callp 1 [] (refSpan_spec l[i] 3000) ?k1 trivial ?_
    case k1 => kernel_rfl
    refine to_done 0 ?k1 ?_
    case k1 => kernel_rfl
    have hall : l.all (okSpan 3000) = true → okSpan 3000 l[i] = true := fun h => List.all_eq_true.1 h _ (by simp)
    refine tc_cond (!(okSpan 3000 l[i])) ?k1 (fun hp => ?_) (fun hp => ?_)
    case k1 => kernel_rfl
    · refine tc_r [0] ?k1 ?_
      case k1 => kernel_rfl
      refine tc_ret ?k1 (qblk_ret (qseq_ret (qloop_ret (qblk_ret (qseq_ret (qfun_ret (v := .bool false) ?k2 ⟨?_, ?k3, ?k4⟩))))))
      case k1 => kernel_rfl
      case k2 => kernel_rfl
      case k3 => kernel_rfl
      case k4 => kernel_rfl
      cases hx : l.all (okSpan 3000) with
      | false => rw [Bool.and_false]
      | true => rw [hall hx] at hp; cases hp
    · refine tc_skip ?k1 (qblk_normal (qseq_normal ?_))
      case k1 => kernel_rfl
      refine tc_re [0] ?k1 ?_
      case k1 => kernel_rfl
      refine ⟨l.length - (i + 1), by omega, i + 1, rfl, by omega, ?_, ?k1, ?k2, ?k3, ?k4, fact_eq (v := I (IntKind.wrap .i64 ((i : Int) + 1))) ?k5 (by rw [wrap64 (by omega) (by omega)]; rfl), trivial⟩
      case k1 => kernel_rfl
      case k2 => kernel_rfl
      case k3 => kernel_rfl
      case k4 => kernel_rfl
      case k5 => kernel_rfl
      rw [Bool.not_eq_false'] at hp
      rw [List.take_add_one, List.getElem?_eq_getElem hlt, Option.toList_some, List.all_append, hok]
      simp [hp]
  · have hge : l.length ≤ i := by rw [decide_eq_false_iff_not, spanL_length] at h; omega
    rw [List.take_of_length_le hge] at hok
    refine tc_exit ?k1 (qseq_exit (qloop_exit (qblk_hit ?k2 (qseq_normal ?_))))
    case k1 => kernel_rfl
    case k2 => kernel_rfl
    refine tc_r [0] ?k1 ?_
    case k1 => kernel_rfl
    refine tc_ret ?k1 (qfun_ret (v := .bool ((((spanL l).length : Nat) : Int) == 24)) ?k2 ⟨?_, ?k3, ?k4⟩)
    case k1 => kernel_rfl
    case k2 => kernel_rfl
    case k3 => kernel_rfl
    case k4 => kernel_rfl
    rw [h24, hok, Bool.and_true]
theorem allIn_one (lo hi n : Int) : allIn lo hi [n] = inB n lo hi := by simp [allIn, inB]
theorem refClock_spec (line : Int) (l : List (Int × Int)) (cp : Nat) (ex : Bool) (hl : l.length < 2 ^ 62) : CallH Try.prog 19 [.agg [I line, .slice 0 0 (spanL l).length cp 2 ex]] (hp [(0, .cells false (spanC l))]) 1
    (fun v H' nx' => v = .bool (clockB line l) ∧ H' = hp [(0, .cells false (spanC l))] ∧ nx' = 1) := by
  refine call_intro prog_ok Try.func19 rfl fun m0 W0 => ?_
  refine tc_r [0] ?k1 ?_
  case k1 => kernel_rfl
  refine tc_seqr [0] ?k1 ?_
  case k1 => kernel_rfl
  refine to_callp 0 [] (refIn_spec line 1 3000) ?k1 trivial ?_
  case k1 => kernel_rfl
  refine to_ask 0 (inB line 1 3000) ?k1 (fun h => ?_) (fun h => ?_)
  case k1 => kernel_rfl
  · refine to_callp 0 [(0, 0, 0)] (refHours_spec l cp ex hl) ?k1 ⟨embP (spanC l) false ?k2 (spanC_plain l), trivial⟩ ?_
    case k1 => kernel_rfl
    case k2 => kernel_rfl
    refine to_done 0 ?k1 ?_
    case k1 => kernel_rfl
    refine tc_shift 1 1 [] [0] [2] rfl ⟨⟨false, spanC l, ?k1, spanC_plain l⟩, trivial⟩ (L2 := [(2, .bool (decide (l.length = 24) && l.all (okSpan 3000)))]) (ds2 := []) (t2 := objs [(0, .cells false (spanC l))]) ?k2 ?_
    case k1 => kernel_rfl
    case k2 => kernel_rfl
    refine tc_ret ?k1 (qfun_ret (v := .bool (decide (l.length = 24) && l.all (okSpan 3000))) ?k2 ⟨by unfold clockB; rw [allIn_one, h, Bool.true_and], ?k3, ?k4⟩)
    case k1 => kernel_rfl
    case k2 => kernel_rfl
    case k3 => kernel_rfl
    case k4 => kernel_rfl
  · refine to_done 0 ?k1 ?_
    case k1 => kernel_rfl
    refine tc_shift 1 1 [] [0] [2] rfl ⟨⟨false, spanC l, ?k1, spanC_plain l⟩, trivial⟩ (L2 := [(2, .bool false)]) (ds2 := []) (t2 := objs [(0, .cells false (spanC l))]) ?k2 ?_
    case k1 => kernel_rfl
    case k2 => kernel_rfl
    refine tc_ret ?k1 (qfun_ret (v := .bool false) ?k2 ⟨by unfold clockB; rw [allIn_one, h, Bool.false_and], ?k3, ?k4⟩)
    case k1 => kernel_rfl
    case k2 => kernel_rfl
    case k3 => kernel_rfl
    case k4 => kernel_rfl
/-- Two spans, held against one another. -/
def neS (p q : Bool) : Option Bool := match (some p : Option Bool) with
  | some true => match (some q : Option Bool) with
    | some true => some true
    | some false => some false
    | none => none
  | some false => some false
  | none => none
theorem neq_span (x y : Int × Int) : binV Try.prog .neq 36 (.agg (cS x)) (.agg (cS y)) = some (.bool (!(decide (x = y)))) := by
  have h : binV Try.prog .neq 36 (.agg (cS x)) (.agg (cS y)) = (neS (x.1 == y.1) (x.2 == y.2)).map fun b => AV.bool (!b) := by kernel_rfl
  rw [h]
  obtain ⟨a, b⟩ := x
  obtain ⟨c, d⟩ := y
  simp only [Prod.mk.injEq]
  by_cases h1 : a = c
  · by_cases h2 : b = d
    · subst h1 h2; simp [neS]
    · have : (b == d) = false := by simpa using h2
      subst h1; simp [neS, this, h2]
  · have : (a == c) = false := by simpa using h1
    simp [neS, this, h1]
theorem refSame_spec (a b : List (Int × Int)) (cp cq : Nat) (ex ey : Bool) (hl : a.length < 2 ^ 62) : CallH Try.prog 18 [.slice 0 0 (spanL a).length cp 2 ex, .slice 1 0 (spanL b).length cq 2 ey] (hp [(0, .cells false (spanC a)), (1, .cells false (spanC b))]) 2
    (fun v H' nx' => v = .bool (decide (a = b)) ∧ H' = hp [(0, .cells false (spanC a)), (1, .cells false (spanC b))] ∧ nx' = 2) := by
  have hlen : (!((((spanL a).length : Nat) : Int) == (((spanL b).length : Nat) : Int))) = decide (a.length ≠ b.length) := by
    rw [spanL_length, spanL_length, Bool.eq_iff_iff]; simp; omega
  refine call_intro prog_ok Try.func18 rfl fun m0 W0 => ?_
  refine tc_r [0, 1] ?k1 ?_
  case k1 => kernel_rfl
  refine tc_seq ?k1 ?_
  case k1 => kernel_rfl
  refine tc_r [0, 1] ?k1 ?_
  case k1 => kernel_rfl
  refine tc_cond (!((((spanL a).length : Nat) : Int) == (((spanL b).length : Nat) : Int))) ?k1 (fun h => ?_) (fun h => ?_)
  case k1 => kernel_rfl
  · refine tc_r [0, 1] ?k1 ?_
    case k1 => kernel_rfl
    refine tc_ret ?k1 (qseq_ret (qfun_ret (v := .bool false) ?k2 ⟨?_, ?k3, ?k4⟩))
    case k1 => kernel_rfl
    case k2 => kernel_rfl
    case k3 => kernel_rfl
    case k4 => kernel_rfl
    rw [hlen, decide_eq_true_eq] at h
    have : a ≠ b := fun e => h (by rw [e])
    simp [this]
  · have heq : a.length = b.length := by rw [hlen, decide_eq_false_iff_not] at h; omega
    refine tc_skip ?k1 (qseq_normal ?_)
    case k1 => kernel_rfl
    refine tc_seq ?k1 ?_
    case k1 => kernel_rfl
    refine tc_r [0, 1] ?k1 ?_
    case k1 => kernel_rfl
    refine tc_block ?k1 ?_
    case k1 => kernel_rfl
    refine tc_loop (fun m E ds H nx' => ∃ i : Nat, m = a.length - i ∧ i ≤ a.length ∧ a.take i = b.take i ∧ ds = [] ∧ H = hp [(0, .cells false (spanC a)), (1, .cells false (spanC b))] ∧ nx' = 2 ∧ Facts E [(0, .slice 0 0 (spanL a).length cp 2 ex), (1, .slice 1 0 (spanL b).length cq 2 ey), (5, I i)]) ?k1 a.length ⟨0, rfl, Nat.zero_le _, rfl, rfl, rfl, rfl, ?k2, ?k3, ?k4, trivial⟩ ?_
    case k1 => kernel_rfl
    case k2 => kernel_rfl
    case k3 => kernel_rfl
    case k4 => kernel_rfl
    rintro m E ds H nx' ⟨i, rfl, hi, hok, rfl, rfl, rfl, hF⟩
    refine tc_keep _ hF ?_
    refine tc_seq ?k1 ?_
    case k1 => kernel_rfl
    refine tc_r [0, 1] ?k1 ?_
    case k1 => kernel_rfl
    refine tc_cond (decide ((i : Int) < (spanL a).length)) ?k1 (fun h => ?_) (fun h => ?_)
    case k1 => kernel_rfl
    · have hlt : i < a.length := by rw [decide_eq_true_eq, spanL_length] at h; omega
      have hltb : i < b.length := by omega
      have hlt2 : i < (spanL a).length := by rw [spanL_length]; exact hlt
      have hlt3 : i < (spanL b).length := by rw [spanL_length]; exact hltb
      refine tc_skip ?k1 (qseq_normal ?_)
      case k1 => kernel_rfl
      refine tc_sb ?k1 ?_
      case k1 => kernel_rfl
      refine tc_seqd prog_ok [0, 1] [(0, .slice 0 0 (spanL a).length cp 2 ex), (1, .slice 1 0 (spanL b).length cq 2 ey), (5, I i)] ⟨?k1, ?k2, ?k3, trivial⟩ ?k4 ?_
      case k1 => kernel_rfl
      case k2 => kernel_rfl
      case k3 => kernel_rfl
      case k4 => kernel_rfl
      refine fo_pure 3 (cond (Nat.blt i (spanL a).length) (some (.ptr 0 (0 + i * 2))) none) (by rw [show Nat.blt i (spanL a).length = true by simpa using hlt2]; rfl) ?k1 ?_
      case k1 => kernel_rfl
      have hrow := span_row (t := objs [(0, .cells false (spanC a)), (1, .cells false (spanC b))]) (k := 0) (w := false) (l := a) (by kernel_rfl) i (.agg (cS a[i])) (by simp only [spanL, List.getElem?_map, List.getElem?_eq_getElem hlt, Option.map_some])
      refine fo_load 1 hrow ?k1 ?_
      case k1 => kernel_rfl
      refine fo_pure 3 (cond (Nat.blt i (spanL b).length) (some (.ptr 1 (0 + i * 2))) none) (by rw [show Nat.blt i (spanL b).length = true by simpa using hlt3]; rfl) ?k1 ?_
      case k1 => kernel_rfl
      have hrow2 := span_row (t := objs [(0, .cells false (spanC a)), (1, .cells false (spanC b))]) (k := 1) (w := false) (l := b) (by kernel_rfl) i (.agg (cS b[i])) (by simp only [spanL, List.getElem?_map, List.getElem?_eq_getElem hltb, Option.map_some])
      refine fo_load 1 hrow2 ?k1 ?_
      case k1 => kernel_rfl
      refine fo_pure 1 (binV Try.prog .neq 36 (.agg (cS a[i])) (.agg (cS b[i]))) (neq_span a[i] b[i]) ?k1 ?_
      case k1 => kernel_rfl
      refine fo_done 1 ?k1 ?_
      case k1 => kernel_rfl
      refine tc_cond (!(decide (a[i] = b[i]))) ?k1 (fun hp => ?_) (fun hp => ?_)
      case k1 => kernel_rfl
      · refine tc_r [0, 1] ?k1 ?_
        case k1 => kernel_rfl
        refine tc_ret ?k1 (qblk_ret (qseq_ret (qloop_ret (qblk_ret (qseq_ret (qfun_ret (v := .bool false) ?k2 ⟨?_, ?k3, ?k4⟩))))))
        case k1 => kernel_rfl
        case k2 => kernel_rfl
        case k3 => kernel_rfl
        case k4 => kernel_rfl
        have hne : a[i] ≠ b[i] := by simpa using hp
        have : a ≠ b := fun e => hne (by subst e; rfl)
        simp [this]
      · refine tc_skip ?k1 (qblk_normal (qseq_normal ?_))
        case k1 => kernel_rfl
        refine tc_re [0, 1] ?k1 ?_
        case k1 => kernel_rfl
        refine ⟨a.length - (i + 1), by omega, i + 1, rfl, by omega, ?_, ?k1, ?k2, ?k3, ?k4, ?k5, fact_eq (v := I (IntKind.wrap .i64 ((i : Int) + 1))) ?k6 (by rw [wrap64 (by omega) (by omega)]; rfl), trivial⟩
        case k1 => kernel_rfl
        case k2 => kernel_rfl
        case k3 => kernel_rfl
        case k4 => kernel_rfl
        case k5 => kernel_rfl
        case k6 => kernel_rfl
        have he : a[i] = b[i] := by simpa using hp
        rw [List.take_add_one, List.take_add_one, List.getElem?_eq_getElem hlt, List.getElem?_eq_getElem hltb, hok, he]
    · have hge : a.length ≤ i := by rw [decide_eq_false_iff_not, spanL_length] at h; omega
      rw [List.take_of_length_le hge, List.take_of_length_le (by omega)] at hok
      refine tc_exit ?k1 (qseq_exit (qloop_exit (qblk_hit ?k2 (qseq_normal ?_))))
      case k1 => kernel_rfl
      case k2 => kernel_rfl
      refine tc_r [0, 1] ?k1 ?_
      case k1 => kernel_rfl
      refine tc_ret ?k1 (qfun_ret (v := .bool true) ?k2 ⟨?_, ?k3, ?k4⟩)
      case k1 => kernel_rfl
      case k2 => kernel_rfl
      case k3 => kernel_rfl
      case k4 => kernel_rfl
      simp [hok]
end Go.Proofs.Ytillboceclhoeaa
