/- Chapter 2: the fewest parts of a line. -/
import Derived.Test.YtillboceclhoeaaDb
namespace Go.Proofs.Ytillboceclhoeaa
open Abs
set_option maxRecDepth 100000
def sumH (l : List (Int × Int)) : Int := (l.map (·.2)).foldl (· + ·) 0
theorem sumH_snoc (l : List (Int × Int)) (s : Int × Int) : sumH (l ++ [s]) = sumH l + s.2 := by simp [sumH]
theorem okSpan_iff (high : Int) (s : Int × Int) : okSpan high s = true ↔ 0 ≤ s.1 ∧ s.1 ≤ s.2 ∧ s.2 ≤ high := by
  simp only [okSpan, allIn, List.all_cons, List.all_nil, Bool.and_eq_true, decide_eq_true_eq, Bool.and_true]; omega
theorem sumH_bound {l : List (Int × Int)} (h : l.all (okSpan 3000) = true) : ∀ i, 0 ≤ sumH (l.take i) ∧ sumH (l.take i) ≤ 3000 * i := by
  intro i
  induction i with
  | zero => simp [sumH]
  | succ i ih =>
    by_cases hi : i < l.length
    · rw [List.take_add_one, List.getElem?_eq_getElem hi, Option.toList_some, sumH_snoc]
      have := (okSpan_iff 3000 l[i]).1 (List.all_eq_true.1 h _ (by simp))
      omega
    · rw [List.take_of_length_le (by omega)]
      rw [List.take_of_length_le (by omega)] at ih
      omega
/-- What Rig returns of valid numbers. -/
def RigV (D Y P L day : Int) (v : AV) : Prop :=
  (∃ n : Nat, 1 ≤ n ∧ n ≤ 8 ∧ day * Y ≤ D * n ∧ P * n ≤ L ∧ D * n ≤ 3000 ∧ v = .tuple [I n, I (D * n), I 0]) ∧ (∀ n : Nat, 1 ≤ n → n ≤ 8 → v = .tuple [I n, I (D * n), I 0] → ∀ m : Nat, 1 ≤ m → m < n → ¬ (day * Y ≤ D * m ∧ P * m ≤ L ∧ D * m ≤ 3000)) ∨
  (∀ n : Nat, 1 ≤ n → n ≤ 8 → ¬ (day * Y ≤ D * n ∧ P * n ≤ L ∧ D * n ≤ 3000)) ∧ v = .tuple [I 0, I 0, I 7]
theorem RigV.eq {D Y P L day : Int} {v w : AV} (h : RigV D Y P L day v) (k : RigV D Y P L day w) : v = w := by
  rcases h with ⟨⟨n, h1, h2, h3, h4, h5, rfl⟩, hn⟩ | ⟨h1, rfl⟩
  · rcases k with ⟨⟨m, k1, k2, k3, k4, k5, rfl⟩, hm⟩ | ⟨k1, rfl⟩
    · have a := hn n h1 h2 rfl m k1
      have b := hm m k1 k2 rfl n h1
      rcases Nat.lt_trichotomy m n with h | h | h
      · exact absurd ⟨k3, k4, k5⟩ (a h)
      · subst h; rfl
      · exact absurd ⟨h3, h4, h5⟩ (b h)
    · exact absurd ⟨h3, h4, h5⟩ (k1 n h1 h2)
  · rcases k with ⟨⟨m, k1, k2, k3, k4, k5, rfl⟩, hm⟩ | ⟨k1, rfl⟩
    · exact absurd ⟨k3, k4, k5⟩ (h1 m k1 k2)
    · rfl
theorem RigV.ren {D Y P L day : Int} {v : AV} (h : RigV D Y P L day v) (σ : Sg) : ren σ v = some v := by
  rcases h with ⟨⟨n, _, _, _, _, _, rfl⟩, _⟩ | ⟨_, rfl⟩ <;> rfl
/-- What Rig returns. -/
def RigR (D Y P L : Int) (l : List (Int × Int)) (v : AV) : Prop :=
  if allIn 1 3000 [D, Y, P, L] && (decide (l.length = 24) && l.all (okSpan 3000)) then RigV D Y P L (sumH l) v else v = .tuple [I 0, I 0, I 2]
theorem RigR.eq {D Y P L : Int} {l : List (Int × Int)} {v w : AV} (h : RigR D Y P L l v) (k : RigR D Y P L l w) : v = w := by
  unfold RigR at h k
  split at h
  · rename_i hc; rw [if_pos hc] at k; exact h.eq k
  · rename_i hc; rw [if_neg hc] at k; rw [h, k]
theorem RigR.ren {D Y P L : Int} {l : List (Int × Int)} {v : AV} (h : RigR D Y P L l v) (σ : Sg) : ren σ v = some v := by
  unfold RigR at h
  split at h
  · exact h.ren σ
  · subst h; rfl
def rigBox (D Y P L : Int) (l : List (Int × Int)) (cp : Nat) (ex : Bool) : List AV := [I D, I Y, I P, I L, .slice 0 0 (spanL l).length cp 2 ex]

theorem rig_spec (D Y P L : Int) (l : List (Int × Int)) (cp : Nat) (ex : Bool) (hl : l.length < 2 ^ 62) : CallH Try.prog 15 [.agg (rigBox D Y P L l cp ex)] (hp [(0, .cells false (spanC l))]) 1
    (fun v H' nx' => RigR D Y P L l v ∧ H' = hp [(0, .cells false (spanC l))] ∧ nx' = 1) := by
  refine call_intro prog_ok Try.func15 rfl fun m0 W0 => ?_
  refine tc_r [0] ?k1 ?_
  case k1 => kernel_rfl
  refine tc_seq ?k1 ?_
  case k1 => kernel_rfl
  refine tc_seqr [0] ?k1 ?_
  case k1 => kernel_rfl
  refine to_callp 0 [(0, 2, 0)] (within_spec 1 3000 [D, Y, P, L] 4 true (by simp)) ?k1 ⟨embP (ints [D, Y, P, L]) true ?k2 (ints_plain _), trivial⟩ ?_
  case k1 => kernel_rfl
  case k2 => kernel_rfl
  refine to_ask 0 (!(allIn 1 3000 [D, Y, P, L])) ?k1 (fun h => ?_) (fun h => ?_)
  case k1 => kernel_rfl
  · refine to_done 0 ?k1 ?_
    case k1 => kernel_rfl
    refine tc_cond true ?k1 (fun _ => ?_) (fun e => by cases e)
    case k1 => kernel_rfl
    refine tc_r [0] ?k1 ?_
    case k1 => kernel_rfl
    refine tc_shift 1 1 [] [0] [2, 3, 4] rfl ⟨⟨false, spanC l, ?k1, spanC_plain l⟩, trivial⟩ (L2 := [(2, I 0), (3, I 0), (4, I 2)]) (ds2 := []) (t2 := objs [(0, .cells false (spanC l))]) ?k2 ?_
    case k1 => kernel_rfl
    case k2 => kernel_rfl
    refine tc_ret ?k1 (qseq_ret (qfun_ret (v := .tuple [I 0, I 0, I 2]) ?k2 ⟨?_, ?k3, ?k4⟩))
    case k1 => kernel_rfl
    case k2 => kernel_rfl
    case k3 => kernel_rfl
    case k4 => kernel_rfl
    rw [Bool.not_eq_true'] at h
    unfold RigR; rw [h, Bool.false_and, if_neg (by simp)]
  · refine to_callp 0 [(0, 0, 0)] (validHours_spec l cp ex hl) ?k1 ⟨embP (spanC l) false ?k2 (spanC_plain l), trivial⟩ ?_
    case k1 => kernel_rfl
    case k2 => kernel_rfl
    refine to_done 0 ?k1 ?_
    case k1 => kernel_rfl
    refine tc_cond (!(decide (l.length = 24) && l.all (okSpan 3000))) ?k1 (fun h2 => ?_) (fun h2 => ?_)
    case k1 => kernel_rfl
    · refine tc_r [0] ?k1 ?_
      case k1 => kernel_rfl
      refine tc_shift 1 1 [] [0] [2, 3, 4] rfl ⟨⟨false, spanC l, ?k1, spanC_plain l⟩, trivial⟩ (L2 := [(2, I 0), (3, I 0), (4, I 2)]) (ds2 := []) (t2 := objs [(0, .cells false (spanC l))]) ?k2 ?_
      case k1 => kernel_rfl
      case k2 => kernel_rfl
      refine tc_ret ?k1 (qseq_ret (qfun_ret (v := .tuple [I 0, I 0, I 2]) ?k2 ⟨?_, ?k3, ?k4⟩))
      case k1 => kernel_rfl
      case k2 => kernel_rfl
      case k3 => kernel_rfl
      case k4 => kernel_rfl
      rw [Bool.not_eq_true'] at h2
      unfold RigR; rw [h2, Bool.and_false, if_neg (by simp)]
    · rw [Bool.not_eq_false'] at h h2
      have hR : ∀ v, RigV D Y P L (sumH l) v → RigR D Y P L l v := fun v hv => by unfold RigR; rw [h, h2]; exact hv
      simp only [Bool.and_eq_true, decide_eq_true_eq] at h2
      obtain ⟨h24, hok⟩ := h2
      have hN : (spanL l).length = 24 := by rw [spanL_length, h24]
      simp only [allIn, List.all_cons, List.all_nil, Bool.and_eq_true, decide_eq_true_eq, Bool.and_true] at h
      obtain ⟨⟨hD1, hD2⟩, ⟨hY1, hY2⟩, ⟨hP1, hP2⟩, ⟨hL1, hL2⟩⟩ := h
      refine tc_skip ?k1 (qseq_normal ?_)
      case k1 => kernel_rfl
      refine tc_r [0] ?k1 ?_
      case k1 => kernel_rfl
      refine tc_seq ?k1 ?_
      case k1 => kernel_rfl
      refine tc_r [0] ?k1 ?_
      case k1 => kernel_rfl
      refine tc_shift 1 2 [(1, 1, 0)] [0] [1, 5, 27, 28, 29] rfl ⟨⟨false, spanC l, ?k1, spanC_plain l⟩, trivial⟩ (L2 := [(1, .ptr 1 0), (5, I 0), (27, .slice 0 0 (spanL l).length cp 2 ex), (28, I (spanL l).length), (29, I 0)]) (ds2 := []) (t2 := objs [(0, .cells false (spanC l)), (1, .cells true (rigBox D Y P L l cp ex))]) ?k2 ?_
      case k1 => kernel_rfl
      case k2 => kernel_rfl
      refine tc_block ?k1 ?_
      case k1 => kernel_rfl
      refine tc_loop (fun m E ds H nx' => ∃ i : Nat, m = l.length - i ∧ i ≤ l.length ∧ ds = [] ∧ H = hp [(0, .cells false (spanC l)), (1, .cells true (rigBox D Y P L l cp ex))] ∧ nx' = 2 ∧ Facts E [(1, .ptr 1 0), (5, I (sumH (l.take i))), (27, .slice 0 0 (spanL l).length cp 2 ex), (28, I (spanL l).length), (29, I i)]) ?k1 l.length ⟨0, rfl, Nat.zero_le _, rfl, rfl, rfl, ?k2, ?k3, ?k4, ?k5, ?k6, trivial⟩ ?_
      case k1 => kernel_rfl
      case k2 => kernel_rfl
      case k3 => kernel_rfl
      case k4 => kernel_rfl
      case k5 => kernel_rfl
      case k6 => kernel_rfl
      rintro m E ds H nx' ⟨i, rfl, hi, rfl, rfl, rfl, hF⟩
      refine tc_keep _ hF ?_
      refine tc_r [0] ?k1 ?_
      case k1 => kernel_rfl
      refine tc_sc (decide ((i : Int) < (spanL l).length)) ?k1 (fun h => ?_) (fun h => ?_)
      case k1 => kernel_rfl
      · have hlt : i < l.length := by rw [decide_eq_true_eq, spanL_length] at h; omega
        have hlt2 : i < (spanL l).length := by rw [spanL_length]; exact hlt
        refine tc_skip ?k1 ?_
        case k1 => kernel_rfl
        refine tc_sb ?k1 ?_
        case k1 => kernel_rfl
        refine tc_seqr [0] ?k1 ?_
        case k1 => kernel_rfl
        refine to_pure 1 (cond (Nat.blt i (spanL l).length) (some (.ptr 0 (0 + i * 2))) none) (by rw [show Nat.blt i (spanL l).length = true by simpa using hlt2]; rfl) ?k1 ?_
        case k1 => kernel_rfl
        have hrow := span_row (t := objs [(0, .cells false (spanC l)), (1, .cells true (rigBox D Y P L l cp ex))]) (k := 0) (w := false) (l := l) (by kernel_rfl) i (.agg (cS l[i])) (by simp only [spanL, List.getElem?_map, List.getElem?_eq_getElem hlt, Option.map_some])
        refine to_load 1 hrow ?k1 ?_
        case k1 => kernel_rfl
        refine to_done 0 ?k1 ?_
        case k1 => kernel_rfl
        refine tc_re [0] ?k1 (qblk_normal (qseq_normal ?_))
        case k1 => kernel_rfl
        refine tc_shift 1 2 [(1, 1, 0)] [0] [1, 5, 27, 28, 29] rfl ⟨⟨false, spanC l, ?k1, spanC_plain l⟩, trivial⟩ (L2 := [(1, .ptr 1 0), (5, I (IntKind.wrap .i64 (sumH (l.take i) + l[i].2))), (27, .slice 0 0 (spanL l).length cp 2 ex), (28, I (spanL l).length), (29, I i)]) (ds2 := []) (t2 := objs [(0, .cells false (spanC l)), (1, .cells true (rigBox D Y P L l cp ex))]) ?k2 ?_
        case k1 => kernel_rfl
        case k2 => kernel_rfl
        refine tc_re [0] ?k1 ?_
        case k1 => kernel_rfl
        have hb := sumH_bound hok i
        have hs := (okSpan_iff 3000 l[i]).1 (List.all_eq_true.1 hok _ (by simp))
        refine ⟨l.length - (i + 1), by omega, i + 1, rfl, by omega, ?k1, ?k2, ?k3, ?k4, fact_eq (v := I (IntKind.wrap .i64 (sumH (l.take i) + l[i].2))) ?k5 ?_, ?k6, ?k7, fact_eq (v := I (IntKind.wrap .i64 ((i : Int) + 1))) ?k8 ?_, trivial⟩
        case k1 => kernel_rfl
        case k2 => kernel_rfl
        case k3 => kernel_rfl
        case k4 => kernel_rfl
        case k5 => kernel_rfl
        case k6 => kernel_rfl
        case k7 => kernel_rfl
        case k8 => kernel_rfl
        · rw [List.take_add_one, List.getElem?_eq_getElem hlt, Option.toList_some, sumH_snoc, wrap64 (by omega) (by omega)]
        · rw [wrap64 (by omega) (by omega)]; rfl
      · have hge : l.length ≤ i := by rw [decide_eq_false_iff_not, spanL_length] at h; omega
        have hieq : i = l.length := by omega
        subst hieq
        have hday := sumH_bound hok l.length
        rw [List.take_length, h24] at hday
        refine tc_exit ?k1 (qseq_exit (qloop_exit (qblk_hit ?k2 (qseq_normal ?_))))
        case k1 => kernel_rfl
        case k2 => kernel_rfl
        refine tc_seq ?k1 ?_
        case k1 => kernel_rfl
        refine tc_r [0] ?k1 ?_
        case k1 => kernel_rfl
        refine tc_block ?k1 ?_
        case k1 => kernel_rfl
        refine tc_loop (fun m E ds H nx' => ∃ i : Nat, m = 8 - i ∧ i ≤ 8 ∧ (∀ k : Nat, 1 ≤ k → k ≤ i → D * k < sumH l * Y) ∧ ds = [] ∧ H = hp [(0, .cells false (spanC l)), (1, .cells true (rigBox D Y P L l cp ex))] ∧ nx' = 2 ∧ Facts E [(1, .ptr 1 0), (5, I (sumH l)), (38, I i)]) ?k1 8 ⟨0, rfl, by omega, (fun k h1 h2 => by omega), rfl, rfl, rfl, ?k2, fact_eq (v := I (sumH (l.take l.length))) ?k3 (by rw [List.take_length]), ?k4, trivial⟩ ?_
        case k1 => kernel_rfl
        case k2 => kernel_rfl
        case k3 => kernel_rfl
        case k4 => kernel_rfl
        rintro m E ds H nx' ⟨i, rfl, hi, hno, rfl, rfl, rfl, hF⟩
        refine tc_keep _ hF ?_
        refine tc_r [0] ?k1 ?_
        case k1 => kernel_rfl
        refine tc_sc (decide ((i : Int) < 8)) ?k1 (fun h => ?_) (fun h => ?_)
        case k1 => kernel_rfl
        · have hlt : i < 8 := by rw [decide_eq_true_eq] at h; omega
          refine tc_skip ?k1 ?_
          case k1 => kernel_rfl
          refine tc_sb ?k1 ?_
          case k1 => kernel_rfl
          refine tc_r [0] ?k1 ?_
          case k1 => kernel_rfl
          refine tc_rd prog_ok [(1, .ptr 1 0), (5, I (sumH l)), (8, I i), (38, I i)] ⟨?k1, ?k2, ?k3, ?k4, trivial⟩ ?k5 ?_
          case k1 => kernel_rfl
          case k2 => kernel_rfl
          case k3 => kernel_rfl
          case k4 => kernel_rfl
          case k5 => kernel_rfl
          have e1 : IntKind.wrap .i64 ((i : Int) + 1) = ((i + 1 : Nat) : Int) := wrap64 (by omega) (by omega)
          have b1 : D * ((i + 1 : Nat) : Int) ≤ 24000 ∧ 0 ≤ D * ((i + 1 : Nat) : Int) := ⟨by
            have := Int.mul_le_mul (a := D) (b := ((i + 1 : Nat) : Int)) (c := 3000) (d := 8) hD2 (by omega) (by omega) (by omega); omega, Int.mul_nonneg (by omega) (by omega)⟩
          have b2 : P * ((i + 1 : Nat) : Int) ≤ 24000 ∧ 0 ≤ P * ((i + 1 : Nat) : Int) := ⟨by
            have := Int.mul_le_mul (a := P) (b := ((i + 1 : Nat) : Int)) (c := 3000) (d := 8) hP2 (by omega) (by omega) (by omega); omega, Int.mul_nonneg (by omega) (by omega)⟩
          have b3 : sumH l * Y ≤ 216000000 ∧ 0 ≤ sumH l * Y := ⟨by
            have := Int.mul_le_mul (a := sumH l) (b := Y) (c := 72000) (d := 3000) (by omega) hY2 (by omega) (by omega); omega, Int.mul_nonneg (by omega) (by omega)⟩
          have e2 : IntKind.wrap .i64 (D * IntKind.wrap .i64 ((i : Int) + 1)) = D * ((i + 1 : Nat) : Int) := by rw [e1, wrap64 (by omega) (by omega)]
          refine tc_keep [(1, .ptr 1 0), (2, I ((i + 1 : Nat) : Int)), (3, I (D * ((i + 1 : Nat) : Int))), (5, I (sumH l)), (38, I i)] ⟨?k1, fact_eq (v := I (IntKind.wrap .i64 ((i : Int) + 1))) ?k2 (by rw [e1]), fact_eq (v := I (IntKind.wrap .i64 (D * IntKind.wrap .i64 ((i : Int) + 1)))) ?k3 (by rw [e2]), ?k4, ?k5, trivial⟩ ?_
          case k1 => kernel_rfl
          case k2 => kernel_rfl
          case k3 => kernel_rfl
          case k4 => kernel_rfl
          case k5 => kernel_rfl
          refine tc_seq ?k1 ?_
          case k1 => kernel_rfl
          refine tc_r [0] ?k1 ?_
          case k1 => kernel_rfl
          refine tc_cond (decide (D * ((i + 1 : Nat) : Int) < IntKind.wrap .i64 (sumH l * Y))) ?k1 (fun h => ?_) (fun h => ?_)
          case k1 => kernel_rfl
          · rw [decide_eq_true_eq, wrap64 (by omega) (by omega)] at h
            refine tc_exit ?k1 (qseq_exit (qblk_hit ?k2 (qseq_normal ?_)))
            case k1 => kernel_rfl
            case k2 => kernel_rfl
            refine tc_re [0] ?k1 ?_
            case k1 => kernel_rfl
            refine ⟨8 - (i + 1), by omega, i + 1, rfl, by omega, ?_, ?k1, ?k2, ?k3, ?k4, ?k5, fact_eq (v := I (IntKind.wrap .i64 ((i : Int) + 1))) ?k6 (by rw [e1]), trivial⟩
            case k1 => kernel_rfl
            case k2 => kernel_rfl
            case k3 => kernel_rfl
            case k4 => kernel_rfl
            case k5 => kernel_rfl
            case k6 => kernel_rfl
            intro k hk1 hk2
            rcases Nat.lt_or_ge i k with hk | hk
            · have : k = i + 1 := by omega
              subst this; exact h
            · exact hno k hk1 hk
          · rw [decide_eq_false_iff_not, wrap64 (by omega) (by omega)] at h
            refine tc_skip ?k1 (qseq_normal ?_)
            case k1 => kernel_rfl
            refine tc_seq ?k1 ?_
            case k1 => kernel_rfl
            refine tc_seqr [0] ?k1 ?_
            case k1 => kernel_rfl
            have nomore : (P * ((i + 1 : Nat) : Int) > L ∨ D * ((i + 1 : Nat) : Int) > 3000) → RigV D Y P L (sumH l) (.tuple [I 0, I 0, I 7]) := by
              intro hor
              refine .inr ⟨fun k hk1 hk2 ⟨c1, c2, c3⟩ => ?_, rfl⟩
              rcases Nat.lt_or_ge i k with hk | hk
              · have m1 : P * ((i + 1 : Nat) : Int) ≤ P * (k : Int) := Int.mul_le_mul_of_nonneg_left (by omega) (by omega)
                have m2 : D * ((i + 1 : Nat) : Int) ≤ D * (k : Int) := Int.mul_le_mul_of_nonneg_left (by omega) (by omega)
                omega
              · have := hno k hk1 hk; omega
            refine to_ask 0 (decide (IntKind.wrap .i64 (P * ((i + 1 : Nat) : Int)) > L)) ?k1 (fun h2 => ?_) (fun h2 => ?_)
            case k1 => kernel_rfl
            · rw [decide_eq_true_eq, wrap64 (by omega) (by omega)] at h2
              refine to_done 0 ?k1 ?_
              case k1 => kernel_rfl
              refine tc_cond true ?k1 (fun _ => ?_) (fun e => by cases e)
              case k1 => kernel_rfl
              refine tc_exit ?k1 (qseq_exit (qblk_miss ?k2 (qseq_exit (qloop_exit (qblk_hit ?k3 (qseq_normal ?_))))))
              case k1 => kernel_rfl
              case k2 => kernel_rfl
              case k3 => kernel_rfl
              refine tc_r [0] ?k1 ?_
              case k1 => kernel_rfl
              refine tc_shift 1 1 [] [0] [2, 3, 4] rfl ⟨⟨false, spanC l, ?k1, spanC_plain l⟩, trivial⟩ (L2 := [(2, I 0), (3, I 0), (4, I 7)]) (ds2 := []) (t2 := objs [(0, .cells false (spanC l))]) ?k2 ?_
              case k1 => kernel_rfl
              case k2 => kernel_rfl
              refine tc_ret ?k1 (qfun_ret (v := .tuple [I 0, I 0, I 7]) ?k2 ⟨hR _ (nomore (.inl h2)), ?k3, ?k4⟩)
              case k1 => kernel_rfl
              case k2 => kernel_rfl
              case k3 => kernel_rfl
              case k4 => kernel_rfl
            · rw [decide_eq_false_iff_not, wrap64 (by omega) (by omega)] at h2
              refine to_done 0 ?k1 ?_
              case k1 => kernel_rfl
              refine tc_cond (decide (D * ((i + 1 : Nat) : Int) > 3000)) ?k1 (fun h3 => ?_) (fun h3 => ?_)
              case k1 => kernel_rfl
              · rw [decide_eq_true_eq] at h3
                refine tc_exit ?k1 (qseq_exit (qblk_miss ?k2 (qseq_exit (qloop_exit (qblk_hit ?k3 (qseq_normal ?_))))))
                case k1 => kernel_rfl
                case k2 => kernel_rfl
                case k3 => kernel_rfl
                refine tc_r [0] ?k1 ?_
                case k1 => kernel_rfl
                refine tc_shift 1 1 [] [0] [2, 3, 4] rfl ⟨⟨false, spanC l, ?k1, spanC_plain l⟩, trivial⟩ (L2 := [(2, I 0), (3, I 0), (4, I 7)]) (ds2 := []) (t2 := objs [(0, .cells false (spanC l))]) ?k2 ?_
                case k1 => kernel_rfl
                case k2 => kernel_rfl
                refine tc_ret ?k1 (qfun_ret (v := .tuple [I 0, I 0, I 7]) ?k2 ⟨hR _ (nomore (.inr h3)), ?k3, ?k4⟩)
                case k1 => kernel_rfl
                case k2 => kernel_rfl
                case k3 => kernel_rfl
                case k4 => kernel_rfl
              · rw [decide_eq_false_iff_not] at h3
                refine tc_skip ?k1 (qseq_normal ?_)
                case k1 => kernel_rfl
                refine tc_r [0] ?k1 ?_
                case k1 => kernel_rfl
                refine tc_shift 1 1 [] [0] [2, 3, 4] rfl ⟨⟨false, spanC l, ?k1, spanC_plain l⟩, trivial⟩ (L2 := [(2, I ((i + 1 : Nat) : Int)), (3, I (D * ((i + 1 : Nat) : Int))), (4, I 0)]) (ds2 := []) (t2 := objs [(0, .cells false (spanC l))]) ?k2 ?_
                case k1 => kernel_rfl
                case k2 => kernel_rfl
                refine tc_ret ?k1 (qblk_ret (qseq_ret (qloop_ret (qblk_ret (qseq_ret (qfun_ret (v := .tuple [I ((i + 1 : Nat) : Int), I (D * ((i + 1 : Nat) : Int)), I 0]) ?k2 ⟨hR _ (.inl ⟨⟨i + 1, by omega, by omega, by omega, by omega, by omega, rfl⟩, ?_⟩), ?k3, ?k4⟩))))))
                case k1 => kernel_rfl
                case k2 => kernel_rfl
                case k3 => kernel_rfl
                case k4 => kernel_rfl
                intro k hk1 hk2 he m hm1 hm2 ⟨c1, c2, c3⟩
                have : ((i + 1 : Nat) : Int) = (k : Int) := by injection he with he; injection he with he; injection he
                have := hno m hm1 (by omega)
                omega
        · have hieq : i = 8 := by rw [decide_eq_false_iff_not] at h; omega
          subst hieq
          refine tc_exit ?k1 (qseq_exit (qloop_exit (qblk_hit ?k2 (qseq_normal ?_))))
          case k1 => kernel_rfl
          case k2 => kernel_rfl
          refine tc_r [0] ?k1 ?_
          case k1 => kernel_rfl
          refine tc_shift 1 1 [] [0] [2, 3, 4] rfl ⟨⟨false, spanC l, ?k1, spanC_plain l⟩, trivial⟩ (L2 := [(2, I 0), (3, I 0), (4, I 7)]) (ds2 := []) (t2 := objs [(0, .cells false (spanC l))]) ?k2 ?_
          case k1 => kernel_rfl
          case k2 => kernel_rfl
          refine tc_ret ?k1 (qfun_ret (v := .tuple [I 0, I 0, I 7]) ?k2 ⟨hR _ (.inr ⟨fun k hk1 hk2 ⟨c1, c2, c3⟩ => ?_, rfl⟩), ?k3, ?k4⟩)
          case k1 => kernel_rfl
          case k2 => kernel_rfl
          case k3 => kernel_rfl
          case k4 => kernel_rfl
          have := hno k hk1 hk2
          omega
end Go.Proofs.Ytillboceclhoeaa
