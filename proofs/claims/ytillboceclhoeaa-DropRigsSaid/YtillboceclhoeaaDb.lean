/- Chapter 2: valid numbers. -/
import Derived.Test.YtillboceclhoeaaDa
namespace Go.Proofs.Ytillboceclhoeaa
open Abs
set_option maxRecDepth 100000
abbrev I (n : Int) : AV := .int .i64 n
def ints (l : List Int) : List AV := l.map I
theorem ints_plain (l : List Int) : (ints l).all plain = true := by rw [List.all_eq_true]; intro x hx; obtain ⟨n, _, rfl⟩ := List.mem_map.1 hx; rfl
def outB (lo hi : Int) : AV → Bool
  | .int _ n => decide (n < lo) || decide (n > hi)
  | _ => false
theorem within1_spec (n lo hi : Int) : CallH Try.prog 83 [I n, .ptr 0 0, .ptr 1 0] (hp [(0, .cells false [I lo]), (1, .cells false [I hi])]) 2
    (fun v H' nx' => v = .bool (decide (n < lo) || decide (n > hi)) ∧ H' = hp [(0, .cells false [I lo]), (1, .cells false [I hi])] ∧ nx' = 2) := by
  refine call_intro prog_ok Try.func83 rfl fun m0 W0 => ?_
  refine tc_r [] ?k1 ?_
  case k1 => kernel_rfl
  refine tc_seqr [] ?k1 ?_
  case k1 => kernel_rfl
  refine to_ask 0 (decide (n < lo)) ?k1 (fun h => ?_) (fun h => ?_)
  case k1 => kernel_rfl
  · refine to_done 0 ?k1 ?_
    case k1 => kernel_rfl
    refine tc_ret ?k1 (qfun_ret (v := .bool true) ?k2 ⟨by rw [h]; rfl, ?k3, ?k4⟩)
    case k1 => kernel_rfl
    case k2 => kernel_rfl
    case k3 => kernel_rfl
    case k4 => kernel_rfl
  · refine to_done 0 ?k1 ?_
    case k1 => kernel_rfl
    refine tc_ret ?k1 (qfun_ret (v := .bool (decide (n > hi))) ?k2 ⟨by rw [h]; rfl, ?k3, ?k4⟩)
    case k1 => kernel_rfl
    case k2 => kernel_rfl
    case k3 => kernel_rfl
    case k4 => kernel_rfl
/-- All numbers of a row from lo to hi. -/
def allIn (lo hi : Int) (l : List Int) : Bool := l.all fun n => decide (lo ≤ n) && decide (n ≤ hi)
theorem any_out (lo hi : Int) (l : List Int) : (!(ints l).any (outB lo hi)) = allIn lo hi l := by
  induction l with
  | nil => rfl
  | cons n l ih =>
    simp only [ints, List.map_cons, List.any_cons, outB, Bool.not_or, allIn, List.all_cons] at ih ⊢
    rw [ih]
    congr 1
    rw [← decide_not, ← decide_not]
    simp only [Int.not_lt, gt_iff_lt]
theorem within_spec (lo hi : Int) (l : List Int) (cp : Nat) (ex : Bool) (hl : l.length < 2 ^ 62) : CallH Try.prog 56 [I lo, I hi, .slice 0 0 (ints l).length cp 1 ex] (hp [(0, .cells false (ints l))]) 1
    (fun v H' nx' => v = .bool (allIn lo hi l) ∧ H' = hp [(0, .cells false (ints l))] ∧ nx' = 1) := by
  refine call_intro prog_ok Try.func56 rfl fun m0 W0 => ?_
  refine tc_r [0] ?k1 ?_
  case k1 => kernel_rfl
  refine tc_r [0] ?k1 ?_
  case k1 => kernel_rfl
  refine tc_seqr [0] ?k1 ?_
  case k1 => kernel_rfl
  refine to_call 3 (call_same (containsFunc_int (t := objs [(0, .cells false (ints l)), (1, .cells true [I lo]), (2, .cells true [I hi])]) (nx := 3) (n0 := 0) (off := 0) (cp := cp) (ex := ex) (L := ints l) (g := 83) (first := []) (cap := [.ptr 1 0, .ptr 2 0]) (outB lo hi) (row_one (w := false) ?k1 ?k2) ?_ (by simpa [ints] using hl))) ?k3 ?_
  case k1 => kernel_rfl
  case k2 => kernel_rfl
  case k3 => kernel_rfl
  · intro B v hv
    obtain ⟨n, _, rfl⟩ := List.mem_map.1 hv
    refine call_pure [(0, 1, 0), (1, 2, 0)] (within1_spec n lo hi) ?k1 ?k2 ?k3 ⟨embP [I lo] true ?k4 rfl, embP [I hi] true ?k5 rfl, trivial⟩ ?k6 ?k7
    case k1 => kernel_rfl
    case k2 => kernel_rfl
    case k3 => kernel_rfl
    case k4 => kernel_rfl
    case k5 => kernel_rfl
    case k6 => kernel_rfl
    case k7 => kernel_rfl
  · rintro _ _ _ ⟨rfl, rfl, rfl⟩
    refine to_done 0 ?k1 ?_
    case k1 => kernel_rfl
    refine tc_shift 1 1 [] [0] [6] rfl ⟨⟨false, ints l, ?k1, ?_⟩, trivial⟩ (L2 := [(6, .bool (!(ints l).any (outB lo hi)))]) (ds2 := []) (t2 := objs [(0, .cells false (ints l))]) ?k2 ?_
    case k1 => kernel_rfl
    case k2 => kernel_rfl
    · exact ints_plain l
    · refine tc_ret ?k1 (qfun_ret (v := .bool (!(ints l).any (outB lo hi))) ?k2 ⟨by rw [any_out], ?k3, ?k4⟩)
      case k1 => kernel_rfl
      case k2 => kernel_rfl
      case k3 => kernel_rfl
      case k4 => kernel_rfl
theorem validSpan_spec (a b high : Int) : CallH Try.prog 86 [.agg [I a, I b], I high] (hp []) 0
    (fun v H' nx' => v = .bool (decide (a ≤ b) && allIn 0 high [a, b]) ∧ H' = hp [] ∧ nx' = 0) := by
  refine call_intro prog_ok Try.func86 rfl fun m0 W0 => ?_
  refine tc_r [] ?k1 ?_
  case k1 => kernel_rfl
  refine tc_seqr [] ?k1 ?_
  case k1 => kernel_rfl
  refine to_ask 0 (decide (a ≤ b)) ?k1 (fun h => ?_) (fun h => ?_)
  case k1 => kernel_rfl
  · refine to_callp 0 [(0, 1, 0)] (within_spec 0 high [a, b] 2 true (by simp)) ?k1 ⟨embP (ints [a, b]) true ?k2 (ints_plain _), trivial⟩ ?_
    case k1 => kernel_rfl
    case k2 => kernel_rfl
    refine to_done 0 ?k1 ?_
    case k1 => kernel_rfl
    refine tc_shift 0 0 [] [] [4] rfl trivial (L2 := [(4, .bool (allIn 0 high [a, b]))]) (ds2 := []) (t2 := objs []) ?k1 ?_
    case k1 => kernel_rfl
    refine tc_ret ?k1 (qfun_ret (v := .bool (allIn 0 high [a, b])) ?k2 ⟨by rw [h]; rfl, ?k3, ?k4⟩)
    case k1 => kernel_rfl
    case k2 => kernel_rfl
    case k3 => kernel_rfl
    case k4 => kernel_rfl
  · refine to_done 0 ?k1 ?_
    case k1 => kernel_rfl
    refine tc_shift 0 0 [] [] [4] rfl trivial (L2 := [(4, .bool false)]) (ds2 := []) (t2 := objs []) ?k1 ?_
    case k1 => kernel_rfl
    refine tc_ret ?k1 (qfun_ret (v := .bool false) ?k2 ⟨by rw [h]; rfl, ?k3, ?k4⟩)
    case k1 => kernel_rfl
    case k2 => kernel_rfl
    case k3 => kernel_rfl
    case k4 => kernel_rfl

/-! Spans of a day. -/
def cS (s : Int × Int) : List AV := [I s.1, I s.2]
def spanC (l : List (Int × Int)) : List AV := (l.map cS).flatten
def spanL (l : List (Int × Int)) : List AV := (l.map cS).map AV.agg
theorem spanC_plain (l : List (Int × Int)) : (spanC l).all plain = true := by
  rw [List.all_eq_true]; intro x hx
  simp only [spanC, List.mem_flatten, List.mem_map] at hx
  obtain ⟨_, ⟨s, _, rfl⟩, hx⟩ := hx
  simp only [cS, List.mem_cons, List.not_mem_nil, or_false] at hx
  rcases hx with rfl | rfl <;> rfl
theorem spanL_length (l : List (Int × Int)) : (spanL l).length = l.length := by simp [spanL]
theorem cS_length (l : List (Int × Int)) : ∀ x ∈ l.map cS, x.length = 2 := by
  intro x hx; obtain ⟨s, _, rfl⟩ := List.mem_map.1 hx; rfl
theorem span_row {t : Tr AObj} {k : Nat} {w : Bool} {l : List (Int × Int)} (hg : t.get k = some (.cells w (spanC l))) : ∀ i v, (spanL l)[i]? = some v → loadT Try.prog ⟨t, [], 0⟩ 36 k (0 + i * 2) = some v :=
  row_agg hg (by kernel_rfl) (by kernel_rfl) (cS_length l)
def okSpan (high : Int) (s : Int × Int) : Bool := decide (s.1 ≤ s.2) && allIn 0 high [s.1, s.2]
def notOk : AV → Bool
  | .agg [.int _ a, .int _ b] => !(okSpan 3000 (a, b))
  | _ => false
theorem notOk_any (l : List (Int × Int)) : (!(spanL l).any notOk) = l.all (okSpan 3000) := by
  induction l with
  | nil => rfl
  | cons s l ih =>
    simp only [spanL, List.map_cons, List.any_cons, List.all_cons, Bool.not_or] at ih ⊢
    rw [ih]; simp only [cS, notOk, Bool.not_not]
theorem validHours1_spec (s : Int × Int) : CallH Try.prog 85 [.agg (cS s)] (hp []) 0 (fun v H' nx' => v = .bool (!(okSpan 3000 s)) ∧ H' = hp [] ∧ nx' = 0) := by
  refine call_intro prog_ok Try.func85 rfl fun m0 W0 => ?_
  refine tc_r [] ?k1 ?_
  case k1 => kernel_rfl
  refine tc_seqr [] ?k1 ?_
  case k1 => kernel_rfl
  refine to_callp 0 [] (validSpan_spec s.1 s.2 3000) ?k1 trivial ?_
  case k1 => kernel_rfl
  refine to_done 0 ?k1 ?_
  case k1 => kernel_rfl
  refine tc_shift 0 0 [] [] [2] rfl trivial (L2 := [(2, .bool (!(okSpan 3000 s)))]) (ds2 := []) (t2 := objs []) ?k1 ?_
  case k1 => kernel_rfl
  refine tc_ret ?k1 (qfun_ret (v := .bool (!(okSpan 3000 s))) ?k2 ⟨rfl, ?k3, ?k4⟩)
  case k1 => kernel_rfl
  case k2 => kernel_rfl
  case k3 => kernel_rfl
  case k4 => kernel_rfl
theorem validHours_spec (l : List (Int × Int)) (cp : Nat) (ex : Bool) (hl : l.length < 2 ^ 62) : CallH Try.prog 57 [.slice 0 0 (spanL l).length cp 2 ex] (hp [(0, .cells false (spanC l))]) 1
    (fun v H' nx' => v = .bool (decide (l.length = 24) && l.all (okSpan 3000)) ∧ H' = hp [(0, .cells false (spanC l))] ∧ nx' = 1) := by
  have h24 : ((((spanL l).length : Nat) : Int) == 24) = decide (l.length = 24) := by
    rw [spanL_length, Bool.eq_iff_iff]; simp; omega
  refine call_intro prog_ok Try.func57 rfl fun m0 W0 => ?_
  refine tc_r [0] ?k1 ?_
  case k1 => kernel_rfl
  refine tc_r [0] ?k1 ?_
  case k1 => kernel_rfl
  refine tc_seqr [0] ?k1 ?_
  case k1 => kernel_rfl
  refine to_ask 0 ((((spanL l).length : Nat) : Int) == 24) ?k1 (fun h => ?_) (fun h => ?_)
  case k1 => kernel_rfl
  · refine to_call 0 (call_same (containsFunc_span (t := objs [(0, .cells false (spanC l))]) (nx := 1) (n0 := 0) (off := 0) (cp := cp) (ex := ex) (L := spanL l) (g := 85) (first := []) (cap := []) notOk (span_row (w := false) ?k1) ?_ (by rw [spanL_length]; exact hl))) ?k2 ?_
    case k1 => kernel_rfl
    case k2 => kernel_rfl
    · intro B v hv
      obtain ⟨_, hc, rfl⟩ := List.mem_map.1 hv
      obtain ⟨s, _, rfl⟩ := List.mem_map.1 hc
      refine call_pure [] (validHours1_spec s) ?k1 ?k2 ?k3 trivial ?k4 ?k5
      case k1 => kernel_rfl
      case k2 => kernel_rfl
      case k3 => kernel_rfl
      case k4 => kernel_rfl
      case k5 => kernel_rfl
    · rintro _ _ _ ⟨rfl, rfl, rfl⟩
      refine to_done 0 ?k1 ?_
      case k1 => kernel_rfl
      refine tc_keep [(2, .bool (!(spanL l).any notOk))] ⟨?k1, trivial⟩ ?_
      case k1 => kernel_rfl
      refine tc_ret ?k1 (qfun_ret (v := .bool (!(spanL l).any notOk)) ?k2 ⟨?_, ?k3, ?k4⟩)
      case k1 => kernel_rfl
      case k2 => kernel_rfl
      case k3 => kernel_rfl
      case k4 => kernel_rfl
      rw [notOk_any, ← h24, h]; rfl
  · refine to_done 0 ?k1 ?_
    case k1 => kernel_rfl
    refine tc_ret ?k1 (qfun_ret (v := .bool false) ?k2 ⟨?_, ?k3, ?k4⟩)
    case k1 => kernel_rfl
    case k2 => kernel_rfl
    case k3 => kernel_rfl
    case k4 => kernel_rfl
    rw [← h24, h]; rfl
/-- A clock is one. -/
def clockB (line : Int) (l : List (Int × Int)) : Bool := allIn 1 3000 [line] && (decide (l.length = 24) && l.all (okSpan 3000))
theorem check_spec (line : Int) (l : List (Int × Int)) (cp : Nat) (ex : Bool) (hl : l.length < 2 ^ 62) : CallH Try.prog 16 [.agg [I line, .slice 0 0 (spanL l).length cp 2 ex]] (hp [(0, .cells false (spanC l))]) 1
    (fun v H' nx' => v = I (if clockB line l then 0 else 2) ∧ H' = hp [(0, .cells false (spanC l))] ∧ nx' = 1) := by
  refine call_intro prog_ok Try.func16 rfl fun m0 W0 => ?_
  refine tc_r [0] ?k1 ?_
  case k1 => kernel_rfl
  refine tc_seq ?k1 ?_
  case k1 => kernel_rfl
  refine tc_seqr [0] ?k1 ?_
  case k1 => kernel_rfl
  refine to_callp 0 [(0, 2, 0)] (within_spec 1 3000 [line] 1 true (by simp)) ?k1 ⟨embP (ints [line]) true ?k2 (ints_plain _), trivial⟩ ?_
  case k1 => kernel_rfl
  case k2 => kernel_rfl
  refine to_ask 0 (!(allIn 1 3000 [line])) ?k1 (fun h => ?_) (fun h => ?_)
  case k1 => kernel_rfl
  · refine to_done 0 ?k1 ?_
    case k1 => kernel_rfl
    refine tc_cond true ?k1 (fun _ => ?_) (fun e => by cases e)
    case k1 => kernel_rfl
    refine tc_r [0] ?k1 ?_
    case k1 => kernel_rfl
    refine tc_shift 1 1 [] [0] [2] rfl ⟨⟨false, spanC l, ?k1, spanC_plain l⟩, trivial⟩ (L2 := [(2, I 2)]) (ds2 := []) (t2 := objs [(0, .cells false (spanC l))]) ?k2 ?_
    case k1 => kernel_rfl
    case k2 => kernel_rfl
    refine tc_ret ?k1 (qseq_ret (qfun_ret (v := I 2) ?k2 ⟨?_, ?k3, ?k4⟩))
    case k1 => kernel_rfl
    case k2 => kernel_rfl
    case k3 => kernel_rfl
    case k4 => kernel_rfl
    have : clockB line l = false := by simp only [clockB]; simp at h; simp [h]
    rw [this]; rfl
  · refine to_callp 0 [(0, 0, 0)] (validHours_spec l cp ex hl) ?k1 ⟨embP (spanC l) false ?k2 (spanC_plain l), trivial⟩ ?_
    case k1 => kernel_rfl
    case k2 => kernel_rfl
    refine to_done 0 ?k1 ?_
    case k1 => kernel_rfl
    refine tc_cond (!(decide (l.length = 24) && l.all (okSpan 3000))) ?k1 (fun h2 => ?_) (fun h2 => ?_)
    case k1 => kernel_rfl
    · refine tc_r [0] ?k1 ?_
      case k1 => kernel_rfl
      refine tc_shift 1 1 [] [0] [2] rfl ⟨⟨false, spanC l, ?k1, spanC_plain l⟩, trivial⟩ (L2 := [(2, I 2)]) (ds2 := []) (t2 := objs [(0, .cells false (spanC l))]) ?k2 ?_
      case k1 => kernel_rfl
      case k2 => kernel_rfl
      refine tc_ret ?k1 (qseq_ret (qfun_ret (v := I 2) ?k2 ⟨?_, ?k3, ?k4⟩))
      case k1 => kernel_rfl
      case k2 => kernel_rfl
      case k3 => kernel_rfl
      case k4 => kernel_rfl
      have : clockB line l = false := by simp only [clockB]; rw [Bool.not_eq_true'] at h2; rw [h2, Bool.and_false]
      rw [this]; rfl
    · refine tc_skip ?k1 (qseq_normal ?_)
      case k1 => kernel_rfl
      refine tc_r [0] ?k1 ?_
      case k1 => kernel_rfl
      refine tc_shift 1 1 [] [0] [2] rfl ⟨⟨false, spanC l, ?k1, spanC_plain l⟩, trivial⟩ (L2 := [(2, I 0)]) (ds2 := []) (t2 := objs [(0, .cells false (spanC l))]) ?k2 ?_
      case k1 => kernel_rfl
      case k2 => kernel_rfl
      refine tc_ret ?k1 (qfun_ret (v := I 0) ?k2 ⟨?_, ?k3, ?k4⟩)
      case k1 => kernel_rfl
      case k2 => kernel_rfl
      case k3 => kernel_rfl
      case k4 => kernel_rfl
      have : clockB line l = true := by simp only [clockB]; rw [Bool.not_eq_false'] at h2 h; rw [h, h2]; rfl
      rw [this]; rfl
end Go.Proofs.Ytillboceclhoeaa
