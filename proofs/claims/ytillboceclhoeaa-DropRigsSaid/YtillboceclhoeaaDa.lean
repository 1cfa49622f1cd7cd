/- slices.IndexFunc, slices.ContainsFunc. -/
import Derived.Test.YtillboceclhoeaaC4
namespace Go.Proofs.Ytillboceclhoeaa
open Abs
set_option maxRecDepth 100000
theorem indexFunc_int {t : Tr AObj} {nx n0 off cp : Nat} {ex : Bool} {L : List AV} {g : FuncId} {first cap : List AV} (p : AV → Bool)
    (hrow : ∀ i v, L[i]? = some v → loadT Try.prog ⟨t, [], 0⟩ 3 n0 (off + i * 1) = some v)
    (hf : ∀ B, ∀ v ∈ L, CallIn Try.prog B g (first ++ [v] ++ cap) ⟨t, [], 0⟩ nx (fun r H' nx' => r = .bool (p v) ∧ H' = ⟨t, [], 0⟩ ∧ nx' = nx)) (hlen : L.length < 2 ^ 62) :
    CallH Try.prog 111 [.slice n0 off L.length cp 1 ex, .fn g first cap] ⟨t, [], 0⟩ nx
      (fun v H' nx' => (∃ r, v = .int .i64 r ∧ decide (r ≥ 0) = L.any p) ∧ H' = ⟨t, [], 0⟩ ∧ nx' = nx) := by
  refine call_intro prog_ok Try.func111 rfl fun m0 W0 => ?_
  refine tc_r [n0] ?k1 ?_
  case k1 => kernel_rfl
  refine tc_seq ?k1 ?_
  case k1 => kernel_rfl
  refine tc_r [n0] ?k1 ?_
  case k1 => kernel_rfl
  refine tc_block ?k1 ?_
  case k1 => kernel_rfl
  refine tc_loop (fun m E ds H nx' => ∃ i : Nat, m = L.length - i ∧ i ≤ L.length ∧ (∀ v ∈ L.take i, p v = false) ∧ ds = [] ∧ H = ⟨t, [], 0⟩ ∧ nx' = nx ∧ Facts E [(0, .slice n0 off L.length cp 1 ex), (1, .fn g first cap), (7, .int .i64 L.length), (8, .int .i64 i)]) ?k1 L.length ⟨0, rfl, Nat.zero_le _, (by simp), rfl, rfl, rfl, ?k2, ?k3, ?k4, ?k5, trivial⟩ ?_
  case k1 => kernel_rfl
  case k2 => kernel_rfl
  case k3 => kernel_rfl
  case k4 => kernel_rfl
  case k5 => kernel_rfl
  rintro m E ds H nx' ⟨i, rfl, hi, hno, rfl, rfl, rfl, hF⟩
  refine tc_keep _ hF ?_
  refine tc_r [n0] ?k1 ?_
  case k1 => kernel_rfl
  refine tc_sc (decide ((i : Int) < L.length)) ?k1 (fun h => ?_) (fun h => ?_)
  case k1 => kernel_rfl
  · refine tc_skip ?k1 ?_
    case k1 => kernel_rfl
    have hlt : i < L.length := by simpa using h
    refine tc_sb ?k1 ?_
    case k1 => kernel_rfl
    refine tc_r [n0] ?k1 ?_
    case k1 => kernel_rfl
    refine tc_seqr [n0] ?k1 ?_
    case k1 => kernel_rfl
    refine to_pure 4 (cond (Nat.blt i L.length) (some (.ptr n0 (off + i * 1))) none) (by rw [show Nat.blt i L.length = true by simpa using hlt]; rfl) ?k1 ?_
    case k1 => kernel_rfl
    refine to_load 1 (hrow i L[i] (by simp)) ?k1 ?_
    case k1 => kernel_rfl
    refine to_call 1 (hf _ L[i] (by simp)) ?k1 ?_
    case k1 => kernel_rfl
    rintro _ _ _ ⟨rfl, rfl, rfl⟩
    refine to_done 1 ?k1 ?_
    case k1 => kernel_rfl
    refine tc_cond (p L[i]) ?k1 (fun hp => ?_) (fun hp => ?_)
    case k1 => kernel_rfl
    · refine tc_r [n0] ?k1 ?_
      case k1 => kernel_rfl
      refine tc_ret ?k1 (qblk_ret (qseq_ret (qloop_ret (qblk_ret (qseq_ret (qfun_ret (v := .int .i64 i) ?k2 ⟨⟨i, rfl, ?_⟩, ?k3, ?k4⟩))))))
      case k1 => kernel_rfl
      case k2 => kernel_rfl
      case k3 => kernel_rfl
      case k4 => kernel_rfl
      rw [List.any_eq_true.2 ⟨L[i], by simp, hp⟩]
      simp
    · refine tc_skip ?k1 ?_
      case k1 => kernel_rfl
      refine tc_re [n0] ?k1 ?_
      case k1 => kernel_rfl
      refine ⟨L.length - (i + 1), by omega, i + 1, rfl, by omega, ?_, ?k1, ?k2, ?k3, ?k4, ?k5, ?k6, fact_eq (v := .int .i64 (IntKind.wrap .i64 (i + 1))) ?k7 (by rw [wrap64 (by omega) (by omega)]; rfl), trivial⟩
      case k1 => kernel_rfl
      case k2 => kernel_rfl
      case k3 => kernel_rfl
      case k4 => kernel_rfl
      case k5 => kernel_rfl
      case k6 => kernel_rfl
      case k7 => kernel_rfl
      intro v hv
      rw [List.take_add_one, List.getElem?_eq_getElem hlt, List.mem_append] at hv
      rcases hv with hv | hv
      · exact hno v hv
      · rw [Option.toList_some, List.mem_singleton] at hv; subst hv; exact hp
  · refine tc_exit ?k1 (qseq_exit (qloop_exit (qblk_hit ?k2 (qseq_normal ?_))))
    case k1 => kernel_rfl
    case k2 => kernel_rfl
    refine tc_r [n0] ?k1 ?_
    case k1 => kernel_rfl
    refine tc_ret ?k1 (qfun_ret (v := .int .i64 (-1)) ?k2 ⟨⟨-1, rfl, ?_⟩, ?k3, ?k4⟩)
    case k1 => kernel_rfl
    case k2 => kernel_rfl
    case k3 => kernel_rfl
    case k4 => kernel_rfl
    have hge : L.length ≤ i := by simpa using h
    rw [List.take_of_length_le hge] at hno
    have : L.any p = false := by rw [List.any_eq_false]; intro x hx; rw [hno x hx]; simp
    rw [this]; rfl
theorem containsFunc_int {t : Tr AObj} {nx n0 off cp : Nat} {ex : Bool} {L : List AV} {g : FuncId} {first cap : List AV} (p : AV → Bool)
    (hrow : ∀ i v, L[i]? = some v → loadT Try.prog ⟨t, [], 0⟩ 3 n0 (off + i * 1) = some v)
    (hf : ∀ B, ∀ v ∈ L, CallIn Try.prog B g (first ++ [v] ++ cap) ⟨t, [], 0⟩ nx (fun r H' nx' => r = .bool (p v) ∧ H' = ⟨t, [], 0⟩ ∧ nx' = nx)) (hlen : L.length < 2 ^ 62) :
    CallH Try.prog 84 [.slice n0 off L.length cp 1 ex, .fn g first cap] ⟨t, [], 0⟩ nx (fun v H' nx' => v = .bool (L.any p) ∧ H' = ⟨t, [], 0⟩ ∧ nx' = nx) := by
  refine call_intro prog_ok Try.func84 rfl fun m0 W0 => ?_
  refine tc_r [n0] ?k1 ?_
  case k1 => kernel_rfl
  refine tc_seqr [n0] ?k1 ?_
  case k1 => kernel_rfl
  refine to_call 3 (call_same (indexFunc_int (cp := cp) (ex := ex) p hrow hf hlen)) ?k1 ?_
  case k1 => kernel_rfl
  rintro _ _ _ ⟨⟨r, rfl, hr⟩, rfl, rfl⟩
  refine to_done 0 ?k1 ?_
  case k1 => kernel_rfl
  refine tc_ret ?k1 (qfun_ret (v := .bool (decide (r ≥ 0))) ?k2 ⟨by rw [hr], ?k3, ?k4⟩)
  case k1 => kernel_rfl
  case k2 => kernel_rfl
  case k3 => kernel_rfl
  case k4 => kernel_rfl
theorem indexFunc_span {t : Tr AObj} {nx n0 off cp : Nat} {ex : Bool} {L : List AV} {g : FuncId} {first cap : List AV} (p : AV → Bool)
    (hrow : ∀ i v, L[i]? = some v → loadT Try.prog ⟨t, [], 0⟩ 36 n0 (off + i * 2) = some v)
    (hf : ∀ B, ∀ v ∈ L, CallIn Try.prog B g (first ++ [v] ++ cap) ⟨t, [], 0⟩ nx (fun r H' nx' => r = .bool (p v) ∧ H' = ⟨t, [], 0⟩ ∧ nx' = nx)) (hlen : L.length < 2 ^ 62) :
    CallH Try.prog 112 [.slice n0 off L.length cp 2 ex, .fn g first cap] ⟨t, [], 0⟩ nx
      (fun v H' nx' => (∃ r, v = .int .i64 r ∧ decide (r ≥ 0) = L.any p) ∧ H' = ⟨t, [], 0⟩ ∧ nx' = nx) := by
  refine call_intro prog_ok Try.func112 rfl fun m0 W0 => ?_
  refine tc_r [n0] ?k1 ?_
  case k1 => kernel_rfl
  refine tc_seq ?k1 ?_
  case k1 => kernel_rfl
  refine tc_r [n0] ?k1 ?_
  case k1 => kernel_rfl
  refine tc_block ?k1 ?_
  case k1 => kernel_rfl
  refine tc_loop (fun m E ds H nx' => ∃ i : Nat, m = L.length - i ∧ i ≤ L.length ∧ (∀ v ∈ L.take i, p v = false) ∧ ds = [] ∧ H = ⟨t, [], 0⟩ ∧ nx' = nx ∧ Facts E [(0, .slice n0 off L.length cp 2 ex), (1, .fn g first cap), (7, .int .i64 L.length), (8, .int .i64 i)]) ?k1 L.length ⟨0, rfl, Nat.zero_le _, (by simp), rfl, rfl, rfl, ?k2, ?k3, ?k4, ?k5, trivial⟩ ?_
  case k1 => kernel_rfl
  case k2 => kernel_rfl
  case k3 => kernel_rfl
  case k4 => kernel_rfl
  case k5 => kernel_rfl
  rintro m E ds H nx' ⟨i, rfl, hi, hno, rfl, rfl, rfl, hF⟩
  refine tc_keep _ hF ?_
  refine tc_r [n0] ?k1 ?_
  case k1 => kernel_rfl
  refine tc_sc (decide ((i : Int) < L.length)) ?k1 (fun h => ?_) (fun h => ?_)
  case k1 => kernel_rfl
  · refine tc_skip ?k1 ?_
    case k1 => kernel_rfl
    have hlt : i < L.length := by simpa using h
    refine tc_sb ?k1 ?_
    case k1 => kernel_rfl
    refine tc_r [n0] ?k1 ?_
    case k1 => kernel_rfl
    refine tc_seqr [n0] ?k1 ?_
    case k1 => kernel_rfl
    refine to_pure 4 (cond (Nat.blt i L.length) (some (.ptr n0 (off + i * 2))) none) (by rw [show Nat.blt i L.length = true by simpa using hlt]; rfl) ?k1 ?_
    case k1 => kernel_rfl
    refine to_load 1 (hrow i L[i] (by simp)) ?k1 ?_
    case k1 => kernel_rfl
    refine to_call 1 (hf _ L[i] (by simp)) ?k1 ?_
    case k1 => kernel_rfl
    rintro _ _ _ ⟨rfl, rfl, rfl⟩
    refine to_done 1 ?k1 ?_
    case k1 => kernel_rfl
    refine tc_cond (p L[i]) ?k1 (fun hp => ?_) (fun hp => ?_)
    case k1 => kernel_rfl
    · refine tc_r [n0] ?k1 ?_
      case k1 => kernel_rfl
      refine tc_ret ?k1 (qblk_ret (qseq_ret (qloop_ret (qblk_ret (qseq_ret (qfun_ret (v := .int .i64 i) ?k2 ⟨⟨i, rfl, ?_⟩, ?k3, ?k4⟩))))))
      case k1 => kernel_rfl
      case k2 => kernel_rfl
      case k3 => kernel_rfl
      case k4 => kernel_rfl
      rw [List.any_eq_true.2 ⟨L[i], by simp, hp⟩]
      simp
    · refine tc_skip ?k1 ?_
      case k1 => kernel_rfl
      refine tc_re [n0] ?k1 ?_
      case k1 => kernel_rfl
      refine ⟨L.length - (i + 1), by omega, i + 1, rfl, by omega, ?_, ?k1, ?k2, ?k3, ?k4, ?k5, ?k6, fact_eq (v := .int .i64 (IntKind.wrap .i64 (i + 1))) ?k7 (by rw [wrap64 (by omega) (by omega)]; rfl), trivial⟩
      case k1 => kernel_rfl
      case k2 => kernel_rfl
      case k3 => kernel_rfl
      case k4 => kernel_rfl
      case k5 => kernel_rfl
      case k6 => kernel_rfl
      case k7 => kernel_rfl
      intro v hv
      rw [List.take_add_one, List.getElem?_eq_getElem hlt, List.mem_append] at hv
      rcases hv with hv | hv
      · exact hno v hv
      · rw [Option.toList_some, List.mem_singleton] at hv; subst hv; exact hp
  · refine tc_exit ?k1 (qseq_exit (qloop_exit (qblk_hit ?k2 (qseq_normal ?_))))
    case k1 => kernel_rfl
    case k2 => kernel_rfl
    refine tc_r [n0] ?k1 ?_
    case k1 => kernel_rfl
    refine tc_ret ?k1 (qfun_ret (v := .int .i64 (-1)) ?k2 ⟨⟨-1, rfl, ?_⟩, ?k3, ?k4⟩)
    case k1 => kernel_rfl
    case k2 => kernel_rfl
    case k3 => kernel_rfl
    case k4 => kernel_rfl
    have hge : L.length ≤ i := by simpa using h
    rw [List.take_of_length_le hge] at hno
    have : L.any p = false := by rw [List.any_eq_false]; intro x hx; rw [hno x hx]; simp
    rw [this]; rfl
theorem containsFunc_span {t : Tr AObj} {nx n0 off cp : Nat} {ex : Bool} {L : List AV} {g : FuncId} {first cap : List AV} (p : AV → Bool)
    (hrow : ∀ i v, L[i]? = some v → loadT Try.prog ⟨t, [], 0⟩ 36 n0 (off + i * 2) = some v)
    (hf : ∀ B, ∀ v ∈ L, CallIn Try.prog B g (first ++ [v] ++ cap) ⟨t, [], 0⟩ nx (fun r H' nx' => r = .bool (p v) ∧ H' = ⟨t, [], 0⟩ ∧ nx' = nx)) (hlen : L.length < 2 ^ 62) :
    CallH Try.prog 87 [.slice n0 off L.length cp 2 ex, .fn g first cap] ⟨t, [], 0⟩ nx (fun v H' nx' => v = .bool (L.any p) ∧ H' = ⟨t, [], 0⟩ ∧ nx' = nx) := by
  refine call_intro prog_ok Try.func87 rfl fun m0 W0 => ?_
  refine tc_r [n0] ?k1 ?_
  case k1 => kernel_rfl
  refine tc_seqr [n0] ?k1 ?_
  case k1 => kernel_rfl
  refine to_call 3 (call_same (indexFunc_span (cp := cp) (ex := ex) p hrow hf hlen)) ?k1 ?_
  case k1 => kernel_rfl
  rintro _ _ _ ⟨⟨r, rfl, hr⟩, rfl, rfl⟩
  refine to_done 0 ?k1 ?_
  case k1 => kernel_rfl
  refine tc_ret ?k1 (qfun_ret (v := .bool (decide (r ≥ 0))) ?k2 ⟨by rw [hr], ?k3, ?k4⟩)
  case k1 => kernel_rfl
  case k2 => kernel_rfl
  case k3 => kernel_rfl
  case k4 => kernel_rfl
end Go.Proofs.Ytillboceclhoeaa
