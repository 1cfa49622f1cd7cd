/- DropRigs: a rig whose row of hours has no room. -/
import Derived.Test.YtillboceclhoeaaDg
namespace Go.Proofs.Ytillboceclhoeaa
open Abs Go.RowKit
set_option maxRecDepth 100000
theorem refHours_free : CallH Try.prog 58 [.slice 9 0 0 0 2 true] (hp []) 0 (fun v H' nx' => v = .bool false ∧ H' = hp [] ∧ nx' = 0) := by
  refine call_intro prog_ok Try.func58 rfl fun m0 W0 => ?_
  refine tc_r [] ?k1 ?_
  case k1 => kernel_rfl
  refine tc_seq ?k1 ?_
  case k1 => kernel_rfl
  refine tc_r [] ?k1 ?_
  case k1 => kernel_rfl
  refine tc_block ?k1 ?_
  case k1 => kernel_rfl
  refine tc_loop (fun m E ds H nx' => ds = [] ∧ H = hp [] ∧ nx' = 0 ∧ Facts E [(0, .slice 9 0 0 0 2 true), (3, I 0)]) ?k1 0 ⟨rfl, rfl, rfl, ?k2, ?k3, trivial⟩ ?_
  case k1 => kernel_rfl
  case k2 => kernel_rfl
  case k3 => kernel_rfl
  rintro m E ds H nx' ⟨rfl, rfl, rfl, hF⟩
  refine tc_keep _ hF ?_
  refine tc_seq ?k1 ?_
  case k1 => kernel_rfl
  refine tc_r [] ?k1 ?_
  case k1 => kernel_rfl
  refine tc_cond false ?k1 (fun h => by cases h) (fun _ => ?_)
  case k1 => kernel_rfl
  refine tc_exit ?k1 (qseq_exit (qloop_exit (qblk_hit ?k2 (qseq_normal ?_))))
  case k1 => kernel_rfl
  case k2 => kernel_rfl
  refine tc_r [] ?k1 ?_
  case k1 => kernel_rfl
  refine tc_ret ?k1 (qfun_ret (v := .bool false) ?k2 ⟨rfl, ?k3, ?k4⟩)
  case k1 => kernel_rfl
  case k2 => kernel_rfl
  case k3 => kernel_rfl
  case k4 => kernel_rfl
theorem refClock_free (line : Int) : CallH Try.prog 19 [.agg [I line, .slice 9 0 0 0 2 true]] (hp []) 0 (fun v H' nx' => v = .bool false ∧ H' = hp [] ∧ nx' = 0) := by
  refine call_intro prog_ok Try.func19 rfl fun m0 W0 => ?_
  refine tc_r [] ?k1 ?_
  case k1 => kernel_rfl
  refine tc_seqr [] ?k1 ?_
  case k1 => kernel_rfl
  refine to_callp 0 [] (refIn_spec line 1 3000) ?k1 trivial ?_
  case k1 => kernel_rfl
  refine to_ask 0 (inB line 1 3000) ?k1 (fun h => ?_) (fun h => ?_)
  case k1 => kernel_rfl
  · refine to_callp 0 [] refHours_free ?k1 trivial ?_
    case k1 => kernel_rfl
    refine to_done 0 ?k1 ?_
    case k1 => kernel_rfl
    refine tc_shift 0 0 [] [] [2] rfl trivial (L2 := [(2, .bool false)]) (ds2 := []) (t2 := objs []) ?k1 ?_
    case k1 => kernel_rfl
    refine tc_ret ?k1 (qfun_ret (v := .bool false) ?k2 ⟨rfl, ?k3, ?k4⟩)
    case k1 => kernel_rfl
    case k2 => kernel_rfl
    case k3 => kernel_rfl
    case k4 => kernel_rfl
  · refine to_done 0 ?k1 ?_
    case k1 => kernel_rfl
    refine tc_shift 0 0 [] [] [2] rfl trivial (L2 := [(2, .bool false)]) (ds2 := []) (t2 := objs []) ?k1 ?_
    case k1 => kernel_rfl
    refine tc_ret ?k1 (qfun_ret (v := .bool false) ?k2 ⟨rfl, ?k3, ?k4⟩)
    case k1 => kernel_rfl
    case k2 => kernel_rfl
    case k3 => kernel_rfl
    case k4 => kernel_rfl
theorem refSame_free : CallH Try.prog 18 [.slice 0 0 0 0 2 true, .slice 9 0 0 0 2 true] (hp [(0, .cells false [])]) 1 (fun v H' nx' => v = .bool true ∧ H' = hp [(0, .cells false [])] ∧ nx' = 1) := by
  refine call_intro prog_ok Try.func18 rfl fun m0 W0 => ?_
  refine tc_r [] ?k1 ?_
  case k1 => kernel_rfl
  refine tc_seq ?k1 ?_
  case k1 => kernel_rfl
  refine tc_r [] ?k1 ?_
  case k1 => kernel_rfl
  refine tc_cond false ?k1 (fun h => by cases h) (fun _ => ?_)
  case k1 => kernel_rfl
  refine tc_skip ?k1 (qseq_normal ?_)
  case k1 => kernel_rfl
  refine tc_seq ?k1 ?_
  case k1 => kernel_rfl
  refine tc_r [] ?k1 ?_
  case k1 => kernel_rfl
  refine tc_block ?k1 ?_
  case k1 => kernel_rfl
  refine tc_loop (fun m E ds H nx' => ds = [] ∧ H = hp [(0, .cells false [])] ∧ nx' = 1 ∧ Facts E [(0, .slice 0 0 0 0 2 true), (5, I 0)]) ?k1 0 ⟨rfl, rfl, rfl, ?k2, ?k3, trivial⟩ ?_
  case k1 => kernel_rfl
  case k2 => kernel_rfl
  case k3 => kernel_rfl
  rintro m E ds H nx' ⟨rfl, rfl, rfl, hF⟩
  refine tc_keep _ hF ?_
  refine tc_seq ?k1 ?_
  case k1 => kernel_rfl
  refine tc_r [] ?k1 ?_
  case k1 => kernel_rfl
  refine tc_cond false ?k1 (fun h => by cases h) (fun _ => ?_)
  case k1 => kernel_rfl
  refine tc_exit ?k1 (qseq_exit (qloop_exit (qblk_hit ?k2 (qseq_normal ?_))))
  case k1 => kernel_rfl
  case k2 => kernel_rfl
  refine tc_r [] ?k1 ?_
  case k1 => kernel_rfl
  refine tc_ret ?k1 (qfun_ret (v := .bool true) ?k2 ⟨rfl, ?k3, ?k4⟩)
  case k1 => kernel_rfl
  case k2 => kernel_rfl
  case k3 => kernel_rfl
  case k4 => kernel_rfl
theorem refRig_free (D Y P L : Int) : CallH Try.prog 17 [.agg [I D, I Y, I P, I L, .slice 9 0 0 0 2 true]] (hp []) 0 (fun v H' nx' => v = .tuple [I 0, I 0, I 2] ∧ H' = hp [] ∧ nx' = 0) := by
  refine call_intro prog_ok Try.func17 rfl fun m0 W0 => ?_
  refine tc_r [] ?k1 ?_
  case k1 => kernel_rfl
  refine tc_seq ?k1 ?_
  case k1 => kernel_rfl
  refine tc_seqr [] ?k1 ?_
  case k1 => kernel_rfl
  refine to_callp 0 [] (refIn_spec D 1 3000) ?k1 trivial ?_
  case k1 => kernel_rfl
  refine to_ask 0 (!(inB D 1 3000)) ?k1 (fun h1 => ?_) (fun h1 => ?_)
  case k1 => kernel_rfl
  · refine to_known 0 true ?k1 ?_
    case k1 => kernel_rfl
    refine to_known 0 true ?k1 ?_
    case k1 => kernel_rfl
    refine to_known 0 true ?k1 ?_
    case k1 => kernel_rfl
    refine to_done 0 ?k1 ?_
    case k1 => kernel_rfl
    refine tc_cond true ?k1 (fun _ => ?_) (fun e => by cases e)
    case k1 => kernel_rfl
    refine tc_r [] ?k1 ?_
    case k1 => kernel_rfl
    refine tc_shift 0 0 [] [] [2, 3, 4] rfl trivial (L2 := [(2, I 0), (3, I 0), (4, I 2)]) (ds2 := []) (t2 := objs []) ?k1 ?_
    case k1 => kernel_rfl
    refine tc_ret ?k1 (qseq_ret (qfun_ret (v := .tuple [I 0, I 0, I 2]) ?k2 ⟨rfl, ?k3, ?k4⟩))
    case k1 => kernel_rfl
    case k2 => kernel_rfl
    case k3 => kernel_rfl
    case k4 => kernel_rfl
  refine to_callp 0 [] (refIn_spec Y 1 3000) ?k1 trivial ?_
  case k1 => kernel_rfl
  refine to_ask 0 (!(inB Y 1 3000)) ?k1 (fun h2 => ?_) (fun h2 => ?_)
  case k1 => kernel_rfl
  · refine to_known 0 true ?k1 ?_
    case k1 => kernel_rfl
    refine to_known 0 true ?k1 ?_
    case k1 => kernel_rfl
    refine to_done 0 ?k1 ?_
    case k1 => kernel_rfl
    refine tc_cond true ?k1 (fun _ => ?_) (fun e => by cases e)
    case k1 => kernel_rfl
    refine tc_r [] ?k1 ?_
    case k1 => kernel_rfl
    refine tc_shift 0 0 [] [] [2, 3, 4] rfl trivial (L2 := [(2, I 0), (3, I 0), (4, I 2)]) (ds2 := []) (t2 := objs []) ?k1 ?_
    case k1 => kernel_rfl
    refine tc_ret ?k1 (qseq_ret (qfun_ret (v := .tuple [I 0, I 0, I 2]) ?k2 ⟨rfl, ?k3, ?k4⟩))
    case k1 => kernel_rfl
    case k2 => kernel_rfl
    case k3 => kernel_rfl
    case k4 => kernel_rfl
  refine to_callp 0 [] (refIn_spec P 1 3000) ?k1 trivial ?_
  case k1 => kernel_rfl
  refine to_ask 0 (!(inB P 1 3000)) ?k1 (fun h3 => ?_) (fun h3 => ?_)
  case k1 => kernel_rfl
  · refine to_known 0 true ?k1 ?_
    case k1 => kernel_rfl
    refine to_done 0 ?k1 ?_
    case k1 => kernel_rfl
    refine tc_cond true ?k1 (fun _ => ?_) (fun e => by cases e)
    case k1 => kernel_rfl
    refine tc_r [] ?k1 ?_
    case k1 => kernel_rfl
    refine tc_shift 0 0 [] [] [2, 3, 4] rfl trivial (L2 := [(2, I 0), (3, I 0), (4, I 2)]) (ds2 := []) (t2 := objs []) ?k1 ?_
    case k1 => kernel_rfl
    refine tc_ret ?k1 (qseq_ret (qfun_ret (v := .tuple [I 0, I 0, I 2]) ?k2 ⟨rfl, ?k3, ?k4⟩))
    case k1 => kernel_rfl
    case k2 => kernel_rfl
    case k3 => kernel_rfl
    case k4 => kernel_rfl
  refine to_callp 0 [] (refIn_spec L 1 3000) ?k1 trivial ?_
  case k1 => kernel_rfl
  refine to_ask 0 (!(inB L 1 3000)) ?k1 (fun h4 => ?_) (fun h4 => ?_)
  case k1 => kernel_rfl
  · refine to_done 0 ?k1 ?_
    case k1 => kernel_rfl
    refine tc_cond true ?k1 (fun _ => ?_) (fun e => by cases e)
    case k1 => kernel_rfl
    refine tc_r [] ?k1 ?_
    case k1 => kernel_rfl
    refine tc_shift 0 0 [] [] [2, 3, 4] rfl trivial (L2 := [(2, I 0), (3, I 0), (4, I 2)]) (ds2 := []) (t2 := objs []) ?k1 ?_
    case k1 => kernel_rfl
    refine tc_ret ?k1 (qseq_ret (qfun_ret (v := .tuple [I 0, I 0, I 2]) ?k2 ⟨rfl, ?k3, ?k4⟩))
    case k1 => kernel_rfl
    case k2 => kernel_rfl
    case k3 => kernel_rfl
    case k4 => kernel_rfl
  refine to_callp 0 [] refHours_free ?k1 trivial ?_
  case k1 => kernel_rfl
  refine to_done 0 ?k1 ?_
  case k1 => kernel_rfl
  refine tc_cond true ?k1 (fun _ => ?_) (fun e => by cases e)
  case k1 => kernel_rfl
  refine tc_r [] ?k1 ?_
  case k1 => kernel_rfl
  refine tc_shift 0 0 [] [] [2, 3, 4] rfl trivial (L2 := [(2, I 0), (3, I 0), (4, I 2)]) (ds2 := []) (t2 := objs []) ?k1 ?_
  case k1 => kernel_rfl
  refine tc_ret ?k1 (qseq_ret (qfun_ret (v := .tuple [I 0, I 0, I 2]) ?k2 ⟨rfl, ?k3, ?k4⟩))
  case k1 => kernel_rfl
  case k2 => kernel_rfl
  case k3 => kernel_rfl
  case k4 => kernel_rfl

theorem dropRigs_free (D Y P L line : Int) : CallH Try.prog 3 [.agg [I D, I Y, I P, I L, .slice 9 0 0 0 2 true], I line] (hp []) 0 (fun v H' nx' => v = .bool true ∧ H' = hp [] ∧ nx' = 0) := by
  have hrig := rig_spec D Y P L [] 0 true (by simp)
  have hv0 : ∀ v, RigR D Y P L [] v → v = .tuple [I 0, I 0, I 2] := by
    intro v hv
    unfold RigR at hv
    rw [if_neg (by simp)] at hv; exact hv
  have hck := check_spec line [] 0 true (by simp)
  have hcb : clockB line [] = false := by simp [clockB]
  rw [hcb] at hck
  refine call_intro prog_ok Try.func3 rfl fun m0 W0 => ?_
  refine tc_r [] ?k1 ?_
  case k1 => kernel_rfl
  refine tc_seq ?k1 ?_
  case k1 => kernel_rfl
  refine tc_r [] ?k1 ?_
  case k1 => kernel_rfl
  refine tc_cond false ?k1 (fun h => by cases h) (fun _ => ?_)
  case k1 => kernel_rfl
  refine tc_skip ?k1 (qseq_normal ?_)
  case k1 => kernel_rfl
  refine tc_r [] ?k1 ?_
  case k1 => kernel_rfl
  refine tc_r [] ?k1 ?_
  case k1 => kernel_rfl
  refine tc_r [] ?k1 ?_
  case k1 => kernel_rfl
  refine tc_keep [(1, I line), (2, .ptr 0 0), (5, .slice 1 0 0 0 2 true), (6, .ptr 2 0)] ⟨?k1, ?k2, ?k3, ?k4, trivial⟩ ?_
  case k1 => kernel_rfl
  case k2 => kernel_rfl
  case k3 => kernel_rfl
  case k4 => kernel_rfl
  refine tc_seqr [] ?k1 ?_
  case k1 => kernel_rfl
  refine to_callq 0 [(0, 1, 0)] (fun σ v h => RigR.ren h σ) hrig ?k1 ⟨embP [] true ?k2 rfl, trivial⟩ ?_
  case k1 => kernel_rfl
  case k2 => kernel_rfl
  intro v hv
  have := hv0 v hv
  subst this
  refine to_done 0 ?k1 ?_
  case k1 => kernel_rfl
  refine tc_keep [(1, I line), (2, .ptr 0 0), (5, .slice 1 0 0 0 2 true), (7, I 0), (8, I 0), (9, I 2)] ⟨?k1, ?k2, ?k3, ?k4, ?k5, ?k6, trivial⟩ ?_
  case k1 => kernel_rfl
  case k2 => kernel_rfl
  case k3 => kernel_rfl
  case k4 => kernel_rfl
  case k5 => kernel_rfl
  case k6 => kernel_rfl
  refine tc_seqr [] ?k1 ?_
  case k1 => kernel_rfl
  refine to_callp 0 [(0, 1, 0)] hck ?k1 ⟨embP [] true ?k2 rfl, trivial⟩ ?_
  case k1 => kernel_rfl
  case k2 => kernel_rfl
  refine to_done 0 ?k1 ?_
  case k1 => kernel_rfl
  refine tc_seqr [] ?k1 ?_
  case k1 => kernel_rfl
  refine to_callp 0 [] (refRig_free D Y P L) ?k1 trivial ?_
  case k1 => kernel_rfl
  refine to_done 0 ?k1 ?_
  case k1 => kernel_rfl
  refine tc_shift 0 2 [(0, 0, 0), (1, 1, 0)] [] [1, 2, 5, 7, 8, 9, 10, 11, 12, 13] rfl trivial (L2 := [(1, I line), (2, .ptr 0 0), (5, .slice 1 0 0 0 2 true), (7, I 0), (8, I 0), (9, I 2), (10, I 2), (11, I 0), (12, I 0), (13, I 2)]) (ds2 := []) (t2 := objs [(0, .cells true [I D, I Y, I P, I L, .slice 9 0 0 0 2 true]), (1, .cells true [])]) ?k1 ?_
  case k1 => kernel_rfl
  refine tc_seq ?k1 ?_
  case k1 => kernel_rfl
  refine tc_seqr [] ?k1 ?_
  case k1 => kernel_rfl
  refine to_callp 0 [(0, 1, 0)] refSame_free ?k1 ⟨embP [] true ?k2 rfl, trivial⟩ ?_
  case k1 => kernel_rfl
  case k2 => kernel_rfl
  refine to_known 0 false ?k1 ?_
  case k1 => kernel_rfl
  refine to_callp 0 [] (refClock_free line) ?k1 trivial ?_
  case k1 => kernel_rfl
  refine to_known 0 false ?k1 ?_
  case k1 => kernel_rfl
  refine to_known 0 true ?k1 ?_
  case k1 => kernel_rfl
  refine to_done 0 ?k1 ?_
  case k1 => kernel_rfl
  refine tc_cond false ?k1 (fun e => by cases e) (fun _ => ?_)
  case k1 => kernel_rfl
  refine tc_skip ?k1 (qseq_normal ?_)
  case k1 => kernel_rfl
  refine tc_keep [(7, I 0), (8, I 0), (9, I 2), (11, I 0), (12, I 0), (13, I 2)] ⟨?k1, ?k2, ?k3, ?k4, ?k5, ?k6, trivial⟩ ?_
  case k1 => kernel_rfl
  case k2 => kernel_rfl
  case k3 => kernel_rfl
  case k4 => kernel_rfl
  case k5 => kernel_rfl
  case k6 => kernel_rfl
  refine tc_seqr [] ?k1 ?_
  case k1 => kernel_rfl
  refine to_known 0 true ?k1 ?_
  case k1 => kernel_rfl
  refine to_known 0 true ?k1 ?_
  case k1 => kernel_rfl
  refine to_known 0 true ?k1 ?_
  case k1 => kernel_rfl
  refine to_callp 0 [] known_spec ?k1 trivial ?_
  case k1 => kernel_rfl
  refine to_done 0 ?k1 ?_
  case k1 => kernel_rfl
  refine tc_shift 0 0 [] [] [4] rfl trivial (L2 := [(4, .bool true)]) (ds2 := []) (t2 := objs []) ?k1 ?_
  case k1 => kernel_rfl
  refine tc_ret ?k1 (qfun_ret (v := .bool true) ?k2 ⟨rfl, ?k3, ?k4⟩)
  case k1 => kernel_rfl
  case k2 => kernel_rfl
  case k3 => kernel_rfl
  case k4 => kernel_rfl
end Go.Proofs.Ytillboceclhoeaa
