/- TopZoneDial: the law over names. -/
import Derived.Test.YtanmiffgmiikfaaGreatZd2
import Derived.Test.YtanmiffgmiikfaaGreatKw
import Derived.Test.YtanmiffgmiikfaaGreatKy
import Derived.Test.YtanmiffgmiikfaaGreatFl
import Derived.Test.YtanmiffgmiikfaaGreatFr
set_option linter.unusedSimpArgs false
set_option linter.unusedVariables false
namespace Go.Proofs.YtanmiffgmiikfaaGreat
open Abs Sx Go.RowKit
set_option maxRecDepth 100000
namespace Zd
theorem pTw_ok (fn : Nat → List Int → Int) : pTw.Ok Tryz.prog fn := Fl.true_ok ⟨_, _, Tryz.func9, rfl⟩ (kwgood prog_ok) fn
theorem pDi_ok (fn : Nat → List Int → Int) : pDi.Ok Tryz.prog fn := Fl.true_ok ⟨_, _, Tryz.func8, rfl⟩ (kygood prog_ok) fn
theorem true_ren (nx : Nat) : ∀ v : AV, v = .bool true → ren (upS nx) v = some v := fun v h => by subst h; rfl
theorem fit {f : FuncId} {args args' : List AV} {H H' : Hp} {nx : Nat} {Q : AV → Hp → Nat → Prop} (h : CallH Tryz.prog f args H nx Q) (ea : args = args') (eh : H = H') : CallH Tryz.prog f args' H' nx Q := by subst ea eh; exact h
theorem zd_call {x0 x1 x2 x3 : Int} (z0 : -32768 ≤ x0 ∧ x0 ≤ 32767) (z1 : -32768 ≤ x1 ∧ x1 ≤ 32767) (z2 : 0 ≤ x2 ∧ x2 ≤ 65535) (z3 : 0 ≤ x3 ∧ x3 ≤ 65535) :
    CallH Tryz.prog 3 [.int .i16 x0, .int .i16 x1, .agg [.int .u16 x2, .int .u16 x3]] ⟨objs [], [], 0⟩ 0 (fun v H' nx' => v = .bool true ∧ H' = ⟨objs [], [], 0⟩ ∧ nx' = 0) := by
  refine call_forget ?_ (by kernel_rfl) (true_ren 0)
  let fn : Nat → List Int → Int := fun _ _ => 0
  have hR : R0.ok (valX fn [x0, x1, x2, x3]) := ⟨fun i => by cases i <;> trivial, fun i l => by cases i <;> trivial⟩
  have hl : PrNsOk Tryz.prog fn zdL := ⟨(pLen_ok fn).toN, (pTw_ok fn).toN, (pDi_ok fn).toN, trivial⟩
  have hp := zd_pre (fn := fn) z0 z1 z2 z3
  have hv : OT.vc (valX fn [x0, x1, x2, x3]) (fun w => w.den (valX fn [x0, x1, x2, x3]) = .bool true) (half t0X aX (half t1X cX tT)) :=
    half_vc (show 0 ≤ x2 from z2.1) (half_vc (show 0 ≤ x2 + (1 + x3) by omega) rfl)
  have key : CallH Tryz.prog 3 (SV.dens (valX fn [x0, x1, x2, x3]) zdA) (hD (valX fn [x0, x1, x2, x3]) ⟨tplT [], [], 0⟩) 0 (fun v _ _ => v = .bool true) :=
    call_ex (V := fun v => v = .bool true) prog_ok hR (ctsN_has zdL hl rfl hR) (allB_fcs hp) rfl zd_run hv
  exact fit key rfl rfl
end Zd
end Go.Proofs.YtanmiffgmiikfaaGreat
