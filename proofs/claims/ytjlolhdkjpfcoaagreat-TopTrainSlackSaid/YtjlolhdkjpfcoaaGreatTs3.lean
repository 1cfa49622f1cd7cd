/- TopTrainSlack: greatest divisors as the law has them; numbers. -/
import Derived.Test.YtjlolhdkjpfcoaaGreatTs2
import Derived.Test.YtjlolhdkjpfcoaaGreatTG
set_option linter.unusedSimpArgs false
set_option linter.unusedVariables false
namespace Go.Proofs.YtjlolhdkjpfcoaaGreat
open Abs Sx Tg
set_option maxRecDepth 100000
namespace Ts
def fnS (rows : List (Int × Int)) (f : Nat) (l : List Int) : Int := match f with
  | 0 => (rows.getD (l.headD 0).toNat (0, 0)).1
  | 1 => (rows.getD (l.headD 0).toNat (0, 0)).2
  | 60 => clK (skI l)
  | 90 => clampT bg (Int.gcd (hdI l) (hdI l.tail))
  | 91 => clampT 100000000 (Tn.lowR (hdI l) (hdI l.tail)).1
  | 92 => clampT 100000000 (Tn.lowR (hdI l) (hdI l.tail)).2
  | 93 => clampT 100000000 (Int.lcm (hdI l) (hdI l.tail))
  | _ => 0
theorem isT (rows : List (Int × Int)) : IsT (fnS rows) := ⟨fun _ => rfl, fun _ => rfl, fun _ => rfl, fun _ => rfl⟩
def frS : List (Option (Int × Int)) := [some (0, 255), some (0, 255)] ++ List.replicate 58 none ++ [some (0, 4611686018427387904)] ++ List.replicate 29 none ++ [some (1, bg), some (1, 100000000), some (1, 100000000), some (1, 100000000)]
def RS : Rgs := ⟨[], frS⟩
def armPre : List X := [Tg.le (Tg.lit 0) (Tg.v 0), Tg.le (Tg.lit 1) (Tg.v 1), Tg.le (Tg.v 0) (Tg.lit bg), Tg.le (Tg.v 1) (Tg.lit bg)]
def pArm : Pr := ⟨7, [.int .i64, .int .i64], armPre, fun _ => .leaf (.int .i64 (ap2 90 (Tg.v 0) (Tg.v 1)))⟩
end Ts
end Go.Proofs.YtjlolhdkjpfcoaaGreat
