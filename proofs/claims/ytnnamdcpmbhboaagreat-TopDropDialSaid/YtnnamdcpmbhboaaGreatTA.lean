/- Arithmetic of trains: products, lowest terms, turns, cycles. -/
import Derived.Test.YtnnamdcpmbhboaaGreatS5
set_option linter.unusedSimpArgs false
set_option linter.unusedVariables false
namespace Go.Proofs.YtnnamdcpmbhboaaGreat
namespace Tn
def lowR (a b : Int) : Int × Int := (a / Int.gcd a b, b / Int.gcd a b)
end Tn
end Go.Proofs.YtnnamdcpmbhboaaGreat
