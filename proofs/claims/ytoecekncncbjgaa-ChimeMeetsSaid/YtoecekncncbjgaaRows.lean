/-
  No cell of these rows narrows 'for every input' (looked for: loops, veiled, ifaces, maps, wideKeys, modest, calm, conditions, laid).
  DERIVED. THE GIVEN ROWS OF THIS SEAT. 3 by the template 'for every input the law returns true; each argument reads behind the call as it read before'; 0 by the template 'total and deterministic' (their statements: YtoecekncncbjgaaTotals.lean).
  GIVEN WITH THE SEED: the statements are not yours to turn. If you find one false, say at which input.
  Laid BY PROGRAM, IN A SANDBOX (cutbox-rows.mjs): the forced cells as the released guide's own fill.sh prints them over the translation de051e410c3f8df7… (all of the seat's roots in one cut). By AI agents, Wed Nov 11 2026. No macro, syntax, notation, axiom, sorry.
-/
import Derived.Test.YtoecekncncbjgaaChecked
import GoSem.Claim
import GoSem.ClaimJoined
import GoSem.ClaimMapViews
import Derived.JoinedTies
import Derived.KernelRfl
namespace Go.Proofs.Ytoecekncncbjgaa
/- THE CELL 'sum', in the pinned program and in every row, IS THE sha256 OF THE DUMP (.gsa) THAT YtoecekncncbjgaaProg.lean LOADS. Nothing in Lean hashes anything: it is a label: what it is worth is what the hold of that sum in a sandbox is worth. -/
noncomputable def Try.pinned : Pinned := { name := "ytoecekncncbjgaa", sum := "de051e410c3f8df70b9eb94c55ac7bf1882e807f8d7c561a3c9fe9a7b5815919", checked := Try.checked }
namespace Rows
def none {H : Type} : Left H := { results := [], args := [] }

/-- 'turretlaw06.ChimeMeets': WHATEVER THE INPUT: true; the input reads as it did. -/
def chimeMeetsSpec : ChangeSpec := { name := "chimeMeets", fn := fun _ => fun
  | [d1, d2] => { results := [.lit (.bool true)], args := [d1, d2] }
  | _ => none }
def chimeMeetsRow : OpenClaim := { program := "ytoecekncncbjgaa", sum := "de051e410c3f8df70b9eb94c55ac7bf1882e807f8d7c561a3c9fe9a7b5815919", func := "turret/turretlaw06.ChimeMeets", spec := "chimeMeets", unfollowed := true, recurses := true, plainKeys := false, apart := false }
def ChimeMeetsSaid : Prop := chimeMeetsRow.holds Try.pinned (OpenSpec.ofChange chimeMeetsSpec)

/-- ITS FALSE NEIGHBOUR: 'it returns false'. Refute it at one input. -/
def chimeMeetsWrong : ChangeSpec := { name := "chimeMeets", fn := fun _ => fun
  | [d1, d2] => { results := [.lit (.bool false)], args := [d1, d2] }
  | _ => none }
def ChimeMeetsWrongFalsely : Prop := chimeMeetsRow.holds Try.pinned (OpenSpec.ofChange chimeMeetsWrong)

/-- 'turretlaw06.ChimeFigures': WHATEVER THE INPUT: true; the input reads as it did. -/
def chimeFiguresSpec : ChangeSpec := { name := "chimeFigures", fn := fun _ => fun
  | [d1, d2, d3] => { results := [.lit (.bool true)], args := [d1, d2, d3] }
  | _ => none }
def chimeFiguresRow : OpenClaim := { program := "ytoecekncncbjgaa", sum := "de051e410c3f8df70b9eb94c55ac7bf1882e807f8d7c561a3c9fe9a7b5815919", func := "turret/turretlaw06.ChimeFigures", spec := "chimeFigures", unfollowed := true, recurses := true, plainKeys := false, apart := false }
def ChimeFiguresSaid : Prop := chimeFiguresRow.holds Try.pinned (OpenSpec.ofChange chimeFiguresSpec)

/-- ITS FALSE NEIGHBOUR: 'it returns false'. Refute it at one input. -/
def chimeFiguresWrong : ChangeSpec := { name := "chimeFigures", fn := fun _ => fun
  | [d1, d2, d3] => { results := [.lit (.bool false)], args := [d1, d2, d3] }
  | _ => none }
def ChimeFiguresWrongFalsely : Prop := chimeFiguresRow.holds Try.pinned (OpenSpec.ofChange chimeFiguresWrong)

/-- 'turrettop.TopCamTeeth': WHATEVER THE INPUT: true; the input reads as it did. -/
def topCamTeethSpec : ChangeSpec := { name := "topCamTeeth", fn := fun _ => fun
  | [d1, d2] => { results := [.lit (.bool true)], args := [d1, d2] }
  | _ => none }
def topCamTeethRow : OpenClaim := { program := "ytoecekncncbjgaa", sum := "de051e410c3f8df70b9eb94c55ac7bf1882e807f8d7c561a3c9fe9a7b5815919", func := "turret/turrettop.TopCamTeeth", spec := "topCamTeeth", unfollowed := true, recurses := true, plainKeys := false, apart := false }
def TopCamTeethSaid : Prop := topCamTeethRow.holds Try.pinned (OpenSpec.ofChange topCamTeethSpec)

/-- ITS FALSE NEIGHBOUR: 'it returns false'. Refute it at one input. -/
def topCamTeethWrong : ChangeSpec := { name := "topCamTeeth", fn := fun _ => fun
  | [d1, d2] => { results := [.lit (.bool false)], args := [d1, d2] }
  | _ => none }
def TopCamTeethWrongFalsely : Prop := topCamTeethRow.holds Try.pinned (OpenSpec.ofChange topCamTeethWrong)

/- THE SECOND FORM. 'bulk': how many values and letters a reading holds, each counted each time it is reached (what is shared counts as often as it is met; a slice's spare places count too). A statement '..UptoSaid' is the law's where the arguments, and the package variables that the reading takes, are together of bulk at most 1048576: NARROWER than '..Said'. Prove '..Said' where nothing that the law and all that it calls make is longer than what came in: it says more and counts as full. Else prove '..UptoSaid'. A law counts once. -/
mutual
def uptoBulk {H : Type} : DataW H → Nat
  | .lit (.string bytes) => bytes.length + 1
  | .lit _ => 1
  | .nil => 1
  | .ptr d => uptoBulk d + 1
  | .slice elems spare => uptoBulkAll elems + uptoBulkAll spare + 1
  | .agg parts => uptoBulkAll parts + 1
  | .iface _ d => uptoBulk d + 1
  | .map entries => uptoBulkEntries entries + 1
  | .held _ => 1
def uptoBulkAll {H : Type} : List (DataW H) → Nat
  | [] => 0
  | d :: r => uptoBulk d + uptoBulkAll r
def uptoBulkEntries {H : Type} : List (Lit × DataW H) → Nat
  | [] => 0
  | x :: r => uptoBulkEntry x + uptoBulkEntries r
def uptoBulkEntry {H : Type} : Lit × DataW H → Nat
  | (.string bytes, d) => bytes.length + uptoBulk d + 1
  | (_, d) => uptoBulk d + 1
 end
def uptoSmall : (H : Type) → List (DataW H) → Bool := fun _ ds => decide (uptoBulkAll ds ≤ 1048576)
def OpenSpec.upto (s : _root_.Go.ChangeSpec) : _root_.Go.OpenSpec := { _root_.Go.OpenSpec.ofChange s with cond := some uptoSmall }

/-- 'turretlaw06.ChimeMeets', WHERE WHAT IT READS IS OF BULK AT MOST 1048576: true; the input reads as it did. -/
def chimeMeetsUptoRow : OpenClaim := { program := "ytoecekncncbjgaa", sum := "de051e410c3f8df70b9eb94c55ac7bf1882e807f8d7c561a3c9fe9a7b5815919", func := "turret/turretlaw06.ChimeMeets", spec := "chimeMeets", unfollowed := true, recurses := true, plainKeys := false, apart := false, narrowed := true }
def ChimeMeetsUptoSaid : Prop := chimeMeetsUptoRow.holds Try.pinned (OpenSpec.upto chimeMeetsSpec)

/-- 'turretlaw06.ChimeFigures', WHERE WHAT IT READS IS OF BULK AT MOST 1048576: true; the input reads as it did. -/
def chimeFiguresUptoRow : OpenClaim := { program := "ytoecekncncbjgaa", sum := "de051e410c3f8df70b9eb94c55ac7bf1882e807f8d7c561a3c9fe9a7b5815919", func := "turret/turretlaw06.ChimeFigures", spec := "chimeFigures", unfollowed := true, recurses := true, plainKeys := false, apart := false, narrowed := true }
def ChimeFiguresUptoSaid : Prop := chimeFiguresUptoRow.holds Try.pinned (OpenSpec.upto chimeFiguresSpec)

/-- 'turrettop.TopCamTeeth', WHERE WHAT IT READS IS OF BULK AT MOST 1048576: true; the input reads as it did. -/
def topCamTeethUptoRow : OpenClaim := { program := "ytoecekncncbjgaa", sum := "de051e410c3f8df70b9eb94c55ac7bf1882e807f8d7c561a3c9fe9a7b5815919", func := "turret/turrettop.TopCamTeeth", spec := "topCamTeeth", unfollowed := true, recurses := true, plainKeys := false, apart := false, narrowed := true }
def TopCamTeethUptoSaid : Prop := topCamTeethUptoRow.holds Try.pinned (OpenSpec.upto topCamTeethSpec)

end Rows
end Go.Proofs.Ytoecekncncbjgaa
