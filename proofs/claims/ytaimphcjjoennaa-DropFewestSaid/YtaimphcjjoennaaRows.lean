/-
  No cell of these rows narrows 'for every input' (looked for: loops, veiled, ifaces, maps, wideKeys, modest, calm, conditions, laid).
  DERIVED. THE GIVEN ROWS OF THIS SEAT. 3 by the template 'for every input the law returns true; each argument reads behind the call as it read before'; 0 by the template 'total and deterministic' (their statements: YtaimphcjjoennaaTotals.lean).
  GIVEN WITH THE SEED: the statements are not yours to turn. If you find one false, say at which input.
  Laid BY PROGRAM, IN A SANDBOX (cutbox-rows.mjs): the forced cells as the released guide's own fill.sh prints them over the translation b808f432c52bbff8… (all of the seat's roots in one cut). By AI agents, Wed Nov 11 2026. No macro, syntax, notation, axiom, sorry.
-/
import Derived.Test.YtaimphcjjoennaaChecked
import GoSem.Claim
import GoSem.ClaimJoined
import GoSem.ClaimMapViews
import Derived.JoinedTies
import Derived.KernelRfl
namespace Go.Proofs.Ytaimphcjjoennaa
/- THE CELL 'sum', in the pinned program and in every row, IS THE sha256 OF THE DUMP (.gsa) THAT YtaimphcjjoennaaProg.lean LOADS. Nothing in Lean hashes anything: it is a label: what it is worth is what the hold of that sum in a sandbox is worth. -/
noncomputable def Try.pinned : Pinned := { name := "ytaimphcjjoennaa", sum := "b808f432c52bbff83c5ff6d0880fda709cf143cf9a04432be046cc2730b97cd0", checked := Try.checked }
namespace Rows
def none {H : Type} : Left H := { results := [], args := [] }

/-- 'turretlaw02.DropGoes': WHATEVER THE INPUT: true; the input reads as it did. -/
def dropGoesSpec : ChangeSpec := { name := "dropGoes", fn := fun _ => fun
  | [d1, d2, d3] => { results := [.lit (.bool true)], args := [d1, d2, d3] }
  | _ => none }
def dropGoesRow : OpenClaim := { program := "ytaimphcjjoennaa", sum := "b808f432c52bbff83c5ff6d0880fda709cf143cf9a04432be046cc2730b97cd0", func := "turret/turretlaw02.DropGoes", spec := "dropGoes", unfollowed := true, recurses := true, apart := false }
def DropGoesSaid : Prop := dropGoesRow.holds Try.pinned (OpenSpec.ofChange dropGoesSpec)

/-- ITS FALSE NEIGHBOUR: 'it returns false'. Refute it at one input. -/
def dropGoesWrong : ChangeSpec := { name := "dropGoes", fn := fun _ => fun
  | [d1, d2, d3] => { results := [.lit (.bool false)], args := [d1, d2, d3] }
  | _ => none }
def DropGoesWrongFalsely : Prop := dropGoesRow.holds Try.pinned (OpenSpec.ofChange dropGoesWrong)

/-- 'turretlaw02.DropFewest': WHATEVER THE INPUT: true; the input reads as it did. -/
def dropFewestSpec : ChangeSpec := { name := "dropFewest", fn := fun _ => fun
  | [d1, d2] => { results := [.lit (.bool true)], args := [d1, d2] }
  | _ => none }
def dropFewestRow : OpenClaim := { program := "ytaimphcjjoennaa", sum := "b808f432c52bbff83c5ff6d0880fda709cf143cf9a04432be046cc2730b97cd0", func := "turret/turretlaw02.DropFewest", spec := "dropFewest", unfollowed := true, recurses := true, apart := false }
def DropFewestSaid : Prop := dropFewestRow.holds Try.pinned (OpenSpec.ofChange dropFewestSpec)

/-- ITS FALSE NEIGHBOUR: 'it returns false'. Refute it at one input. -/
def dropFewestWrong : ChangeSpec := { name := "dropFewest", fn := fun _ => fun
  | [d1, d2] => { results := [.lit (.bool false)], args := [d1, d2] }
  | _ => none }
def DropFewestWrongFalsely : Prop := dropFewestRow.holds Try.pinned (OpenSpec.ofChange dropFewestWrong)

/-- 'turrettop.TopTrainDrop': WHATEVER THE INPUT: true; the input reads as it did. -/
def topTrainDropSpec : ChangeSpec := { name := "topTrainDrop", fn := fun _ => fun
  | [d1, d2, d3] => { results := [.lit (.bool true)], args := [d1, d2, d3] }
  | _ => none }
def topTrainDropRow : OpenClaim := { program := "ytaimphcjjoennaa", sum := "b808f432c52bbff83c5ff6d0880fda709cf143cf9a04432be046cc2730b97cd0", func := "turret/turrettop.TopTrainDrop", spec := "topTrainDrop", unfollowed := true, recurses := true, apart := false }
def TopTrainDropSaid : Prop := topTrainDropRow.holds Try.pinned (OpenSpec.ofChange topTrainDropSpec)

/-- ITS FALSE NEIGHBOUR: 'it returns false'. Refute it at one input. -/
def topTrainDropWrong : ChangeSpec := { name := "topTrainDrop", fn := fun _ => fun
  | [d1, d2, d3] => { results := [.lit (.bool false)], args := [d1, d2, d3] }
  | _ => none }
def TopTrainDropWrongFalsely : Prop := topTrainDropRow.holds Try.pinned (OpenSpec.ofChange topTrainDropWrong)

/- THE SECOND FORM. 'bulk': how many values and letters a reading holds, each counted each time it is reached (what is shared counts as often as it is met; a slice's spare places count too). A statement '..UptoSaid' is the law's where the arguments, and the package variables that the reading takes, are together of bulk at most 1048576: NARROWER than '..Said'. Prove '..Said' where nothing that the law and all that it calls make is longer than what came in: it says more and counts as full. Else prove '..UptoSaid'. A law counts once. -/
mutual
def uptoBulk {H : Type} : DataW H → Nat
  | .lit (.string bytes) => bytes.length + 1
  | .lit _ => 1
  | .nil => 1
  | .ptr d => uptoBulk d + 1
  | .slice elems spare => uptoBulkAll elems + uptoBulkAll spare + 1
  | .agg parts => uptoBulkAll parts + 1
  | .iface _ d => uptoBulk d + 1
  | .map entries => uptoBulkEntries entries + 1
  | .held _ => 1
def uptoBulkAll {H : Type} : List (DataW H) → Nat
  | [] => 0
  | d :: r => uptoBulk d + uptoBulkAll r
def uptoBulkEntries {H : Type} : List (Lit × DataW H) → Nat
  | [] => 0
  | x :: r => uptoBulkEntry x + uptoBulkEntries r
def uptoBulkEntry {H : Type} : Lit × DataW H → Nat
  | (.string bytes, d) => bytes.length + uptoBulk d + 1
  | (_, d) => uptoBulk d + 1
 end
def uptoSmall : (H : Type) → List (DataW H) → Bool := fun _ ds => decide (uptoBulkAll ds ≤ 1048576)
def OpenSpec.upto (s : _root_.Go.ChangeSpec) : _root_.Go.OpenSpec := { _root_.Go.OpenSpec.ofChange s with cond := some uptoSmall }

/-- 'turretlaw02.DropGoes', WHERE WHAT IT READS IS OF BULK AT MOST 1048576: true; the input reads as it did. -/
def dropGoesUptoRow : OpenClaim := { program := "ytaimphcjjoennaa", sum := "b808f432c52bbff83c5ff6d0880fda709cf143cf9a04432be046cc2730b97cd0", func := "turret/turretlaw02.DropGoes", spec := "dropGoes", unfollowed := true, recurses := true, apart := false, narrowed := true }
def DropGoesUptoSaid : Prop := dropGoesUptoRow.holds Try.pinned (OpenSpec.upto dropGoesSpec)

/-- 'turretlaw02.DropFewest', WHERE WHAT IT READS IS OF BULK AT MOST 1048576: true; the input reads as it did. -/
def dropFewestUptoRow : OpenClaim := { program := "ytaimphcjjoennaa", sum := "b808f432c52bbff83c5ff6d0880fda709cf143cf9a04432be046cc2730b97cd0", func := "turret/turretlaw02.DropFewest", spec := "dropFewest", unfollowed := true, recurses := true, apart := false, narrowed := true }
def DropFewestUptoSaid : Prop := dropFewestUptoRow.holds Try.pinned (OpenSpec.upto dropFewestSpec)

/-- 'turrettop.TopTrainDrop', WHERE WHAT IT READS IS OF BULK AT MOST 1048576: true; the input reads as it did. -/
def topTrainDropUptoRow : OpenClaim := { program := "ytaimphcjjoennaa", sum := "b808f432c52bbff83c5ff6d0880fda709cf143cf9a04432be046cc2730b97cd0", func := "turret/turrettop.TopTrainDrop", spec := "topTrainDrop", unfollowed := true, recurses := true, apart := false, narrowed := true }
def TopTrainDropUptoSaid : Prop := topTrainDropUptoRow.holds Try.pinned (OpenSpec.upto topTrainDropSpec)

end Rows
end Go.Proofs.Ytaimphcjjoennaa
