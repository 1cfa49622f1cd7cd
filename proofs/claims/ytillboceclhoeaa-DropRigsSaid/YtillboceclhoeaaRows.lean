/-
  No cell of these rows narrows 'for every input' (looked for: loops, veiled, ifaces, maps, wideKeys, modest, calm, conditions, laid).
  DERIVED. THE GIVEN ROWS OF THIS SEAT. 11 by the template 'for every input the law returns true; each argument reads behind the call as it read before'; 0 by the template 'total and deterministic' (their statements: YtillboceclhoeaaTotals.lean).
  GIVEN WITH THE SEED: the statements are not yours to turn. If you find one false, say at which input.
  Laid BY PROGRAM, IN A SANDBOX (cutbox-rows.mjs): the forced cells as the released guide's own fill.sh prints them over the translation ce08d87216d4470d… (all of the seat's roots in one cut). By AI agents, Wed Nov 11 2026. No macro, syntax, notation, axiom, sorry.
-/
import Derived.Test.YtillboceclhoeaaChecked
import GoSem.Claim
import GoSem.ClaimJoined
import GoSem.ClaimMapViews
import Derived.JoinedTies
import Derived.KernelRfl
namespace Go.Proofs.Ytillboceclhoeaa
/- THE CELL 'sum', in the pinned program and in every row, IS THE sha256 OF THE DUMP (.gsa) THAT YtillboceclhoeaaProg.lean LOADS. Nothing in Lean hashes anything: it is a label: what it is worth is what the hold of that sum in a sandbox is worth. -/
noncomputable def Try.pinned : Pinned := { name := "ytillboceclhoeaa", sum := "ce08d87216d4470d72410e6b3afdd1c04ee1ea4e52594679ec8bb3e62e24100d", checked := Try.checked }
namespace Rows
def none {H : Type} : Left H := { results := [], args := [] }

/-- 'turretlaw02.DropRigs': WHATEVER THE INPUT: true; the input reads as it did. -/
def dropRigsSpec : ChangeSpec := { name := "dropRigs", fn := fun _ => fun
  | [d1, d2] => { results := [.lit (.bool true)], args := [d1, d2] }
  | _ => none }
def dropRigsRow : OpenClaim := { program := "ytillboceclhoeaa", sum := "ce08d87216d4470d72410e6b3afdd1c04ee1ea4e52594679ec8bb3e62e24100d", func := "turret/turretlaw02.DropRigs", spec := "dropRigs", unfollowed := true, recurses := true, apart := false }
def DropRigsSaid : Prop := dropRigsRow.holds Try.pinned (OpenSpec.ofChange dropRigsSpec)

/-- ITS FALSE NEIGHBOUR: 'it returns false'. Refute it at one input. -/
def dropRigsWrong : ChangeSpec := { name := "dropRigs", fn := fun _ => fun
  | [d1, d2] => { results := [.lit (.bool false)], args := [d1, d2] }
  | _ => none }
def DropRigsWrongFalsely : Prop := dropRigsRow.holds Try.pinned (OpenSpec.ofChange dropRigsWrong)

/-- 'turretlaw02.DropGoes': WHATEVER THE INPUT: true; the input reads as it did. -/
def dropGoesSpec : ChangeSpec := { name := "dropGoes", fn := fun _ => fun
  | [d1, d2, d3] => { results := [.lit (.bool true)], args := [d1, d2, d3] }
  | _ => none }
def dropGoesRow : OpenClaim := { program := "ytillboceclhoeaa", sum := "ce08d87216d4470d72410e6b3afdd1c04ee1ea4e52594679ec8bb3e62e24100d", func := "turret/turretlaw02.DropGoes", spec := "dropGoes", unfollowed := true, recurses := true, apart := false }
def DropGoesSaid : Prop := dropGoesRow.holds Try.pinned (OpenSpec.ofChange dropGoesSpec)

/-- ITS FALSE NEIGHBOUR: 'it returns false'. Refute it at one input. -/
def dropGoesWrong : ChangeSpec := { name := "dropGoes", fn := fun _ => fun
  | [d1, d2, d3] => { results := [.lit (.bool false)], args := [d1, d2, d3] }
  | _ => none }
def DropGoesWrongFalsely : Prop := dropGoesRow.holds Try.pinned (OpenSpec.ofChange dropGoesWrong)

/-- 'turretlaw02.DropLefts': WHATEVER THE INPUT: true; the input reads as it did. -/
def dropLeftsSpec : ChangeSpec := { name := "dropLefts", fn := fun _ => fun
  | [d1, d2, d3] => { results := [.lit (.bool true)], args := [d1, d2, d3] }
  | _ => none }
def dropLeftsRow : OpenClaim := { program := "ytillboceclhoeaa", sum := "ce08d87216d4470d72410e6b3afdd1c04ee1ea4e52594679ec8bb3e62e24100d", func := "turret/turretlaw02.DropLefts", spec := "dropLefts", unfollowed := true, recurses := true, apart := false }
def DropLeftsSaid : Prop := dropLeftsRow.holds Try.pinned (OpenSpec.ofChange dropLeftsSpec)

/-- ITS FALSE NEIGHBOUR: 'it returns false'. Refute it at one input. -/
def dropLeftsWrong : ChangeSpec := { name := "dropLefts", fn := fun _ => fun
  | [d1, d2, d3] => { results := [.lit (.bool false)], args := [d1, d2, d3] }
  | _ => none }
def DropLeftsWrongFalsely : Prop := dropLeftsRow.holds Try.pinned (OpenSpec.ofChange dropLeftsWrong)

/-- 'turretlaw02.DropWorsts': WHATEVER THE INPUT: true; the input reads as it did. -/
def dropWorstsSpec : ChangeSpec := { name := "dropWorsts", fn := fun _ => fun
  | [d1, d2, d3] => { results := [.lit (.bool true)], args := [d1, d2, d3] }
  | _ => none }
def dropWorstsRow : OpenClaim := { program := "ytillboceclhoeaa", sum := "ce08d87216d4470d72410e6b3afdd1c04ee1ea4e52594679ec8bb3e62e24100d", func := "turret/turretlaw02.DropWorsts", spec := "dropWorsts", unfollowed := true, recurses := true, apart := false }
def DropWorstsSaid : Prop := dropWorstsRow.holds Try.pinned (OpenSpec.ofChange dropWorstsSpec)

/-- ITS FALSE NEIGHBOUR: 'it returns false'. Refute it at one input. -/
def dropWorstsWrong : ChangeSpec := { name := "dropWorsts", fn := fun _ => fun
  | [d1, d2, d3] => { results := [.lit (.bool false)], args := [d1, d2, d3] }
  | _ => none }
def DropWorstsWrongFalsely : Prop := dropWorstsRow.holds Try.pinned (OpenSpec.ofChange dropWorstsWrong)

/-- 'turretlaw02.DropRounds': WHATEVER THE INPUT: true; the input reads as it did. -/
def dropRoundsSpec : ChangeSpec := { name := "dropRounds", fn := fun _ => fun
  | [d1, d2, d3] => { results := [.lit (.bool true)], args := [d1, d2, d3] }
  | _ => none }
def dropRoundsRow : OpenClaim := { program := "ytillboceclhoeaa", sum := "ce08d87216d4470d72410e6b3afdd1c04ee1ea4e52594679ec8bb3e62e24100d", func := "turret/turretlaw02.DropRounds", spec := "dropRounds", unfollowed := true, recurses := true, apart := false }
def DropRoundsSaid : Prop := dropRoundsRow.holds Try.pinned (OpenSpec.ofChange dropRoundsSpec)

/-- ITS FALSE NEIGHBOUR: 'it returns false'. Refute it at one input. -/
def dropRoundsWrong : ChangeSpec := { name := "dropRounds", fn := fun _ => fun
  | [d1, d2, d3] => { results := [.lit (.bool false)], args := [d1, d2, d3] }
  | _ => none }
def DropRoundsWrongFalsely : Prop := dropRoundsRow.holds Try.pinned (OpenSpec.ofChange dropRoundsWrong)

/-- 'turretlaw02.DropTruths': WHATEVER THE INPUT: true; the input reads as it did. -/
def dropTruthsSpec : ChangeSpec := { name := "dropTruths", fn := fun _ => fun
  | [d] => { results := [.lit (.bool true)], args := [d] }
  | _ => none }
def dropTruthsRow : OpenClaim := { program := "ytillboceclhoeaa", sum := "ce08d87216d4470d72410e6b3afdd1c04ee1ea4e52594679ec8bb3e62e24100d", func := "turret/turretlaw02.DropTruths", spec := "dropTruths", unfollowed := true, recurses := true, apart := false }
def DropTruthsSaid : Prop := dropTruthsRow.holds Try.pinned (OpenSpec.ofChange dropTruthsSpec)

/-- ITS FALSE NEIGHBOUR: 'it returns false'. Refute it at one input. -/
def dropTruthsWrong : ChangeSpec := { name := "dropTruths", fn := fun _ => fun
  | [d] => { results := [.lit (.bool false)], args := [d] }
  | _ => none }
def DropTruthsWrongFalsely : Prop := dropTruthsRow.holds Try.pinned (OpenSpec.ofChange dropTruthsWrong)

/-- 'turretlaw02.DropEnds': WHATEVER THE INPUT: true; the input reads as it did. -/
def dropEndsSpec : ChangeSpec := { name := "dropEnds", fn := fun _ => fun
  | [d] => { results := [.lit (.bool true)], args := [d] }
  | _ => none }
def dropEndsRow : OpenClaim := { program := "ytillboceclhoeaa", sum := "ce08d87216d4470d72410e6b3afdd1c04ee1ea4e52594679ec8bb3e62e24100d", func := "turret/turretlaw02.DropEnds", spec := "dropEnds", unfollowed := true, recurses := true, apart := false }
def DropEndsSaid : Prop := dropEndsRow.holds Try.pinned (OpenSpec.ofChange dropEndsSpec)

/-- ITS FALSE NEIGHBOUR: 'it returns false'. Refute it at one input. -/
def dropEndsWrong : ChangeSpec := { name := "dropEnds", fn := fun _ => fun
  | [d] => { results := [.lit (.bool false)], args := [d] }
  | _ => none }
def DropEndsWrongFalsely : Prop := dropEndsRow.holds Try.pinned (OpenSpec.ofChange dropEndsWrong)

/-- 'turretlaw02.DropMore': WHATEVER THE INPUT: true; the input reads as it did. -/
def dropMoreSpec : ChangeSpec := { name := "dropMore", fn := fun _ => fun
  | [d1, d2, d3] => { results := [.lit (.bool true)], args := [d1, d2, d3] }
  | _ => none }
def dropMoreRow : OpenClaim := { program := "ytillboceclhoeaa", sum := "ce08d87216d4470d72410e6b3afdd1c04ee1ea4e52594679ec8bb3e62e24100d", func := "turret/turretlaw02.DropMore", spec := "dropMore", unfollowed := true, recurses := true, apart := false }
def DropMoreSaid : Prop := dropMoreRow.holds Try.pinned (OpenSpec.ofChange dropMoreSpec)

/-- ITS FALSE NEIGHBOUR: 'it returns false'. Refute it at one input. -/
def dropMoreWrong : ChangeSpec := { name := "dropMore", fn := fun _ => fun
  | [d1, d2, d3] => { results := [.lit (.bool false)], args := [d1, d2, d3] }
  | _ => none }
def DropMoreWrongFalsely : Prop := dropMoreRow.holds Try.pinned (OpenSpec.ofChange dropMoreWrong)

/-- 'turretlaw02.DropForever': WHATEVER THE INPUT: true; the input reads as it did. -/
def dropForeverSpec : ChangeSpec := { name := "dropForever", fn := fun _ => fun
  | [d1, d2, d3] => { results := [.lit (.bool true)], args := [d1, d2, d3] }
  | _ => none }
def dropForeverRow : OpenClaim := { program := "ytillboceclhoeaa", sum := "ce08d87216d4470d72410e6b3afdd1c04ee1ea4e52594679ec8bb3e62e24100d", func := "turret/turretlaw02.DropForever", spec := "dropForever", unfollowed := true, recurses := true, apart := false }
def DropForeverSaid : Prop := dropForeverRow.holds Try.pinned (OpenSpec.ofChange dropForeverSpec)

/-- ITS FALSE NEIGHBOUR: 'it returns false'. Refute it at one input. -/
def dropForeverWrong : ChangeSpec := { name := "dropForever", fn := fun _ => fun
  | [d1, d2, d3] => { results := [.lit (.bool false)], args := [d1, d2, d3] }
  | _ => none }
def DropForeverWrongFalsely : Prop := dropForeverRow.holds Try.pinned (OpenSpec.ofChange dropForeverWrong)

/-- 'turretlaw02.DropFewest': WHATEVER THE INPUT: true; the input reads as it did. -/
def dropFewestSpec : ChangeSpec := { name := "dropFewest", fn := fun _ => fun
  | [d1, d2] => { results := [.lit (.bool true)], args := [d1, d2] }
  | _ => none }
def dropFewestRow : OpenClaim := { program := "ytillboceclhoeaa", sum := "ce08d87216d4470d72410e6b3afdd1c04ee1ea4e52594679ec8bb3e62e24100d", func := "turret/turretlaw02.DropFewest", spec := "dropFewest", unfollowed := true, recurses := true, apart := false }
def DropFewestSaid : Prop := dropFewestRow.holds Try.pinned (OpenSpec.ofChange dropFewestSpec)

/-- ITS FALSE NEIGHBOUR: 'it returns false'. Refute it at one input. -/
def dropFewestWrong : ChangeSpec := { name := "dropFewest", fn := fun _ => fun
  | [d1, d2] => { results := [.lit (.bool false)], args := [d1, d2] }
  | _ => none }
def DropFewestWrongFalsely : Prop := dropFewestRow.holds Try.pinned (OpenSpec.ofChange dropFewestWrong)

/-- 'turrettop.TopTrainDrop': WHATEVER THE INPUT: true; the input reads as it did. -/
def topTrainDropSpec : ChangeSpec := { name := "topTrainDrop", fn := fun _ => fun
  | [d1, d2, d3] => { results := [.lit (.bool true)], args := [d1, d2, d3] }
  | _ => none }
def topTrainDropRow : OpenClaim := { program := "ytillboceclhoeaa", sum := "ce08d87216d4470d72410e6b3afdd1c04ee1ea4e52594679ec8bb3e62e24100d", func := "turret/turrettop.TopTrainDrop", spec := "topTrainDrop", unfollowed := true, recurses := true, apart := false }
def TopTrainDropSaid : Prop := topTrainDropRow.holds Try.pinned (OpenSpec.ofChange topTrainDropSpec)

/-- ITS FALSE NEIGHBOUR: 'it returns false'. Refute it at one input. -/
def topTrainDropWrong : ChangeSpec := { name := "topTrainDrop", fn := fun _ => fun
  | [d1, d2, d3] => { results := [.lit (.bool false)], args := [d1, d2, d3] }
  | _ => none }
def TopTrainDropWrongFalsely : Prop := topTrainDropRow.holds Try.pinned (OpenSpec.ofChange topTrainDropWrong)

/- THE SECOND FORM. 'bulk': how many values and letters a reading holds, each counted each time it is reached (what is shared counts as often as it is met; a slice's spare places count too). A statement '..UptoSaid' is the law's where the arguments, and the package variables that the reading takes, are together of bulk at most 1048576: NARROWER than '..Said'. Prove '..Said' where nothing that the law and all that it calls make is longer than what came in: it says more and counts as full. Else prove '..UptoSaid'. A law counts once. -/
mutual
def uptoBulk {H : Type} : DataW H → Nat
  | .lit (.string bytes) => bytes.length + 1
  | .lit _ => 1
  | .nil => 1
  | .ptr d => uptoBulk d + 1
  | .slice elems spare => uptoBulkAll elems + uptoBulkAll spare + 1
  | .agg parts => uptoBulkAll parts + 1
  | .iface _ d => uptoBulk d + 1
  | .map entries => uptoBulkEntries entries + 1
  | .held _ => 1
def uptoBulkAll {H : Type} : List (DataW H) → Nat
  | [] => 0
  | d :: r => uptoBulk d + uptoBulkAll r
def uptoBulkEntries {H : Type} : List (Lit × DataW H) → Nat
  | [] => 0
  | x :: r => uptoBulkEntry x + uptoBulkEntries r
def uptoBulkEntry {H : Type} : Lit × DataW H → Nat
  | (.string bytes, d) => bytes.length + uptoBulk d + 1
  | (_, d) => uptoBulk d + 1
 end
def uptoSmall : (H : Type) → List (DataW H) → Bool := fun _ ds => decide (uptoBulkAll ds ≤ 1048576)
def OpenSpec.upto (s : _root_.Go.ChangeSpec) : _root_.Go.OpenSpec := { _root_.Go.OpenSpec.ofChange s with cond := some uptoSmall }

/-- 'turretlaw02.DropRigs', WHERE WHAT IT READS IS OF BULK AT MOST 1048576: true; the input reads as it did. -/
def dropRigsUptoRow : OpenClaim := { program := "ytillboceclhoeaa", sum := "ce08d87216d4470d72410e6b3afdd1c04ee1ea4e52594679ec8bb3e62e24100d", func := "turret/turretlaw02.DropRigs", spec := "dropRigs", unfollowed := true, recurses := true, apart := false, narrowed := true }
def DropRigsUptoSaid : Prop := dropRigsUptoRow.holds Try.pinned (OpenSpec.upto dropRigsSpec)

/-- 'turretlaw02.DropGoes', WHERE WHAT IT READS IS OF BULK AT MOST 1048576: true; the input reads as it did. -/
def dropGoesUptoRow : OpenClaim := { program := "ytillboceclhoeaa", sum := "ce08d87216d4470d72410e6b3afdd1c04ee1ea4e52594679ec8bb3e62e24100d", func := "turret/turretlaw02.DropGoes", spec := "dropGoes", unfollowed := true, recurses := true, apart := false, narrowed := true }
def DropGoesUptoSaid : Prop := dropGoesUptoRow.holds Try.pinned (OpenSpec.upto dropGoesSpec)

/-- 'turretlaw02.DropLefts', WHERE WHAT IT READS IS OF BULK AT MOST 1048576: true; the input reads as it did. -/
def dropLeftsUptoRow : OpenClaim := { program := "ytillboceclhoeaa", sum := "ce08d87216d4470d72410e6b3afdd1c04ee1ea4e52594679ec8bb3e62e24100d", func := "turret/turretlaw02.DropLefts", spec := "dropLefts", unfollowed := true, recurses := true, apart := false, narrowed := true }
def DropLeftsUptoSaid : Prop := dropLeftsUptoRow.holds Try.pinned (OpenSpec.upto dropLeftsSpec)

/-- 'turretlaw02.DropWorsts', WHERE WHAT IT READS IS OF BULK AT MOST 1048576: true; the input reads as it did. -/
def dropWorstsUptoRow : OpenClaim := { program := "ytillboceclhoeaa", sum := "ce08d87216d4470d72410e6b3afdd1c04ee1ea4e52594679ec8bb3e62e24100d", func := "turret/turretlaw02.DropWorsts", spec := "dropWorsts", unfollowed := true, recurses := true, apart := false, narrowed := true }
def DropWorstsUptoSaid : Prop := dropWorstsUptoRow.holds Try.pinned (OpenSpec.upto dropWorstsSpec)

/-- 'turretlaw02.DropRounds', WHERE WHAT IT READS IS OF BULK AT MOST 1048576: true; the input reads as it did. -/
def dropRoundsUptoRow : OpenClaim := { program := "ytillboceclhoeaa", sum := "ce08d87216d4470d72410e6b3afdd1c04ee1ea4e52594679ec8bb3e62e24100d", func := "turret/turretlaw02.DropRounds", spec := "dropRounds", unfollowed := true, recurses := true, apart := false, narrowed := true }
def DropRoundsUptoSaid : Prop := dropRoundsUptoRow.holds Try.pinned (OpenSpec.upto dropRoundsSpec)

/-- 'turretlaw02.DropTruths', WHERE WHAT IT READS IS OF BULK AT MOST 1048576: true; the input reads as it did. -/
def dropTruthsUptoRow : OpenClaim := { program := "ytillboceclhoeaa", sum := "ce08d87216d4470d72410e6b3afdd1c04ee1ea4e52594679ec8bb3e62e24100d", func := "turret/turretlaw02.DropTruths", spec := "dropTruths", unfollowed := true, recurses := true, apart := false, narrowed := true }
def DropTruthsUptoSaid : Prop := dropTruthsUptoRow.holds Try.pinned (OpenSpec.upto dropTruthsSpec)

/-- 'turretlaw02.DropEnds', WHERE WHAT IT READS IS OF BULK AT MOST 1048576: true; the input reads as it did. -/
def dropEndsUptoRow : OpenClaim := { program := "ytillboceclhoeaa", sum := "ce08d87216d4470d72410e6b3afdd1c04ee1ea4e52594679ec8bb3e62e24100d", func := "turret/turretlaw02.DropEnds", spec := "dropEnds", unfollowed := true, recurses := true, apart := false, narrowed := true }
def DropEndsUptoSaid : Prop := dropEndsUptoRow.holds Try.pinned (OpenSpec.upto dropEndsSpec)

/-- 'turretlaw02.DropMore', WHERE WHAT IT READS IS OF BULK AT MOST 1048576: true; the input reads as it did. -/
def dropMoreUptoRow : OpenClaim := { program := "ytillboceclhoeaa", sum := "ce08d87216d4470d72410e6b3afdd1c04ee1ea4e52594679ec8bb3e62e24100d", func := "turret/turretlaw02.DropMore", spec := "dropMore", unfollowed := true, recurses := true, apart := false, narrowed := true }
def DropMoreUptoSaid : Prop := dropMoreUptoRow.holds Try.pinned (OpenSpec.upto dropMoreSpec)

/-- 'turretlaw02.DropForever', WHERE WHAT IT READS IS OF BULK AT MOST 1048576: true; the input reads as it did. -/
def dropForeverUptoRow : OpenClaim := { program := "ytillboceclhoeaa", sum := "ce08d87216d4470d72410e6b3afdd1c04ee1ea4e52594679ec8bb3e62e24100d", func := "turret/turretlaw02.DropForever", spec := "dropForever", unfollowed := true, recurses := true, apart := false, narrowed := true }
def DropForeverUptoSaid : Prop := dropForeverUptoRow.holds Try.pinned (OpenSpec.upto dropForeverSpec)

/-- 'turretlaw02.DropFewest', WHERE WHAT IT READS IS OF BULK AT MOST 1048576: true; the input reads as it did. -/
def dropFewestUptoRow : OpenClaim := { program := "ytillboceclhoeaa", sum := "ce08d87216d4470d72410e6b3afdd1c04ee1ea4e52594679ec8bb3e62e24100d", func := "turret/turretlaw02.DropFewest", spec := "dropFewest", unfollowed := true, recurses := true, apart := false, narrowed := true }
def DropFewestUptoSaid : Prop := dropFewestUptoRow.holds Try.pinned (OpenSpec.upto dropFewestSpec)

/-- 'turrettop.TopTrainDrop', WHERE WHAT IT READS IS OF BULK AT MOST 1048576: true; the input reads as it did. -/
def topTrainDropUptoRow : OpenClaim := { program := "ytillboceclhoeaa", sum := "ce08d87216d4470d72410e6b3afdd1c04ee1ea4e52594679ec8bb3e62e24100d", func := "turret/turrettop.TopTrainDrop", spec := "topTrainDrop", unfollowed := true, recurses := true, apart := false, narrowed := true }
def TopTrainDropUptoSaid : Prop := topTrainDropUptoRow.holds Try.pinned (OpenSpec.upto topTrainDropSpec)

end Rows
end Go.Proofs.Ytillboceclhoeaa
