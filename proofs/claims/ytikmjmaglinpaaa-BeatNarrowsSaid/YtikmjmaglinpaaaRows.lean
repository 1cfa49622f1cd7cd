/-
  No cell of these rows narrows 'for every input' (looked for: loops, veiled, ifaces, maps, wideKeys, modest, calm, conditions, laid).
  DERIVED. THE GIVEN ROWS OF THIS SEAT. 3 by the template 'for every input the law returns true; each argument reads behind the call as it read before'; 0 by the template 'total and deterministic' (their statements: YtikmjmaglinpaaaTotals.lean).
  GIVEN WITH THE SEED: the statements are not yours to turn. If you find one false, say at which input.
  Laid BY PROGRAM, IN A SANDBOX (cutbox-rows.mjs): the forced cells as the released guide's own fill.sh prints them over the translation 0b882e51f73f7c16… (all of the seat's roots in one cut). By AI agents, Wed Nov 11 2026. No macro, syntax, notation, axiom, sorry.
-/
import Derived.Test.YtikmjmaglinpaaaChecked
import GoSem.Claim
import GoSem.ClaimJoined
import GoSem.ClaimMapViews
import Derived.JoinedTies
import Derived.KernelRfl
namespace Go.Proofs.Ytikmjmaglinpaaa
/- THE CELL 'sum', in the pinned program and in every row, IS THE sha256 OF THE DUMP (.gsa) THAT YtikmjmaglinpaaaProg.lean LOADS. Nothing in Lean hashes anything: it is a label: what it is worth is what the hold of that sum in a sandbox is worth. -/
noncomputable def Try.pinned : Pinned := { name := "ytikmjmaglinpaaa", sum := "0b882e51f73f7c16ba141d2375ba48fc92327d79dc8ecc0ccf6ca22c24e12edf", checked := Try.checked }
namespace Rows
def none {H : Type} : Left H := { results := [], args := [] }

/-- 'turretlaw03.BeatNarrows': WHATEVER THE INPUT: true; the input reads as it did. -/
def beatNarrowsSpec : ChangeSpec := { name := "beatNarrows", fn := fun _ => fun
  | [d1, d2, d3] => { results := [.lit (.bool true)], args := [d1, d2, d3] }
  | _ => none }
def beatNarrowsRow : OpenClaim := { program := "ytikmjmaglinpaaa", sum := "0b882e51f73f7c16ba141d2375ba48fc92327d79dc8ecc0ccf6ca22c24e12edf", func := "turret/turretlaw03.BeatNarrows", spec := "beatNarrows", unfollowed := true, recurses := true, apart := false }
def BeatNarrowsSaid : Prop := beatNarrowsRow.holds Try.pinned (OpenSpec.ofChange beatNarrowsSpec)

/-- ITS FALSE NEIGHBOUR: 'it returns false'. Refute it at one input. -/
def beatNarrowsWrong : ChangeSpec := { name := "beatNarrows", fn := fun _ => fun
  | [d1, d2, d3] => { results := [.lit (.bool false)], args := [d1, d2, d3] }
  | _ => none }
def BeatNarrowsWrongFalsely : Prop := beatNarrowsRow.holds Try.pinned (OpenSpec.ofChange beatNarrowsWrong)

/-- 'turretlaw03.BeatMoves': WHATEVER THE INPUT: true; the input reads as it did. -/
def beatMovesSpec : ChangeSpec := { name := "beatMoves", fn := fun _ => fun
  | [d] => { results := [.lit (.bool true)], args := [d] }
  | _ => none }
def beatMovesRow : OpenClaim := { program := "ytikmjmaglinpaaa", sum := "0b882e51f73f7c16ba141d2375ba48fc92327d79dc8ecc0ccf6ca22c24e12edf", func := "turret/turretlaw03.BeatMoves", spec := "beatMoves", unfollowed := true, recurses := true, apart := false }
def BeatMovesSaid : Prop := beatMovesRow.holds Try.pinned (OpenSpec.ofChange beatMovesSpec)

/-- ITS FALSE NEIGHBOUR: 'it returns false'. Refute it at one input. -/
def beatMovesWrong : ChangeSpec := { name := "beatMoves", fn := fun _ => fun
  | [d] => { results := [.lit (.bool false)], args := [d] }
  | _ => none }
def BeatMovesWrongFalsely : Prop := beatMovesRow.holds Try.pinned (OpenSpec.ofChange beatMovesWrong)

/-- 'turretlaw03.BeatApart': WHATEVER THE INPUT: true; the input reads as it did. -/
def beatApartSpec : ChangeSpec := { name := "beatApart", fn := fun _ => fun
  | [d1, d2, d3] => { results := [.lit (.bool true)], args := [d1, d2, d3] }
  | _ => none }
def beatApartRow : OpenClaim := { program := "ytikmjmaglinpaaa", sum := "0b882e51f73f7c16ba141d2375ba48fc92327d79dc8ecc0ccf6ca22c24e12edf", func := "turret/turretlaw03.BeatApart", spec := "beatApart", unfollowed := true, recurses := true, apart := false }
def BeatApartSaid : Prop := beatApartRow.holds Try.pinned (OpenSpec.ofChange beatApartSpec)

/-- ITS FALSE NEIGHBOUR: 'it returns false'. Refute it at one input. -/
def beatApartWrong : ChangeSpec := { name := "beatApart", fn := fun _ => fun
  | [d1, d2, d3] => { results := [.lit (.bool false)], args := [d1, d2, d3] }
  | _ => none }
def BeatApartWrongFalsely : Prop := beatApartRow.holds Try.pinned (OpenSpec.ofChange beatApartWrong)

/- THE SECOND FORM. 'bulk': how many values and letters a reading holds, each counted each time it is reached (what is shared counts as often as it is met; a slice's spare places count too). A statement '..UptoSaid' is the law's where the arguments, and the package variables that the reading takes, are together of bulk at most 1048576: NARROWER than '..Said'. Prove '..Said' where nothing that the law and all that it calls make is longer than what came in: it says more and counts as full. Else prove '..UptoSaid'. A law counts once. -/
mutual
def uptoBulk {H : Type} : DataW H → Nat
  | .lit (.string bytes) => bytes.length + 1
  | .lit _ => 1
  | .nil => 1
  | .ptr d => uptoBulk d + 1
  | .slice elems spare => uptoBulkAll elems + uptoBulkAll spare + 1
  | .agg parts => uptoBulkAll parts + 1
  | .iface _ d => uptoBulk d + 1
  | .map entries => uptoBulkEntries entries + 1
  | .held _ => 1
def uptoBulkAll {H : Type} : List (DataW H) → Nat
  | [] => 0
  | d :: r => uptoBulk d + uptoBulkAll r
def uptoBulkEntries {H : Type} : List (Lit × DataW H) → Nat
  | [] => 0
  | x :: r => uptoBulkEntry x + uptoBulkEntries r
def uptoBulkEntry {H : Type} : Lit × DataW H → Nat
  | (.string bytes, d) => bytes.length + uptoBulk d + 1
  | (_, d) => uptoBulk d + 1
 end
def uptoSmall : (H : Type) → List (DataW H) → Bool := fun _ ds => decide (uptoBulkAll ds ≤ 1048576)
def OpenSpec.upto (s : _root_.Go.ChangeSpec) : _root_.Go.OpenSpec := { _root_.Go.OpenSpec.ofChange s with cond := some uptoSmall }

/-- 'turretlaw03.BeatNarrows', WHERE WHAT IT READS IS OF BULK AT MOST 1048576: true; the input reads as it did. -/
def beatNarrowsUptoRow : OpenClaim := { program := "ytikmjmaglinpaaa", sum := "0b882e51f73f7c16ba141d2375ba48fc92327d79dc8ecc0ccf6ca22c24e12edf", func := "turret/turretlaw03.BeatNarrows", spec := "beatNarrows", unfollowed := true, recurses := true, apart := false, narrowed := true }
def BeatNarrowsUptoSaid : Prop := beatNarrowsUptoRow.holds Try.pinned (OpenSpec.upto beatNarrowsSpec)

/-- 'turretlaw03.BeatMoves', WHERE WHAT IT READS IS OF BULK AT MOST 1048576: true; the input reads as it did. -/
def beatMovesUptoRow : OpenClaim := { program := "ytikmjmaglinpaaa", sum := "0b882e51f73f7c16ba141d2375ba48fc92327d79dc8ecc0ccf6ca22c24e12edf", func := "turret/turretlaw03.BeatMoves", spec := "beatMoves", unfollowed := true, recurses := true, apart := false, narrowed := true }
def BeatMovesUptoSaid : Prop := beatMovesUptoRow.holds Try.pinned (OpenSpec.upto beatMovesSpec)

/-- 'turretlaw03.BeatApart', WHERE WHAT IT READS IS OF BULK AT MOST 1048576: true; the input reads as it did. -/
def beatApartUptoRow : OpenClaim := { program := "ytikmjmaglinpaaa", sum := "0b882e51f73f7c16ba141d2375ba48fc92327d79dc8ecc0ccf6ca22c24e12edf", func := "turret/turretlaw03.BeatApart", spec := "beatApart", unfollowed := true, recurses := true, apart := false, narrowed := true }
def BeatApartUptoSaid : Prop := beatApartUptoRow.holds Try.pinned (OpenSpec.upto beatApartSpec)

end Rows
end Go.Proofs.Ytikmjmaglinpaaa
