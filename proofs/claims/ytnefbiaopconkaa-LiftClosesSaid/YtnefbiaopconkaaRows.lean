/-
  No cell of these rows narrows 'for every input' (looked for: loops, veiled, ifaces, maps, wideKeys, modest, calm, conditions, laid).
  DERIVED. THE GIVEN ROWS OF THIS SEAT. 12 by the template 'for every input the law returns true; each argument reads behind the call as it read before'; 0 by the template 'total and deterministic' (their statements: YtnefbiaopconkaaTotals.lean).
  GIVEN WITH THE SEED: the statements are not yours to turn. If you find one false, say at which input.
  Laid BY PROGRAM, IN A SANDBOX (cutbox-rows.mjs): the forced cells as the released guide's own fill.sh prints them over the translation c5f0e57ec3f6f9b8… (all of the seat's roots in one cut). By AI agents, Wed Nov 11 2026. No macro, syntax, notation, axiom, sorry.
-/
import Derived.Test.YtnefbiaopconkaaChecked
import GoSem.Claim
import GoSem.ClaimJoined
import GoSem.ClaimMapViews
import Derived.JoinedTies
import Derived.KernelRfl
namespace Go.Proofs.Ytnefbiaopconkaa
/- THE CELL 'sum', in the pinned program and in every row, IS THE sha256 OF THE DUMP (.gsa) THAT YtnefbiaopconkaaProg.lean LOADS. Nothing in Lean hashes anything: it is a label: what it is worth is what the hold of that sum in a sandbox is worth. -/
noncomputable def Try.pinned : Pinned := { name := "ytnefbiaopconkaa", sum := "c5f0e57ec3f6f9b85fda71cafb55779abcebd7765e1c532359e7d7a7db05e14d", checked := Try.checked }
namespace Rows
def none {H : Type} : Left H := { results := [], args := [] }

/-- 'newellaw05.LiftSides': WHATEVER THE INPUT: true; the input reads as it did. -/
def liftSidesSpec : ChangeSpec := { name := "liftSides", fn := fun _ => fun
  | [d1, d2] => { results := [.lit (.bool true)], args := [d1, d2] }
  | _ => none }
def liftSidesRow : OpenClaim := { program := "ytnefbiaopconkaa", sum := "c5f0e57ec3f6f9b85fda71cafb55779abcebd7765e1c532359e7d7a7db05e14d", func := "newel/newellaw05.LiftSides", spec := "liftSides", unfollowed := true, recurses := true, apart := false }
def LiftSidesSaid : Prop := liftSidesRow.holds Try.pinned (OpenSpec.ofChange liftSidesSpec)

/-- ITS FALSE NEIGHBOUR: 'it returns false'. Refute it at one input. -/
def liftSidesWrong : ChangeSpec := { name := "liftSides", fn := fun _ => fun
  | [d1, d2] => { results := [.lit (.bool false)], args := [d1, d2] }
  | _ => none }
def LiftSidesWrongFalsely : Prop := liftSidesRow.holds Try.pinned (OpenSpec.ofChange liftSidesWrong)

/-- 'newellaw05.LiftGrips': WHATEVER THE INPUT: true; the input reads as it did. -/
def liftGripsSpec : ChangeSpec := { name := "liftGrips", fn := fun _ => fun
  | [d1, d2] => { results := [.lit (.bool true)], args := [d1, d2] }
  | _ => none }
def liftGripsRow : OpenClaim := { program := "ytnefbiaopconkaa", sum := "c5f0e57ec3f6f9b85fda71cafb55779abcebd7765e1c532359e7d7a7db05e14d", func := "newel/newellaw05.LiftGrips", spec := "liftGrips", unfollowed := true, recurses := true, apart := false }
def LiftGripsSaid : Prop := liftGripsRow.holds Try.pinned (OpenSpec.ofChange liftGripsSpec)

/-- ITS FALSE NEIGHBOUR: 'it returns false'. Refute it at one input. -/
def liftGripsWrong : ChangeSpec := { name := "liftGrips", fn := fun _ => fun
  | [d1, d2] => { results := [.lit (.bool false)], args := [d1, d2] }
  | _ => none }
def LiftGripsWrongFalsely : Prop := liftGripsRow.holds Try.pinned (OpenSpec.ofChange liftGripsWrong)

/-- 'newellaw05.LiftLevels': WHATEVER THE INPUT: true; the input reads as it did. -/
def liftLevelsSpec : ChangeSpec := { name := "liftLevels", fn := fun _ => fun
  | [d1, d2, d3] => { results := [.lit (.bool true)], args := [d1, d2, d3] }
  | _ => none }
def liftLevelsRow : OpenClaim := { program := "ytnefbiaopconkaa", sum := "c5f0e57ec3f6f9b85fda71cafb55779abcebd7765e1c532359e7d7a7db05e14d", func := "newel/newellaw05.LiftLevels", spec := "liftLevels", unfollowed := true, recurses := true, apart := false }
def LiftLevelsSaid : Prop := liftLevelsRow.holds Try.pinned (OpenSpec.ofChange liftLevelsSpec)

/-- ITS FALSE NEIGHBOUR: 'it returns false'. Refute it at one input. -/
def liftLevelsWrong : ChangeSpec := { name := "liftLevels", fn := fun _ => fun
  | [d1, d2, d3] => { results := [.lit (.bool false)], args := [d1, d2, d3] }
  | _ => none }
def LiftLevelsWrongFalsely : Prop := liftLevelsRow.holds Try.pinned (OpenSpec.ofChange liftLevelsWrong)

/-- 'newellaw05.LiftTrips': WHATEVER THE INPUT: true; the input reads as it did. -/
def liftTripsSpec : ChangeSpec := { name := "liftTrips", fn := fun _ => fun
  | [d1, d2] => { results := [.lit (.bool true)], args := [d1, d2] }
  | _ => none }
def liftTripsRow : OpenClaim := { program := "ytnefbiaopconkaa", sum := "c5f0e57ec3f6f9b85fda71cafb55779abcebd7765e1c532359e7d7a7db05e14d", func := "newel/newellaw05.LiftTrips", spec := "liftTrips", unfollowed := true, recurses := true, apart := false }
def LiftTripsSaid : Prop := liftTripsRow.holds Try.pinned (OpenSpec.ofChange liftTripsSpec)

/-- ITS FALSE NEIGHBOUR: 'it returns false'. Refute it at one input. -/
def liftTripsWrong : ChangeSpec := { name := "liftTrips", fn := fun _ => fun
  | [d1, d2] => { results := [.lit (.bool false)], args := [d1, d2] }
  | _ => none }
def LiftTripsWrongFalsely : Prop := liftTripsRow.holds Try.pinned (OpenSpec.ofChange liftTripsWrong)

/-- 'newellaw05.LiftDoors': WHATEVER THE INPUT: true; the input reads as it did. -/
def liftDoorsSpec : ChangeSpec := { name := "liftDoors", fn := fun _ => fun
  | [d1, d2, d3] => { results := [.lit (.bool true)], args := [d1, d2, d3] }
  | _ => none }
def liftDoorsRow : OpenClaim := { program := "ytnefbiaopconkaa", sum := "c5f0e57ec3f6f9b85fda71cafb55779abcebd7765e1c532359e7d7a7db05e14d", func := "newel/newellaw05.LiftDoors", spec := "liftDoors", unfollowed := true, recurses := true, apart := false }
def LiftDoorsSaid : Prop := liftDoorsRow.holds Try.pinned (OpenSpec.ofChange liftDoorsSpec)

/-- ITS FALSE NEIGHBOUR: 'it returns false'. Refute it at one input. -/
def liftDoorsWrong : ChangeSpec := { name := "liftDoors", fn := fun _ => fun
  | [d1, d2, d3] => { results := [.lit (.bool false)], args := [d1, d2, d3] }
  | _ => none }
def LiftDoorsWrongFalsely : Prop := liftDoorsRow.holds Try.pinned (OpenSpec.ofChange liftDoorsWrong)

/-- 'newellaw05.LiftTurns': WHATEVER THE INPUT: true; the input reads as it did. -/
def liftTurnsSpec : ChangeSpec := { name := "liftTurns", fn := fun _ => fun
  | [d1, d2, d3] => { results := [.lit (.bool true)], args := [d1, d2, d3] }
  | _ => none }
def liftTurnsRow : OpenClaim := { program := "ytnefbiaopconkaa", sum := "c5f0e57ec3f6f9b85fda71cafb55779abcebd7765e1c532359e7d7a7db05e14d", func := "newel/newellaw05.LiftTurns", spec := "liftTurns", unfollowed := true, recurses := true, apart := false }
def LiftTurnsSaid : Prop := liftTurnsRow.holds Try.pinned (OpenSpec.ofChange liftTurnsSpec)

/-- ITS FALSE NEIGHBOUR: 'it returns false'. Refute it at one input. -/
def liftTurnsWrong : ChangeSpec := { name := "liftTurns", fn := fun _ => fun
  | [d1, d2, d3] => { results := [.lit (.bool false)], args := [d1, d2, d3] }
  | _ => none }
def LiftTurnsWrongFalsely : Prop := liftTurnsRow.holds Try.pinned (OpenSpec.ofChange liftTurnsWrong)

/-- 'newellaw05.LiftHolds': WHATEVER THE INPUT: true; the input reads as it did. -/
def liftHoldsSpec : ChangeSpec := { name := "liftHolds", fn := fun _ => fun
  | [d1, d2, d3] => { results := [.lit (.bool true)], args := [d1, d2, d3] }
  | _ => none }
def liftHoldsRow : OpenClaim := { program := "ytnefbiaopconkaa", sum := "c5f0e57ec3f6f9b85fda71cafb55779abcebd7765e1c532359e7d7a7db05e14d", func := "newel/newellaw05.LiftHolds", spec := "liftHolds", unfollowed := true, recurses := true, apart := false }
def LiftHoldsSaid : Prop := liftHoldsRow.holds Try.pinned (OpenSpec.ofChange liftHoldsSpec)

/-- ITS FALSE NEIGHBOUR: 'it returns false'. Refute it at one input. -/
def liftHoldsWrong : ChangeSpec := { name := "liftHolds", fn := fun _ => fun
  | [d1, d2, d3] => { results := [.lit (.bool false)], args := [d1, d2, d3] }
  | _ => none }
def LiftHoldsWrongFalsely : Prop := liftHoldsRow.holds Try.pinned (OpenSpec.ofChange liftHoldsWrong)

/-- 'newellaw05.LiftBalanced': WHATEVER THE INPUT: true; the input reads as it did. -/
def liftBalancedSpec : ChangeSpec := { name := "liftBalanced", fn := fun _ => fun
  | [d1, d2, d3] => { results := [.lit (.bool true)], args := [d1, d2, d3] }
  | _ => none }
def liftBalancedRow : OpenClaim := { program := "ytnefbiaopconkaa", sum := "c5f0e57ec3f6f9b85fda71cafb55779abcebd7765e1c532359e7d7a7db05e14d", func := "newel/newellaw05.LiftBalanced", spec := "liftBalanced", unfollowed := true, recurses := true, apart := false }
def LiftBalancedSaid : Prop := liftBalancedRow.holds Try.pinned (OpenSpec.ofChange liftBalancedSpec)

/-- ITS FALSE NEIGHBOUR: 'it returns false'. Refute it at one input. -/
def liftBalancedWrong : ChangeSpec := { name := "liftBalanced", fn := fun _ => fun
  | [d1, d2, d3] => { results := [.lit (.bool false)], args := [d1, d2, d3] }
  | _ => none }
def LiftBalancedWrongFalsely : Prop := liftBalancedRow.holds Try.pinned (OpenSpec.ofChange liftBalancedWrong)

/-- 'newellaw05.LiftLevel': WHATEVER THE INPUT: true; the input reads as it did. -/
def liftLevelSpec : ChangeSpec := { name := "liftLevel", fn := fun _ => fun
  | [d1, d2, d3] => { results := [.lit (.bool true)], args := [d1, d2, d3] }
  | _ => none }
def liftLevelRow : OpenClaim := { program := "ytnefbiaopconkaa", sum := "c5f0e57ec3f6f9b85fda71cafb55779abcebd7765e1c532359e7d7a7db05e14d", func := "newel/newellaw05.LiftLevel", spec := "liftLevel", unfollowed := true, recurses := true, apart := false }
def LiftLevelSaid : Prop := liftLevelRow.holds Try.pinned (OpenSpec.ofChange liftLevelSpec)

/-- ITS FALSE NEIGHBOUR: 'it returns false'. Refute it at one input. -/
def liftLevelWrong : ChangeSpec := { name := "liftLevel", fn := fun _ => fun
  | [d1, d2, d3] => { results := [.lit (.bool false)], args := [d1, d2, d3] }
  | _ => none }
def LiftLevelWrongFalsely : Prop := liftLevelRow.holds Try.pinned (OpenSpec.ofChange liftLevelWrong)

/-- 'newellaw05.LiftQuick': WHATEVER THE INPUT: true; the input reads as it did. -/
def liftQuickSpec : ChangeSpec := { name := "liftQuick", fn := fun _ => fun
  | [d1, d2, d3] => { results := [.lit (.bool true)], args := [d1, d2, d3] }
  | _ => none }
def liftQuickRow : OpenClaim := { program := "ytnefbiaopconkaa", sum := "c5f0e57ec3f6f9b85fda71cafb55779abcebd7765e1c532359e7d7a7db05e14d", func := "newel/newellaw05.LiftQuick", spec := "liftQuick", unfollowed := true, recurses := true, apart := false }
def LiftQuickSaid : Prop := liftQuickRow.holds Try.pinned (OpenSpec.ofChange liftQuickSpec)

/-- ITS FALSE NEIGHBOUR: 'it returns false'. Refute it at one input. -/
def liftQuickWrong : ChangeSpec := { name := "liftQuick", fn := fun _ => fun
  | [d1, d2, d3] => { results := [.lit (.bool false)], args := [d1, d2, d3] }
  | _ => none }
def LiftQuickWrongFalsely : Prop := liftQuickRow.holds Try.pinned (OpenSpec.ofChange liftQuickWrong)

/-- 'newellaw05.LiftFar': WHATEVER THE INPUT: true; the input reads as it did. -/
def liftFarSpec : ChangeSpec := { name := "liftFar", fn := fun _ => fun
  | [d1, d2, d3] => { results := [.lit (.bool true)], args := [d1, d2, d3] }
  | _ => none }
def liftFarRow : OpenClaim := { program := "ytnefbiaopconkaa", sum := "c5f0e57ec3f6f9b85fda71cafb55779abcebd7765e1c532359e7d7a7db05e14d", func := "newel/newellaw05.LiftFar", spec := "liftFar", unfollowed := true, recurses := true, apart := false }
def LiftFarSaid : Prop := liftFarRow.holds Try.pinned (OpenSpec.ofChange liftFarSpec)

/-- ITS FALSE NEIGHBOUR: 'it returns false'. Refute it at one input. -/
def liftFarWrong : ChangeSpec := { name := "liftFar", fn := fun _ => fun
  | [d1, d2, d3] => { results := [.lit (.bool false)], args := [d1, d2, d3] }
  | _ => none }
def LiftFarWrongFalsely : Prop := liftFarRow.holds Try.pinned (OpenSpec.ofChange liftFarWrong)

/-- 'newellaw05.LiftCloses': WHATEVER THE INPUT: true; the input reads as it did. -/
def liftClosesSpec : ChangeSpec := { name := "liftCloses", fn := fun _ => fun
  | [d1, d2, d3] => { results := [.lit (.bool true)], args := [d1, d2, d3] }
  | _ => none }
def liftClosesRow : OpenClaim := { program := "ytnefbiaopconkaa", sum := "c5f0e57ec3f6f9b85fda71cafb55779abcebd7765e1c532359e7d7a7db05e14d", func := "newel/newellaw05.LiftCloses", spec := "liftCloses", unfollowed := true, recurses := true, apart := false }
def LiftClosesSaid : Prop := liftClosesRow.holds Try.pinned (OpenSpec.ofChange liftClosesSpec)

/-- ITS FALSE NEIGHBOUR: 'it returns false'. Refute it at one input. -/
def liftClosesWrong : ChangeSpec := { name := "liftCloses", fn := fun _ => fun
  | [d1, d2, d3] => { results := [.lit (.bool false)], args := [d1, d2, d3] }
  | _ => none }
def LiftClosesWrongFalsely : Prop := liftClosesRow.holds Try.pinned (OpenSpec.ofChange liftClosesWrong)

/- THE SECOND FORM. 'bulk': how many values and letters a reading holds, each counted each time it is reached (what is shared counts as often as it is met; a slice's spare places count too). A statement '..UptoSaid' is the law's where the arguments, and the package variables that the reading takes, are together of bulk at most 1048576: NARROWER than '..Said'. Prove '..Said' where nothing that the law and all that it calls make is longer than what came in: it says more and counts as full. Else prove '..UptoSaid'. A law counts once. -/
mutual
def uptoBulk {H : Type} : DataW H → Nat
  | .lit (.string bytes) => bytes.length + 1
  | .lit _ => 1
  | .nil => 1
  | .ptr d => uptoBulk d + 1
  | .slice elems spare => uptoBulkAll elems + uptoBulkAll spare + 1
  | .agg parts => uptoBulkAll parts + 1
  | .iface _ d => uptoBulk d + 1
  | .map entries => uptoBulkEntries entries + 1
  | .held _ => 1
def uptoBulkAll {H : Type} : List (DataW H) → Nat
  | [] => 0
  | d :: r => uptoBulk d + uptoBulkAll r
def uptoBulkEntries {H : Type} : List (Lit × DataW H) → Nat
  | [] => 0
  | x :: r => uptoBulkEntry x + uptoBulkEntries r
def uptoBulkEntry {H : Type} : Lit × DataW H → Nat
  | (.string bytes, d) => bytes.length + uptoBulk d + 1
  | (_, d) => uptoBulk d + 1
 end
def uptoSmall : (H : Type) → List (DataW H) → Bool := fun _ ds => decide (uptoBulkAll ds ≤ 1048576)
def OpenSpec.upto (s : _root_.Go.ChangeSpec) : _root_.Go.OpenSpec := { _root_.Go.OpenSpec.ofChange s with cond := some uptoSmall }

/-- 'newellaw05.LiftSides', WHERE WHAT IT READS IS OF BULK AT MOST 1048576: true; the input reads as it did. -/
def liftSidesUptoRow : OpenClaim := { program := "ytnefbiaopconkaa", sum := "c5f0e57ec3f6f9b85fda71cafb55779abcebd7765e1c532359e7d7a7db05e14d", func := "newel/newellaw05.LiftSides", spec := "liftSides", unfollowed := true, recurses := true, apart := false, narrowed := true }
def LiftSidesUptoSaid : Prop := liftSidesUptoRow.holds Try.pinned (OpenSpec.upto liftSidesSpec)

/-- 'newellaw05.LiftGrips', WHERE WHAT IT READS IS OF BULK AT MOST 1048576: true; the input reads as it did. -/
def liftGripsUptoRow : OpenClaim := { program := "ytnefbiaopconkaa", sum := "c5f0e57ec3f6f9b85fda71cafb55779abcebd7765e1c532359e7d7a7db05e14d", func := "newel/newellaw05.LiftGrips", spec := "liftGrips", unfollowed := true, recurses := true, apart := false, narrowed := true }
def LiftGripsUptoSaid : Prop := liftGripsUptoRow.holds Try.pinned (OpenSpec.upto liftGripsSpec)

/-- 'newellaw05.LiftLevels', WHERE WHAT IT READS IS OF BULK AT MOST 1048576: true; the input reads as it did. -/
def liftLevelsUptoRow : OpenClaim := { program := "ytnefbiaopconkaa", sum := "c5f0e57ec3f6f9b85fda71cafb55779abcebd7765e1c532359e7d7a7db05e14d", func := "newel/newellaw05.LiftLevels", spec := "liftLevels", unfollowed := true, recurses := true, apart := false, narrowed := true }
def LiftLevelsUptoSaid : Prop := liftLevelsUptoRow.holds Try.pinned (OpenSpec.upto liftLevelsSpec)

/-- 'newellaw05.LiftTrips', WHERE WHAT IT READS IS OF BULK AT MOST 1048576: true; the input reads as it did. -/
def liftTripsUptoRow : OpenClaim := { program := "ytnefbiaopconkaa", sum := "c5f0e57ec3f6f9b85fda71cafb55779abcebd7765e1c532359e7d7a7db05e14d", func := "newel/newellaw05.LiftTrips", spec := "liftTrips", unfollowed := true, recurses := true, apart := false, narrowed := true }
def LiftTripsUptoSaid : Prop := liftTripsUptoRow.holds Try.pinned (OpenSpec.upto liftTripsSpec)

/-- 'newellaw05.LiftDoors', WHERE WHAT IT READS IS OF BULK AT MOST 1048576: true; the input reads as it did. -/
def liftDoorsUptoRow : OpenClaim := { program := "ytnefbiaopconkaa", sum := "c5f0e57ec3f6f9b85fda71cafb55779abcebd7765e1c532359e7d7a7db05e14d", func := "newel/newellaw05.LiftDoors", spec := "liftDoors", unfollowed := true, recurses := true, apart := false, narrowed := true }
def LiftDoorsUptoSaid : Prop := liftDoorsUptoRow.holds Try.pinned (OpenSpec.upto liftDoorsSpec)

/-- 'newellaw05.LiftTurns', WHERE WHAT IT READS IS OF BULK AT MOST 1048576: true; the input reads as it did. -/
def liftTurnsUptoRow : OpenClaim := { program := "ytnefbiaopconkaa", sum := "c5f0e57ec3f6f9b85fda71cafb55779abcebd7765e1c532359e7d7a7db05e14d", func := "newel/newellaw05.LiftTurns", spec := "liftTurns", unfollowed := true, recurses := true, apart := false, narrowed := true }
def LiftTurnsUptoSaid : Prop := liftTurnsUptoRow.holds Try.pinned (OpenSpec.upto liftTurnsSpec)

/-- 'newellaw05.LiftHolds', WHERE WHAT IT READS IS OF BULK AT MOST 1048576: true; the input reads as it did. -/
def liftHoldsUptoRow : OpenClaim := { program := "ytnefbiaopconkaa", sum := "c5f0e57ec3f6f9b85fda71cafb55779abcebd7765e1c532359e7d7a7db05e14d", func := "newel/newellaw05.LiftHolds", spec := "liftHolds", unfollowed := true, recurses := true, apart := false, narrowed := true }
def LiftHoldsUptoSaid : Prop := liftHoldsUptoRow.holds Try.pinned (OpenSpec.upto liftHoldsSpec)

/-- 'newellaw05.LiftBalanced', WHERE WHAT IT READS IS OF BULK AT MOST 1048576: true; the input reads as it did. -/
def liftBalancedUptoRow : OpenClaim := { program := "ytnefbiaopconkaa", sum := "c5f0e57ec3f6f9b85fda71cafb55779abcebd7765e1c532359e7d7a7db05e14d", func := "newel/newellaw05.LiftBalanced", spec := "liftBalanced", unfollowed := true, recurses := true, apart := false, narrowed := true }
def LiftBalancedUptoSaid : Prop := liftBalancedUptoRow.holds Try.pinned (OpenSpec.upto liftBalancedSpec)

/-- 'newellaw05.LiftLevel', WHERE WHAT IT READS IS OF BULK AT MOST 1048576: true; the input reads as it did. -/
def liftLevelUptoRow : OpenClaim := { program := "ytnefbiaopconkaa", sum := "c5f0e57ec3f6f9b85fda71cafb55779abcebd7765e1c532359e7d7a7db05e14d", func := "newel/newellaw05.LiftLevel", spec := "liftLevel", unfollowed := true, recurses := true, apart := false, narrowed := true }
def LiftLevelUptoSaid : Prop := liftLevelUptoRow.holds Try.pinned (OpenSpec.upto liftLevelSpec)

/-- 'newellaw05.LiftQuick', WHERE WHAT IT READS IS OF BULK AT MOST 1048576: true; the input reads as it did. -/
def liftQuickUptoRow : OpenClaim := { program := "ytnefbiaopconkaa", sum := "c5f0e57ec3f6f9b85fda71cafb55779abcebd7765e1c532359e7d7a7db05e14d", func := "newel/newellaw05.LiftQuick", spec := "liftQuick", unfollowed := true, recurses := true, apart := false, narrowed := true }
def LiftQuickUptoSaid : Prop := liftQuickUptoRow.holds Try.pinned (OpenSpec.upto liftQuickSpec)

/-- 'newellaw05.LiftFar', WHERE WHAT IT READS IS OF BULK AT MOST 1048576: true; the input reads as it did. -/
def liftFarUptoRow : OpenClaim := { program := "ytnefbiaopconkaa", sum := "c5f0e57ec3f6f9b85fda71cafb55779abcebd7765e1c532359e7d7a7db05e14d", func := "newel/newellaw05.LiftFar", spec := "liftFar", unfollowed := true, recurses := true, apart := false, narrowed := true }
def LiftFarUptoSaid : Prop := liftFarUptoRow.holds Try.pinned (OpenSpec.upto liftFarSpec)

/-- 'newellaw05.LiftCloses', WHERE WHAT IT READS IS OF BULK AT MOST 1048576: true; the input reads as it did. -/
def liftClosesUptoRow : OpenClaim := { program := "ytnefbiaopconkaa", sum := "c5f0e57ec3f6f9b85fda71cafb55779abcebd7765e1c532359e7d7a7db05e14d", func := "newel/newellaw05.LiftCloses", spec := "liftCloses", unfollowed := true, recurses := true, apart := false, narrowed := true }
def LiftClosesUptoSaid : Prop := liftClosesUptoRow.holds Try.pinned (OpenSpec.upto liftClosesSpec)

end Rows
end Go.Proofs.Ytnefbiaopconkaa
