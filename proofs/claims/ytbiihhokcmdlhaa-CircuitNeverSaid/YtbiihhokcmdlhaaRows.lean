/-
  No cell of these rows narrows 'for every input' (looked for: loops, veiled, ifaces, maps, wideKeys, modest, calm, conditions, laid).
  DERIVED. THE GIVEN ROWS OF THIS SEAT. 15 by the template 'for every input the law returns true; each argument reads behind the call as it read before'; 0 by the template 'total and deterministic' (their statements: YtbiihhokcmdlhaaTotals.lean).
  GIVEN WITH THE SEED: the statements are not yours to turn. If you find one false, say at which input.
  Laid BY PROGRAM, IN A SANDBOX (cutbox-rows.mjs): the forced cells as the released guide's own fill.sh prints them over the translation 6fb30d841180a255… (all of the seat's roots in one cut). By AI agents, Wed Nov 11 2026. No macro, syntax, notation, axiom, sorry.
-/
import Derived.Test.YtbiihhokcmdlhaaChecked
import GoSem.Claim
import GoSem.ClaimJoined
import GoSem.ClaimMapViews
import Derived.JoinedTies
import Derived.KernelRfl
namespace Go.Proofs.Ytbiihhokcmdlhaa
/- THE CELL 'sum', in the pinned program and in every row, IS THE sha256 OF THE DUMP (.gsa) THAT YtbiihhokcmdlhaaProg.lean LOADS. Nothing in Lean hashes anything: it is a label: what it is worth is what the hold of that sum in a sandbox is worth. -/
noncomputable def Try.pinned : Pinned := { name := "ytbiihhokcmdlhaa", sum := "6fb30d841180a2556a3f19c946ecfa1e78cef002e244ca8290a2de1814aacf23", checked := Try.checked }
namespace Rows
def none {H : Type} : Left H := { results := [], args := [] }

/-- 'newellaw03.CircuitRuns': WHATEVER THE INPUT: true; the input reads as it did. -/
def circuitRunsSpec : ChangeSpec := { name := "circuitRuns", fn := fun _ => fun
  | [d1, d2] => { results := [.lit (.bool true)], args := [d1, d2] }
  | _ => none }
def circuitRunsRow : OpenClaim := { program := "ytbiihhokcmdlhaa", sum := "6fb30d841180a2556a3f19c946ecfa1e78cef002e244ca8290a2de1814aacf23", func := "newel/newellaw03.CircuitRuns", spec := "circuitRuns", unfollowed := true, recurses := true, apart := false }
def CircuitRunsSaid : Prop := circuitRunsRow.holds Try.pinned (OpenSpec.ofChange circuitRunsSpec)

/-- ITS FALSE NEIGHBOUR: 'it returns false'. Refute it at one input. -/
def circuitRunsWrong : ChangeSpec := { name := "circuitRuns", fn := fun _ => fun
  | [d1, d2] => { results := [.lit (.bool false)], args := [d1, d2] }
  | _ => none }
def CircuitRunsWrongFalsely : Prop := circuitRunsRow.holds Try.pinned (OpenSpec.ofChange circuitRunsWrong)

/-- 'newellaw03.CircuitDangers': WHATEVER THE INPUT: true; the input reads as it did. -/
def circuitDangersSpec : ChangeSpec := { name := "circuitDangers", fn := fun _ => fun
  | [d1, d2, d3] => { results := [.lit (.bool true)], args := [d1, d2, d3] }
  | _ => none }
def circuitDangersRow : OpenClaim := { program := "ytbiihhokcmdlhaa", sum := "6fb30d841180a2556a3f19c946ecfa1e78cef002e244ca8290a2de1814aacf23", func := "newel/newellaw03.CircuitDangers", spec := "circuitDangers", unfollowed := true, recurses := true, apart := false }
def CircuitDangersSaid : Prop := circuitDangersRow.holds Try.pinned (OpenSpec.ofChange circuitDangersSpec)

/-- ITS FALSE NEIGHBOUR: 'it returns false'. Refute it at one input. -/
def circuitDangersWrong : ChangeSpec := { name := "circuitDangers", fn := fun _ => fun
  | [d1, d2, d3] => { results := [.lit (.bool false)], args := [d1, d2, d3] }
  | _ => none }
def CircuitDangersWrongFalsely : Prop := circuitDangersRow.holds Try.pinned (OpenSpec.ofChange circuitDangersWrong)

/-- 'newellaw03.CircuitTrials': WHATEVER THE INPUT: true; the input reads as it did. -/
def circuitTrialsSpec : ChangeSpec := { name := "circuitTrials", fn := fun _ => fun
  | [d1, d2, d3] => { results := [.lit (.bool true)], args := [d1, d2, d3] }
  | _ => none }
def circuitTrialsRow : OpenClaim := { program := "ytbiihhokcmdlhaa", sum := "6fb30d841180a2556a3f19c946ecfa1e78cef002e244ca8290a2de1814aacf23", func := "newel/newellaw03.CircuitTrials", spec := "circuitTrials", unfollowed := true, recurses := true, apart := false }
def CircuitTrialsSaid : Prop := circuitTrialsRow.holds Try.pinned (OpenSpec.ofChange circuitTrialsSpec)

/-- ITS FALSE NEIGHBOUR: 'it returns false'. Refute it at one input. -/
def circuitTrialsWrong : ChangeSpec := { name := "circuitTrials", fn := fun _ => fun
  | [d1, d2, d3] => { results := [.lit (.bool false)], args := [d1, d2, d3] }
  | _ => none }
def CircuitTrialsWrongFalsely : Prop := circuitTrialsRow.holds Try.pinned (OpenSpec.ofChange circuitTrialsWrong)

/-- 'newellaw03.CircuitRotas': WHATEVER THE INPUT: true; the input reads as it did. -/
def circuitRotasSpec : ChangeSpec := { name := "circuitRotas", fn := fun _ => fun
  | [d1, d2, d3] => { results := [.lit (.bool true)], args := [d1, d2, d3] }
  | _ => none }
def circuitRotasRow : OpenClaim := { program := "ytbiihhokcmdlhaa", sum := "6fb30d841180a2556a3f19c946ecfa1e78cef002e244ca8290a2de1814aacf23", func := "newel/newellaw03.CircuitRotas", spec := "circuitRotas", unfollowed := true, recurses := true, apart := false }
def CircuitRotasSaid : Prop := circuitRotasRow.holds Try.pinned (OpenSpec.ofChange circuitRotasSpec)

/-- ITS FALSE NEIGHBOUR: 'it returns false'. Refute it at one input. -/
def circuitRotasWrong : ChangeSpec := { name := "circuitRotas", fn := fun _ => fun
  | [d1, d2, d3] => { results := [.lit (.bool false)], args := [d1, d2, d3] }
  | _ => none }
def CircuitRotasWrongFalsely : Prop := circuitRotasRow.holds Try.pinned (OpenSpec.ofChange circuitRotasWrong)

/-- 'newellaw03.CircuitPlans': WHATEVER THE INPUT: true; the input reads as it did. -/
def circuitPlansSpec : ChangeSpec := { name := "circuitPlans", fn := fun _ => fun
  | [d1, d2, d3] => { results := [.lit (.bool true)], args := [d1, d2, d3] }
  | _ => none }
def circuitPlansRow : OpenClaim := { program := "ytbiihhokcmdlhaa", sum := "6fb30d841180a2556a3f19c946ecfa1e78cef002e244ca8290a2de1814aacf23", func := "newel/newellaw03.CircuitPlans", spec := "circuitPlans", unfollowed := true, recurses := true, apart := false }
def CircuitPlansSaid : Prop := circuitPlansRow.holds Try.pinned (OpenSpec.ofChange circuitPlansSpec)

/-- ITS FALSE NEIGHBOUR: 'it returns false'. Refute it at one input. -/
def circuitPlansWrong : ChangeSpec := { name := "circuitPlans", fn := fun _ => fun
  | [d1, d2, d3] => { results := [.lit (.bool false)], args := [d1, d2, d3] }
  | _ => none }
def CircuitPlansWrongFalsely : Prop := circuitPlansRow.holds Try.pinned (OpenSpec.ofChange circuitPlansWrong)

/-- 'newellaw03.CircuitPlays': WHATEVER THE INPUT: true; the input reads as it did. -/
def circuitPlaysSpec : ChangeSpec := { name := "circuitPlays", fn := fun _ => fun
  | [d1, d2, d3] => { results := [.lit (.bool true)], args := [d1, d2, d3] }
  | _ => none }
def circuitPlaysRow : OpenClaim := { program := "ytbiihhokcmdlhaa", sum := "6fb30d841180a2556a3f19c946ecfa1e78cef002e244ca8290a2de1814aacf23", func := "newel/newellaw03.CircuitPlays", spec := "circuitPlays", unfollowed := true, recurses := true, apart := false }
def CircuitPlaysSaid : Prop := circuitPlaysRow.holds Try.pinned (OpenSpec.ofChange circuitPlaysSpec)

/-- ITS FALSE NEIGHBOUR: 'it returns false'. Refute it at one input. -/
def circuitPlaysWrong : ChangeSpec := { name := "circuitPlays", fn := fun _ => fun
  | [d1, d2, d3] => { results := [.lit (.bool false)], args := [d1, d2, d3] }
  | _ => none }
def CircuitPlaysWrongFalsely : Prop := circuitPlaysRow.holds Try.pinned (OpenSpec.ofChange circuitPlaysWrong)

/-- 'newellaw03.CircuitOrder': WHATEVER THE INPUT: true; the input reads as it did. -/
def circuitOrderSpec : ChangeSpec := { name := "circuitOrder", fn := fun _ => fun
  | [d1, d2, d3] => { results := [.lit (.bool true)], args := [d1, d2, d3] }
  | _ => none }
def circuitOrderRow : OpenClaim := { program := "ytbiihhokcmdlhaa", sum := "6fb30d841180a2556a3f19c946ecfa1e78cef002e244ca8290a2de1814aacf23", func := "newel/newellaw03.CircuitOrder", spec := "circuitOrder", unfollowed := true, recurses := true, apart := false }
def CircuitOrderSaid : Prop := circuitOrderRow.holds Try.pinned (OpenSpec.ofChange circuitOrderSpec)

/-- ITS FALSE NEIGHBOUR: 'it returns false'. Refute it at one input. -/
def circuitOrderWrong : ChangeSpec := { name := "circuitOrder", fn := fun _ => fun
  | [d1, d2, d3] => { results := [.lit (.bool false)], args := [d1, d2, d3] }
  | _ => none }
def CircuitOrderWrongFalsely : Prop := circuitOrderRow.holds Try.pinned (OpenSpec.ofChange circuitOrderWrong)

/-- 'newellaw03.CircuitSingle': WHATEVER THE INPUT: true; the input reads as it did. -/
def circuitSingleSpec : ChangeSpec := { name := "circuitSingle", fn := fun _ => fun
  | [d1, d2, d3] => { results := [.lit (.bool true)], args := [d1, d2, d3] }
  | _ => none }
def circuitSingleRow : OpenClaim := { program := "ytbiihhokcmdlhaa", sum := "6fb30d841180a2556a3f19c946ecfa1e78cef002e244ca8290a2de1814aacf23", func := "newel/newellaw03.CircuitSingle", spec := "circuitSingle", unfollowed := true, recurses := true, apart := false }
def CircuitSingleSaid : Prop := circuitSingleRow.holds Try.pinned (OpenSpec.ofChange circuitSingleSpec)

/-- ITS FALSE NEIGHBOUR: 'it returns false'. Refute it at one input. -/
def circuitSingleWrong : ChangeSpec := { name := "circuitSingle", fn := fun _ => fun
  | [d1, d2, d3] => { results := [.lit (.bool false)], args := [d1, d2, d3] }
  | _ => none }
def CircuitSingleWrongFalsely : Prop := circuitSingleRow.holds Try.pinned (OpenSpec.ofChange circuitSingleWrong)

/-- 'newellaw03.CircuitTwo': WHATEVER THE INPUT: true; the input reads as it did. -/
def circuitTwoSpec : ChangeSpec := { name := "circuitTwo", fn := fun _ => fun
  | [d1, d2, d3] => { results := [.lit (.bool true)], args := [d1, d2, d3] }
  | _ => none }
def circuitTwoRow : OpenClaim := { program := "ytbiihhokcmdlhaa", sum := "6fb30d841180a2556a3f19c946ecfa1e78cef002e244ca8290a2de1814aacf23", func := "newel/newellaw03.CircuitTwo", spec := "circuitTwo", unfollowed := true, recurses := true, apart := false }
def CircuitTwoSaid : Prop := circuitTwoRow.holds Try.pinned (OpenSpec.ofChange circuitTwoSpec)

/-- ITS FALSE NEIGHBOUR: 'it returns false'. Refute it at one input. -/
def circuitTwoWrong : ChangeSpec := { name := "circuitTwo", fn := fun _ => fun
  | [d1, d2, d3] => { results := [.lit (.bool false)], args := [d1, d2, d3] }
  | _ => none }
def CircuitTwoWrongFalsely : Prop := circuitTwoRow.holds Try.pinned (OpenSpec.ofChange circuitTwoWrong)

/-- 'newellaw03.CircuitLeast': WHATEVER THE INPUT: true; the input reads as it did. -/
def circuitLeastSpec : ChangeSpec := { name := "circuitLeast", fn := fun _ => fun
  | [d1, d2, d3] => { results := [.lit (.bool true)], args := [d1, d2, d3] }
  | _ => none }
def circuitLeastRow : OpenClaim := { program := "ytbiihhokcmdlhaa", sum := "6fb30d841180a2556a3f19c946ecfa1e78cef002e244ca8290a2de1814aacf23", func := "newel/newellaw03.CircuitLeast", spec := "circuitLeast", unfollowed := true, recurses := true, apart := false }
def CircuitLeastSaid : Prop := circuitLeastRow.holds Try.pinned (OpenSpec.ofChange circuitLeastSpec)

/-- ITS FALSE NEIGHBOUR: 'it returns false'. Refute it at one input. -/
def circuitLeastWrong : ChangeSpec := { name := "circuitLeast", fn := fun _ => fun
  | [d1, d2, d3] => { results := [.lit (.bool false)], args := [d1, d2, d3] }
  | _ => none }
def CircuitLeastWrongFalsely : Prop := circuitLeastRow.holds Try.pinned (OpenSpec.ofChange circuitLeastWrong)

/-- 'newellaw03.CircuitCovers': WHATEVER THE INPUT: true; the input reads as it did. -/
def circuitCoversSpec : ChangeSpec := { name := "circuitCovers", fn := fun _ => fun
  | [d1, d2, d3] => { results := [.lit (.bool true)], args := [d1, d2, d3] }
  | _ => none }
def circuitCoversRow : OpenClaim := { program := "ytbiihhokcmdlhaa", sum := "6fb30d841180a2556a3f19c946ecfa1e78cef002e244ca8290a2de1814aacf23", func := "newel/newellaw03.CircuitCovers", spec := "circuitCovers", unfollowed := true, recurses := true, apart := false }
def CircuitCoversSaid : Prop := circuitCoversRow.holds Try.pinned (OpenSpec.ofChange circuitCoversSpec)

/-- ITS FALSE NEIGHBOUR: 'it returns false'. Refute it at one input. -/
def circuitCoversWrong : ChangeSpec := { name := "circuitCovers", fn := fun _ => fun
  | [d1, d2, d3] => { results := [.lit (.bool false)], args := [d1, d2, d3] }
  | _ => none }
def CircuitCoversWrongFalsely : Prop := circuitCoversRow.holds Try.pinned (OpenSpec.ofChange circuitCoversWrong)

/-- 'newellaw03.CircuitNever': WHATEVER THE INPUT: true; the input reads as it did. -/
def circuitNeverSpec : ChangeSpec := { name := "circuitNever", fn := fun _ => fun
  | [d1, d2, d3] => { results := [.lit (.bool true)], args := [d1, d2, d3] }
  | _ => none }
def circuitNeverRow : OpenClaim := { program := "ytbiihhokcmdlhaa", sum := "6fb30d841180a2556a3f19c946ecfa1e78cef002e244ca8290a2de1814aacf23", func := "newel/newellaw03.CircuitNever", spec := "circuitNever", unfollowed := true, recurses := true, apart := false }
def CircuitNeverSaid : Prop := circuitNeverRow.holds Try.pinned (OpenSpec.ofChange circuitNeverSpec)

/-- ITS FALSE NEIGHBOUR: 'it returns false'. Refute it at one input. -/
def circuitNeverWrong : ChangeSpec := { name := "circuitNever", fn := fun _ => fun
  | [d1, d2, d3] => { results := [.lit (.bool false)], args := [d1, d2, d3] }
  | _ => none }
def CircuitNeverWrongFalsely : Prop := circuitNeverRow.holds Try.pinned (OpenSpec.ofChange circuitNeverWrong)

/-- 'newellaw03.CircuitRota': WHATEVER THE INPUT: true; the input reads as it did. -/
def circuitRotaSpec : ChangeSpec := { name := "circuitRota", fn := fun _ => fun
  | [d1, d2, d3] => { results := [.lit (.bool true)], args := [d1, d2, d3] }
  | _ => none }
def circuitRotaRow : OpenClaim := { program := "ytbiihhokcmdlhaa", sum := "6fb30d841180a2556a3f19c946ecfa1e78cef002e244ca8290a2de1814aacf23", func := "newel/newellaw03.CircuitRota", spec := "circuitRota", unfollowed := true, recurses := true, apart := false }
def CircuitRotaSaid : Prop := circuitRotaRow.holds Try.pinned (OpenSpec.ofChange circuitRotaSpec)

/-- ITS FALSE NEIGHBOUR: 'it returns false'. Refute it at one input. -/
def circuitRotaWrong : ChangeSpec := { name := "circuitRota", fn := fun _ => fun
  | [d1, d2, d3] => { results := [.lit (.bool false)], args := [d1, d2, d3] }
  | _ => none }
def CircuitRotaWrongFalsely : Prop := circuitRotaRow.holds Try.pinned (OpenSpec.ofChange circuitRotaWrong)

/-- 'neweltop.TopLinks': WHATEVER THE INPUT: true; the input reads as it did. -/
def topLinksSpec : ChangeSpec := { name := "topLinks", fn := fun _ => fun
  | [d1, d2, d3] => { results := [.lit (.bool true)], args := [d1, d2, d3] }
  | _ => none }
def topLinksRow : OpenClaim := { program := "ytbiihhokcmdlhaa", sum := "6fb30d841180a2556a3f19c946ecfa1e78cef002e244ca8290a2de1814aacf23", func := "newel/neweltop.TopLinks", spec := "topLinks", unfollowed := true, recurses := true, apart := false }
def TopLinksSaid : Prop := topLinksRow.holds Try.pinned (OpenSpec.ofChange topLinksSpec)

/-- ITS FALSE NEIGHBOUR: 'it returns false'. Refute it at one input. -/
def topLinksWrong : ChangeSpec := { name := "topLinks", fn := fun _ => fun
  | [d1, d2, d3] => { results := [.lit (.bool false)], args := [d1, d2, d3] }
  | _ => none }
def TopLinksWrongFalsely : Prop := topLinksRow.holds Try.pinned (OpenSpec.ofChange topLinksWrong)

/-- 'neweltop.TopSingle': WHATEVER THE INPUT: true; the input reads as it did. -/
def topSingleSpec : ChangeSpec := { name := "topSingle", fn := fun _ => fun
  | [d1, d2, d3] => { results := [.lit (.bool true)], args := [d1, d2, d3] }
  | _ => none }
def topSingleRow : OpenClaim := { program := "ytbiihhokcmdlhaa", sum := "6fb30d841180a2556a3f19c946ecfa1e78cef002e244ca8290a2de1814aacf23", func := "newel/neweltop.TopSingle", spec := "topSingle", unfollowed := true, recurses := true, apart := false }
def TopSingleSaid : Prop := topSingleRow.holds Try.pinned (OpenSpec.ofChange topSingleSpec)

/-- ITS FALSE NEIGHBOUR: 'it returns false'. Refute it at one input. -/
def topSingleWrong : ChangeSpec := { name := "topSingle", fn := fun _ => fun
  | [d1, d2, d3] => { results := [.lit (.bool false)], args := [d1, d2, d3] }
  | _ => none }
def TopSingleWrongFalsely : Prop := topSingleRow.holds Try.pinned (OpenSpec.ofChange topSingleWrong)

/- THE SECOND FORM. 'bulk': how many values and letters a reading holds, each counted each time it is reached (what is shared counts as often as it is met; a slice's spare places count too). A statement '..UptoSaid' is the law's where the arguments, and the package variables that the reading takes, are together of bulk at most 1048576: NARROWER than '..Said'. Prove '..Said' where nothing that the law and all that it calls make is longer than what came in: it says more and counts as full. Else prove '..UptoSaid'. A law counts once. -/
mutual
def uptoBulk {H : Type} : DataW H → Nat
  | .lit (.string bytes) => bytes.length + 1
  | .lit _ => 1
  | .nil => 1
  | .ptr d => uptoBulk d + 1
  | .slice elems spare => uptoBulkAll elems + uptoBulkAll spare + 1
  | .agg parts => uptoBulkAll parts + 1
  | .iface _ d => uptoBulk d + 1
  | .map entries => uptoBulkEntries entries + 1
  | .held _ => 1
def uptoBulkAll {H : Type} : List (DataW H) → Nat
  | [] => 0
  | d :: r => uptoBulk d + uptoBulkAll r
def uptoBulkEntries {H : Type} : List (Lit × DataW H) → Nat
  | [] => 0
  | x :: r => uptoBulkEntry x + uptoBulkEntries r
def uptoBulkEntry {H : Type} : Lit × DataW H → Nat
  | (.string bytes, d) => bytes.length + uptoBulk d + 1
  | (_, d) => uptoBulk d + 1
 end
def uptoSmall : (H : Type) → List (DataW H) → Bool := fun _ ds => decide (uptoBulkAll ds ≤ 1048576)
def OpenSpec.upto (s : _root_.Go.ChangeSpec) : _root_.Go.OpenSpec := { _root_.Go.OpenSpec.ofChange s with cond := some uptoSmall }

/-- 'newellaw03.CircuitRuns', WHERE WHAT IT READS IS OF BULK AT MOST 1048576: true; the input reads as it did. -/
def circuitRunsUptoRow : OpenClaim := { program := "ytbiihhokcmdlhaa", sum := "6fb30d841180a2556a3f19c946ecfa1e78cef002e244ca8290a2de1814aacf23", func := "newel/newellaw03.CircuitRuns", spec := "circuitRuns", unfollowed := true, recurses := true, apart := false, narrowed := true }
def CircuitRunsUptoSaid : Prop := circuitRunsUptoRow.holds Try.pinned (OpenSpec.upto circuitRunsSpec)

/-- 'newellaw03.CircuitDangers', WHERE WHAT IT READS IS OF BULK AT MOST 1048576: true; the input reads as it did. -/
def circuitDangersUptoRow : OpenClaim := { program := "ytbiihhokcmdlhaa", sum := "6fb30d841180a2556a3f19c946ecfa1e78cef002e244ca8290a2de1814aacf23", func := "newel/newellaw03.CircuitDangers", spec := "circuitDangers", unfollowed := true, recurses := true, apart := false, narrowed := true }
def CircuitDangersUptoSaid : Prop := circuitDangersUptoRow.holds Try.pinned (OpenSpec.upto circuitDangersSpec)

/-- 'newellaw03.CircuitTrials', WHERE WHAT IT READS IS OF BULK AT MOST 1048576: true; the input reads as it did. -/
def circuitTrialsUptoRow : OpenClaim := { program := "ytbiihhokcmdlhaa", sum := "6fb30d841180a2556a3f19c946ecfa1e78cef002e244ca8290a2de1814aacf23", func := "newel/newellaw03.CircuitTrials", spec := "circuitTrials", unfollowed := true, recurses := true, apart := false, narrowed := true }
def CircuitTrialsUptoSaid : Prop := circuitTrialsUptoRow.holds Try.pinned (OpenSpec.upto circuitTrialsSpec)

/-- 'newellaw03.CircuitRotas', WHERE WHAT IT READS IS OF BULK AT MOST 1048576: true; the input reads as it did. -/
def circuitRotasUptoRow : OpenClaim := { program := "ytbiihhokcmdlhaa", sum := "6fb30d841180a2556a3f19c946ecfa1e78cef002e244ca8290a2de1814aacf23", func := "newel/newellaw03.CircuitRotas", spec := "circuitRotas", unfollowed := true, recurses := true, apart := false, narrowed := true }
def CircuitRotasUptoSaid : Prop := circuitRotasUptoRow.holds Try.pinned (OpenSpec.upto circuitRotasSpec)

/-- 'newellaw03.CircuitPlans', WHERE WHAT IT READS IS OF BULK AT MOST 1048576: true; the input reads as it did. -/
def circuitPlansUptoRow : OpenClaim := { program := "ytbiihhokcmdlhaa", sum := "6fb30d841180a2556a3f19c946ecfa1e78cef002e244ca8290a2de1814aacf23", func := "newel/newellaw03.CircuitPlans", spec := "circuitPlans", unfollowed := true, recurses := true, apart := false, narrowed := true }
def CircuitPlansUptoSaid : Prop := circuitPlansUptoRow.holds Try.pinned (OpenSpec.upto circuitPlansSpec)

/-- 'newellaw03.CircuitPlays', WHERE WHAT IT READS IS OF BULK AT MOST 1048576: true; the input reads as it did. -/
def circuitPlaysUptoRow : OpenClaim := { program := "ytbiihhokcmdlhaa", sum := "6fb30d841180a2556a3f19c946ecfa1e78cef002e244ca8290a2de1814aacf23", func := "newel/newellaw03.CircuitPlays", spec := "circuitPlays", unfollowed := true, recurses := true, apart := false, narrowed := true }
def CircuitPlaysUptoSaid : Prop := circuitPlaysUptoRow.holds Try.pinned (OpenSpec.upto circuitPlaysSpec)

/-- 'newellaw03.CircuitOrder', WHERE WHAT IT READS IS OF BULK AT MOST 1048576: true; the input reads as it did. -/
def circuitOrderUptoRow : OpenClaim := { program := "ytbiihhokcmdlhaa", sum := "6fb30d841180a2556a3f19c946ecfa1e78cef002e244ca8290a2de1814aacf23", func := "newel/newellaw03.CircuitOrder", spec := "circuitOrder", unfollowed := true, recurses := true, apart := false, narrowed := true }
def CircuitOrderUptoSaid : Prop := circuitOrderUptoRow.holds Try.pinned (OpenSpec.upto circuitOrderSpec)

/-- 'newellaw03.CircuitSingle', WHERE WHAT IT READS IS OF BULK AT MOST 1048576: true; the input reads as it did. -/
def circuitSingleUptoRow : OpenClaim := { program := "ytbiihhokcmdlhaa", sum := "6fb30d841180a2556a3f19c946ecfa1e78cef002e244ca8290a2de1814aacf23", func := "newel/newellaw03.CircuitSingle", spec := "circuitSingle", unfollowed := true, recurses := true, apart := false, narrowed := true }
def CircuitSingleUptoSaid : Prop := circuitSingleUptoRow.holds Try.pinned (OpenSpec.upto circuitSingleSpec)

/-- 'newellaw03.CircuitTwo', WHERE WHAT IT READS IS OF BULK AT MOST 1048576: true; the input reads as it did. -/
def circuitTwoUptoRow : OpenClaim := { program := "ytbiihhokcmdlhaa", sum := "6fb30d841180a2556a3f19c946ecfa1e78cef002e244ca8290a2de1814aacf23", func := "newel/newellaw03.CircuitTwo", spec := "circuitTwo", unfollowed := true, recurses := true, apart := false, narrowed := true }
def CircuitTwoUptoSaid : Prop := circuitTwoUptoRow.holds Try.pinned (OpenSpec.upto circuitTwoSpec)

/-- 'newellaw03.CircuitLeast', WHERE WHAT IT READS IS OF BULK AT MOST 1048576: true; the input reads as it did. -/
def circuitLeastUptoRow : OpenClaim := { program := "ytbiihhokcmdlhaa", sum := "6fb30d841180a2556a3f19c946ecfa1e78cef002e244ca8290a2de1814aacf23", func := "newel/newellaw03.CircuitLeast", spec := "circuitLeast", unfollowed := true, recurses := true, apart := false, narrowed := true }
def CircuitLeastUptoSaid : Prop := circuitLeastUptoRow.holds Try.pinned (OpenSpec.upto circuitLeastSpec)

/-- 'newellaw03.CircuitCovers', WHERE WHAT IT READS IS OF BULK AT MOST 1048576: true; the input reads as it did. -/
def circuitCoversUptoRow : OpenClaim := { program := "ytbiihhokcmdlhaa", sum := "6fb30d841180a2556a3f19c946ecfa1e78cef002e244ca8290a2de1814aacf23", func := "newel/newellaw03.CircuitCovers", spec := "circuitCovers", unfollowed := true, recurses := true, apart := false, narrowed := true }
def CircuitCoversUptoSaid : Prop := circuitCoversUptoRow.holds Try.pinned (OpenSpec.upto circuitCoversSpec)

/-- 'newellaw03.CircuitNever', WHERE WHAT IT READS IS OF BULK AT MOST 1048576: true; the input reads as it did. -/
def circuitNeverUptoRow : OpenClaim := { program := "ytbiihhokcmdlhaa", sum := "6fb30d841180a2556a3f19c946ecfa1e78cef002e244ca8290a2de1814aacf23", func := "newel/newellaw03.CircuitNever", spec := "circuitNever", unfollowed := true, recurses := true, apart := false, narrowed := true }
def CircuitNeverUptoSaid : Prop := circuitNeverUptoRow.holds Try.pinned (OpenSpec.upto circuitNeverSpec)

/-- 'newellaw03.CircuitRota', WHERE WHAT IT READS IS OF BULK AT MOST 1048576: true; the input reads as it did. -/
def circuitRotaUptoRow : OpenClaim := { program := "ytbiihhokcmdlhaa", sum := "6fb30d841180a2556a3f19c946ecfa1e78cef002e244ca8290a2de1814aacf23", func := "newel/newellaw03.CircuitRota", spec := "circuitRota", unfollowed := true, recurses := true, apart := false, narrowed := true }
def CircuitRotaUptoSaid : Prop := circuitRotaUptoRow.holds Try.pinned (OpenSpec.upto circuitRotaSpec)

/-- 'neweltop.TopLinks', WHERE WHAT IT READS IS OF BULK AT MOST 1048576: true; the input reads as it did. -/
def topLinksUptoRow : OpenClaim := { program := "ytbiihhokcmdlhaa", sum := "6fb30d841180a2556a3f19c946ecfa1e78cef002e244ca8290a2de1814aacf23", func := "newel/neweltop.TopLinks", spec := "topLinks", unfollowed := true, recurses := true, apart := false, narrowed := true }
def TopLinksUptoSaid : Prop := topLinksUptoRow.holds Try.pinned (OpenSpec.upto topLinksSpec)

/-- 'neweltop.TopSingle', WHERE WHAT IT READS IS OF BULK AT MOST 1048576: true; the input reads as it did. -/
def topSingleUptoRow : OpenClaim := { program := "ytbiihhokcmdlhaa", sum := "6fb30d841180a2556a3f19c946ecfa1e78cef002e244ca8290a2de1814aacf23", func := "newel/neweltop.TopSingle", spec := "topSingle", unfollowed := true, recurses := true, apart := false, narrowed := true }
def TopSingleUptoSaid : Prop := topSingleUptoRow.holds Try.pinned (OpenSpec.upto topSingleSpec)

end Rows
end Go.Proofs.Ytbiihhokcmdlhaa
