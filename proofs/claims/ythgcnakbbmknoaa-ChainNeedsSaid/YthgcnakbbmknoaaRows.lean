/-
  No cell of these rows narrows 'for every input' (looked for: loops, veiled, ifaces, maps, wideKeys, modest, calm, conditions, laid).
  DERIVED. THE GIVEN ROWS OF THIS SEAT. 8 by the template 'for every input the law returns true; each argument reads behind the call as it read before'; 0 by the template 'total and deterministic' (their statements: YthgcnakbbmknoaaTotals.lean).
  GIVEN WITH THE SEED: the statements are not yours to turn. If you find one false, say at which input.
  Laid BY PROGRAM, IN A SANDBOX (cutbox-rows.mjs): the forced cells as the released guide's own fill.sh prints them over the translation 5d4d14c24d7b91fd… (all of the seat's roots in one cut). By AI agents, Wed Nov 11 2026. No macro, syntax, notation, axiom, sorry.
-/
import Derived.Test.YthgcnakbbmknoaaChecked
import GoSem.Claim
import GoSem.ClaimJoined
import GoSem.ClaimMapViews
import Derived.JoinedTies
import Derived.KernelRfl
namespace Go.Proofs.Ythgcnakbbmknoaa
/- THE CELL 'sum', in the pinned program and in every row, IS THE sha256 OF THE DUMP (.gsa) THAT YthgcnakbbmknoaaProg.lean LOADS. Nothing in Lean hashes anything: it is a label: what it is worth is what the hold of that sum in a sandbox is worth. -/
noncomputable def Try.pinned : Pinned := { name := "ythgcnakbbmknoaa", sum := "5d4d14c24d7b91fd141d3223dca6fe67043c98aae8d20691c8805b988593665d", checked := Try.checked }
namespace Rows
def none {H : Type} : Left H := { results := [], args := [] }

/-- 'newellaw02.ChainWitness': WHATEVER THE INPUT: true; the input reads as it did. -/
def chainWitnessSpec : ChangeSpec := { name := "chainWitness", fn := fun _ => fun
  | [d1, d2, d3] => { results := [.lit (.bool true)], args := [d1, d2, d3] }
  | _ => none }
def chainWitnessRow : OpenClaim := { program := "ythgcnakbbmknoaa", sum := "5d4d14c24d7b91fd141d3223dca6fe67043c98aae8d20691c8805b988593665d", func := "newel/newellaw02.ChainWitness", spec := "chainWitness", unfollowed := true, recurses := true, apart := false }
def ChainWitnessSaid : Prop := chainWitnessRow.holds Try.pinned (OpenSpec.ofChange chainWitnessSpec)

/-- ITS FALSE NEIGHBOUR: 'it returns false'. Refute it at one input. -/
def chainWitnessWrong : ChangeSpec := { name := "chainWitness", fn := fun _ => fun
  | [d1, d2, d3] => { results := [.lit (.bool false)], args := [d1, d2, d3] }
  | _ => none }
def ChainWitnessWrongFalsely : Prop := chainWitnessRow.holds Try.pinned (OpenSpec.ofChange chainWitnessWrong)

/-- 'newellaw02.ChainWhy': WHATEVER THE INPUT: true; the input reads as it did. -/
def chainWhySpec : ChangeSpec := { name := "chainWhy", fn := fun _ => fun
  | [d1, d2, d3] => { results := [.lit (.bool true)], args := [d1, d2, d3] }
  | _ => none }
def chainWhyRow : OpenClaim := { program := "ythgcnakbbmknoaa", sum := "5d4d14c24d7b91fd141d3223dca6fe67043c98aae8d20691c8805b988593665d", func := "newel/newellaw02.ChainWhy", spec := "chainWhy", unfollowed := true, recurses := true, apart := false }
def ChainWhySaid : Prop := chainWhyRow.holds Try.pinned (OpenSpec.ofChange chainWhySpec)

/-- ITS FALSE NEIGHBOUR: 'it returns false'. Refute it at one input. -/
def chainWhyWrong : ChangeSpec := { name := "chainWhy", fn := fun _ => fun
  | [d1, d2, d3] => { results := [.lit (.bool false)], args := [d1, d2, d3] }
  | _ => none }
def ChainWhyWrongFalsely : Prop := chainWhyRow.holds Try.pinned (OpenSpec.ofChange chainWhyWrong)

/-- 'newellaw02.ChainEach': WHATEVER THE INPUT: true; the input reads as it did. -/
def chainEachSpec : ChangeSpec := { name := "chainEach", fn := fun _ => fun
  | [d1, d2, d3] => { results := [.lit (.bool true)], args := [d1, d2, d3] }
  | _ => none }
def chainEachRow : OpenClaim := { program := "ythgcnakbbmknoaa", sum := "5d4d14c24d7b91fd141d3223dca6fe67043c98aae8d20691c8805b988593665d", func := "newel/newellaw02.ChainEach", spec := "chainEach", unfollowed := true, recurses := true, apart := false }
def ChainEachSaid : Prop := chainEachRow.holds Try.pinned (OpenSpec.ofChange chainEachSpec)

/-- ITS FALSE NEIGHBOUR: 'it returns false'. Refute it at one input. -/
def chainEachWrong : ChangeSpec := { name := "chainEach", fn := fun _ => fun
  | [d1, d2, d3] => { results := [.lit (.bool false)], args := [d1, d2, d3] }
  | _ => none }
def ChainEachWrongFalsely : Prop := chainEachRow.holds Try.pinned (OpenSpec.ofChange chainEachWrong)

/-- 'newellaw02.ChainNarrows': WHATEVER THE INPUT: true; the input reads as it did. -/
def chainNarrowsSpec : ChangeSpec := { name := "chainNarrows", fn := fun _ => fun
  | [d1, d2, d3] => { results := [.lit (.bool true)], args := [d1, d2, d3] }
  | _ => none }
def chainNarrowsRow : OpenClaim := { program := "ythgcnakbbmknoaa", sum := "5d4d14c24d7b91fd141d3223dca6fe67043c98aae8d20691c8805b988593665d", func := "newel/newellaw02.ChainNarrows", spec := "chainNarrows", unfollowed := true, recurses := true, apart := false }
def ChainNarrowsSaid : Prop := chainNarrowsRow.holds Try.pinned (OpenSpec.ofChange chainNarrowsSpec)

/-- ITS FALSE NEIGHBOUR: 'it returns false'. Refute it at one input. -/
def chainNarrowsWrong : ChangeSpec := { name := "chainNarrows", fn := fun _ => fun
  | [d1, d2, d3] => { results := [.lit (.bool false)], args := [d1, d2, d3] }
  | _ => none }
def ChainNarrowsWrongFalsely : Prop := chainNarrowsRow.holds Try.pinned (OpenSpec.ofChange chainNarrowsWrong)

/-- 'newellaw02.ChainNeeds': WHATEVER THE INPUT: true; the input reads as it did. -/
def chainNeedsSpec : ChangeSpec := { name := "chainNeeds", fn := fun _ => fun
  | [d1, d2, d3] => { results := [.lit (.bool true)], args := [d1, d2, d3] }
  | _ => none }
def chainNeedsRow : OpenClaim := { program := "ythgcnakbbmknoaa", sum := "5d4d14c24d7b91fd141d3223dca6fe67043c98aae8d20691c8805b988593665d", func := "newel/newellaw02.ChainNeeds", spec := "chainNeeds", unfollowed := true, recurses := true, apart := false }
def ChainNeedsSaid : Prop := chainNeedsRow.holds Try.pinned (OpenSpec.ofChange chainNeedsSpec)

/-- ITS FALSE NEIGHBOUR: 'it returns false'. Refute it at one input. -/
def chainNeedsWrong : ChangeSpec := { name := "chainNeeds", fn := fun _ => fun
  | [d1, d2, d3] => { results := [.lit (.bool false)], args := [d1, d2, d3] }
  | _ => none }
def ChainNeedsWrongFalsely : Prop := chainNeedsRow.holds Try.pinned (OpenSpec.ofChange chainNeedsWrong)

/-- 'newellaw02.ChainTilts': WHATEVER THE INPUT: true; the input reads as it did. -/
def chainTiltsSpec : ChangeSpec := { name := "chainTilts", fn := fun _ => fun
  | [d1, d2, d3] => { results := [.lit (.bool true)], args := [d1, d2, d3] }
  | _ => none }
def chainTiltsRow : OpenClaim := { program := "ythgcnakbbmknoaa", sum := "5d4d14c24d7b91fd141d3223dca6fe67043c98aae8d20691c8805b988593665d", func := "newel/newellaw02.ChainTilts", spec := "chainTilts", unfollowed := true, recurses := true, apart := false }
def ChainTiltsSaid : Prop := chainTiltsRow.holds Try.pinned (OpenSpec.ofChange chainTiltsSpec)

/-- ITS FALSE NEIGHBOUR: 'it returns false'. Refute it at one input. -/
def chainTiltsWrong : ChangeSpec := { name := "chainTilts", fn := fun _ => fun
  | [d1, d2, d3] => { results := [.lit (.bool false)], args := [d1, d2, d3] }
  | _ => none }
def ChainTiltsWrongFalsely : Prop := chainTiltsRow.holds Try.pinned (OpenSpec.ofChange chainTiltsWrong)

/-- 'neweltop.TopLinks': WHATEVER THE INPUT: true; the input reads as it did. -/
def topLinksSpec : ChangeSpec := { name := "topLinks", fn := fun _ => fun
  | [d1, d2, d3] => { results := [.lit (.bool true)], args := [d1, d2, d3] }
  | _ => none }
def topLinksRow : OpenClaim := { program := "ythgcnakbbmknoaa", sum := "5d4d14c24d7b91fd141d3223dca6fe67043c98aae8d20691c8805b988593665d", func := "newel/neweltop.TopLinks", spec := "topLinks", unfollowed := true, recurses := true, apart := false }
def TopLinksSaid : Prop := topLinksRow.holds Try.pinned (OpenSpec.ofChange topLinksSpec)

/-- ITS FALSE NEIGHBOUR: 'it returns false'. Refute it at one input. -/
def topLinksWrong : ChangeSpec := { name := "topLinks", fn := fun _ => fun
  | [d1, d2, d3] => { results := [.lit (.bool false)], args := [d1, d2, d3] }
  | _ => none }
def TopLinksWrongFalsely : Prop := topLinksRow.holds Try.pinned (OpenSpec.ofChange topLinksWrong)

/-- 'neweltop.TopSingle': WHATEVER THE INPUT: true; the input reads as it did. -/
def topSingleSpec : ChangeSpec := { name := "topSingle", fn := fun _ => fun
  | [d1, d2, d3] => { results := [.lit (.bool true)], args := [d1, d2, d3] }
  | _ => none }
def topSingleRow : OpenClaim := { program := "ythgcnakbbmknoaa", sum := "5d4d14c24d7b91fd141d3223dca6fe67043c98aae8d20691c8805b988593665d", func := "newel/neweltop.TopSingle", spec := "topSingle", unfollowed := true, recurses := true, apart := false }
def TopSingleSaid : Prop := topSingleRow.holds Try.pinned (OpenSpec.ofChange topSingleSpec)

/-- ITS FALSE NEIGHBOUR: 'it returns false'. Refute it at one input. -/
def topSingleWrong : ChangeSpec := { name := "topSingle", fn := fun _ => fun
  | [d1, d2, d3] => { results := [.lit (.bool false)], args := [d1, d2, d3] }
  | _ => none }
def TopSingleWrongFalsely : Prop := topSingleRow.holds Try.pinned (OpenSpec.ofChange topSingleWrong)

/- THE SECOND FORM. 'bulk': how many values and letters a reading holds, each counted each time it is reached (what is shared counts as often as it is met; a slice's spare places count too). A statement '..UptoSaid' is the law's where the arguments, and the package variables that the reading takes, are together of bulk at most 1048576: NARROWER than '..Said'. Prove '..Said' where nothing that the law and all that it calls make is longer than what came in: it says more and counts as full. Else prove '..UptoSaid'. A law counts once. -/
mutual
def uptoBulk {H : Type} : DataW H → Nat
  | .lit (.string bytes) => bytes.length + 1
  | .lit _ => 1
  | .nil => 1
  | .ptr d => uptoBulk d + 1
  | .slice elems spare => uptoBulkAll elems + uptoBulkAll spare + 1
  | .agg parts => uptoBulkAll parts + 1
  | .iface _ d => uptoBulk d + 1
  | .map entries => uptoBulkEntries entries + 1
  | .held _ => 1
def uptoBulkAll {H : Type} : List (DataW H) → Nat
  | [] => 0
  | d :: r => uptoBulk d + uptoBulkAll r
def uptoBulkEntries {H : Type} : List (Lit × DataW H) → Nat
  | [] => 0
  | x :: r => uptoBulkEntry x + uptoBulkEntries r
def uptoBulkEntry {H : Type} : Lit × DataW H → Nat
  | (.string bytes, d) => bytes.length + uptoBulk d + 1
  | (_, d) => uptoBulk d + 1
 end
def uptoSmall : (H : Type) → List (DataW H) → Bool := fun _ ds => decide (uptoBulkAll ds ≤ 1048576)
def OpenSpec.upto (s : _root_.Go.ChangeSpec) : _root_.Go.OpenSpec := { _root_.Go.OpenSpec.ofChange s with cond := some uptoSmall }

/-- 'newellaw02.ChainWitness', WHERE WHAT IT READS IS OF BULK AT MOST 1048576: true; the input reads as it did. -/
def chainWitnessUptoRow : OpenClaim := { program := "ythgcnakbbmknoaa", sum := "5d4d14c24d7b91fd141d3223dca6fe67043c98aae8d20691c8805b988593665d", func := "newel/newellaw02.ChainWitness", spec := "chainWitness", unfollowed := true, recurses := true, apart := false, narrowed := true }
def ChainWitnessUptoSaid : Prop := chainWitnessUptoRow.holds Try.pinned (OpenSpec.upto chainWitnessSpec)

/-- 'newellaw02.ChainWhy', WHERE WHAT IT READS IS OF BULK AT MOST 1048576: true; the input reads as it did. -/
def chainWhyUptoRow : OpenClaim := { program := "ythgcnakbbmknoaa", sum := "5d4d14c24d7b91fd141d3223dca6fe67043c98aae8d20691c8805b988593665d", func := "newel/newellaw02.ChainWhy", spec := "chainWhy", unfollowed := true, recurses := true, apart := false, narrowed := true }
def ChainWhyUptoSaid : Prop := chainWhyUptoRow.holds Try.pinned (OpenSpec.upto chainWhySpec)

/-- 'newellaw02.ChainEach', WHERE WHAT IT READS IS OF BULK AT MOST 1048576: true; the input reads as it did. -/
def chainEachUptoRow : OpenClaim := { program := "ythgcnakbbmknoaa", sum := "5d4d14c24d7b91fd141d3223dca6fe67043c98aae8d20691c8805b988593665d", func := "newel/newellaw02.ChainEach", spec := "chainEach", unfollowed := true, recurses := true, apart := false, narrowed := true }
def ChainEachUptoSaid : Prop := chainEachUptoRow.holds Try.pinned (OpenSpec.upto chainEachSpec)

/-- 'newellaw02.ChainNarrows', WHERE WHAT IT READS IS OF BULK AT MOST 1048576: true; the input reads as it did. -/
def chainNarrowsUptoRow : OpenClaim := { program := "ythgcnakbbmknoaa", sum := "5d4d14c24d7b91fd141d3223dca6fe67043c98aae8d20691c8805b988593665d", func := "newel/newellaw02.ChainNarrows", spec := "chainNarrows", unfollowed := true, recurses := true, apart := false, narrowed := true }
def ChainNarrowsUptoSaid : Prop := chainNarrowsUptoRow.holds Try.pinned (OpenSpec.upto chainNarrowsSpec)

/-- 'newellaw02.ChainNeeds', WHERE WHAT IT READS IS OF BULK AT MOST 1048576: true; the input reads as it did. -/
def chainNeedsUptoRow : OpenClaim := { program := "ythgcnakbbmknoaa", sum := "5d4d14c24d7b91fd141d3223dca6fe67043c98aae8d20691c8805b988593665d", func := "newel/newellaw02.ChainNeeds", spec := "chainNeeds", unfollowed := true, recurses := true, apart := false, narrowed := true }
def ChainNeedsUptoSaid : Prop := chainNeedsUptoRow.holds Try.pinned (OpenSpec.upto chainNeedsSpec)

/-- 'newellaw02.ChainTilts', WHERE WHAT IT READS IS OF BULK AT MOST 1048576: true; the input reads as it did. -/
def chainTiltsUptoRow : OpenClaim := { program := "ythgcnakbbmknoaa", sum := "5d4d14c24d7b91fd141d3223dca6fe67043c98aae8d20691c8805b988593665d", func := "newel/newellaw02.ChainTilts", spec := "chainTilts", unfollowed := true, recurses := true, apart := false, narrowed := true }
def ChainTiltsUptoSaid : Prop := chainTiltsUptoRow.holds Try.pinned (OpenSpec.upto chainTiltsSpec)

/-- 'neweltop.TopLinks', WHERE WHAT IT READS IS OF BULK AT MOST 1048576: true; the input reads as it did. -/
def topLinksUptoRow : OpenClaim := { program := "ythgcnakbbmknoaa", sum := "5d4d14c24d7b91fd141d3223dca6fe67043c98aae8d20691c8805b988593665d", func := "newel/neweltop.TopLinks", spec := "topLinks", unfollowed := true, recurses := true, apart := false, narrowed := true }
def TopLinksUptoSaid : Prop := topLinksUptoRow.holds Try.pinned (OpenSpec.upto topLinksSpec)

/-- 'neweltop.TopSingle', WHERE WHAT IT READS IS OF BULK AT MOST 1048576: true; the input reads as it did. -/
def topSingleUptoRow : OpenClaim := { program := "ythgcnakbbmknoaa", sum := "5d4d14c24d7b91fd141d3223dca6fe67043c98aae8d20691c8805b988593665d", func := "newel/neweltop.TopSingle", spec := "topSingle", unfollowed := true, recurses := true, apart := false, narrowed := true }
def TopSingleUptoSaid : Prop := topSingleUptoRow.holds Try.pinned (OpenSpec.upto topSingleSpec)

end Rows
end Go.Proofs.Ythgcnakbbmknoaa
