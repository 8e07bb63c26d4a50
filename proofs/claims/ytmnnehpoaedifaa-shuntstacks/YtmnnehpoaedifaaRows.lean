/-
  No cell of these rows narrows 'for every input' (looked for: loops, veiled, ifaces, maps, wideKeys, modest, calm, conditions, laid).
  DERIVED. THE GIVEN ROWS OF THIS SEAT. 15 by the template 'for every input the law returns true; each argument reads behind the call as it read before'; 0 by the template 'total and deterministic' (their statements: YtmnnehpoaedifaaTotals.lean).
  GIVEN WITH THE SEED: the statements are not yours to turn. If you find one false, say at which input.
  Laid BY PROGRAM, IN A SANDBOX (cutbox-rows.mjs): the forced cells as the released guide's own fill.sh prints them over the translation 48bacc13d3a565d3… (all of the seat's roots in one cut). By AI agents, Wed Nov 11 2026. No macro, syntax, notation, axiom, sorry.
-/
import Derived.Test.YtmnnehpoaedifaaChecked
import GoSem.Claim
import GoSem.ClaimJoined
import GoSem.ClaimMapViews
import Derived.JoinedTies
import Derived.KernelRfl
namespace Go.Proofs.Ytmnnehpoaedifaa
/- THE CELL 'sum', in the pinned program and in every row, IS THE sha256 OF THE DUMP (.gsa) THAT YtmnnehpoaedifaaProg.lean LOADS. Nothing in Lean hashes anything: it is a label: what it is worth is what the hold of that sum in a sandbox is worth. -/
noncomputable def Try.pinned : Pinned := { name := "ytmnnehpoaedifaa", sum := "48bacc13d3a565d386308380dce5bcb7408e5fa6a2d1f6765c13a9085c7a9dd5", checked := Try.checked }
namespace Rows
def none {H : Type} : Left H := { results := [], args := [] }

/-- 'tickinglaw02.ShuntStack': WHATEVER THE INPUT: true; the input reads as it did. -/
def shuntStackSpec : ChangeSpec := { name := "shuntStack", fn := fun _ => fun
  | [d] => { results := [.lit (.bool true)], args := [d] }
  | _ => none }
def shuntStackRow : OpenClaim := { program := "ytmnnehpoaedifaa", sum := "48bacc13d3a565d386308380dce5bcb7408e5fa6a2d1f6765c13a9085c7a9dd5", func := "ticking/tickinglaw02.ShuntStack", spec := "shuntStack", recurses := true, apart := false }
def ShuntStackSaid : Prop := shuntStackRow.holds Try.pinned (OpenSpec.ofChange shuntStackSpec)

/-- ITS FALSE NEIGHBOUR: 'it returns false'. Refute it at one input. -/
def shuntStackWrong : ChangeSpec := { name := "shuntStack", fn := fun _ => fun
  | [d] => { results := [.lit (.bool false)], args := [d] }
  | _ => none }
def ShuntStackWrongFalsely : Prop := shuntStackRow.holds Try.pinned (OpenSpec.ofChange shuntStackWrong)

/-- 'tickinglaw02.ShuntStackChecks': WHATEVER THE INPUT: true; the input reads as it did. -/
def shuntStackChecksSpec : ChangeSpec := { name := "shuntStackChecks", fn := fun _ => fun
  | [d1, d2, d3] => { results := [.lit (.bool true)], args := [d1, d2, d3] }
  | _ => none }
def shuntStackChecksRow : OpenClaim := { program := "ytmnnehpoaedifaa", sum := "48bacc13d3a565d386308380dce5bcb7408e5fa6a2d1f6765c13a9085c7a9dd5", func := "ticking/tickinglaw02.ShuntStackChecks", spec := "shuntStackChecks", recurses := true, apart := false }
def ShuntStackChecksSaid : Prop := shuntStackChecksRow.holds Try.pinned (OpenSpec.ofChange shuntStackChecksSpec)

/-- ITS FALSE NEIGHBOUR: 'it returns false'. Refute it at one input. -/
def shuntStackChecksWrong : ChangeSpec := { name := "shuntStackChecks", fn := fun _ => fun
  | [d1, d2, d3] => { results := [.lit (.bool false)], args := [d1, d2, d3] }
  | _ => none }
def ShuntStackChecksWrongFalsely : Prop := shuntStackChecksRow.holds Try.pinned (OpenSpec.ofChange shuntStackChecksWrong)

/-- 'tickinglaw02.ShuntQueues': WHATEVER THE INPUT: true; the input reads as it did. -/
def shuntQueuesSpec : ChangeSpec := { name := "shuntQueues", fn := fun _ => fun
  | [d1, d2] => { results := [.lit (.bool true)], args := [d1, d2] }
  | _ => none }
def shuntQueuesRow : OpenClaim := { program := "ytmnnehpoaedifaa", sum := "48bacc13d3a565d386308380dce5bcb7408e5fa6a2d1f6765c13a9085c7a9dd5", func := "ticking/tickinglaw02.ShuntQueues", spec := "shuntQueues", recurses := true, apart := false }
def ShuntQueuesSaid : Prop := shuntQueuesRow.holds Try.pinned (OpenSpec.ofChange shuntQueuesSpec)

/-- ITS FALSE NEIGHBOUR: 'it returns false'. Refute it at one input. -/
def shuntQueuesWrong : ChangeSpec := { name := "shuntQueues", fn := fun _ => fun
  | [d1, d2] => { results := [.lit (.bool false)], args := [d1, d2] }
  | _ => none }
def ShuntQueuesWrongFalsely : Prop := shuntQueuesRow.holds Try.pinned (OpenSpec.ofChange shuntQueuesWrong)

/-- 'tickinglaw02.ShuntQueuesChecks': WHATEVER THE INPUT: true; the input reads as it did. -/
def shuntQueuesChecksSpec : ChangeSpec := { name := "shuntQueuesChecks", fn := fun _ => fun
  | [d1, d2, d3] => { results := [.lit (.bool true)], args := [d1, d2, d3] }
  | _ => none }
def shuntQueuesChecksRow : OpenClaim := { program := "ytmnnehpoaedifaa", sum := "48bacc13d3a565d386308380dce5bcb7408e5fa6a2d1f6765c13a9085c7a9dd5", func := "ticking/tickinglaw02.ShuntQueuesChecks", spec := "shuntQueuesChecks", recurses := true, apart := false }
def ShuntQueuesChecksSaid : Prop := shuntQueuesChecksRow.holds Try.pinned (OpenSpec.ofChange shuntQueuesChecksSpec)

/-- ITS FALSE NEIGHBOUR: 'it returns false'. Refute it at one input. -/
def shuntQueuesChecksWrong : ChangeSpec := { name := "shuntQueuesChecks", fn := fun _ => fun
  | [d1, d2, d3] => { results := [.lit (.bool false)], args := [d1, d2, d3] }
  | _ => none }
def ShuntQueuesChecksWrongFalsely : Prop := shuntQueuesChecksRow.holds Try.pinned (OpenSpec.ofChange shuntQueuesChecksWrong)

/-- 'tickinglaw02.ShuntStacks': WHATEVER THE INPUT: true; the input reads as it did. -/
def shuntStacksSpec : ChangeSpec := { name := "shuntStacks", fn := fun _ => fun
  | [d] => { results := [.lit (.bool true)], args := [d] }
  | _ => none }
def shuntStacksRow : OpenClaim := { program := "ytmnnehpoaedifaa", sum := "48bacc13d3a565d386308380dce5bcb7408e5fa6a2d1f6765c13a9085c7a9dd5", func := "ticking/tickinglaw02.ShuntStacks", spec := "shuntStacks", unfollowed := true, recurses := true, apart := false }
def ShuntStacksSaid : Prop := shuntStacksRow.holds Try.pinned (OpenSpec.ofChange shuntStacksSpec)

/-- ITS FALSE NEIGHBOUR: 'it returns false'. Refute it at one input. -/
def shuntStacksWrong : ChangeSpec := { name := "shuntStacks", fn := fun _ => fun
  | [d] => { results := [.lit (.bool false)], args := [d] }
  | _ => none }
def ShuntStacksWrongFalsely : Prop := shuntStacksRow.holds Try.pinned (OpenSpec.ofChange shuntStacksWrong)

/-- 'tickinglaw02.ShuntStacksChecks': WHATEVER THE INPUT: true; the input reads as it did. -/
def shuntStacksChecksSpec : ChangeSpec := { name := "shuntStacksChecks", fn := fun _ => fun
  | [d1, d2] => { results := [.lit (.bool true)], args := [d1, d2] }
  | _ => none }
def shuntStacksChecksRow : OpenClaim := { program := "ytmnnehpoaedifaa", sum := "48bacc13d3a565d386308380dce5bcb7408e5fa6a2d1f6765c13a9085c7a9dd5", func := "ticking/tickinglaw02.ShuntStacksChecks", spec := "shuntStacksChecks", unfollowed := true, recurses := true, apart := false }
def ShuntStacksChecksSaid : Prop := shuntStacksChecksRow.holds Try.pinned (OpenSpec.ofChange shuntStacksChecksSpec)

/-- ITS FALSE NEIGHBOUR: 'it returns false'. Refute it at one input. -/
def shuntStacksChecksWrong : ChangeSpec := { name := "shuntStacksChecks", fn := fun _ => fun
  | [d1, d2] => { results := [.lit (.bool false)], args := [d1, d2] }
  | _ => none }
def ShuntStacksChecksWrongFalsely : Prop := shuntStacksChecksRow.holds Try.pinned (OpenSpec.ofChange shuntStacksChecksWrong)

/-- 'tickinglaw02.ShuntCounts': WHATEVER THE INPUT: true; the input reads as it did. -/
def shuntCountsSpec : ChangeSpec := { name := "shuntCounts", fn := fun _ => fun
  | [d1, d2] => { results := [.lit (.bool true)], args := [d1, d2] }
  | _ => none }
def shuntCountsRow : OpenClaim := { program := "ytmnnehpoaedifaa", sum := "48bacc13d3a565d386308380dce5bcb7408e5fa6a2d1f6765c13a9085c7a9dd5", func := "ticking/tickinglaw02.ShuntCounts", spec := "shuntCounts", unfollowed := true, recurses := true, apart := false }
def ShuntCountsSaid : Prop := shuntCountsRow.holds Try.pinned (OpenSpec.ofChange shuntCountsSpec)

/-- ITS FALSE NEIGHBOUR: 'it returns false'. Refute it at one input. -/
def shuntCountsWrong : ChangeSpec := { name := "shuntCounts", fn := fun _ => fun
  | [d1, d2] => { results := [.lit (.bool false)], args := [d1, d2] }
  | _ => none }
def ShuntCountsWrongFalsely : Prop := shuntCountsRow.holds Try.pinned (OpenSpec.ofChange shuntCountsWrong)

/-- 'tickinglaw02.ShuntRanks': WHATEVER THE INPUT: true; the input reads as it did. -/
def shuntRanksSpec : ChangeSpec := { name := "shuntRanks", fn := fun _ => fun
  | [d] => { results := [.lit (.bool true)], args := [d] }
  | _ => none }
def shuntRanksRow : OpenClaim := { program := "ytmnnehpoaedifaa", sum := "48bacc13d3a565d386308380dce5bcb7408e5fa6a2d1f6765c13a9085c7a9dd5", func := "ticking/tickinglaw02.ShuntRanks", spec := "shuntRanks", recurses := true, apart := false }
def ShuntRanksSaid : Prop := shuntRanksRow.holds Try.pinned (OpenSpec.ofChange shuntRanksSpec)

/-- ITS FALSE NEIGHBOUR: 'it returns false'. Refute it at one input. -/
def shuntRanksWrong : ChangeSpec := { name := "shuntRanks", fn := fun _ => fun
  | [d] => { results := [.lit (.bool false)], args := [d] }
  | _ => none }
def ShuntRanksWrongFalsely : Prop := shuntRanksRow.holds Try.pinned (OpenSpec.ofChange shuntRanksWrong)

/-- 'tickinglaw02.ShuntOnce': WHATEVER THE INPUT: true; the input reads as it did. -/
def shuntOnceSpec : ChangeSpec := { name := "shuntOnce", fn := fun _ => fun
  | [d1, d2, d3] => { results := [.lit (.bool true)], args := [d1, d2, d3] }
  | _ => none }
def shuntOnceRow : OpenClaim := { program := "ytmnnehpoaedifaa", sum := "48bacc13d3a565d386308380dce5bcb7408e5fa6a2d1f6765c13a9085c7a9dd5", func := "ticking/tickinglaw02.ShuntOnce", spec := "shuntOnce", unfollowed := true, recurses := true, apart := false }
def ShuntOnceSaid : Prop := shuntOnceRow.holds Try.pinned (OpenSpec.ofChange shuntOnceSpec)

/-- ITS FALSE NEIGHBOUR: 'it returns false'. Refute it at one input. -/
def shuntOnceWrong : ChangeSpec := { name := "shuntOnce", fn := fun _ => fun
  | [d1, d2, d3] => { results := [.lit (.bool false)], args := [d1, d2, d3] }
  | _ => none }
def ShuntOnceWrongFalsely : Prop := shuntOnceRow.holds Try.pinned (OpenSpec.ofChange shuntOnceWrong)

/-- 'tickinglaw02.ShuntPasses': WHATEVER THE INPUT: true; the input reads as it did. -/
def shuntPassesSpec : ChangeSpec := { name := "shuntPasses", fn := fun _ => fun
  | [d] => { results := [.lit (.bool true)], args := [d] }
  | _ => none }
def shuntPassesRow : OpenClaim := { program := "ytmnnehpoaedifaa", sum := "48bacc13d3a565d386308380dce5bcb7408e5fa6a2d1f6765c13a9085c7a9dd5", func := "ticking/tickinglaw02.ShuntPasses", spec := "shuntPasses", recurses := true, apart := false }
def ShuntPassesSaid : Prop := shuntPassesRow.holds Try.pinned (OpenSpec.ofChange shuntPassesSpec)

/-- ITS FALSE NEIGHBOUR: 'it returns false'. Refute it at one input. -/
def shuntPassesWrong : ChangeSpec := { name := "shuntPasses", fn := fun _ => fun
  | [d] => { results := [.lit (.bool false)], args := [d] }
  | _ => none }
def ShuntPassesWrongFalsely : Prop := shuntPassesRow.holds Try.pinned (OpenSpec.ofChange shuntPassesWrong)

/-- 'tickinglaw02.ShuntMore': WHATEVER THE INPUT: true; the input reads as it did. -/
def shuntMoreSpec : ChangeSpec := { name := "shuntMore", fn := fun _ => fun
  | [d1, d2] => { results := [.lit (.bool true)], args := [d1, d2] }
  | _ => none }
def shuntMoreRow : OpenClaim := { program := "ytmnnehpoaedifaa", sum := "48bacc13d3a565d386308380dce5bcb7408e5fa6a2d1f6765c13a9085c7a9dd5", func := "ticking/tickinglaw02.ShuntMore", spec := "shuntMore", unfollowed := true, recurses := true, apart := false }
def ShuntMoreSaid : Prop := shuntMoreRow.holds Try.pinned (OpenSpec.ofChange shuntMoreSpec)

/-- ITS FALSE NEIGHBOUR: 'it returns false'. Refute it at one input. -/
def shuntMoreWrong : ChangeSpec := { name := "shuntMore", fn := fun _ => fun
  | [d1, d2] => { results := [.lit (.bool false)], args := [d1, d2] }
  | _ => none }
def ShuntMoreWrongFalsely : Prop := shuntMoreRow.holds Try.pinned (OpenSpec.ofChange shuntMoreWrong)

/-- 'tickinglaw02.ShuntInverse': WHATEVER THE INPUT: true; the input reads as it did. -/
def shuntInverseSpec : ChangeSpec := { name := "shuntInverse", fn := fun _ => fun
  | [d] => { results := [.lit (.bool true)], args := [d] }
  | _ => none }
def shuntInverseRow : OpenClaim := { program := "ytmnnehpoaedifaa", sum := "48bacc13d3a565d386308380dce5bcb7408e5fa6a2d1f6765c13a9085c7a9dd5", func := "ticking/tickinglaw02.ShuntInverse", spec := "shuntInverse", recurses := true, apart := false }
def ShuntInverseSaid : Prop := shuntInverseRow.holds Try.pinned (OpenSpec.ofChange shuntInverseSpec)

/-- ITS FALSE NEIGHBOUR: 'it returns false'. Refute it at one input. -/
def shuntInverseWrong : ChangeSpec := { name := "shuntInverse", fn := fun _ => fun
  | [d] => { results := [.lit (.bool false)], args := [d] }
  | _ => none }
def ShuntInverseWrongFalsely : Prop := shuntInverseRow.holds Try.pinned (OpenSpec.ofChange shuntInverseWrong)

/-- 'tickinglaw02.ShuntRanked': WHATEVER THE INPUT: true; the input reads as it did. -/
def shuntRankedSpec : ChangeSpec := { name := "shuntRanked", fn := fun _ => fun
  | [d1, d2] => { results := [.lit (.bool true)], args := [d1, d2] }
  | _ => none }
def shuntRankedRow : OpenClaim := { program := "ytmnnehpoaedifaa", sum := "48bacc13d3a565d386308380dce5bcb7408e5fa6a2d1f6765c13a9085c7a9dd5", func := "ticking/tickinglaw02.ShuntRanked", spec := "shuntRanked", unfollowed := true, recurses := true, apart := false }
def ShuntRankedSaid : Prop := shuntRankedRow.holds Try.pinned (OpenSpec.ofChange shuntRankedSpec)

/-- ITS FALSE NEIGHBOUR: 'it returns false'. Refute it at one input. -/
def shuntRankedWrong : ChangeSpec := { name := "shuntRanked", fn := fun _ => fun
  | [d1, d2] => { results := [.lit (.bool false)], args := [d1, d2] }
  | _ => none }
def ShuntRankedWrongFalsely : Prop := shuntRankedRow.holds Try.pinned (OpenSpec.ofChange shuntRankedWrong)

/-- 'tickinglaw02.ShuntAll': WHATEVER THE INPUT: true; the input reads as it did. -/
def shuntAllSpec : ChangeSpec := { name := "shuntAll", fn := fun _ => fun
  | [d] => { results := [.lit (.bool true)], args := [d] }
  | _ => none }
def shuntAllRow : OpenClaim := { program := "ytmnnehpoaedifaa", sum := "48bacc13d3a565d386308380dce5bcb7408e5fa6a2d1f6765c13a9085c7a9dd5", func := "ticking/tickinglaw02.ShuntAll", spec := "shuntAll", recurses := true, apart := false }
def ShuntAllSaid : Prop := shuntAllRow.holds Try.pinned (OpenSpec.ofChange shuntAllSpec)

/-- ITS FALSE NEIGHBOUR: 'it returns false'. Refute it at one input. -/
def shuntAllWrong : ChangeSpec := { name := "shuntAll", fn := fun _ => fun
  | [d] => { results := [.lit (.bool false)], args := [d] }
  | _ => none }
def ShuntAllWrongFalsely : Prop := shuntAllRow.holds Try.pinned (OpenSpec.ofChange shuntAllWrong)

/-- 'tickinglaw02.ShuntOwn': WHATEVER THE INPUT: true; the input reads as it did. -/
def shuntOwnSpec : ChangeSpec := { name := "shuntOwn", fn := fun _ => fun
  | [d] => { results := [.lit (.bool true)], args := [d] }
  | _ => none }
def shuntOwnRow : OpenClaim := { program := "ytmnnehpoaedifaa", sum := "48bacc13d3a565d386308380dce5bcb7408e5fa6a2d1f6765c13a9085c7a9dd5", func := "ticking/tickinglaw02.ShuntOwn", spec := "shuntOwn", unfollowed := true, recurses := true, apart := false }
def ShuntOwnSaid : Prop := shuntOwnRow.holds Try.pinned (OpenSpec.ofChange shuntOwnSpec)

/-- ITS FALSE NEIGHBOUR: 'it returns false'. Refute it at one input. -/
def shuntOwnWrong : ChangeSpec := { name := "shuntOwn", fn := fun _ => fun
  | [d] => { results := [.lit (.bool false)], args := [d] }
  | _ => none }
def ShuntOwnWrongFalsely : Prop := shuntOwnRow.holds Try.pinned (OpenSpec.ofChange shuntOwnWrong)

/- THE SECOND FORM. 'bulk': how many values and letters a reading holds, each counted each time it is reached (what is shared counts as often as it is met; a slice's spare places count too). A statement '..UptoSaid' is the law's where the arguments, and the package variables that the reading takes, are together of bulk at most 1048576: NARROWER than '..Said'. Prove '..Said' where nothing that the law and all that it calls make is longer than what came in: it says more and counts as full. Else prove '..UptoSaid'. A law counts once. -/
mutual
def uptoBulk {H : Type} : DataW H → Nat
  | .lit (.string bytes) => bytes.length + 1
  | .lit _ => 1
  | .nil => 1
  | .ptr d => uptoBulk d + 1
  | .slice elems spare => uptoBulkAll elems + uptoBulkAll spare + 1
  | .agg parts => uptoBulkAll parts + 1
  | .iface _ d => uptoBulk d + 1
  | .map entries => uptoBulkEntries entries + 1
  | .held _ => 1
def uptoBulkAll {H : Type} : List (DataW H) → Nat
  | [] => 0
  | d :: r => uptoBulk d + uptoBulkAll r
def uptoBulkEntries {H : Type} : List (Lit × DataW H) → Nat
  | [] => 0
  | x :: r => uptoBulkEntry x + uptoBulkEntries r
def uptoBulkEntry {H : Type} : Lit × DataW H → Nat
  | (.string bytes, d) => bytes.length + uptoBulk d + 1
  | (_, d) => uptoBulk d + 1
 end
def uptoSmall : (H : Type) → List (DataW H) → Bool := fun _ ds => decide (uptoBulkAll ds ≤ 1048576)
def OpenSpec.upto (s : _root_.Go.ChangeSpec) : _root_.Go.OpenSpec := { _root_.Go.OpenSpec.ofChange s with cond := some uptoSmall }

/-- 'tickinglaw02.ShuntStack', WHERE WHAT IT READS IS OF BULK AT MOST 1048576: true; the input reads as it did. -/
def shuntStackUptoRow : OpenClaim := { program := "ytmnnehpoaedifaa", sum := "48bacc13d3a565d386308380dce5bcb7408e5fa6a2d1f6765c13a9085c7a9dd5", func := "ticking/tickinglaw02.ShuntStack", spec := "shuntStack", recurses := true, apart := false, narrowed := true }
def ShuntStackUptoSaid : Prop := shuntStackUptoRow.holds Try.pinned (OpenSpec.upto shuntStackSpec)

/-- 'tickinglaw02.ShuntStackChecks', WHERE WHAT IT READS IS OF BULK AT MOST 1048576: true; the input reads as it did. -/
def shuntStackChecksUptoRow : OpenClaim := { program := "ytmnnehpoaedifaa", sum := "48bacc13d3a565d386308380dce5bcb7408e5fa6a2d1f6765c13a9085c7a9dd5", func := "ticking/tickinglaw02.ShuntStackChecks", spec := "shuntStackChecks", recurses := true, apart := false, narrowed := true }
def ShuntStackChecksUptoSaid : Prop := shuntStackChecksUptoRow.holds Try.pinned (OpenSpec.upto shuntStackChecksSpec)

/-- 'tickinglaw02.ShuntQueues', WHERE WHAT IT READS IS OF BULK AT MOST 1048576: true; the input reads as it did. -/
def shuntQueuesUptoRow : OpenClaim := { program := "ytmnnehpoaedifaa", sum := "48bacc13d3a565d386308380dce5bcb7408e5fa6a2d1f6765c13a9085c7a9dd5", func := "ticking/tickinglaw02.ShuntQueues", spec := "shuntQueues", recurses := true, apart := false, narrowed := true }
def ShuntQueuesUptoSaid : Prop := shuntQueuesUptoRow.holds Try.pinned (OpenSpec.upto shuntQueuesSpec)

/-- 'tickinglaw02.ShuntQueuesChecks', WHERE WHAT IT READS IS OF BULK AT MOST 1048576: true; the input reads as it did. -/
def shuntQueuesChecksUptoRow : OpenClaim := { program := "ytmnnehpoaedifaa", sum := "48bacc13d3a565d386308380dce5bcb7408e5fa6a2d1f6765c13a9085c7a9dd5", func := "ticking/tickinglaw02.ShuntQueuesChecks", spec := "shuntQueuesChecks", recurses := true, apart := false, narrowed := true }
def ShuntQueuesChecksUptoSaid : Prop := shuntQueuesChecksUptoRow.holds Try.pinned (OpenSpec.upto shuntQueuesChecksSpec)

/-- 'tickinglaw02.ShuntStacks', WHERE WHAT IT READS IS OF BULK AT MOST 1048576: true; the input reads as it did. -/
def shuntStacksUptoRow : OpenClaim := { program := "ytmnnehpoaedifaa", sum := "48bacc13d3a565d386308380dce5bcb7408e5fa6a2d1f6765c13a9085c7a9dd5", func := "ticking/tickinglaw02.ShuntStacks", spec := "shuntStacks", unfollowed := true, recurses := true, apart := false, narrowed := true }
def ShuntStacksUptoSaid : Prop := shuntStacksUptoRow.holds Try.pinned (OpenSpec.upto shuntStacksSpec)

/-- 'tickinglaw02.ShuntStacksChecks', WHERE WHAT IT READS IS OF BULK AT MOST 1048576: true; the input reads as it did. -/
def shuntStacksChecksUptoRow : OpenClaim := { program := "ytmnnehpoaedifaa", sum := "48bacc13d3a565d386308380dce5bcb7408e5fa6a2d1f6765c13a9085c7a9dd5", func := "ticking/tickinglaw02.ShuntStacksChecks", spec := "shuntStacksChecks", unfollowed := true, recurses := true, apart := false, narrowed := true }
def ShuntStacksChecksUptoSaid : Prop := shuntStacksChecksUptoRow.holds Try.pinned (OpenSpec.upto shuntStacksChecksSpec)

/-- 'tickinglaw02.ShuntCounts', WHERE WHAT IT READS IS OF BULK AT MOST 1048576: true; the input reads as it did. -/
def shuntCountsUptoRow : OpenClaim := { program := "ytmnnehpoaedifaa", sum := "48bacc13d3a565d386308380dce5bcb7408e5fa6a2d1f6765c13a9085c7a9dd5", func := "ticking/tickinglaw02.ShuntCounts", spec := "shuntCounts", unfollowed := true, recurses := true, apart := false, narrowed := true }
def ShuntCountsUptoSaid : Prop := shuntCountsUptoRow.holds Try.pinned (OpenSpec.upto shuntCountsSpec)

/-- 'tickinglaw02.ShuntRanks', WHERE WHAT IT READS IS OF BULK AT MOST 1048576: true; the input reads as it did. -/
def shuntRanksUptoRow : OpenClaim := { program := "ytmnnehpoaedifaa", sum := "48bacc13d3a565d386308380dce5bcb7408e5fa6a2d1f6765c13a9085c7a9dd5", func := "ticking/tickinglaw02.ShuntRanks", spec := "shuntRanks", recurses := true, apart := false, narrowed := true }
def ShuntRanksUptoSaid : Prop := shuntRanksUptoRow.holds Try.pinned (OpenSpec.upto shuntRanksSpec)

/-- 'tickinglaw02.ShuntOnce', WHERE WHAT IT READS IS OF BULK AT MOST 1048576: true; the input reads as it did. -/
def shuntOnceUptoRow : OpenClaim := { program := "ytmnnehpoaedifaa", sum := "48bacc13d3a565d386308380dce5bcb7408e5fa6a2d1f6765c13a9085c7a9dd5", func := "ticking/tickinglaw02.ShuntOnce", spec := "shuntOnce", unfollowed := true, recurses := true, apart := false, narrowed := true }
def ShuntOnceUptoSaid : Prop := shuntOnceUptoRow.holds Try.pinned (OpenSpec.upto shuntOnceSpec)

/-- 'tickinglaw02.ShuntPasses', WHERE WHAT IT READS IS OF BULK AT MOST 1048576: true; the input reads as it did. -/
def shuntPassesUptoRow : OpenClaim := { program := "ytmnnehpoaedifaa", sum := "48bacc13d3a565d386308380dce5bcb7408e5fa6a2d1f6765c13a9085c7a9dd5", func := "ticking/tickinglaw02.ShuntPasses", spec := "shuntPasses", recurses := true, apart := false, narrowed := true }
def ShuntPassesUptoSaid : Prop := shuntPassesUptoRow.holds Try.pinned (OpenSpec.upto shuntPassesSpec)

/-- 'tickinglaw02.ShuntMore', WHERE WHAT IT READS IS OF BULK AT MOST 1048576: true; the input reads as it did. -/
def shuntMoreUptoRow : OpenClaim := { program := "ytmnnehpoaedifaa", sum := "48bacc13d3a565d386308380dce5bcb7408e5fa6a2d1f6765c13a9085c7a9dd5", func := "ticking/tickinglaw02.ShuntMore", spec := "shuntMore", unfollowed := true, recurses := true, apart := false, narrowed := true }
def ShuntMoreUptoSaid : Prop := shuntMoreUptoRow.holds Try.pinned (OpenSpec.upto shuntMoreSpec)

/-- 'tickinglaw02.ShuntInverse', WHERE WHAT IT READS IS OF BULK AT MOST 1048576: true; the input reads as it did. -/
def shuntInverseUptoRow : OpenClaim := { program := "ytmnnehpoaedifaa", sum := "48bacc13d3a565d386308380dce5bcb7408e5fa6a2d1f6765c13a9085c7a9dd5", func := "ticking/tickinglaw02.ShuntInverse", spec := "shuntInverse", recurses := true, apart := false, narrowed := true }
def ShuntInverseUptoSaid : Prop := shuntInverseUptoRow.holds Try.pinned (OpenSpec.upto shuntInverseSpec)

/-- 'tickinglaw02.ShuntRanked', WHERE WHAT IT READS IS OF BULK AT MOST 1048576: true; the input reads as it did. -/
def shuntRankedUptoRow : OpenClaim := { program := "ytmnnehpoaedifaa", sum := "48bacc13d3a565d386308380dce5bcb7408e5fa6a2d1f6765c13a9085c7a9dd5", func := "ticking/tickinglaw02.ShuntRanked", spec := "shuntRanked", unfollowed := true, recurses := true, apart := false, narrowed := true }
def ShuntRankedUptoSaid : Prop := shuntRankedUptoRow.holds Try.pinned (OpenSpec.upto shuntRankedSpec)

/-- 'tickinglaw02.ShuntAll', WHERE WHAT IT READS IS OF BULK AT MOST 1048576: true; the input reads as it did. -/
def shuntAllUptoRow : OpenClaim := { program := "ytmnnehpoaedifaa", sum := "48bacc13d3a565d386308380dce5bcb7408e5fa6a2d1f6765c13a9085c7a9dd5", func := "ticking/tickinglaw02.ShuntAll", spec := "shuntAll", recurses := true, apart := false, narrowed := true }
def ShuntAllUptoSaid : Prop := shuntAllUptoRow.holds Try.pinned (OpenSpec.upto shuntAllSpec)

/-- 'tickinglaw02.ShuntOwn', WHERE WHAT IT READS IS OF BULK AT MOST 1048576: true; the input reads as it did. -/
def shuntOwnUptoRow : OpenClaim := { program := "ytmnnehpoaedifaa", sum := "48bacc13d3a565d386308380dce5bcb7408e5fa6a2d1f6765c13a9085c7a9dd5", func := "ticking/tickinglaw02.ShuntOwn", spec := "shuntOwn", unfollowed := true, recurses := true, apart := false, narrowed := true }
def ShuntOwnUptoSaid : Prop := shuntOwnUptoRow.holds Try.pinned (OpenSpec.upto shuntOwnSpec)

end Rows
end Go.Proofs.Ytmnnehpoaedifaa
