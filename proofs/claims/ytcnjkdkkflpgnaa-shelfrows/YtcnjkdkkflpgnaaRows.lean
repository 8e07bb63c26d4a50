/-
  No cell of these rows narrows 'for every input' (looked for: loops, veiled, ifaces, maps, wideKeys, modest, calm, conditions, laid).
  DERIVED. THE GIVEN ROWS OF THIS SEAT. 13 by the template 'for every input the law returns true; each argument reads behind the call as it read before'; 0 by the template 'total and deterministic' (their statements: YtcnjkdkkflpgnaaTotals.lean).
  GIVEN WITH THE SEED: the statements are not yours to turn. If you find one false, say at which input.
  Laid BY PROGRAM, IN A SANDBOX (cutbox-rows.mjs): the forced cells as the released guide's own fill.sh prints them over the translation 75dfcb6693dccb79… (all of the seat's roots in one cut). By AI agents, Wed Nov 11 2026. No macro, syntax, notation, axiom, sorry.
-/
import Derived.Test.YtcnjkdkkflpgnaaChecked
import GoSem.Claim
import GoSem.ClaimJoined
import GoSem.ClaimMapViews
import Derived.JoinedTies
import Derived.KernelRfl
namespace Go.Proofs.Ytcnjkdkkflpgnaa
/- THE CELL 'sum', in the pinned program and in every row, IS THE sha256 OF THE DUMP (.gsa) THAT YtcnjkdkkflpgnaaProg.lean LOADS. Nothing in Lean hashes anything: it is a label: what it is worth is what the hold of that sum in a sandbox is worth. -/
noncomputable def Try.pinned : Pinned := { name := "ytcnjkdkkflpgnaa", sum := "75dfcb6693dccb791c072c6eb6dbd767fda30db04c8905ab7b32c169b408b6b0", checked := Try.checked }
namespace Rows
def none {H : Type} : Left H := { results := [], args := [] }

/-- 'tickinglaw08.ShelfServes': WHATEVER THE INPUT: true; the input reads as it did. -/
def shelfServesSpec : ChangeSpec := { name := "shelfServes", fn := fun _ => fun
  | [d1, d2] => { results := [.lit (.bool true)], args := [d1, d2] }
  | _ => none }
def shelfServesRow : OpenClaim := { program := "ytcnjkdkkflpgnaa", sum := "75dfcb6693dccb791c072c6eb6dbd767fda30db04c8905ab7b32c169b408b6b0", func := "ticking/tickinglaw08.ShelfServes", spec := "shelfServes", unfollowed := true, recurses := true, plainKeys := false, apart := false }
def ShelfServesSaid : Prop := shelfServesRow.holds Try.pinned (OpenSpec.ofChange shelfServesSpec)

/-- ITS FALSE NEIGHBOUR: 'it returns false'. Refute it at one input. -/
def shelfServesWrong : ChangeSpec := { name := "shelfServes", fn := fun _ => fun
  | [d1, d2] => { results := [.lit (.bool false)], args := [d1, d2] }
  | _ => none }
def ShelfServesWrongFalsely : Prop := shelfServesRow.holds Try.pinned (OpenSpec.ofChange shelfServesWrong)

/-- 'tickinglaw08.ShelfFaults': WHATEVER THE INPUT: true; the input reads as it did. -/
def shelfFaultsSpec : ChangeSpec := { name := "shelfFaults", fn := fun _ => fun
  | [d1, d2, d3] => { results := [.lit (.bool true)], args := [d1, d2, d3] }
  | _ => none }
def shelfFaultsRow : OpenClaim := { program := "ytcnjkdkkflpgnaa", sum := "75dfcb6693dccb791c072c6eb6dbd767fda30db04c8905ab7b32c169b408b6b0", func := "ticking/tickinglaw08.ShelfFaults", spec := "shelfFaults", unfollowed := true, recurses := true, plainKeys := false, apart := false }
def ShelfFaultsSaid : Prop := shelfFaultsRow.holds Try.pinned (OpenSpec.ofChange shelfFaultsSpec)

/-- ITS FALSE NEIGHBOUR: 'it returns false'. Refute it at one input. -/
def shelfFaultsWrong : ChangeSpec := { name := "shelfFaults", fn := fun _ => fun
  | [d1, d2, d3] => { results := [.lit (.bool false)], args := [d1, d2, d3] }
  | _ => none }
def ShelfFaultsWrongFalsely : Prop := shelfFaultsRow.holds Try.pinned (OpenSpec.ofChange shelfFaultsWrong)

/-- 'tickinglaw08.ShelfCurves': WHATEVER THE INPUT: true; the input reads as it did. -/
def shelfCurvesSpec : ChangeSpec := { name := "shelfCurves", fn := fun _ => fun
  | [d1, d2] => { results := [.lit (.bool true)], args := [d1, d2] }
  | _ => none }
def shelfCurvesRow : OpenClaim := { program := "ytcnjkdkkflpgnaa", sum := "75dfcb6693dccb791c072c6eb6dbd767fda30db04c8905ab7b32c169b408b6b0", func := "ticking/tickinglaw08.ShelfCurves", spec := "shelfCurves", unfollowed := true, recurses := true, plainKeys := false, apart := false }
def ShelfCurvesSaid : Prop := shelfCurvesRow.holds Try.pinned (OpenSpec.ofChange shelfCurvesSpec)

/-- ITS FALSE NEIGHBOUR: 'it returns false'. Refute it at one input. -/
def shelfCurvesWrong : ChangeSpec := { name := "shelfCurves", fn := fun _ => fun
  | [d1, d2] => { results := [.lit (.bool false)], args := [d1, d2] }
  | _ => none }
def ShelfCurvesWrongFalsely : Prop := shelfCurvesRow.holds Try.pinned (OpenSpec.ofChange shelfCurvesWrong)

/-- 'tickinglaw08.ShelfRows': WHATEVER THE INPUT: true; the input reads as it did. -/
def shelfRowsSpec : ChangeSpec := { name := "shelfRows", fn := fun _ => fun
  | [d1, d2] => { results := [.lit (.bool true)], args := [d1, d2] }
  | _ => none }
def shelfRowsRow : OpenClaim := { program := "ytcnjkdkkflpgnaa", sum := "75dfcb6693dccb791c072c6eb6dbd767fda30db04c8905ab7b32c169b408b6b0", func := "ticking/tickinglaw08.ShelfRows", spec := "shelfRows", unfollowed := true, recurses := true, plainKeys := false, apart := false }
def ShelfRowsSaid : Prop := shelfRowsRow.holds Try.pinned (OpenSpec.ofChange shelfRowsSpec)

/-- ITS FALSE NEIGHBOUR: 'it returns false'. Refute it at one input. -/
def shelfRowsWrong : ChangeSpec := { name := "shelfRows", fn := fun _ => fun
  | [d1, d2] => { results := [.lit (.bool false)], args := [d1, d2] }
  | _ => none }
def ShelfRowsWrongFalsely : Prop := shelfRowsRow.holds Try.pinned (OpenSpec.ofChange shelfRowsWrong)

/-- 'tickinglaw08.ShelfCosts': WHATEVER THE INPUT: true; the input reads as it did. -/
def shelfCostsSpec : ChangeSpec := { name := "shelfCosts", fn := fun _ => fun
  | [d1, d2, d3] => { results := [.lit (.bool true)], args := [d1, d2, d3] }
  | _ => none }
def shelfCostsRow : OpenClaim := { program := "ytcnjkdkkflpgnaa", sum := "75dfcb6693dccb791c072c6eb6dbd767fda30db04c8905ab7b32c169b408b6b0", func := "ticking/tickinglaw08.ShelfCosts", spec := "shelfCosts", unfollowed := true, recurses := true, plainKeys := false, apart := false }
def ShelfCostsSaid : Prop := shelfCostsRow.holds Try.pinned (OpenSpec.ofChange shelfCostsSpec)

/-- ITS FALSE NEIGHBOUR: 'it returns false'. Refute it at one input. -/
def shelfCostsWrong : ChangeSpec := { name := "shelfCosts", fn := fun _ => fun
  | [d1, d2, d3] => { results := [.lit (.bool false)], args := [d1, d2, d3] }
  | _ => none }
def ShelfCostsWrongFalsely : Prop := shelfCostsRow.holds Try.pinned (OpenSpec.ofChange shelfCostsWrong)

/-- 'tickinglaw08.ShelfTurned': WHATEVER THE INPUT: true; the input reads as it did. -/
def shelfTurnedSpec : ChangeSpec := { name := "shelfTurned", fn := fun _ => fun
  | [d1, d2] => { results := [.lit (.bool true)], args := [d1, d2] }
  | _ => none }
def shelfTurnedRow : OpenClaim := { program := "ytcnjkdkkflpgnaa", sum := "75dfcb6693dccb791c072c6eb6dbd767fda30db04c8905ab7b32c169b408b6b0", func := "ticking/tickinglaw08.ShelfTurned", spec := "shelfTurned", unfollowed := true, recurses := true, plainKeys := false, apart := false }
def ShelfTurnedSaid : Prop := shelfTurnedRow.holds Try.pinned (OpenSpec.ofChange shelfTurnedSpec)

/-- ITS FALSE NEIGHBOUR: 'it returns false'. Refute it at one input. -/
def shelfTurnedWrong : ChangeSpec := { name := "shelfTurned", fn := fun _ => fun
  | [d1, d2] => { results := [.lit (.bool false)], args := [d1, d2] }
  | _ => none }
def ShelfTurnedWrongFalsely : Prop := shelfTurnedRow.holds Try.pinned (OpenSpec.ofChange shelfTurnedWrong)

/-- 'tickinglaw08.ShelfLeast': WHATEVER THE INPUT: true; the input reads as it did. -/
def shelfLeastSpec : ChangeSpec := { name := "shelfLeast", fn := fun _ => fun
  | [d1, d2, d3] => { results := [.lit (.bool true)], args := [d1, d2, d3] }
  | _ => none }
def shelfLeastRow : OpenClaim := { program := "ytcnjkdkkflpgnaa", sum := "75dfcb6693dccb791c072c6eb6dbd767fda30db04c8905ab7b32c169b408b6b0", func := "ticking/tickinglaw08.ShelfLeast", spec := "shelfLeast", unfollowed := true, recurses := true, plainKeys := false, apart := false }
def ShelfLeastSaid : Prop := shelfLeastRow.holds Try.pinned (OpenSpec.ofChange shelfLeastSpec)

/-- ITS FALSE NEIGHBOUR: 'it returns false'. Refute it at one input. -/
def shelfLeastWrong : ChangeSpec := { name := "shelfLeast", fn := fun _ => fun
  | [d1, d2, d3] => { results := [.lit (.bool false)], args := [d1, d2, d3] }
  | _ => none }
def ShelfLeastWrongFalsely : Prop := shelfLeastRow.holds Try.pinned (OpenSpec.ofChange shelfLeastWrong)

/-- 'tickinglaw08.ShelfMore': WHATEVER THE INPUT: true; the input reads as it did. -/
def shelfMoreSpec : ChangeSpec := { name := "shelfMore", fn := fun _ => fun
  | [d1, d2] => { results := [.lit (.bool true)], args := [d1, d2] }
  | _ => none }
def shelfMoreRow : OpenClaim := { program := "ytcnjkdkkflpgnaa", sum := "75dfcb6693dccb791c072c6eb6dbd767fda30db04c8905ab7b32c169b408b6b0", func := "ticking/tickinglaw08.ShelfMore", spec := "shelfMore", unfollowed := true, recurses := true, plainKeys := false, apart := false }
def ShelfMoreSaid : Prop := shelfMoreRow.holds Try.pinned (OpenSpec.ofChange shelfMoreSpec)

/-- ITS FALSE NEIGHBOUR: 'it returns false'. Refute it at one input. -/
def shelfMoreWrong : ChangeSpec := { name := "shelfMore", fn := fun _ => fun
  | [d1, d2] => { results := [.lit (.bool false)], args := [d1, d2] }
  | _ => none }
def ShelfMoreWrongFalsely : Prop := shelfMoreRow.holds Try.pinned (OpenSpec.ofChange shelfMoreWrong)

/-- 'tickinglaw08.ShelfNames': WHATEVER THE INPUT: true; the input reads as it did. -/
def shelfNamesSpec : ChangeSpec := { name := "shelfNames", fn := fun _ => fun
  | [d1, d2] => { results := [.lit (.bool true)], args := [d1, d2] }
  | _ => none }
def shelfNamesRow : OpenClaim := { program := "ytcnjkdkkflpgnaa", sum := "75dfcb6693dccb791c072c6eb6dbd767fda30db04c8905ab7b32c169b408b6b0", func := "ticking/tickinglaw08.ShelfNames", spec := "shelfNames", unfollowed := true, recurses := true, plainKeys := false, apart := false }
def ShelfNamesSaid : Prop := shelfNamesRow.holds Try.pinned (OpenSpec.ofChange shelfNamesSpec)

/-- ITS FALSE NEIGHBOUR: 'it returns false'. Refute it at one input. -/
def shelfNamesWrong : ChangeSpec := { name := "shelfNames", fn := fun _ => fun
  | [d1, d2] => { results := [.lit (.bool false)], args := [d1, d2] }
  | _ => none }
def ShelfNamesWrongFalsely : Prop := shelfNamesRow.holds Try.pinned (OpenSpec.ofChange shelfNamesWrong)

/-- 'tickinglaw08.ShelfFront': WHATEVER THE INPUT: true; the input reads as it did. -/
def shelfFrontSpec : ChangeSpec := { name := "shelfFront", fn := fun _ => fun
  | [d1, d2, d3] => { results := [.lit (.bool true)], args := [d1, d2, d3] }
  | _ => none }
def shelfFrontRow : OpenClaim := { program := "ytcnjkdkkflpgnaa", sum := "75dfcb6693dccb791c072c6eb6dbd767fda30db04c8905ab7b32c169b408b6b0", func := "ticking/tickinglaw08.ShelfFront", spec := "shelfFront", unfollowed := true, recurses := true, plainKeys := false, apart := false }
def ShelfFrontSaid : Prop := shelfFrontRow.holds Try.pinned (OpenSpec.ofChange shelfFrontSpec)

/-- ITS FALSE NEIGHBOUR: 'it returns false'. Refute it at one input. -/
def shelfFrontWrong : ChangeSpec := { name := "shelfFront", fn := fun _ => fun
  | [d1, d2, d3] => { results := [.lit (.bool false)], args := [d1, d2, d3] }
  | _ => none }
def ShelfFrontWrongFalsely : Prop := shelfFrontRow.holds Try.pinned (OpenSpec.ofChange shelfFrontWrong)

/-- 'tickinglaw08.ShelfStays': WHATEVER THE INPUT: true; the input reads as it did. -/
def shelfStaysSpec : ChangeSpec := { name := "shelfStays", fn := fun _ => fun
  | [d1, d2] => { results := [.lit (.bool true)], args := [d1, d2] }
  | _ => none }
def shelfStaysRow : OpenClaim := { program := "ytcnjkdkkflpgnaa", sum := "75dfcb6693dccb791c072c6eb6dbd767fda30db04c8905ab7b32c169b408b6b0", func := "ticking/tickinglaw08.ShelfStays", spec := "shelfStays", unfollowed := true, recurses := true, plainKeys := false, apart := false }
def ShelfStaysSaid : Prop := shelfStaysRow.holds Try.pinned (OpenSpec.ofChange shelfStaysSpec)

/-- ITS FALSE NEIGHBOUR: 'it returns false'. Refute it at one input. -/
def shelfStaysWrong : ChangeSpec := { name := "shelfStays", fn := fun _ => fun
  | [d1, d2] => { results := [.lit (.bool false)], args := [d1, d2] }
  | _ => none }
def ShelfStaysWrongFalsely : Prop := shelfStaysRow.holds Try.pinned (OpenSpec.ofChange shelfStaysWrong)

/-- 'tickinglaw08.ShelfPairs': WHATEVER THE INPUT: true; the input reads as it did. -/
def shelfPairsSpec : ChangeSpec := { name := "shelfPairs", fn := fun _ => fun
  | [d1, d2] => { results := [.lit (.bool true)], args := [d1, d2] }
  | _ => none }
def shelfPairsRow : OpenClaim := { program := "ytcnjkdkkflpgnaa", sum := "75dfcb6693dccb791c072c6eb6dbd767fda30db04c8905ab7b32c169b408b6b0", func := "ticking/tickinglaw08.ShelfPairs", spec := "shelfPairs", unfollowed := true, recurses := true, plainKeys := false, apart := false }
def ShelfPairsSaid : Prop := shelfPairsRow.holds Try.pinned (OpenSpec.ofChange shelfPairsSpec)

/-- ITS FALSE NEIGHBOUR: 'it returns false'. Refute it at one input. -/
def shelfPairsWrong : ChangeSpec := { name := "shelfPairs", fn := fun _ => fun
  | [d1, d2] => { results := [.lit (.bool false)], args := [d1, d2] }
  | _ => none }
def ShelfPairsWrongFalsely : Prop := shelfPairsRow.holds Try.pinned (OpenSpec.ofChange shelfPairsWrong)

/-- 'tickinglaw08.ShelfOwn': WHATEVER THE INPUT: true; the input reads as it did. -/
def shelfOwnSpec : ChangeSpec := { name := "shelfOwn", fn := fun _ => fun
  | [d1, d2] => { results := [.lit (.bool true)], args := [d1, d2] }
  | _ => none }
def shelfOwnRow : OpenClaim := { program := "ytcnjkdkkflpgnaa", sum := "75dfcb6693dccb791c072c6eb6dbd767fda30db04c8905ab7b32c169b408b6b0", func := "ticking/tickinglaw08.ShelfOwn", spec := "shelfOwn", unfollowed := true, recurses := true, plainKeys := false, apart := false }
def ShelfOwnSaid : Prop := shelfOwnRow.holds Try.pinned (OpenSpec.ofChange shelfOwnSpec)

/-- ITS FALSE NEIGHBOUR: 'it returns false'. Refute it at one input. -/
def shelfOwnWrong : ChangeSpec := { name := "shelfOwn", fn := fun _ => fun
  | [d1, d2] => { results := [.lit (.bool false)], args := [d1, d2] }
  | _ => none }
def ShelfOwnWrongFalsely : Prop := shelfOwnRow.holds Try.pinned (OpenSpec.ofChange shelfOwnWrong)

/- THE SECOND FORM. 'bulk': how many values and letters a reading holds, each counted each time it is reached (what is shared counts as often as it is met; a slice's spare places count too). A statement '..UptoSaid' is the law's where the arguments, and the package variables that the reading takes, are together of bulk at most 1048576: NARROWER than '..Said'. Prove '..Said' where nothing that the law and all that it calls make is longer than what came in: it says more and counts as full. Else prove '..UptoSaid'. A law counts once. -/
mutual
def uptoBulk {H : Type} : DataW H → Nat
  | .lit (.string bytes) => bytes.length + 1
  | .lit _ => 1
  | .nil => 1
  | .ptr d => uptoBulk d + 1
  | .slice elems spare => uptoBulkAll elems + uptoBulkAll spare + 1
  | .agg parts => uptoBulkAll parts + 1
  | .iface _ d => uptoBulk d + 1
  | .map entries => uptoBulkEntries entries + 1
  | .held _ => 1
def uptoBulkAll {H : Type} : List (DataW H) → Nat
  | [] => 0
  | d :: r => uptoBulk d + uptoBulkAll r
def uptoBulkEntries {H : Type} : List (Lit × DataW H) → Nat
  | [] => 0
  | x :: r => uptoBulkEntry x + uptoBulkEntries r
def uptoBulkEntry {H : Type} : Lit × DataW H → Nat
  | (.string bytes, d) => bytes.length + uptoBulk d + 1
  | (_, d) => uptoBulk d + 1
 end
def uptoSmall : (H : Type) → List (DataW H) → Bool := fun _ ds => decide (uptoBulkAll ds ≤ 1048576)
def OpenSpec.upto (s : _root_.Go.ChangeSpec) : _root_.Go.OpenSpec := { _root_.Go.OpenSpec.ofChange s with cond := some uptoSmall }

/-- 'tickinglaw08.ShelfServes', WHERE WHAT IT READS IS OF BULK AT MOST 1048576: true; the input reads as it did. -/
def shelfServesUptoRow : OpenClaim := { program := "ytcnjkdkkflpgnaa", sum := "75dfcb6693dccb791c072c6eb6dbd767fda30db04c8905ab7b32c169b408b6b0", func := "ticking/tickinglaw08.ShelfServes", spec := "shelfServes", unfollowed := true, recurses := true, plainKeys := false, apart := false, narrowed := true }
def ShelfServesUptoSaid : Prop := shelfServesUptoRow.holds Try.pinned (OpenSpec.upto shelfServesSpec)

/-- 'tickinglaw08.ShelfFaults', WHERE WHAT IT READS IS OF BULK AT MOST 1048576: true; the input reads as it did. -/
def shelfFaultsUptoRow : OpenClaim := { program := "ytcnjkdkkflpgnaa", sum := "75dfcb6693dccb791c072c6eb6dbd767fda30db04c8905ab7b32c169b408b6b0", func := "ticking/tickinglaw08.ShelfFaults", spec := "shelfFaults", unfollowed := true, recurses := true, plainKeys := false, apart := false, narrowed := true }
def ShelfFaultsUptoSaid : Prop := shelfFaultsUptoRow.holds Try.pinned (OpenSpec.upto shelfFaultsSpec)

/-- 'tickinglaw08.ShelfCurves', WHERE WHAT IT READS IS OF BULK AT MOST 1048576: true; the input reads as it did. -/
def shelfCurvesUptoRow : OpenClaim := { program := "ytcnjkdkkflpgnaa", sum := "75dfcb6693dccb791c072c6eb6dbd767fda30db04c8905ab7b32c169b408b6b0", func := "ticking/tickinglaw08.ShelfCurves", spec := "shelfCurves", unfollowed := true, recurses := true, plainKeys := false, apart := false, narrowed := true }
def ShelfCurvesUptoSaid : Prop := shelfCurvesUptoRow.holds Try.pinned (OpenSpec.upto shelfCurvesSpec)

/-- 'tickinglaw08.ShelfRows', WHERE WHAT IT READS IS OF BULK AT MOST 1048576: true; the input reads as it did. -/
def shelfRowsUptoRow : OpenClaim := { program := "ytcnjkdkkflpgnaa", sum := "75dfcb6693dccb791c072c6eb6dbd767fda30db04c8905ab7b32c169b408b6b0", func := "ticking/tickinglaw08.ShelfRows", spec := "shelfRows", unfollowed := true, recurses := true, plainKeys := false, apart := false, narrowed := true }
def ShelfRowsUptoSaid : Prop := shelfRowsUptoRow.holds Try.pinned (OpenSpec.upto shelfRowsSpec)

/-- 'tickinglaw08.ShelfCosts', WHERE WHAT IT READS IS OF BULK AT MOST 1048576: true; the input reads as it did. -/
def shelfCostsUptoRow : OpenClaim := { program := "ytcnjkdkkflpgnaa", sum := "75dfcb6693dccb791c072c6eb6dbd767fda30db04c8905ab7b32c169b408b6b0", func := "ticking/tickinglaw08.ShelfCosts", spec := "shelfCosts", unfollowed := true, recurses := true, plainKeys := false, apart := false, narrowed := true }
def ShelfCostsUptoSaid : Prop := shelfCostsUptoRow.holds Try.pinned (OpenSpec.upto shelfCostsSpec)

/-- 'tickinglaw08.ShelfTurned', WHERE WHAT IT READS IS OF BULK AT MOST 1048576: true; the input reads as it did. -/
def shelfTurnedUptoRow : OpenClaim := { program := "ytcnjkdkkflpgnaa", sum := "75dfcb6693dccb791c072c6eb6dbd767fda30db04c8905ab7b32c169b408b6b0", func := "ticking/tickinglaw08.ShelfTurned", spec := "shelfTurned", unfollowed := true, recurses := true, plainKeys := false, apart := false, narrowed := true }
def ShelfTurnedUptoSaid : Prop := shelfTurnedUptoRow.holds Try.pinned (OpenSpec.upto shelfTurnedSpec)

/-- 'tickinglaw08.ShelfLeast', WHERE WHAT IT READS IS OF BULK AT MOST 1048576: true; the input reads as it did. -/
def shelfLeastUptoRow : OpenClaim := { program := "ytcnjkdkkflpgnaa", sum := "75dfcb6693dccb791c072c6eb6dbd767fda30db04c8905ab7b32c169b408b6b0", func := "ticking/tickinglaw08.ShelfLeast", spec := "shelfLeast", unfollowed := true, recurses := true, plainKeys := false, apart := false, narrowed := true }
def ShelfLeastUptoSaid : Prop := shelfLeastUptoRow.holds Try.pinned (OpenSpec.upto shelfLeastSpec)

/-- 'tickinglaw08.ShelfMore', WHERE WHAT IT READS IS OF BULK AT MOST 1048576: true; the input reads as it did. -/
def shelfMoreUptoRow : OpenClaim := { program := "ytcnjkdkkflpgnaa", sum := "75dfcb6693dccb791c072c6eb6dbd767fda30db04c8905ab7b32c169b408b6b0", func := "ticking/tickinglaw08.ShelfMore", spec := "shelfMore", unfollowed := true, recurses := true, plainKeys := false, apart := false, narrowed := true }
def ShelfMoreUptoSaid : Prop := shelfMoreUptoRow.holds Try.pinned (OpenSpec.upto shelfMoreSpec)

/-- 'tickinglaw08.ShelfNames', WHERE WHAT IT READS IS OF BULK AT MOST 1048576: true; the input reads as it did. -/
def shelfNamesUptoRow : OpenClaim := { program := "ytcnjkdkkflpgnaa", sum := "75dfcb6693dccb791c072c6eb6dbd767fda30db04c8905ab7b32c169b408b6b0", func := "ticking/tickinglaw08.ShelfNames", spec := "shelfNames", unfollowed := true, recurses := true, plainKeys := false, apart := false, narrowed := true }
def ShelfNamesUptoSaid : Prop := shelfNamesUptoRow.holds Try.pinned (OpenSpec.upto shelfNamesSpec)

/-- 'tickinglaw08.ShelfFront', WHERE WHAT IT READS IS OF BULK AT MOST 1048576: true; the input reads as it did. -/
def shelfFrontUptoRow : OpenClaim := { program := "ytcnjkdkkflpgnaa", sum := "75dfcb6693dccb791c072c6eb6dbd767fda30db04c8905ab7b32c169b408b6b0", func := "ticking/tickinglaw08.ShelfFront", spec := "shelfFront", unfollowed := true, recurses := true, plainKeys := false, apart := false, narrowed := true }
def ShelfFrontUptoSaid : Prop := shelfFrontUptoRow.holds Try.pinned (OpenSpec.upto shelfFrontSpec)

/-- 'tickinglaw08.ShelfStays', WHERE WHAT IT READS IS OF BULK AT MOST 1048576: true; the input reads as it did. -/
def shelfStaysUptoRow : OpenClaim := { program := "ytcnjkdkkflpgnaa", sum := "75dfcb6693dccb791c072c6eb6dbd767fda30db04c8905ab7b32c169b408b6b0", func := "ticking/tickinglaw08.ShelfStays", spec := "shelfStays", unfollowed := true, recurses := true, plainKeys := false, apart := false, narrowed := true }
def ShelfStaysUptoSaid : Prop := shelfStaysUptoRow.holds Try.pinned (OpenSpec.upto shelfStaysSpec)

/-- 'tickinglaw08.ShelfPairs', WHERE WHAT IT READS IS OF BULK AT MOST 1048576: true; the input reads as it did. -/
def shelfPairsUptoRow : OpenClaim := { program := "ytcnjkdkkflpgnaa", sum := "75dfcb6693dccb791c072c6eb6dbd767fda30db04c8905ab7b32c169b408b6b0", func := "ticking/tickinglaw08.ShelfPairs", spec := "shelfPairs", unfollowed := true, recurses := true, plainKeys := false, apart := false, narrowed := true }
def ShelfPairsUptoSaid : Prop := shelfPairsUptoRow.holds Try.pinned (OpenSpec.upto shelfPairsSpec)

/-- 'tickinglaw08.ShelfOwn', WHERE WHAT IT READS IS OF BULK AT MOST 1048576: true; the input reads as it did. -/
def shelfOwnUptoRow : OpenClaim := { program := "ytcnjkdkkflpgnaa", sum := "75dfcb6693dccb791c072c6eb6dbd767fda30db04c8905ab7b32c169b408b6b0", func := "ticking/tickinglaw08.ShelfOwn", spec := "shelfOwn", unfollowed := true, recurses := true, plainKeys := false, apart := false, narrowed := true }
def ShelfOwnUptoSaid : Prop := shelfOwnUptoRow.holds Try.pinned (OpenSpec.upto shelfOwnSpec)

end Rows
end Go.Proofs.Ytcnjkdkkflpgnaa
