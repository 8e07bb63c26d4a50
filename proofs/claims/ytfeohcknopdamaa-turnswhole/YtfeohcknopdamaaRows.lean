/-
  No cell of these rows narrows 'for every input' (looked for: loops, veiled, ifaces, maps, wideKeys, modest, calm, conditions, laid).
  DERIVED. THE GIVEN ROWS OF THIS SEAT. 13 by the template 'for every input the law returns true; each argument reads behind the call as it read before'; 0 by the template 'total and deterministic' (their statements: YtfeohcknopdamaaTotals.lean).
  GIVEN WITH THE SEED: the statements are not yours to turn. If you find one false, say at which input.
  Laid BY PROGRAM, IN A SANDBOX (cutbox-rows.mjs): the forced cells as the released guide's own fill.sh prints them over the translation e3ab83de2bbd37cd… (all of the seat's roots in one cut). By AI agents, Wed Nov 11 2026. No macro, syntax, notation, axiom, sorry.
-/
import Derived.Test.YtfeohcknopdamaaChecked
import GoSem.Claim
import GoSem.ClaimJoined
import GoSem.ClaimMapViews
import Derived.JoinedTies
import Derived.KernelRfl
namespace Go.Proofs.Ytfeohcknopdamaa
/- THE CELL 'sum', in the pinned program and in every row, IS THE sha256 OF THE DUMP (.gsa) THAT YtfeohcknopdamaaProg.lean LOADS. Nothing in Lean hashes anything: it is a label: what it is worth is what the hold of that sum in a sandbox is worth. -/
noncomputable def Try.pinned : Pinned := { name := "ytfeohcknopdamaa", sum := "e3ab83de2bbd37cd41cb724995fd70df62024686587627babf3144345d288dea", checked := Try.checked }
namespace Rows
def none {H : Type} : Left H := { results := [], args := [] }

/-- 'tickinglaw10.TurnsSets': WHATEVER THE INPUT: true; the input reads as it did. -/
def turnsSetsSpec : ChangeSpec := { name := "turnsSets", fn := fun _ => fun
  | [d1, d2, d3] => { results := [.lit (.bool true)], args := [d1, d2, d3] }
  | _ => none }
def turnsSetsRow : OpenClaim := { program := "ytfeohcknopdamaa", sum := "e3ab83de2bbd37cd41cb724995fd70df62024686587627babf3144345d288dea", func := "ticking/tickinglaw10.TurnsSets", spec := "turnsSets", inPlace := ["slices.overlaps[int]"], unfollowed := true, recurses := true, apart := false }
def TurnsSetsSaid : Prop := turnsSetsRow.holds Try.pinned (OpenSpec.ofChange turnsSetsSpec)

/-- ITS FALSE NEIGHBOUR: 'it returns false'. Refute it at one input. -/
def turnsSetsWrong : ChangeSpec := { name := "turnsSets", fn := fun _ => fun
  | [d1, d2, d3] => { results := [.lit (.bool false)], args := [d1, d2, d3] }
  | _ => none }
def TurnsSetsWrongFalsely : Prop := turnsSetsRow.holds Try.pinned (OpenSpec.ofChange turnsSetsWrong)

/-- 'tickinglaw10.TurnsChoices': WHATEVER THE INPUT: true; the input reads as it did. -/
def turnsChoicesSpec : ChangeSpec := { name := "turnsChoices", fn := fun _ => fun
  | [d1, d2, d3] => { results := [.lit (.bool true)], args := [d1, d2, d3] }
  | _ => none }
def turnsChoicesRow : OpenClaim := { program := "ytfeohcknopdamaa", sum := "e3ab83de2bbd37cd41cb724995fd70df62024686587627babf3144345d288dea", func := "ticking/tickinglaw10.TurnsChoices", spec := "turnsChoices", inPlace := ["slices.overlaps[int]"], unfollowed := true, recurses := true, apart := false }
def TurnsChoicesSaid : Prop := turnsChoicesRow.holds Try.pinned (OpenSpec.ofChange turnsChoicesSpec)

/-- ITS FALSE NEIGHBOUR: 'it returns false'. Refute it at one input. -/
def turnsChoicesWrong : ChangeSpec := { name := "turnsChoices", fn := fun _ => fun
  | [d1, d2, d3] => { results := [.lit (.bool false)], args := [d1, d2, d3] }
  | _ => none }
def TurnsChoicesWrongFalsely : Prop := turnsChoicesRow.holds Try.pinned (OpenSpec.ofChange turnsChoicesWrong)

/-- 'tickinglaw10.TurnsOrders': WHATEVER THE INPUT: true; the input reads as it did. -/
def turnsOrdersSpec : ChangeSpec := { name := "turnsOrders", fn := fun _ => fun
  | [d1, d2, d3] => { results := [.lit (.bool true)], args := [d1, d2, d3] }
  | _ => none }
def turnsOrdersRow : OpenClaim := { program := "ytfeohcknopdamaa", sum := "e3ab83de2bbd37cd41cb724995fd70df62024686587627babf3144345d288dea", func := "ticking/tickinglaw10.TurnsOrders", spec := "turnsOrders", inPlace := ["slices.overlaps[int]"], unfollowed := true, recurses := true, apart := false }
def TurnsOrdersSaid : Prop := turnsOrdersRow.holds Try.pinned (OpenSpec.ofChange turnsOrdersSpec)

/-- ITS FALSE NEIGHBOUR: 'it returns false'. Refute it at one input. -/
def turnsOrdersWrong : ChangeSpec := { name := "turnsOrders", fn := fun _ => fun
  | [d1, d2, d3] => { results := [.lit (.bool false)], args := [d1, d2, d3] }
  | _ => none }
def TurnsOrdersWrongFalsely : Prop := turnsOrdersRow.holds Try.pinned (OpenSpec.ofChange turnsOrdersWrong)

/-- 'tickinglaw10.TurnsGroups': WHATEVER THE INPUT: true; the input reads as it did. -/
def turnsGroupsSpec : ChangeSpec := { name := "turnsGroups", fn := fun _ => fun
  | [d1, d2, d3] => { results := [.lit (.bool true)], args := [d1, d2, d3] }
  | _ => none }
def turnsGroupsRow : OpenClaim := { program := "ytfeohcknopdamaa", sum := "e3ab83de2bbd37cd41cb724995fd70df62024686587627babf3144345d288dea", func := "ticking/tickinglaw10.TurnsGroups", spec := "turnsGroups", inPlace := ["slices.overlaps[int]"], unfollowed := true, recurses := true, apart := false }
def TurnsGroupsSaid : Prop := turnsGroupsRow.holds Try.pinned (OpenSpec.ofChange turnsGroupsSpec)

/-- ITS FALSE NEIGHBOUR: 'it returns false'. Refute it at one input. -/
def turnsGroupsWrong : ChangeSpec := { name := "turnsGroups", fn := fun _ => fun
  | [d1, d2, d3] => { results := [.lit (.bool false)], args := [d1, d2, d3] }
  | _ => none }
def TurnsGroupsWrongFalsely : Prop := turnsGroupsRow.holds Try.pinned (OpenSpec.ofChange turnsGroupsWrong)

/-- 'tickinglaw10.TurnsDials': WHATEVER THE INPUT: true; the input reads as it did. -/
def turnsDialsSpec : ChangeSpec := { name := "turnsDials", fn := fun _ => fun
  | [d1, d2, d3] => { results := [.lit (.bool true)], args := [d1, d2, d3] }
  | _ => none }
def turnsDialsRow : OpenClaim := { program := "ytfeohcknopdamaa", sum := "e3ab83de2bbd37cd41cb724995fd70df62024686587627babf3144345d288dea", func := "ticking/tickinglaw10.TurnsDials", spec := "turnsDials", inPlace := ["slices.overlaps[int]"], unfollowed := true, recurses := true, apart := false }
def TurnsDialsSaid : Prop := turnsDialsRow.holds Try.pinned (OpenSpec.ofChange turnsDialsSpec)

/-- ITS FALSE NEIGHBOUR: 'it returns false'. Refute it at one input. -/
def turnsDialsWrong : ChangeSpec := { name := "turnsDials", fn := fun _ => fun
  | [d1, d2, d3] => { results := [.lit (.bool false)], args := [d1, d2, d3] }
  | _ => none }
def TurnsDialsWrongFalsely : Prop := turnsDialsRow.holds Try.pinned (OpenSpec.ofChange turnsDialsWrong)

/-- 'tickinglaw10.TurnsSetSteps': WHATEVER THE INPUT: true; the input reads as it did. -/
def turnsSetStepsSpec : ChangeSpec := { name := "turnsSetSteps", fn := fun _ => fun
  | [d1, d2] => { results := [.lit (.bool true)], args := [d1, d2] }
  | _ => none }
def turnsSetStepsRow : OpenClaim := { program := "ytfeohcknopdamaa", sum := "e3ab83de2bbd37cd41cb724995fd70df62024686587627babf3144345d288dea", func := "ticking/tickinglaw10.TurnsSetSteps", spec := "turnsSetSteps", inPlace := ["slices.overlaps[int]"], unfollowed := true, recurses := true, apart := false }
def TurnsSetStepsSaid : Prop := turnsSetStepsRow.holds Try.pinned (OpenSpec.ofChange turnsSetStepsSpec)

/-- ITS FALSE NEIGHBOUR: 'it returns false'. Refute it at one input. -/
def turnsSetStepsWrong : ChangeSpec := { name := "turnsSetSteps", fn := fun _ => fun
  | [d1, d2] => { results := [.lit (.bool false)], args := [d1, d2] }
  | _ => none }
def TurnsSetStepsWrongFalsely : Prop := turnsSetStepsRow.holds Try.pinned (OpenSpec.ofChange turnsSetStepsWrong)

/-- 'tickinglaw10.TurnsChoiceSteps': WHATEVER THE INPUT: true; the input reads as it did. -/
def turnsChoiceStepsSpec : ChangeSpec := { name := "turnsChoiceSteps", fn := fun _ => fun
  | [d1, d2, d3] => { results := [.lit (.bool true)], args := [d1, d2, d3] }
  | _ => none }
def turnsChoiceStepsRow : OpenClaim := { program := "ytfeohcknopdamaa", sum := "e3ab83de2bbd37cd41cb724995fd70df62024686587627babf3144345d288dea", func := "ticking/tickinglaw10.TurnsChoiceSteps", spec := "turnsChoiceSteps", inPlace := ["slices.overlaps[int]"], unfollowed := true, recurses := true, apart := false }
def TurnsChoiceStepsSaid : Prop := turnsChoiceStepsRow.holds Try.pinned (OpenSpec.ofChange turnsChoiceStepsSpec)

/-- ITS FALSE NEIGHBOUR: 'it returns false'. Refute it at one input. -/
def turnsChoiceStepsWrong : ChangeSpec := { name := "turnsChoiceSteps", fn := fun _ => fun
  | [d1, d2, d3] => { results := [.lit (.bool false)], args := [d1, d2, d3] }
  | _ => none }
def TurnsChoiceStepsWrongFalsely : Prop := turnsChoiceStepsRow.holds Try.pinned (OpenSpec.ofChange turnsChoiceStepsWrong)

/-- 'tickinglaw10.TurnsOrderSteps': WHATEVER THE INPUT: true; the input reads as it did. -/
def turnsOrderStepsSpec : ChangeSpec := { name := "turnsOrderSteps", fn := fun _ => fun
  | [d1, d2] => { results := [.lit (.bool true)], args := [d1, d2] }
  | _ => none }
def turnsOrderStepsRow : OpenClaim := { program := "ytfeohcknopdamaa", sum := "e3ab83de2bbd37cd41cb724995fd70df62024686587627babf3144345d288dea", func := "ticking/tickinglaw10.TurnsOrderSteps", spec := "turnsOrderSteps", inPlace := ["slices.overlaps[int]"], unfollowed := true, recurses := true, apart := false }
def TurnsOrderStepsSaid : Prop := turnsOrderStepsRow.holds Try.pinned (OpenSpec.ofChange turnsOrderStepsSpec)

/-- ITS FALSE NEIGHBOUR: 'it returns false'. Refute it at one input. -/
def turnsOrderStepsWrong : ChangeSpec := { name := "turnsOrderSteps", fn := fun _ => fun
  | [d1, d2] => { results := [.lit (.bool false)], args := [d1, d2] }
  | _ => none }
def TurnsOrderStepsWrongFalsely : Prop := turnsOrderStepsRow.holds Try.pinned (OpenSpec.ofChange turnsOrderStepsWrong)

/-- 'tickinglaw10.TurnsGroupSteps': WHATEVER THE INPUT: true; the input reads as it did. -/
def turnsGroupStepsSpec : ChangeSpec := { name := "turnsGroupSteps", fn := fun _ => fun
  | [d1, d2] => { results := [.lit (.bool true)], args := [d1, d2] }
  | _ => none }
def turnsGroupStepsRow : OpenClaim := { program := "ytfeohcknopdamaa", sum := "e3ab83de2bbd37cd41cb724995fd70df62024686587627babf3144345d288dea", func := "ticking/tickinglaw10.TurnsGroupSteps", spec := "turnsGroupSteps", inPlace := ["slices.overlaps[int]"], unfollowed := true, recurses := true, apart := false }
def TurnsGroupStepsSaid : Prop := turnsGroupStepsRow.holds Try.pinned (OpenSpec.ofChange turnsGroupStepsSpec)

/-- ITS FALSE NEIGHBOUR: 'it returns false'. Refute it at one input. -/
def turnsGroupStepsWrong : ChangeSpec := { name := "turnsGroupSteps", fn := fun _ => fun
  | [d1, d2] => { results := [.lit (.bool false)], args := [d1, d2] }
  | _ => none }
def TurnsGroupStepsWrongFalsely : Prop := turnsGroupStepsRow.holds Try.pinned (OpenSpec.ofChange turnsGroupStepsWrong)

/-- 'tickinglaw10.TurnsDialSteps': WHATEVER THE INPUT: true; the input reads as it did. -/
def turnsDialStepsSpec : ChangeSpec := { name := "turnsDialSteps", fn := fun _ => fun
  | [d1, d2] => { results := [.lit (.bool true)], args := [d1, d2] }
  | _ => none }
def turnsDialStepsRow : OpenClaim := { program := "ytfeohcknopdamaa", sum := "e3ab83de2bbd37cd41cb724995fd70df62024686587627babf3144345d288dea", func := "ticking/tickinglaw10.TurnsDialSteps", spec := "turnsDialSteps", inPlace := ["slices.overlaps[int]"], unfollowed := true, recurses := true, apart := false }
def TurnsDialStepsSaid : Prop := turnsDialStepsRow.holds Try.pinned (OpenSpec.ofChange turnsDialStepsSpec)

/-- ITS FALSE NEIGHBOUR: 'it returns false'. Refute it at one input. -/
def turnsDialStepsWrong : ChangeSpec := { name := "turnsDialSteps", fn := fun _ => fun
  | [d1, d2] => { results := [.lit (.bool false)], args := [d1, d2] }
  | _ => none }
def TurnsDialStepsWrongFalsely : Prop := turnsDialStepsRow.holds Try.pinned (OpenSpec.ofChange turnsDialStepsWrong)

/-- 'tickinglaw10.TurnsCounts': WHATEVER THE INPUT: true; the input reads as it did. -/
def turnsCountsSpec : ChangeSpec := { name := "turnsCounts", fn := fun _ => fun
  | [d1, d2, d3] => { results := [.lit (.bool true)], args := [d1, d2, d3] }
  | _ => none }
def turnsCountsRow : OpenClaim := { program := "ytfeohcknopdamaa", sum := "e3ab83de2bbd37cd41cb724995fd70df62024686587627babf3144345d288dea", func := "ticking/tickinglaw10.TurnsCounts", spec := "turnsCounts", inPlace := ["slices.overlaps[int]"], unfollowed := true, recurses := true, apart := false }
def TurnsCountsSaid : Prop := turnsCountsRow.holds Try.pinned (OpenSpec.ofChange turnsCountsSpec)

/-- ITS FALSE NEIGHBOUR: 'it returns false'. Refute it at one input. -/
def turnsCountsWrong : ChangeSpec := { name := "turnsCounts", fn := fun _ => fun
  | [d1, d2, d3] => { results := [.lit (.bool false)], args := [d1, d2, d3] }
  | _ => none }
def TurnsCountsWrongFalsely : Prop := turnsCountsRow.holds Try.pinned (OpenSpec.ofChange turnsCountsWrong)

/-- 'tickinglaw10.TurnsWhole': WHATEVER THE INPUT: true; the input reads as it did. -/
def turnsWholeSpec : ChangeSpec := { name := "turnsWhole", fn := fun _ => fun
  | [d1, d2, d3] => { results := [.lit (.bool true)], args := [d1, d2, d3] }
  | _ => none }
def turnsWholeRow : OpenClaim := { program := "ytfeohcknopdamaa", sum := "e3ab83de2bbd37cd41cb724995fd70df62024686587627babf3144345d288dea", func := "ticking/tickinglaw10.TurnsWhole", spec := "turnsWhole", inPlace := ["slices.overlaps[int]"], unfollowed := true, recurses := true, apart := false }
def TurnsWholeSaid : Prop := turnsWholeRow.holds Try.pinned (OpenSpec.ofChange turnsWholeSpec)

/-- ITS FALSE NEIGHBOUR: 'it returns false'. Refute it at one input. -/
def turnsWholeWrong : ChangeSpec := { name := "turnsWhole", fn := fun _ => fun
  | [d1, d2, d3] => { results := [.lit (.bool false)], args := [d1, d2, d3] }
  | _ => none }
def TurnsWholeWrongFalsely : Prop := turnsWholeRow.holds Try.pinned (OpenSpec.ofChange turnsWholeWrong)

/-- 'tickinglaw10.TurnsOwn': WHATEVER THE INPUT: true; the input reads as it did. -/
def turnsOwnSpec : ChangeSpec := { name := "turnsOwn", fn := fun _ => fun
  | [d1, d2] => { results := [.lit (.bool true)], args := [d1, d2] }
  | _ => none }
def turnsOwnRow : OpenClaim := { program := "ytfeohcknopdamaa", sum := "e3ab83de2bbd37cd41cb724995fd70df62024686587627babf3144345d288dea", func := "ticking/tickinglaw10.TurnsOwn", spec := "turnsOwn", inPlace := ["slices.overlaps[int]"], unfollowed := true, recurses := true, apart := false }
def TurnsOwnSaid : Prop := turnsOwnRow.holds Try.pinned (OpenSpec.ofChange turnsOwnSpec)

/-- ITS FALSE NEIGHBOUR: 'it returns false'. Refute it at one input. -/
def turnsOwnWrong : ChangeSpec := { name := "turnsOwn", fn := fun _ => fun
  | [d1, d2] => { results := [.lit (.bool false)], args := [d1, d2] }
  | _ => none }
def TurnsOwnWrongFalsely : Prop := turnsOwnRow.holds Try.pinned (OpenSpec.ofChange turnsOwnWrong)

/- THE SECOND FORM. 'bulk': how many values and letters a reading holds, each counted each time it is reached (what is shared counts as often as it is met; a slice's spare places count too). A statement '..UptoSaid' is the law's where the arguments, and the package variables that the reading takes, are together of bulk at most 1048576: NARROWER than '..Said'. Prove '..Said' where nothing that the law and all that it calls make is longer than what came in: it says more and counts as full. Else prove '..UptoSaid'. A law counts once. -/
mutual
def uptoBulk {H : Type} : DataW H → Nat
  | .lit (.string bytes) => bytes.length + 1
  | .lit _ => 1
  | .nil => 1
  | .ptr d => uptoBulk d + 1
  | .slice elems spare => uptoBulkAll elems + uptoBulkAll spare + 1
  | .agg parts => uptoBulkAll parts + 1
  | .iface _ d => uptoBulk d + 1
  | .map entries => uptoBulkEntries entries + 1
  | .held _ => 1
def uptoBulkAll {H : Type} : List (DataW H) → Nat
  | [] => 0
  | d :: r => uptoBulk d + uptoBulkAll r
def uptoBulkEntries {H : Type} : List (Lit × DataW H) → Nat
  | [] => 0
  | x :: r => uptoBulkEntry x + uptoBulkEntries r
def uptoBulkEntry {H : Type} : Lit × DataW H → Nat
  | (.string bytes, d) => bytes.length + uptoBulk d + 1
  | (_, d) => uptoBulk d + 1
 end
def uptoSmall : (H : Type) → List (DataW H) → Bool := fun _ ds => decide (uptoBulkAll ds ≤ 1048576)
def OpenSpec.upto (s : _root_.Go.ChangeSpec) : _root_.Go.OpenSpec := { _root_.Go.OpenSpec.ofChange s with cond := some uptoSmall }

/-- 'tickinglaw10.TurnsSets', WHERE WHAT IT READS IS OF BULK AT MOST 1048576: true; the input reads as it did. -/
def turnsSetsUptoRow : OpenClaim := { program := "ytfeohcknopdamaa", sum := "e3ab83de2bbd37cd41cb724995fd70df62024686587627babf3144345d288dea", func := "ticking/tickinglaw10.TurnsSets", spec := "turnsSets", inPlace := ["slices.overlaps[int]"], unfollowed := true, recurses := true, apart := false, narrowed := true }
def TurnsSetsUptoSaid : Prop := turnsSetsUptoRow.holds Try.pinned (OpenSpec.upto turnsSetsSpec)

/-- 'tickinglaw10.TurnsChoices', WHERE WHAT IT READS IS OF BULK AT MOST 1048576: true; the input reads as it did. -/
def turnsChoicesUptoRow : OpenClaim := { program := "ytfeohcknopdamaa", sum := "e3ab83de2bbd37cd41cb724995fd70df62024686587627babf3144345d288dea", func := "ticking/tickinglaw10.TurnsChoices", spec := "turnsChoices", inPlace := ["slices.overlaps[int]"], unfollowed := true, recurses := true, apart := false, narrowed := true }
def TurnsChoicesUptoSaid : Prop := turnsChoicesUptoRow.holds Try.pinned (OpenSpec.upto turnsChoicesSpec)

/-- 'tickinglaw10.TurnsOrders', WHERE WHAT IT READS IS OF BULK AT MOST 1048576: true; the input reads as it did. -/
def turnsOrdersUptoRow : OpenClaim := { program := "ytfeohcknopdamaa", sum := "e3ab83de2bbd37cd41cb724995fd70df62024686587627babf3144345d288dea", func := "ticking/tickinglaw10.TurnsOrders", spec := "turnsOrders", inPlace := ["slices.overlaps[int]"], unfollowed := true, recurses := true, apart := false, narrowed := true }
def TurnsOrdersUptoSaid : Prop := turnsOrdersUptoRow.holds Try.pinned (OpenSpec.upto turnsOrdersSpec)

/-- 'tickinglaw10.TurnsGroups', WHERE WHAT IT READS IS OF BULK AT MOST 1048576: true; the input reads as it did. -/
def turnsGroupsUptoRow : OpenClaim := { program := "ytfeohcknopdamaa", sum := "e3ab83de2bbd37cd41cb724995fd70df62024686587627babf3144345d288dea", func := "ticking/tickinglaw10.TurnsGroups", spec := "turnsGroups", inPlace := ["slices.overlaps[int]"], unfollowed := true, recurses := true, apart := false, narrowed := true }
def TurnsGroupsUptoSaid : Prop := turnsGroupsUptoRow.holds Try.pinned (OpenSpec.upto turnsGroupsSpec)

/-- 'tickinglaw10.TurnsDials', WHERE WHAT IT READS IS OF BULK AT MOST 1048576: true; the input reads as it did. -/
def turnsDialsUptoRow : OpenClaim := { program := "ytfeohcknopdamaa", sum := "e3ab83de2bbd37cd41cb724995fd70df62024686587627babf3144345d288dea", func := "ticking/tickinglaw10.TurnsDials", spec := "turnsDials", inPlace := ["slices.overlaps[int]"], unfollowed := true, recurses := true, apart := false, narrowed := true }
def TurnsDialsUptoSaid : Prop := turnsDialsUptoRow.holds Try.pinned (OpenSpec.upto turnsDialsSpec)

/-- 'tickinglaw10.TurnsSetSteps', WHERE WHAT IT READS IS OF BULK AT MOST 1048576: true; the input reads as it did. -/
def turnsSetStepsUptoRow : OpenClaim := { program := "ytfeohcknopdamaa", sum := "e3ab83de2bbd37cd41cb724995fd70df62024686587627babf3144345d288dea", func := "ticking/tickinglaw10.TurnsSetSteps", spec := "turnsSetSteps", inPlace := ["slices.overlaps[int]"], unfollowed := true, recurses := true, apart := false, narrowed := true }
def TurnsSetStepsUptoSaid : Prop := turnsSetStepsUptoRow.holds Try.pinned (OpenSpec.upto turnsSetStepsSpec)

/-- 'tickinglaw10.TurnsChoiceSteps', WHERE WHAT IT READS IS OF BULK AT MOST 1048576: true; the input reads as it did. -/
def turnsChoiceStepsUptoRow : OpenClaim := { program := "ytfeohcknopdamaa", sum := "e3ab83de2bbd37cd41cb724995fd70df62024686587627babf3144345d288dea", func := "ticking/tickinglaw10.TurnsChoiceSteps", spec := "turnsChoiceSteps", inPlace := ["slices.overlaps[int]"], unfollowed := true, recurses := true, apart := false, narrowed := true }
def TurnsChoiceStepsUptoSaid : Prop := turnsChoiceStepsUptoRow.holds Try.pinned (OpenSpec.upto turnsChoiceStepsSpec)

/-- 'tickinglaw10.TurnsOrderSteps', WHERE WHAT IT READS IS OF BULK AT MOST 1048576: true; the input reads as it did. -/
def turnsOrderStepsUptoRow : OpenClaim := { program := "ytfeohcknopdamaa", sum := "e3ab83de2bbd37cd41cb724995fd70df62024686587627babf3144345d288dea", func := "ticking/tickinglaw10.TurnsOrderSteps", spec := "turnsOrderSteps", inPlace := ["slices.overlaps[int]"], unfollowed := true, recurses := true, apart := false, narrowed := true }
def TurnsOrderStepsUptoSaid : Prop := turnsOrderStepsUptoRow.holds Try.pinned (OpenSpec.upto turnsOrderStepsSpec)

/-- 'tickinglaw10.TurnsGroupSteps', WHERE WHAT IT READS IS OF BULK AT MOST 1048576: true; the input reads as it did. -/
def turnsGroupStepsUptoRow : OpenClaim := { program := "ytfeohcknopdamaa", sum := "e3ab83de2bbd37cd41cb724995fd70df62024686587627babf3144345d288dea", func := "ticking/tickinglaw10.TurnsGroupSteps", spec := "turnsGroupSteps", inPlace := ["slices.overlaps[int]"], unfollowed := true, recurses := true, apart := false, narrowed := true }
def TurnsGroupStepsUptoSaid : Prop := turnsGroupStepsUptoRow.holds Try.pinned (OpenSpec.upto turnsGroupStepsSpec)

/-- 'tickinglaw10.TurnsDialSteps', WHERE WHAT IT READS IS OF BULK AT MOST 1048576: true; the input reads as it did. -/
def turnsDialStepsUptoRow : OpenClaim := { program := "ytfeohcknopdamaa", sum := "e3ab83de2bbd37cd41cb724995fd70df62024686587627babf3144345d288dea", func := "ticking/tickinglaw10.TurnsDialSteps", spec := "turnsDialSteps", inPlace := ["slices.overlaps[int]"], unfollowed := true, recurses := true, apart := false, narrowed := true }
def TurnsDialStepsUptoSaid : Prop := turnsDialStepsUptoRow.holds Try.pinned (OpenSpec.upto turnsDialStepsSpec)

/-- 'tickinglaw10.TurnsCounts', WHERE WHAT IT READS IS OF BULK AT MOST 1048576: true; the input reads as it did. -/
def turnsCountsUptoRow : OpenClaim := { program := "ytfeohcknopdamaa", sum := "e3ab83de2bbd37cd41cb724995fd70df62024686587627babf3144345d288dea", func := "ticking/tickinglaw10.TurnsCounts", spec := "turnsCounts", inPlace := ["slices.overlaps[int]"], unfollowed := true, recurses := true, apart := false, narrowed := true }
def TurnsCountsUptoSaid : Prop := turnsCountsUptoRow.holds Try.pinned (OpenSpec.upto turnsCountsSpec)

/-- 'tickinglaw10.TurnsWhole', WHERE WHAT IT READS IS OF BULK AT MOST 1048576: true; the input reads as it did. -/
def turnsWholeUptoRow : OpenClaim := { program := "ytfeohcknopdamaa", sum := "e3ab83de2bbd37cd41cb724995fd70df62024686587627babf3144345d288dea", func := "ticking/tickinglaw10.TurnsWhole", spec := "turnsWhole", inPlace := ["slices.overlaps[int]"], unfollowed := true, recurses := true, apart := false, narrowed := true }
def TurnsWholeUptoSaid : Prop := turnsWholeUptoRow.holds Try.pinned (OpenSpec.upto turnsWholeSpec)

/-- 'tickinglaw10.TurnsOwn', WHERE WHAT IT READS IS OF BULK AT MOST 1048576: true; the input reads as it did. -/
def turnsOwnUptoRow : OpenClaim := { program := "ytfeohcknopdamaa", sum := "e3ab83de2bbd37cd41cb724995fd70df62024686587627babf3144345d288dea", func := "ticking/tickinglaw10.TurnsOwn", spec := "turnsOwn", inPlace := ["slices.overlaps[int]"], unfollowed := true, recurses := true, apart := false, narrowed := true }
def TurnsOwnUptoSaid : Prop := turnsOwnUptoRow.holds Try.pinned (OpenSpec.upto turnsOwnSpec)

end Rows
end Go.Proofs.Ytfeohcknopdamaa
