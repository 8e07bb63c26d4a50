/-
  No cell of these rows narrows 'for every input' (looked for: loops, veiled, ifaces, maps, wideKeys, modest, calm, conditions, laid).
  DERIVED. THE GIVEN ROWS OF THIS SEAT. 12 by the template 'for every input the law returns true; each argument reads behind the call as it read before'; 0 by the template 'total and deterministic' (their statements: YtmbdjjkgjnemiaaTotals.lean).
  GIVEN WITH THE SEED: the statements are not yours to turn. If you find one false, say at which input.
  Laid BY PROGRAM, IN A SANDBOX (cutbox-rows.mjs): the forced cells as the released guide's own fill.sh prints them over the translation d877871dfd234f37… (all of the seat's roots in one cut). By AI agents, Wed Nov 11 2026. No macro, syntax, notation, axiom, sorry.
-/
import Derived.Test.YtmbdjjkgjnemiaaChecked
import GoSem.Claim
import GoSem.ClaimJoined
import GoSem.ClaimMapViews
import Derived.JoinedTies
import Derived.KernelRfl
namespace Go.Proofs.Ytmbdjjkgjnemiaa
/- THE CELL 'sum', in the pinned program and in every row, IS THE sha256 OF THE DUMP (.gsa) THAT YtmbdjjkgjnemiaaProg.lean LOADS. Nothing in Lean hashes anything: it is a label: what it is worth is what the hold of that sum in a sandbox is worth. -/
noncomputable def Try.pinned : Pinned := { name := "ytmbdjjkgjnemiaa", sum := "d877871dfd234f37a740cd9470f089666233f9bc1ce44087c72461a87ce82d0d", checked := Try.checked }
namespace Rows
def none {H : Type} : Left H := { results := [], args := [] }

/-- 'tickinglaw06.LoopsSubs': WHATEVER THE INPUT: true; the input reads as it did. -/
def loopsSubsSpec : ChangeSpec := { name := "loopsSubs", fn := fun _ => fun
  | [d1, d2] => { results := [.lit (.bool true)], args := [d1, d2] }
  | _ => none }
def loopsSubsRow : OpenClaim := { program := "ytmbdjjkgjnemiaa", sum := "d877871dfd234f37a740cd9470f089666233f9bc1ce44087c72461a87ce82d0d", func := "ticking/tickinglaw06.LoopsSubs", spec := "loopsSubs", unfollowed := true, recurses := true, plainKeys := false, apart := false }
def LoopsSubsSaid : Prop := loopsSubsRow.holds Try.pinned (OpenSpec.ofChange loopsSubsSpec)

/-- ITS FALSE NEIGHBOUR: 'it returns false'. Refute it at one input. -/
def loopsSubsWrong : ChangeSpec := { name := "loopsSubs", fn := fun _ => fun
  | [d1, d2] => { results := [.lit (.bool false)], args := [d1, d2] }
  | _ => none }
def LoopsSubsWrongFalsely : Prop := loopsSubsRow.holds Try.pinned (OpenSpec.ofChange loopsSubsWrong)

/-- 'tickinglaw06.LoopsChecks': WHATEVER THE INPUT: true; the input reads as it did. -/
def loopsChecksSpec : ChangeSpec := { name := "loopsChecks", fn := fun _ => fun
  | [d1, d2, d3] => { results := [.lit (.bool true)], args := [d1, d2, d3] }
  | _ => none }
def loopsChecksRow : OpenClaim := { program := "ytmbdjjkgjnemiaa", sum := "d877871dfd234f37a740cd9470f089666233f9bc1ce44087c72461a87ce82d0d", func := "ticking/tickinglaw06.LoopsChecks", spec := "loopsChecks", unfollowed := true, recurses := true, plainKeys := false, apart := false }
def LoopsChecksSaid : Prop := loopsChecksRow.holds Try.pinned (OpenSpec.ofChange loopsChecksSpec)

/-- ITS FALSE NEIGHBOUR: 'it returns false'. Refute it at one input. -/
def loopsChecksWrong : ChangeSpec := { name := "loopsChecks", fn := fun _ => fun
  | [d1, d2, d3] => { results := [.lit (.bool false)], args := [d1, d2, d3] }
  | _ => none }
def LoopsChecksWrongFalsely : Prop := loopsChecksRow.holds Try.pinned (OpenSpec.ofChange loopsChecksWrong)

/-- 'tickinglaw06.LoopsEquals': WHATEVER THE INPUT: true; the input reads as it did. -/
def loopsEqualsSpec : ChangeSpec := { name := "loopsEquals", fn := fun _ => fun
  | [d1, d2] => { results := [.lit (.bool true)], args := [d1, d2] }
  | _ => none }
def loopsEqualsRow : OpenClaim := { program := "ytmbdjjkgjnemiaa", sum := "d877871dfd234f37a740cd9470f089666233f9bc1ce44087c72461a87ce82d0d", func := "ticking/tickinglaw06.LoopsEquals", spec := "loopsEquals", unfollowed := true, recurses := true, plainKeys := false, apart := false }
def LoopsEqualsSaid : Prop := loopsEqualsRow.holds Try.pinned (OpenSpec.ofChange loopsEqualsSpec)

/-- ITS FALSE NEIGHBOUR: 'it returns false'. Refute it at one input. -/
def loopsEqualsWrong : ChangeSpec := { name := "loopsEquals", fn := fun _ => fun
  | [d1, d2] => { results := [.lit (.bool false)], args := [d1, d2] }
  | _ => none }
def LoopsEqualsWrongFalsely : Prop := loopsEqualsRow.holds Try.pinned (OpenSpec.ofChange loopsEqualsWrong)

/-- 'tickinglaw06.LoopsBounds': WHATEVER THE INPUT: true; the input reads as it did. -/
def loopsBoundsSpec : ChangeSpec := { name := "loopsBounds", fn := fun _ => fun
  | [d1, d2] => { results := [.lit (.bool true)], args := [d1, d2] }
  | _ => none }
def loopsBoundsRow : OpenClaim := { program := "ytmbdjjkgjnemiaa", sum := "d877871dfd234f37a740cd9470f089666233f9bc1ce44087c72461a87ce82d0d", func := "ticking/tickinglaw06.LoopsBounds", spec := "loopsBounds", unfollowed := true, recurses := true, plainKeys := false, apart := false }
def LoopsBoundsSaid : Prop := loopsBoundsRow.holds Try.pinned (OpenSpec.ofChange loopsBoundsSpec)

/-- ITS FALSE NEIGHBOUR: 'it returns false'. Refute it at one input. -/
def loopsBoundsWrong : ChangeSpec := { name := "loopsBounds", fn := fun _ => fun
  | [d1, d2] => { results := [.lit (.bool false)], args := [d1, d2] }
  | _ => none }
def LoopsBoundsWrongFalsely : Prop := loopsBoundsRow.holds Try.pinned (OpenSpec.ofChange loopsBoundsWrong)

/-- 'tickinglaw06.LoopsOrders': WHATEVER THE INPUT: true; the input reads as it did. -/
def loopsOrdersSpec : ChangeSpec := { name := "loopsOrders", fn := fun _ => fun
  | [d1, d2] => { results := [.lit (.bool true)], args := [d1, d2] }
  | _ => none }
def loopsOrdersRow : OpenClaim := { program := "ytmbdjjkgjnemiaa", sum := "d877871dfd234f37a740cd9470f089666233f9bc1ce44087c72461a87ce82d0d", func := "ticking/tickinglaw06.LoopsOrders", spec := "loopsOrders", unfollowed := true, recurses := true, plainKeys := false, apart := false }
def LoopsOrdersSaid : Prop := loopsOrdersRow.holds Try.pinned (OpenSpec.ofChange loopsOrdersSpec)

/-- ITS FALSE NEIGHBOUR: 'it returns false'. Refute it at one input. -/
def loopsOrdersWrong : ChangeSpec := { name := "loopsOrders", fn := fun _ => fun
  | [d1, d2] => { results := [.lit (.bool false)], args := [d1, d2] }
  | _ => none }
def LoopsOrdersWrongFalsely : Prop := loopsOrdersRow.holds Try.pinned (OpenSpec.ofChange loopsOrdersWrong)

/-- 'tickinglaw06.LoopsOnce': WHATEVER THE INPUT: true; the input reads as it did. -/
def loopsOnceSpec : ChangeSpec := { name := "loopsOnce", fn := fun _ => fun
  | [d1, d2, d3] => { results := [.lit (.bool true)], args := [d1, d2, d3] }
  | _ => none }
def loopsOnceRow : OpenClaim := { program := "ytmbdjjkgjnemiaa", sum := "d877871dfd234f37a740cd9470f089666233f9bc1ce44087c72461a87ce82d0d", func := "ticking/tickinglaw06.LoopsOnce", spec := "loopsOnce", unfollowed := true, recurses := true, plainKeys := false, apart := false }
def LoopsOnceSaid : Prop := loopsOnceRow.holds Try.pinned (OpenSpec.ofChange loopsOnceSpec)

/-- ITS FALSE NEIGHBOUR: 'it returns false'. Refute it at one input. -/
def loopsOnceWrong : ChangeSpec := { name := "loopsOnce", fn := fun _ => fun
  | [d1, d2, d3] => { results := [.lit (.bool false)], args := [d1, d2, d3] }
  | _ => none }
def LoopsOnceWrongFalsely : Prop := loopsOnceRow.holds Try.pinned (OpenSpec.ofChange loopsOnceWrong)

/-- 'tickinglaw06.LoopsLaws': WHATEVER THE INPUT: true; the input reads as it did. -/
def loopsLawsSpec : ChangeSpec := { name := "loopsLaws", fn := fun _ => fun
  | [d1, d2] => { results := [.lit (.bool true)], args := [d1, d2] }
  | _ => none }
def loopsLawsRow : OpenClaim := { program := "ytmbdjjkgjnemiaa", sum := "d877871dfd234f37a740cd9470f089666233f9bc1ce44087c72461a87ce82d0d", func := "ticking/tickinglaw06.LoopsLaws", spec := "loopsLaws", unfollowed := true, recurses := true, plainKeys := false, apart := false }
def LoopsLawsSaid : Prop := loopsLawsRow.holds Try.pinned (OpenSpec.ofChange loopsLawsSpec)

/-- ITS FALSE NEIGHBOUR: 'it returns false'. Refute it at one input. -/
def loopsLawsWrong : ChangeSpec := { name := "loopsLaws", fn := fun _ => fun
  | [d1, d2] => { results := [.lit (.bool false)], args := [d1, d2] }
  | _ => none }
def LoopsLawsWrongFalsely : Prop := loopsLawsRow.holds Try.pinned (OpenSpec.ofChange loopsLawsWrong)

/-- 'tickinglaw06.LoopsShape': WHATEVER THE INPUT: true; the input reads as it did. -/
def loopsShapeSpec : ChangeSpec := { name := "loopsShape", fn := fun _ => fun
  | [d1, d2] => { results := [.lit (.bool true)], args := [d1, d2] }
  | _ => none }
def loopsShapeRow : OpenClaim := { program := "ytmbdjjkgjnemiaa", sum := "d877871dfd234f37a740cd9470f089666233f9bc1ce44087c72461a87ce82d0d", func := "ticking/tickinglaw06.LoopsShape", spec := "loopsShape", unfollowed := true, recurses := true, plainKeys := false, apart := false }
def LoopsShapeSaid : Prop := loopsShapeRow.holds Try.pinned (OpenSpec.ofChange loopsShapeSpec)

/-- ITS FALSE NEIGHBOUR: 'it returns false'. Refute it at one input. -/
def loopsShapeWrong : ChangeSpec := { name := "loopsShape", fn := fun _ => fun
  | [d1, d2] => { results := [.lit (.bool false)], args := [d1, d2] }
  | _ => none }
def LoopsShapeWrongFalsely : Prop := loopsShapeRow.holds Try.pinned (OpenSpec.ofChange loopsShapeWrong)

/-- 'tickinglaw06.LoopsLattice': WHATEVER THE INPUT: true; the input reads as it did. -/
def loopsLatticeSpec : ChangeSpec := { name := "loopsLattice", fn := fun _ => fun
  | [d1, d2] => { results := [.lit (.bool true)], args := [d1, d2] }
  | _ => none }
def loopsLatticeRow : OpenClaim := { program := "ytmbdjjkgjnemiaa", sum := "d877871dfd234f37a740cd9470f089666233f9bc1ce44087c72461a87ce82d0d", func := "ticking/tickinglaw06.LoopsLattice", spec := "loopsLattice", unfollowed := true, recurses := true, plainKeys := false, apart := false }
def LoopsLatticeSaid : Prop := loopsLatticeRow.holds Try.pinned (OpenSpec.ofChange loopsLatticeSpec)

/-- ITS FALSE NEIGHBOUR: 'it returns false'. Refute it at one input. -/
def loopsLatticeWrong : ChangeSpec := { name := "loopsLattice", fn := fun _ => fun
  | [d1, d2] => { results := [.lit (.bool false)], args := [d1, d2] }
  | _ => none }
def LoopsLatticeWrongFalsely : Prop := loopsLatticeRow.holds Try.pinned (OpenSpec.ofChange loopsLatticeWrong)

/-- 'tickinglaw06.LoopsAbsorbs': WHATEVER THE INPUT: true; the input reads as it did. -/
def loopsAbsorbsSpec : ChangeSpec := { name := "loopsAbsorbs", fn := fun _ => fun
  | [d1, d2] => { results := [.lit (.bool true)], args := [d1, d2] }
  | _ => none }
def loopsAbsorbsRow : OpenClaim := { program := "ytmbdjjkgjnemiaa", sum := "d877871dfd234f37a740cd9470f089666233f9bc1ce44087c72461a87ce82d0d", func := "ticking/tickinglaw06.LoopsAbsorbs", spec := "loopsAbsorbs", unfollowed := true, recurses := true, plainKeys := false, apart := false }
def LoopsAbsorbsSaid : Prop := loopsAbsorbsRow.holds Try.pinned (OpenSpec.ofChange loopsAbsorbsSpec)

/-- ITS FALSE NEIGHBOUR: 'it returns false'. Refute it at one input. -/
def loopsAbsorbsWrong : ChangeSpec := { name := "loopsAbsorbs", fn := fun _ => fun
  | [d1, d2] => { results := [.lit (.bool false)], args := [d1, d2] }
  | _ => none }
def LoopsAbsorbsWrongFalsely : Prop := loopsAbsorbsRow.holds Try.pinned (OpenSpec.ofChange loopsAbsorbsWrong)

/-- 'tickinglaw06.LoopsDeep': WHATEVER THE INPUT: true; the input reads as it did. -/
def loopsDeepSpec : ChangeSpec := { name := "loopsDeep", fn := fun _ => fun
  | [d1, d2] => { results := [.lit (.bool true)], args := [d1, d2] }
  | _ => none }
def loopsDeepRow : OpenClaim := { program := "ytmbdjjkgjnemiaa", sum := "d877871dfd234f37a740cd9470f089666233f9bc1ce44087c72461a87ce82d0d", func := "ticking/tickinglaw06.LoopsDeep", spec := "loopsDeep", unfollowed := true, recurses := true, plainKeys := false, apart := false }
def LoopsDeepSaid : Prop := loopsDeepRow.holds Try.pinned (OpenSpec.ofChange loopsDeepSpec)

/-- ITS FALSE NEIGHBOUR: 'it returns false'. Refute it at one input. -/
def loopsDeepWrong : ChangeSpec := { name := "loopsDeep", fn := fun _ => fun
  | [d1, d2] => { results := [.lit (.bool false)], args := [d1, d2] }
  | _ => none }
def LoopsDeepWrongFalsely : Prop := loopsDeepRow.holds Try.pinned (OpenSpec.ofChange loopsDeepWrong)

/-- 'tickinglaw06.LoopsOwn': WHATEVER THE INPUT: true; the input reads as it did. -/
def loopsOwnSpec : ChangeSpec := { name := "loopsOwn", fn := fun _ => fun
  | [d1, d2] => { results := [.lit (.bool true)], args := [d1, d2] }
  | _ => none }
def loopsOwnRow : OpenClaim := { program := "ytmbdjjkgjnemiaa", sum := "d877871dfd234f37a740cd9470f089666233f9bc1ce44087c72461a87ce82d0d", func := "ticking/tickinglaw06.LoopsOwn", spec := "loopsOwn", unfollowed := true, recurses := true, plainKeys := false, apart := false }
def LoopsOwnSaid : Prop := loopsOwnRow.holds Try.pinned (OpenSpec.ofChange loopsOwnSpec)

/-- ITS FALSE NEIGHBOUR: 'it returns false'. Refute it at one input. -/
def loopsOwnWrong : ChangeSpec := { name := "loopsOwn", fn := fun _ => fun
  | [d1, d2] => { results := [.lit (.bool false)], args := [d1, d2] }
  | _ => none }
def LoopsOwnWrongFalsely : Prop := loopsOwnRow.holds Try.pinned (OpenSpec.ofChange loopsOwnWrong)

/- THE SECOND FORM. 'bulk': how many values and letters a reading holds, each counted each time it is reached (what is shared counts as often as it is met; a slice's spare places count too). A statement '..UptoSaid' is the law's where the arguments, and the package variables that the reading takes, are together of bulk at most 1048576: NARROWER than '..Said'. Prove '..Said' where nothing that the law and all that it calls make is longer than what came in: it says more and counts as full. Else prove '..UptoSaid'. A law counts once. -/
mutual
def uptoBulk {H : Type} : DataW H → Nat
  | .lit (.string bytes) => bytes.length + 1
  | .lit _ => 1
  | .nil => 1
  | .ptr d => uptoBulk d + 1
  | .slice elems spare => uptoBulkAll elems + uptoBulkAll spare + 1
  | .agg parts => uptoBulkAll parts + 1
  | .iface _ d => uptoBulk d + 1
  | .map entries => uptoBulkEntries entries + 1
  | .held _ => 1
def uptoBulkAll {H : Type} : List (DataW H) → Nat
  | [] => 0
  | d :: r => uptoBulk d + uptoBulkAll r
def uptoBulkEntries {H : Type} : List (Lit × DataW H) → Nat
  | [] => 0
  | x :: r => uptoBulkEntry x + uptoBulkEntries r
def uptoBulkEntry {H : Type} : Lit × DataW H → Nat
  | (.string bytes, d) => bytes.length + uptoBulk d + 1
  | (_, d) => uptoBulk d + 1
 end
def uptoSmall : (H : Type) → List (DataW H) → Bool := fun _ ds => decide (uptoBulkAll ds ≤ 1048576)
def OpenSpec.upto (s : _root_.Go.ChangeSpec) : _root_.Go.OpenSpec := { _root_.Go.OpenSpec.ofChange s with cond := some uptoSmall }

/-- 'tickinglaw06.LoopsSubs', WHERE WHAT IT READS IS OF BULK AT MOST 1048576: true; the input reads as it did. -/
def loopsSubsUptoRow : OpenClaim := { program := "ytmbdjjkgjnemiaa", sum := "d877871dfd234f37a740cd9470f089666233f9bc1ce44087c72461a87ce82d0d", func := "ticking/tickinglaw06.LoopsSubs", spec := "loopsSubs", unfollowed := true, recurses := true, plainKeys := false, apart := false, narrowed := true }
def LoopsSubsUptoSaid : Prop := loopsSubsUptoRow.holds Try.pinned (OpenSpec.upto loopsSubsSpec)

/-- 'tickinglaw06.LoopsChecks', WHERE WHAT IT READS IS OF BULK AT MOST 1048576: true; the input reads as it did. -/
def loopsChecksUptoRow : OpenClaim := { program := "ytmbdjjkgjnemiaa", sum := "d877871dfd234f37a740cd9470f089666233f9bc1ce44087c72461a87ce82d0d", func := "ticking/tickinglaw06.LoopsChecks", spec := "loopsChecks", unfollowed := true, recurses := true, plainKeys := false, apart := false, narrowed := true }
def LoopsChecksUptoSaid : Prop := loopsChecksUptoRow.holds Try.pinned (OpenSpec.upto loopsChecksSpec)

/-- 'tickinglaw06.LoopsEquals', WHERE WHAT IT READS IS OF BULK AT MOST 1048576: true; the input reads as it did. -/
def loopsEqualsUptoRow : OpenClaim := { program := "ytmbdjjkgjnemiaa", sum := "d877871dfd234f37a740cd9470f089666233f9bc1ce44087c72461a87ce82d0d", func := "ticking/tickinglaw06.LoopsEquals", spec := "loopsEquals", unfollowed := true, recurses := true, plainKeys := false, apart := false, narrowed := true }
def LoopsEqualsUptoSaid : Prop := loopsEqualsUptoRow.holds Try.pinned (OpenSpec.upto loopsEqualsSpec)

/-- 'tickinglaw06.LoopsBounds', WHERE WHAT IT READS IS OF BULK AT MOST 1048576: true; the input reads as it did. -/
def loopsBoundsUptoRow : OpenClaim := { program := "ytmbdjjkgjnemiaa", sum := "d877871dfd234f37a740cd9470f089666233f9bc1ce44087c72461a87ce82d0d", func := "ticking/tickinglaw06.LoopsBounds", spec := "loopsBounds", unfollowed := true, recurses := true, plainKeys := false, apart := false, narrowed := true }
def LoopsBoundsUptoSaid : Prop := loopsBoundsUptoRow.holds Try.pinned (OpenSpec.upto loopsBoundsSpec)

/-- 'tickinglaw06.LoopsOrders', WHERE WHAT IT READS IS OF BULK AT MOST 1048576: true; the input reads as it did. -/
def loopsOrdersUptoRow : OpenClaim := { program := "ytmbdjjkgjnemiaa", sum := "d877871dfd234f37a740cd9470f089666233f9bc1ce44087c72461a87ce82d0d", func := "ticking/tickinglaw06.LoopsOrders", spec := "loopsOrders", unfollowed := true, recurses := true, plainKeys := false, apart := false, narrowed := true }
def LoopsOrdersUptoSaid : Prop := loopsOrdersUptoRow.holds Try.pinned (OpenSpec.upto loopsOrdersSpec)

/-- 'tickinglaw06.LoopsOnce', WHERE WHAT IT READS IS OF BULK AT MOST 1048576: true; the input reads as it did. -/
def loopsOnceUptoRow : OpenClaim := { program := "ytmbdjjkgjnemiaa", sum := "d877871dfd234f37a740cd9470f089666233f9bc1ce44087c72461a87ce82d0d", func := "ticking/tickinglaw06.LoopsOnce", spec := "loopsOnce", unfollowed := true, recurses := true, plainKeys := false, apart := false, narrowed := true }
def LoopsOnceUptoSaid : Prop := loopsOnceUptoRow.holds Try.pinned (OpenSpec.upto loopsOnceSpec)

/-- 'tickinglaw06.LoopsLaws', WHERE WHAT IT READS IS OF BULK AT MOST 1048576: true; the input reads as it did. -/
def loopsLawsUptoRow : OpenClaim := { program := "ytmbdjjkgjnemiaa", sum := "d877871dfd234f37a740cd9470f089666233f9bc1ce44087c72461a87ce82d0d", func := "ticking/tickinglaw06.LoopsLaws", spec := "loopsLaws", unfollowed := true, recurses := true, plainKeys := false, apart := false, narrowed := true }
def LoopsLawsUptoSaid : Prop := loopsLawsUptoRow.holds Try.pinned (OpenSpec.upto loopsLawsSpec)

/-- 'tickinglaw06.LoopsShape', WHERE WHAT IT READS IS OF BULK AT MOST 1048576: true; the input reads as it did. -/
def loopsShapeUptoRow : OpenClaim := { program := "ytmbdjjkgjnemiaa", sum := "d877871dfd234f37a740cd9470f089666233f9bc1ce44087c72461a87ce82d0d", func := "ticking/tickinglaw06.LoopsShape", spec := "loopsShape", unfollowed := true, recurses := true, plainKeys := false, apart := false, narrowed := true }
def LoopsShapeUptoSaid : Prop := loopsShapeUptoRow.holds Try.pinned (OpenSpec.upto loopsShapeSpec)

/-- 'tickinglaw06.LoopsLattice', WHERE WHAT IT READS IS OF BULK AT MOST 1048576: true; the input reads as it did. -/
def loopsLatticeUptoRow : OpenClaim := { program := "ytmbdjjkgjnemiaa", sum := "d877871dfd234f37a740cd9470f089666233f9bc1ce44087c72461a87ce82d0d", func := "ticking/tickinglaw06.LoopsLattice", spec := "loopsLattice", unfollowed := true, recurses := true, plainKeys := false, apart := false, narrowed := true }
def LoopsLatticeUptoSaid : Prop := loopsLatticeUptoRow.holds Try.pinned (OpenSpec.upto loopsLatticeSpec)

/-- 'tickinglaw06.LoopsAbsorbs', WHERE WHAT IT READS IS OF BULK AT MOST 1048576: true; the input reads as it did. -/
def loopsAbsorbsUptoRow : OpenClaim := { program := "ytmbdjjkgjnemiaa", sum := "d877871dfd234f37a740cd9470f089666233f9bc1ce44087c72461a87ce82d0d", func := "ticking/tickinglaw06.LoopsAbsorbs", spec := "loopsAbsorbs", unfollowed := true, recurses := true, plainKeys := false, apart := false, narrowed := true }
def LoopsAbsorbsUptoSaid : Prop := loopsAbsorbsUptoRow.holds Try.pinned (OpenSpec.upto loopsAbsorbsSpec)

/-- 'tickinglaw06.LoopsDeep', WHERE WHAT IT READS IS OF BULK AT MOST 1048576: true; the input reads as it did. -/
def loopsDeepUptoRow : OpenClaim := { program := "ytmbdjjkgjnemiaa", sum := "d877871dfd234f37a740cd9470f089666233f9bc1ce44087c72461a87ce82d0d", func := "ticking/tickinglaw06.LoopsDeep", spec := "loopsDeep", unfollowed := true, recurses := true, plainKeys := false, apart := false, narrowed := true }
def LoopsDeepUptoSaid : Prop := loopsDeepUptoRow.holds Try.pinned (OpenSpec.upto loopsDeepSpec)

/-- 'tickinglaw06.LoopsOwn', WHERE WHAT IT READS IS OF BULK AT MOST 1048576: true; the input reads as it did. -/
def loopsOwnUptoRow : OpenClaim := { program := "ytmbdjjkgjnemiaa", sum := "d877871dfd234f37a740cd9470f089666233f9bc1ce44087c72461a87ce82d0d", func := "ticking/tickinglaw06.LoopsOwn", spec := "loopsOwn", unfollowed := true, recurses := true, plainKeys := false, apart := false, narrowed := true }
def LoopsOwnUptoSaid : Prop := loopsOwnUptoRow.holds Try.pinned (OpenSpec.upto loopsOwnSpec)

end Rows
end Go.Proofs.Ytmbdjjkgjnemiaa
