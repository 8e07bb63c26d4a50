import Derived.Test.YtkemcmeagnggeaaT04
import Derived.KernelRfl
/- Layer 3: two rows of steps side by side. -/
namespace Go.Proofs.Ytkemcmeagnggeaa
open Go.RowKit
set_option linter.unusedVariables false

def join2 (f h : Nat → Int) (i : Nat) : Int := if i < 248 then f i else h (i - 248)
theorem Try.zeroTwo : (Try.prog.info? 76).bind (·.zero) = some (.agg (rowV 496 fun _ => 0)) := by kernel_rfl
theorem Try.sizeTwo : (Try.prog.info? 76).map (·.size) = some 496 := by kernel_rfl
set_option maxRecDepth 1000000 in
theorem built_two (f h : Nat → Int) : Try.prog.built 76 [(0, .agg (rowV 248 f)), (1, .agg (rowV 248 h))] = some (rowV 496 (join2 f h)) := by kernel_rfl
end Go.Proofs.Ytkemcmeagnggeaa
