/- LoopsAbsorbs returns true for every argument, and the call returns and changes nothing that was there before: the join of a node with the meet of it and another one is the node, and so is the meet with the join, and the join of a node with itself; no condition. -/
import Derived.Test.YtmbdjjkgjnemiaaT43
import Derived.Test.YtmbdjjkgjnemiaaT13
import Derived.Test.YtmbdjjkgjnemiaaRows
import Derived.WalkKit
import Derived.ProofKit
import Derived.OpenShut
import Derived.ChangeOld
import Derived.Below
import Derived.Lib.SmallJoins
namespace Go.Proofs.Ytmbdjjkgjnemiaa.loopsAbsorbs
open Go.Joins Go.ChangeShapes Go.WideShapes Go.ChangeAt Go.RowKit
set_option linter.unusedVariables false

theorem own : ownKnob Try.prog.godebug = none := by kernel_rfl
theorem laidOut : laidOutB Try.prog = true := by kernel_rfl
theorem cellsTwo : Try.prog.cellsOf 23 = 2 := by kernel_rfl
theorem cellsInt : Try.prog.cellsOf 3 = 1 := by kernel_rfl
theorem row_two {H : Type} {enc : TypeId × Value → H} {P : Program} {w : World} {base : Nat} {spare : Nat → Bool} {held : Bool} {t e : TypeId} {fuel : Nat} {c0 c1 : Value} {x : DataW H × List MemPlace} (ht : P.underlying t = some (.array 2 e)) (hce : P.cellsOf e = 1)
    (h : DataW.trod enc P w base spare held fuel t [c0, c1] = some x) : ∃ y0 y1 n, DataW.trod enc P w base spare held n e [c0] = some y0 ∧ DataW.trod enc P w base spare held n e [c1] = some y1 := by
  match fuel, h with
  | 0, h => simp [DataW.trod] at h
  | n + 1, h =>
    unfold DataW.trod at h
    have r2 : List.range 2 = [0, 1] := rfl
    simp [ht, r2, hce] at h
    rcases h0 : DataW.trod enc P w base spare held n e [c0] with _ | y0
    · simp [h0] at h
    · rcases h1 : DataW.trod enc P w base spare held n e [c1] with _ | y1
      · simp [h0, h1] at h
      · exact ⟨y0, y1, n, h0, h1⟩

theorem walk (a0 : Option Addr) (len0 cap0 : Nat) (z0 : List Ty) (x0 x1 : Int) (b0 : (Lit.int .i64 x0).wf = true) (b1 : (Lit.int .i64 x1).wf = true) (w : World) (w0 : Tl w a0 len0 cap0 z0) :
    Calls Try.prog 12 #[.slice a0 len0 cap0, .agg #[.int .i64 x0, .int .i64 x1]] w fun e w' => e = .returned (.bool true) ∧ Below w.heap.size w w' := by
  exact absorbs_walk z0 a0 len0 cap0 x0 x1 w w0

set_option maxRecDepth 100000 in
theorem lifted (os : Os) (started : os.Started) (H : Type) (enc : TypeId × Value → H) :
    ReturnsInHanded {} Try.checked os 12 .any (Rows.loopsAbsorbsSpec.pre6 enc Try.prog Try.f12 Rows.loopsAbsorbsRow.domain false) (Rows.loopsAbsorbsSpec.post enc Try.prog Try.f12 false true false false) := by
  refine returnsInHanded_of_change (C := Try.checked) own started (by kernel_rfl) Try.func12
    (ChangeSpec.witness6 (enc := enc) (C := Try.checked) false ⟨#[], #[.slice none 0 0, .agg #[.int .i64 0, .int .i64 0]], []⟩ 8 (by kernel_rfl) (by kernel_rfl) (by kernel_rfl) (by kernel_rfl)) ?_
  intro W base args ds gs before hval0 hW hcnd _
  have hval : ∀ (j : Nat) t v, Try.f12.params[j]? = some t → args[j]? = some v → Value.okWide Try.prog W .any base t v := hval0
  have hW' := hW
  obtain ⟨p, q, hA0, hV, rfl, hfz, hnd⟩ := hW
  have hA : DataW.TrodAll enc Try.prog W 0 (fun _ => true) true Try.f12.params.toList args.toList ds p := hA0
  rw [Try.params12] at hA hval
  obtain ⟨v0, vs0, d0, ds0, p0, q0, hargs, rfl, rfl, h0, r0⟩ := trodAll_cons hA
  obtain ⟨v1, vs1, d1, ds1, p1, q1, rfl, rfl, rfl, h1, r1⟩ := trodAll_cons r0
  obtain ⟨rfl, rfl, rfl⟩ := trodAll_nil r1
  obtain rfl : args = #[v0, v1] := by cases args; simp_all
  obtain ⟨rfl, rfl⟩ := trodVars_none hV
  obtain ⟨a0, len0, cap0, rfl⟩ := okWide_slice Try.underlying22 (hval 0 22 v0 rfl rfl)
  have k0 := h0
  have k1 := h1
  have lt0 : ∀ x ∈ p0, x.block < W.heap.size := by obtain ⟨m, hm⟩ := k0; exact DataW.trod_lt m _ _ _ hm
  have lt1 : ∀ x ∈ p1, x.block < W.heap.size := by obtain ⟨m, hm⟩ := k1; exact DataW.trod_lt m _ _ _ hm
  obtain ⟨z0, w0⟩ : ∃ zs, Tl W a0 len0 cap0 zs := by
    obtain ⟨fuel, hf⟩ := h0
    exact types_in hf
  obtain ⟨x0, x1, rfl, b0, b1⟩ : ∃ x0 x1 : Int, v1 = .agg #[.int .i64 x0, .int .i64 x1] ∧ (Lit.int .i64 x0).wf = true ∧ (Lit.int .i64 x1).wf = true := by
    have hv := hval 1 23 v1 rfl rfl
    simp only [Value.okWide, Try.underlying23] at hv
    obtain ⟨cs, rfl, hsz, _⟩ := hv
    obtain ⟨c0, c1, rfl⟩ := array2 (hsz.trans cellsTwo)
    obtain ⟨fuel, hf⟩ := h1
    obtain ⟨y0, y1, n, g0, g1⟩ := row_two Try.underlying23 cellsInt hf
    obtain ⟨x0, e0, _, z0⟩ := DataW.trod_int Try.underlying3 g0
    obtain ⟨x1, e1, _, z1⟩ := DataW.trod_int Try.underlying3 g1
    injection e0 with e0
    injection e1 with e1
    subst e0 e1
    exact ⟨x0, x1, rfl, z0, z1⟩
  clear hA0 hval0
  refine (walk a0 len0 cap0 z0 x0 x1 b0 b1 W w0).mono fun e W' ⟨he, bel⟩ => ?_
  subst he
  exact ⟨_, rfl, _, _, _, [], _, [], hW', trodAll_mk1 (shut_bool Try.underlying4 _), (trodAll_cons_mk (Below.trod laidOut (by kernel_rfl) (of_decide_eq_true (by kernel_rfl)) k0 bel lt0) (trodAll_cons_mk (Below.trod laidOut (by kernel_rfl) (of_decide_eq_true (by kernel_rfl)) k1 bel lt1) trodAll_mk0)), rfl, bel.frame _, fun h => by cases h⟩

theorem over : Rows.loopsAbsorbsRow.holds Try.pinned (OpenSpec.ofChange Rows.loopsAbsorbsSpec) :=
  OpenClaim.holds_of_wide 12 Try.f12 rfl rfl rfl rfl rfl rfl rfl ⟨rfl, rfl, rfl, rfl, rfl⟩ rfl rfl rfl rfl rfl (by kernel_rfl) Try.func12 (by kernel_rfl)
    (of_decide_eq_true (by kernel_rfl)) (by unfold Func.isWrapper; first | (rw [if_pos (by decide +kernel)]; kernel_rfl) | (rw [if_neg (by decide +kernel)]; exact ⟨rfl, rfl⟩))
    (fun os started H enc _ => lifted os started H enc)

theorem proved : Rows.LoopsAbsorbsSaid := over
end Go.Proofs.Ytmbdjjkgjnemiaa.loopsAbsorbs
