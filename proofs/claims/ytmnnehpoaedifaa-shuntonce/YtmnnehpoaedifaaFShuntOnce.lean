/- For every list of ints, made into an order of at most 30 items, every int and every two lists: the landed program accepts no block where a plan, lanes or sides sort, and none of these where it returns a block. -/
import Derived.Test.YtmnnehpoaedifaaJ16
import Derived.Test.YtmnnehpoaedifaaJ34
import Derived.Test.YtmnnehpoaedifaaJ13
import Derived.Test.YtmnnehpoaedifaaJ18
import Derived.Test.YtmnnehpoaedifaaJ14
import Derived.Test.YtmnnehpoaedifaaJ19
import Derived.Test.YtmnnehpoaedifaaJ31
import Derived.Test.YtmnnehpoaedifaaJ28
import Derived.Test.YtmnnehpoaedifaaJ07
import Derived.Test.YtmnnehpoaedifaaRows
import Derived.WalkKit
import Derived.ProofKit
import Derived.OpenShut
import Derived.ShutString
import Derived.ChangeOld
import Derived.Below
import Derived.Lib.SmallJoins
namespace Go.Proofs.Ytmnnehpoaedifaa.shuntOnce
open Go.Joins Go.ChangeShapes Go.WideShapes Go.ChangeAt Go.RowKit
open Go.ChangeMaps (open_string shut_string)
set_option linter.unusedVariables false

theorem own : ownKnob Try.prog.godebug = none := by kernel_rfl
theorem cellsAnswer : Try.prog.cellsOf 42 = 2 := by kernel_rfl
theorem laidOut : laidOutB Try.prog = true := by kernel_rfl

def IsRow (k : IntKind) (w : World) (a : Option Addr) (len cap : Nat) (zs : List Int) : Prop :=
  (a = none ∧ len = 0 ∧ cap = 0 ∧ zs = []) ∨
  ∃ x, a = some x ∧ len ≤ cap ∧ cap ≤ maxLen ∧ zs.length = cap ∧ (∀ i, i < zs.length → w.cell? (x.add i) = some (.int k (zs.getD i 0))) ∧ ∀ n ∈ zs, (Lit.int k n).wf = true

theorem walk (a0 : Option Addr) (len0 cap0 : Nat) (z0 : List Int) (a1 : Int) (b0 : Option Addr) (m0 d0 : Nat) (b1 : Option Addr) (m1 d1 : Nat) (y0 y1 : List Int) (w : World) (w0 : IsRow .i64 w a0 len0 cap0 z0) (w1 : (Lit.int .i64 a1).wf = true) (wy0 : IsRow .i64 w b0 m0 d0 y0) (wy1 : IsRow .i64 w b1 m1 d1 y1) :
    Calls Try.prog 11 #[.slice a0 len0 cap0, .int .i64 a1, .agg #[.slice b0 m0 d0, .slice b1 m1 d1]] w fun e w' => e = .returned (.bool true) ∧ Below w.heap.size w w' := by
  exact once_law awake_here stack_ok checkStack_ok queues_ok checkQueues_ok stacks_ok checkStacks_ok _ _ _ _ _ _ _ _ _ _ _ _ _ w (Sl.of_row w0) (Sl.of_row wy0) (Sl.of_row wy1)

set_option maxRecDepth 100000 in
theorem lifted (os : Os) (started : os.Started) (H : Type) (enc : TypeId × Value → H) :
    ReturnsInHanded {} Try.checked os 11 .any (Rows.shuntOnceSpec.pre6 enc Try.prog Try.f11 Rows.shuntOnceRow.domain false) (Rows.shuntOnceSpec.post enc Try.prog Try.f11 false true false false) := by
  refine returnsInHanded_of_change (C := Try.checked) own started (by kernel_rfl) Try.func11
    (ChangeSpec.witness6 (enc := enc) (C := Try.checked) false ⟨#[], #[.slice none 0 0, .int .i64 0, .agg #[.slice none 0 0, .slice none 0 0]], []⟩ 8 (by kernel_rfl) (by kernel_rfl) (by kernel_rfl) (by kernel_rfl)) ?_
  intro W base args ds gs before hval0 hW hcnd _
  have hval : ∀ (j : Nat) t v, Try.f11.params[j]? = some t → args[j]? = some v → Value.okWide Try.prog W .any base t v := hval0
  have hW' := hW
  obtain ⟨p, q, hA0, hV, rfl, hfz, hnd⟩ := hW
  have hA : DataW.TrodAll enc Try.prog W 0 (fun _ => true) true Try.f11.params.toList args.toList ds p := hA0
  rw [Try.params11] at hA hval
  obtain ⟨v0, vs0, d0, ds0, p0, q0, hargs, rfl, rfl, h0, r0⟩ := trodAll_cons hA
  obtain ⟨v1, vs1, d1, ds1, p1, q1, rfl, rfl, rfl, h1, r1⟩ := trodAll_cons r0
  obtain ⟨v2, vs2, dd2, ds2, p2, q2, rfl, rfl, rfl, h2, r2⟩ := trodAll_cons r1
  obtain ⟨rfl, rfl, rfl⟩ := trodAll_nil r2
  obtain rfl : args = #[v0, v1, v2] := by cases args; simp_all
  obtain ⟨rfl, rfl⟩ := trodVars_none hV
  obtain ⟨a0, len0, cap0, rfl⟩ := okWide_slice Try.underlying22 (hval 0 22 v0 rfl rfl)
  have k0 := h0
  have lt0 : ∀ x ∈ p0, x.block < W.heap.size := by obtain ⟨m, hm⟩ := k0; exact DataW.trod_lt m _ _ _ hm
  obtain ⟨z0, w0⟩ : ∃ zs, IsRow .i64 W a0 len0 cap0 zs := by
    obtain ⟨fuel, hf⟩ := h0
    rcases open_ints Try.underlying22 Try.underlying3 (by kernel_rfl) hf with ⟨hcs, _⟩ | ⟨x, l, c, zs, hcs, _, hl, hm, hz, _, hcell, hwz⟩
    · simp [Value.cells] at hcs
      obtain ⟨rfl, rfl, rfl⟩ := hcs
      exact ⟨[], .inl ⟨rfl, rfl, rfl, rfl⟩⟩
    · simp [Value.cells] at hcs
      obtain ⟨rfl, rfl, rfl⟩ := hcs
      exact ⟨zs, .inr ⟨_, rfl, hl, hm, by simpa using hz, hcell, hwz⟩⟩
  obtain ⟨a1, rfl, rfl, rfl, w1⟩ := open_int Try.underlying3 (hval 1 3 v1 rfl rfl) h1
  have kx := h2
  have ltx : ∀ x ∈ p2, x.block < W.heap.size := by obtain ⟨m, hm⟩ := kx; exact DataW.trod_lt m _ _ _ hm
  obtain ⟨b0, m0, e0, b1, m1, e1, y0, y1, rfl, wy0, wy1⟩ : ∃ b0 m0 e0 b1 m1 e1 y0 y1, v2 = .agg #[.slice b0 m0 e0, .slice b1 m1 e1] ∧ IsRow .i64 W b0 m0 e0 y0 ∧ IsRow .i64 W b1 m1 e1 y1 := by
    obtain ⟨c0, c1, y0, y1, m, rfl, _, _, hy0, hy1⟩ := open_agg2 Try.underlying42 (by kernel_rfl) cellsAnswer (hval 2 42 v2 rfl rfl) h2
    have row : ∀ {c : Value} {y : DataW H × List MemPlace}, DataW.trod enc Try.prog W 0 (fun _ => true) true m 22 [c] = some y → ∃ a l e z, c = .slice a l e ∧ IsRow .i64 W a l e z := by
      intro c y hy
      rcases open_ints Try.underlying22 Try.underlying3 (by kernel_rfl) hy with ⟨hcs, _⟩ | ⟨x, l, e, zs, hcs, _, hl, hm, hz, _, hcell, hwz⟩
      · injection hcs with hcs
        exact ⟨none, 0, 0, [], hcs, .inl ⟨rfl, rfl, rfl, rfl⟩⟩
      · injection hcs with hcs
        exact ⟨some x, l, e, zs, hcs, .inr ⟨_, rfl, hl, hm, by simpa using hz, hcell, hwz⟩⟩
    obtain ⟨s0, l0, f0, t0, rfl, g0⟩ := row hy0
    obtain ⟨s1, l1, f1, t1, rfl, g1⟩ := row hy1
    exact ⟨s0, l0, f0, s1, l1, f1, t0, t1, rfl, g0, g1⟩
  clear hA0 hval0
  refine (walk a0 len0 cap0 z0 a1 b0 m0 e0 b1 m1 e1 y0 y1 W w0 w1 wy0 wy1).mono fun e W' ⟨he, bel⟩ => ?_
  subst he
  exact ⟨_, rfl, _, _, _, [], _, [], hW', trodAll_mk1 (shut_bool Try.underlying4 _), (trodAll_cons_mk (Below.trod laidOut (by kernel_rfl) (of_decide_eq_true (by kernel_rfl)) k0 bel lt0) (trodAll_cons_mk (shut_int Try.underlying3 w1) (trodAll_cons_mk (Below.trod laidOut (by kernel_rfl) (of_decide_eq_true (by kernel_rfl)) kx bel ltx) trodAll_mk0))), rfl, bel.frame _, fun h => by cases h⟩

theorem over : Rows.shuntOnceRow.holds Try.pinned (OpenSpec.ofChange Rows.shuntOnceSpec) :=
  OpenClaim.holds_of_wide 11 Try.f11 rfl rfl rfl rfl rfl rfl rfl ⟨rfl, rfl, rfl, rfl, rfl⟩ rfl rfl rfl rfl rfl (by kernel_rfl) Try.func11 (by kernel_rfl)
    (of_decide_eq_true (by kernel_rfl)) (by unfold Func.isWrapper; first | (rw [if_pos (by decide +kernel)]; kernel_rfl) | (rw [if_neg (by decide +kernel)]; exact ⟨rfl, rfl⟩))
    (fun os started H enc _ => lifted os started H enc)

theorem proved : Rows.ShuntOnceSaid := over
end Go.Proofs.Ytmnnehpoaedifaa.shuntOnce
