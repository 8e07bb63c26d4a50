/- ShelfPairs: for any three lists and any number of rolls, the law returns true and does not panic; the world below is unchanged. No conditions. -/
import Derived.Test.YtcnjkdkkflpgnaaT40
import Derived.Test.YtcnjkdkkflpgnaaRows
import Derived.WalkKit
import Derived.ProofKit
import Derived.OpenShut
import Derived.ChangeOld
import Derived.Below
import Derived.Lib.SmallJoins
namespace Go.Proofs.Ytcnjkdkkflpgnaa.shelfPairs
open Go.Joins Go.ChangeShapes Go.WideShapes Go.ChangeAt Go.RowKit
set_option linter.unusedVariables false

theorem own : ownKnob Try.prog.godebug = none := by kernel_rfl
theorem laidOut : laidOutB Try.prog = true := by kernel_rfl
theorem cellsThree : Try.prog.cellsOf 62 = 3 := by kernel_rfl
theorem cellsRow : Try.prog.cellsOf 22 = 1 := by kernel_rfl
theorem row_three {H : Type} {enc : TypeId × Value → H} {P : Program} {w : World} {base : Nat} {spare : Nat → Bool} {held : Bool} {t e : TypeId} {fuel : Nat} {c0 c1 c2 : Value} {x : DataW H × List MemPlace} (ht : P.underlying t = some (.array 3 e)) (hce : P.cellsOf e = 1)
    (h : DataW.trod enc P w base spare held fuel t [c0, c1, c2] = some x) : ∃ y0 y1 y2 n, DataW.trod enc P w base spare held n e [c0] = some y0 ∧ DataW.trod enc P w base spare held n e [c1] = some y1 ∧ DataW.trod enc P w base spare held n e [c2] = some y2 := by
  match fuel, h with
  | 0, h => simp [DataW.trod] at h
  | n + 1, h =>
    unfold DataW.trod at h
    have r3 : List.range 3 = [0, 1, 2] := rfl
    simp [ht, r3, hce] at h
    rcases h0 : DataW.trod enc P w base spare held n e [c0] with _ | y0
    · simp [h0] at h
    · rcases h1 : DataW.trod enc P w base spare held n e [c1] with _ | y1
      · simp [h0, h1] at h
      · rcases h2 : DataW.trod enc P w base spare held n e [c2] with _ | y2
        · simp [h0, h1, h2] at h
        · exact ⟨y0, y1, y2, n, h0, h1, h2⟩
theorem row_in {H : Type} {enc : TypeId × Value → H} {w : World} {base : Nat} {held : Bool} {fuel : Nat} {c : Value} {x : DataW H × List MemPlace} (h : DataW.trod enc Try.prog w base (fun _ => true) held fuel 22 [c] = some x) : ∃ A n d zs, c = .slice A n d ∧ Sl w A n d zs := by
  rcases open_ints Try.underlying22 Try.underlying3 (by kernel_rfl) h with ⟨hcs, _⟩ | ⟨x, l, d, zs, hcs, _, hl, hm, hz, _, hcell, hwz⟩
  · simp at hcs
    exact ⟨none, 0, 0, _, hcs, Sl.of_row (.inl ⟨rfl, rfl, rfl, rfl⟩)⟩
  · simp at hcs
    exact ⟨_, _, _, _, hcs, Sl.of_row (.inr ⟨_, rfl, hl, hm, by simpa using hz, hcell, hwz⟩)⟩

theorem walk (A0 A1 A2 : Option Addr) (n0 n1 n2 c0 c1 c2 : Nat) (z0 z1 z2 : List Int) (x : Int) (w : World) (h0 : Sl w A0 n0 c0 z0) (h1 : Sl w A1 n1 c1 z1) (h2 : Sl w A2 n2 c2 z2) :
    Calls Try.prog 14 #[.agg #[.slice A0 n0 c0, .slice A1 n1 c1, .slice A2 n2 c2], .int .i64 x] w fun e w' => e = .returned (.bool true) ∧ Below w.heap.size w w' := by
  exact pairs_walk A0 A1 A2 n0 n1 n2 c0 c1 c2 z0 z1 z2 x w h0 h1 h2

set_option maxRecDepth 100000 in
theorem lifted (os : Os) (started : os.Started) (H : Type) (enc : TypeId × Value → H) :
    ReturnsInHanded {} Try.checked os 14 .any (Rows.shelfPairsSpec.pre6 enc Try.prog Try.f14 Rows.shelfPairsRow.domain false) (Rows.shelfPairsSpec.post enc Try.prog Try.f14 false true false false) := by
  refine returnsInHanded_of_change (C := Try.checked) own started (by kernel_rfl) Try.func14
    (ChangeSpec.witness6 (enc := enc) (C := Try.checked) false ⟨#[], #[.agg #[.slice none 0 0, .slice none 0 0, .slice none 0 0], .int .i64 0], []⟩ 8 (by kernel_rfl) (by kernel_rfl) (by kernel_rfl) (by kernel_rfl)) ?_
  intro W base args ds gs before hval0 hW hcnd _
  have hval : ∀ (j : Nat) t v, Try.f14.params[j]? = some t → args[j]? = some v → Value.okWide Try.prog W .any base t v := hval0
  have hW' := hW
  obtain ⟨p, q, hA0, hV, rfl, hfz, hnd⟩ := hW
  have hA : DataW.TrodAll enc Try.prog W 0 (fun _ => true) true Try.f14.params.toList args.toList ds p := hA0
  rw [Try.params14] at hA hval
  obtain ⟨v0, vs0, d0, ds0, p0, q0, hargs, rfl, rfl, h0, r0⟩ := trodAll_cons hA
  obtain ⟨v1, vs1, d1, ds1, p1, q1, rfl, rfl, rfl, h1, r1⟩ := trodAll_cons r0
  obtain ⟨rfl, rfl, rfl⟩ := trodAll_nil r1
  obtain rfl : args = #[v0, v1] := by cases args; simp_all
  obtain ⟨rfl, rfl⟩ := trodVars_none hV
  have k0 := h0
  have lt0 : ∀ x ∈ p0, x.block < W.heap.size := by obtain ⟨m, hm⟩ := k0; exact DataW.trod_lt m _ _ _ hm
  obtain ⟨A0, A1, A2, n0, n1, n2, c0, c1, c2, z0, z1, z2, rfl, s0, s1, s2⟩ : ∃ A0 A1 A2 n0 n1 n2 c0 c1 c2 z0 z1 z2, v0 = .agg #[.slice A0 n0 c0, .slice A1 n1 c1, .slice A2 n2 c2] ∧ Sl W A0 n0 c0 z0 ∧ Sl W A1 n1 c1 z1 ∧ Sl W A2 n2 c2 z2 := by
    have hv := hval 0 62 v0 rfl rfl
    simp only [Value.okWide, Try.underlying62] at hv
    obtain ⟨cs, rfl, hsz, _⟩ := hv
    obtain ⟨e0, e1, e2, rfl⟩ := array3 (hsz.trans cellsThree)
    obtain ⟨fuel, hf⟩ := h0
    obtain ⟨y0, y1, y2, n, g0, g1, g2⟩ := row_three Try.underlying62 cellsRow hf
    obtain ⟨A0, n0, c0, z0, rfl, s0⟩ := row_in g0
    obtain ⟨A1, n1, c1, z1, rfl, s1⟩ := row_in g1
    obtain ⟨A2, n2, c2, z2, rfl, s2⟩ := row_in g2
    exact ⟨_, _, _, _, _, _, _, _, _, _, _, _, rfl, s0, s1, s2⟩
  obtain ⟨x, rfl, rfl, rfl, w1⟩ := open_int Try.underlying3 (hval 1 3 v1 rfl rfl) h1
  clear hA0 hval0
  refine (walk A0 A1 A2 n0 n1 n2 c0 c1 c2 z0 z1 z2 x W s0 s1 s2).mono fun e W' ⟨he, bel⟩ => ?_
  subst he
  exact ⟨_, rfl, _, _, _, [], _, [], hW', trodAll_mk1 (shut_bool Try.underlying4 _), (trodAll_cons_mk (Below.trod laidOut (by kernel_rfl) (of_decide_eq_true (by kernel_rfl)) k0 bel lt0) (trodAll_cons_mk (shut_int Try.underlying3 w1) trodAll_mk0)), rfl, bel.frame _, fun h => by cases h⟩

theorem over : Rows.shelfPairsRow.holds Try.pinned (OpenSpec.ofChange Rows.shelfPairsSpec) :=
  OpenClaim.holds_of_wide 14 Try.f14 rfl rfl rfl rfl rfl rfl rfl ⟨rfl, rfl, rfl, rfl, rfl⟩ rfl rfl rfl rfl rfl (by kernel_rfl) Try.func14 (by kernel_rfl)
    (of_decide_eq_true (by kernel_rfl)) (by unfold Func.isWrapper; first | (rw [if_pos (by decide +kernel)]; kernel_rfl) | (rw [if_neg (by decide +kernel)]; exact ⟨rfl, rfl⟩))
    (fun os started H enc _ => lifted os started H enc)

theorem proved : Rows.ShelfPairsSaid := over
end Go.Proofs.Ytcnjkdkkflpgnaa.shelfPairs
