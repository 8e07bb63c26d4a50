import Derived.Test.YtmbdjjkgjnemiaaT01
import Derived.Deep.Slices
import Derived.ChangeSame
import Derived.ChangeArms
/- Layer 6: a slice of nodes, as the frame gives it. -/
namespace Go.Proofs.Ytmbdjjkgjnemiaa
open Go.RowKit Go.ChangeShapes Go.WideShapes
set_option linter.unusedVariables false

theorem cellsTy : Try.prog.cellsOf 59 = 3 := by kernel_rfl
theorem cellsI : Try.prog.cellsOf 3 = 1 := by kernel_rfl
section
variable {H : Type} {enc : TypeId × Value → H} {w : World} {base : Nat} {spare : Nat → Bool} {held : Bool}
set_option maxRecDepth 100000 in
theorem node_in {fuel : Nat} {cs : List Value} {x : DataW H × List MemPlace} (h : DataW.trod enc Try.prog w base spare held fuel 59 cs = some x) : ∃ k a b : Int, cs = [.int .i64 k, .int .i64 a, .int .i64 b] := by
  obtain ⟨xs, n, _, _, hlen, hxs, hf⟩ := DataW.trod_struct Try.underlying59 h
  rw [cellsTy] at hlen
  match cs, hlen with
  | [v0, v1, v2], _ =>
    have g0 := hf 0 _ rfl
    have g1 := hf 1 _ rfl
    have g2 := hf 2 _ rfl
    match xs, hxs with
    | [y0, y1, y2], _ =>
      simp [cellsI] at g0 g1 g2
      obtain ⟨k, e0, _⟩ := DataW.trod_int Try.underlying3 g0
      obtain ⟨a, e1, _⟩ := DataW.trod_int Try.underlying3 g1
      obtain ⟨b, e2, _⟩ := DataW.trod_int Try.underlying3 g2
      injection e0 with e0
      injection e1 with e1
      injection e2 with e2
      exact ⟨k, a, b, by rw [e0, e1, e2]⟩
set_option maxRecDepth 100000 in
/-- The argument is a slice of nodes. -/
theorem types_in {fuel : Nat} {A : Option Addr} {len cap : Nat} {x : DataW H × List MemPlace} (h : DataW.trod enc Try.prog w base spare held fuel 22 [.slice A len cap] = some x) : ∃ zs, Tl w A len cap zs := by
  rcases Go.Deep.open_slice Try.underlying22 h with ⟨hcs, _⟩ | ⟨a, len', cap', m, n, D, Pl, hcs, _, hl, hm, hmm, _, hx⟩
  · injection hcs with hcs
    injection hcs with e1 e2 e3
    subst e1; subst e2; subst e3
    exact ⟨[], rfl, Nat.le_refl _, by omega, fun _ => ⟨rfl, rfl⟩, fun k hk => absurd hk (Nat.not_lt_zero _)⟩
  · injection hcs with hcs
    injection hcs with e1 e2 e3
    subst e1; subst e2; subst e3
    have hlm : len ≤ m := by rw [hmm]; split <;> omega
    have h0 : 0 < len → a.spot = none := fun h => by
      obtain ⟨cs', h1, h2⟩ := hx 0 (by omega)
      obtain ⟨k, p, q, rfl⟩ := node_in h2
      rw [cellsTy] at h1
      obtain ⟨_, _, hcell⟩ := World.cells?_some h1
      have c0 := World.cell?_spot (v := .int .i64 k) (hcell 0 (by omega))
      simpa [Addr.add] using c0
    have each : ∀ i, i < len → ∃ b off, a = ⟨b, off, none⟩ ∧ b < w.heap.size ∧ ∃ t : Ty, w.cell? ⟨b, off + i * 3, none⟩ = some (.int .i64 t.k) ∧ w.cell? ⟨b, off + i * 3 + 1, none⟩ = some (.int .i64 t.a) ∧ w.cell? ⟨b, off + i * 3 + 2, none⟩ = some (.int .i64 t.b) := fun i hi => by
      obtain ⟨cs', h1, h2⟩ := hx i (by omega)
      obtain ⟨k, p, q, rfl⟩ := node_in h2
      rw [cellsTy] at h1
      obtain ⟨_, _, hcell⟩ := World.cells?_some h1
      have c0 := hcell 0 (by omega)
      have c1 := hcell 1 (by omega)
      have c2 := hcell 2 (by omega)
      rw [Go.Deep.add_add] at c0 c1 c2
      obtain ⟨b, off, spot⟩ := a
      have hspot : spot = none := h0 (by omega)
      subst hspot
      rw [Go.WideShapes.add_plain] at c0 c1 c2
      have c0 : w.cell? ⟨b, off + i * 3, none⟩ = some (.int .i64 k) := c0
      have c1 : w.cell? ⟨b, off + i * 3 + 1, none⟩ = some (.int .i64 p) := c1
      have c2 : w.cell? ⟨b, off + i * 3 + 2, none⟩ = some (.int .i64 q) := c2
      exact ⟨b, off, rfl, lt_of_cell c0, ⟨k, p, q⟩, c0, c1, c2⟩
    have hex : ∃ f : Nat → Ty, ∀ i, i < len → ∃ b off, a = ⟨b, off, none⟩ ∧ b < w.heap.size ∧ w.cell? ⟨b, off + i * 3, none⟩ = some (.int .i64 (f i).k) ∧ w.cell? ⟨b, off + i * 3 + 1, none⟩ = some (.int .i64 (f i).a) ∧ w.cell? ⟨b, off + i * 3 + 2, none⟩ = some (.int .i64 (f i).b) := by
      refine ⟨fun i => if hi : i < len then Classical.choose (Classical.choose_spec (Classical.choose_spec (each i hi))).2.2 else ty0, fun i hi => ?_⟩
      dsimp only
      rw [dif_pos hi]
      exact ⟨_, _, (Classical.choose_spec (Classical.choose_spec (each i hi))).1, (Classical.choose_spec (Classical.choose_spec (each i hi))).2.1, Classical.choose_spec (Classical.choose_spec (Classical.choose_spec (each i hi))).2.2⟩
    obtain ⟨f, hf⟩ := hex
    refine ⟨(List.range len).map f, by simp, hl, by unfold maxLen at hm; omega, fun e => (by cases e), fun k hk => ?_⟩
    obtain ⟨b, off, rfl, hb, h3⟩ := hf k hk
    have : tyAt ((List.range len).map f) k = f k := by unfold tyAt; rw [List.getElem?_map, List.getElem?_range hk]; rfl
    rw [this]
    exact ⟨b, off, rfl, hb, h3⟩
end
end Go.Proofs.Ytmbdjjkgjnemiaa
