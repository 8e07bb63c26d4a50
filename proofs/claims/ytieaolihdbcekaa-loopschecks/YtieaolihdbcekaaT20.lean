import Derived.Test.YtieaolihdbcekaaT13
import Derived.Test.YtieaolihdbcekaaT16
/- Layer 6: a finding, as the frame gives it. -/
namespace Go.Proofs.Ytieaolihdbcekaa
open Go.RowKit Go.ChangeShapes Go.WideShapes
set_option linter.unusedVariables false

theorem cellsFd : Try.prog.cellsOf 27 = 3 := by kernel_rfl
theorem cellsB : Try.prog.cellsOf 4 = 1 := by kernel_rfl
theorem cellsS : Try.prog.cellsOf 9 = 1 := by kernel_rfl
theorem cellsPs : Try.prog.cellsOf 25 = 1 := by kernel_rfl
theorem row_two' {H : Type} {enc : TypeId × Value → H} {P : Program} {w : World} {base : Nat} {spare : Nat → Bool} {held : Bool} {t e : TypeId} {fuel : Nat} {c0 c1 : Value} {x : DataW H × List MemPlace} (ht : P.underlying t = some (.array 2 e)) (hce : P.cellsOf e = 1)
    (h : DataW.trod enc P w base spare held fuel t [c0, c1] = some x) : ∃ y0 y1 n, DataW.trod enc P w base spare held n e [c0] = some y0 ∧ DataW.trod enc P w base spare held n e [c1] = some y1 := by
  match fuel, h with
  | 0, h => simp [DataW.trod] at h
  | n + 1, h =>
    unfold DataW.trod at h
    have r2 : List.range 2 = [0, 1] := rfl
    simp [ht, r2, hce] at h
    rcases h0 : DataW.trod enc P w base spare held n e [c0] with _ | y0
    · simp [h0] at h
    · rcases h1 : DataW.trod enc P w base spare held n e [c1] with _ | y1
      · simp [h0, h1] at h
      · exact ⟨y0, y1, n, h0, h1⟩
section
variable {H : Type} {enc : TypeId × Value → H} {w : World} {base : Nat} {spare : Nat → Bool} {held : Bool}
set_option maxRecDepth 100000 in
theorem pair_in {fuel : Nat} {cs : List Value} {x : DataW H × List MemPlace} (hl : cs.length = 2) (h : DataW.trod enc Try.prog w base spare held fuel 23 cs = some x) : ∃ k a : Int, cs = [.int .i64 k, .int .i64 a] := by
  match cs, hl with
  | [v0, v1], _ =>
    obtain ⟨y0, y1, n, g0, g1⟩ := row_two' Try.underlying23 cellsI h
    obtain ⟨k, e0, _⟩ := DataW.trod_int Try.underlying3 g0
    obtain ⟨a, e1, _⟩ := DataW.trod_int Try.underlying3 g1
    injection e0 with e0
    injection e1 with e1
    exact ⟨k, a, by rw [e0, e1]⟩
set_option maxRecDepth 100000 in
theorem pairs_in {fuel : Nat} {v : Value} {x : DataW H × List MemPlace} (h : DataW.trod enc Try.prog w base spare held fuel 25 [v] = some x) : ∃ A len cap zs, v = .slice A len cap ∧ Plr w A len cap zs := by
  rcases Go.Deep.open_slice Try.underlying25 h with ⟨hcs, _⟩ | ⟨a, len, cap, m, n, D, Pl, hcs, _, hl, hm, hmm, _, hx⟩
  · injection hcs with hcs
    exact ⟨none, 0, 0, [], hcs, rfl, Nat.le_refl _, by omega, fun _ => ⟨rfl, rfl⟩, fun k hk => absurd hk (Nat.not_lt_zero _)⟩
  · injection hcs with hcs
    have hlm : len ≤ m := by rw [hmm]; split <;> omega
    have h0 : 0 < len → a.spot = none := fun h => by
      obtain ⟨cs', h1, h2⟩ := hx 0 (by omega)
      rw [cellsPt] at h1
      obtain ⟨_, hlen, hcell⟩ := World.cells?_some h1
      obtain ⟨k, p, rfl⟩ := pair_in (by simpa using hlen) h2
      have c0 := World.cell?_spot (v := .int .i64 k) (hcell 0 (by omega))
      simpa [Addr.add] using c0
    have each : ∀ i, i < len → ∃ b off, a = ⟨b, off, none⟩ ∧ b < w.heap.size ∧ ∃ t : Int × Int, w.cell? ⟨b, off + i * 2, none⟩ = some (.int .i64 t.1) ∧ w.cell? ⟨b, off + i * 2 + 1, none⟩ = some (.int .i64 t.2) := fun i hi => by
      obtain ⟨cs', h1, h2⟩ := hx i (by omega)
      rw [cellsPt] at h1
      obtain ⟨_, hlen, hcell⟩ := World.cells?_some h1
      obtain ⟨k, p, rfl⟩ := pair_in (by simpa using hlen) h2
      have c0 := hcell 0 (by omega)
      have c1 := hcell 1 (by omega)
      rw [Go.Deep.add_add] at c0 c1
      obtain ⟨b, off, spot⟩ := a
      have hspot : spot = none := h0 (by omega)
      subst hspot
      rw [Go.WideShapes.add_plain] at c0 c1
      have c0 : w.cell? ⟨b, off + i * 2, none⟩ = some (.int .i64 k) := c0
      have c1 : w.cell? ⟨b, off + i * 2 + 1, none⟩ = some (.int .i64 p) := c1
      exact ⟨b, off, rfl, lt_of_cell c0, ⟨k, p⟩, c0, c1⟩
    have hex : ∃ f : Nat → Int × Int, ∀ i, i < len → ∃ b off, a = ⟨b, off, none⟩ ∧ b < w.heap.size ∧ w.cell? ⟨b, off + i * 2, none⟩ = some (.int .i64 (f i).1) ∧ w.cell? ⟨b, off + i * 2 + 1, none⟩ = some (.int .i64 (f i).2) := by
      refine ⟨fun i => if hi : i < len then Classical.choose (Classical.choose_spec (Classical.choose_spec (each i hi))).2.2 else (0, 0), fun i hi => ?_⟩
      dsimp only
      rw [dif_pos hi]
      exact ⟨_, _, (Classical.choose_spec (Classical.choose_spec (each i hi))).1, (Classical.choose_spec (Classical.choose_spec (each i hi))).2.1, Classical.choose_spec (Classical.choose_spec (Classical.choose_spec (each i hi))).2.2⟩
    obtain ⟨f, hf⟩ := hex
    refine ⟨some a, len, cap, (List.range len).map f, hcs, by simp, hl, by unfold maxLen at hm; omega, fun e => (by cases e), fun k hk => ?_⟩
    obtain ⟨b, off, rfl, hb, h3⟩ := hf k hk
    have : ((List.range len).map f)[k]?.getD (0, 0) = f k := by rw [List.getElem?_map, List.getElem?_range hk]; rfl
    rw [this]
    exact ⟨b, off, rfl, hb, h3⟩
set_option maxRecDepth 100000 in
theorem find_in {fuel : Nat} {cs : List Value} {x : DataW H × List MemPlace} (h : DataW.trod enc Try.prog w base spare held fuel 27 cs = some x) : ∃ b X m d ps t, cs = [.bool b, .slice X m d, .string t] ∧ Plr w X m d ps ∧ t.size ≤ 9223372036854775807 := by
  obtain ⟨xs, n, _, _, hlen, hxs, hf⟩ := DataW.trod_struct Try.underlying27 h
  rw [cellsFd] at hlen
  match cs, hlen with
  | [v0, v1, v2], _ =>
    have g0 := hf 0 _ rfl
    have g1 := hf 1 _ rfl
    have g2 := hf 2 _ rfl
    match xs, hxs with
    | [y0, y1, y2], _ =>
      simp [cellsB, cellsPs, cellsS] at g0 g1 g2
      obtain ⟨b, e0, _⟩ := DataW.trod_bool Try.underlying4 g0
      obtain ⟨X, m, d, ps, e1, hps⟩ := pairs_in g1
      obtain ⟨t, e2, _, ht⟩ := DataW.trod_string Try.underlying9 g2
      injection e0 with e0
      injection e2 with e2
      exact ⟨b, X, m, d, ps, t, by rw [e0, e1, e2], hps, ht⟩
end
end Go.Proofs.Ytieaolihdbcekaa
