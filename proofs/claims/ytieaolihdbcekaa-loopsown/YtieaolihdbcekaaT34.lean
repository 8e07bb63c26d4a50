import Derived.Test.YtieaolihdbcekaaT30
import Derived.Test.YtieaolihdbcekaaT28
import Derived.Test.YtieaolihdbcekaaT33
import Derived.Test.YtieaolihdbcekaaT19
/- Layer 6: results that are overwritten. -/
namespace Go.Proofs.Ytieaolihdbcekaa
open Go.RowKit
set_option linter.unusedVariables false

/-- The call owns n elements of s cells, whatever they are. -/
def Rg (w : World) (B e s : Nat) (v : Value) (n : Nat) : Prop := ∃ xs, w.ownsRow B e s v n xs
theorem Rg.same {w w' : World} {B e s n : Nat} {v : Value} (h : Rg w B e s v n) (hk : ∀ k, v.ownBlock = some k → w'.heap[k]? = w.heap[k]?) : Rg w' B e s v n := by
  obtain ⟨xs, h⟩ := h
  refine ⟨xs, h.1, ?_⟩
  rcases h.2 with h1 | ⟨g, cap, cur, h1, h2, h3, h4⟩
  · exact .inl h1
  · exact .inr ⟨g, cap, cur, h1, h2, (hk g (by rw [h1]; rfl)).trans h3, h4⟩
theorem Rg.lt {w : World} {B e s n : Nat} {v : Value} (h : Rg w B e s v n) {k : Nat} (hk : v.ownBlock = some k) : B ≤ k ∧ k < w.heap.size := by
  obtain ⟨xs, h⟩ := h
  exact World.ownsRow.lt h k hk
theorem Rg.form {w : World} {B e s n : Nat} {v : Value} (h : Rg w B e s v n) (h0 : 0 < n) : ∃ g cap, v = .slice (some ⟨g, 0, none⟩) n cap ∧ n ≤ cap ∧ B ≤ g ∧ g < w.heap.size := by
  obtain ⟨xs, h1, h2⟩ := h
  rcases h2 with ⟨_, e⟩ | ⟨g, cap, cur, h3, h4, h5, h6, _⟩
  · omega
  · exact ⟨g, cap, h3, h6, h4, (Array.getElem?_eq_some_iff.1 h5).1⟩
theorem Rg.cell {w : World} {B e s n g cap : Nat} (h : Rg w B e s (.slice (some ⟨g, 0, none⟩) n cap) n) {j : Nat} (hj : j < n * s) : (∃ v, w.cell? ⟨g, j, none⟩ = some v) ∧ w.frozen? ⟨g, j, none⟩ = false := by
  obtain ⟨xs, h⟩ := h
  refine ⟨?_, h.frozenAt j⟩
  rw [h.cellAt j hj, List.getElem?_eq_getElem (by rw [h.1]; exact hj)]
  exact ⟨_, rfl⟩
theorem Rg.put {w : World} {B e s n g cap : Nat} (h : Rg w B e s (.slice (some ⟨g, 0, none⟩) n cap) n) (j : Nat) (u : Value) : Rg (w.setCell ⟨g, j, none⟩ u) B e s (.slice (some ⟨g, 0, none⟩) n cap) n := by
  obtain ⟨xs, h⟩ := h
  exact ⟨_, (h.stored j u).1⟩
theorem Rg.far {w : World} {B e s n : Nat} {v : Value} (h : Rg w B e s v n) {g j : Nat} (hg : v.ownBlock ≠ some g) (u : Value) : Rg (w.setCell ⟨g, j, none⟩ u) B e s v n := h.same fun k hk => by
  have hne : k ≠ g := fun e => hg (by rw [hk, e])
  simp [World.setCell, Array.getElem?_modify]
  intro e2
  omega
theorem Rg.pts {w : World} {B n : Nat} {v : Value} {ps : List (Int × Int)} (h : Owp w B 23 v ps) (hn : ps.length = n) : Rg w B 23 2 v n := by subst hn; exact ⟨_, h⟩
theorem Rg.nds {w : World} {B n : Nat} {v : Value} {N : List Nd} (h : Ow3 w B v N) (hn : N.length = n) : Rg w B 59 3 v n := by subst hn; exact ⟨_, h⟩
theorem set_row {w : World} {r g j t : Nat} {cs : Array Value} (h : w.heap[r]? = some (.cells cs t (0, 0))) (hne : r ≠ g) (u : Value) : (w.setCell ⟨g, j, none⟩ u).heap[r]? = some (.cells cs t (0, 0)) := by
  rw [← h]
  simp [World.setCell, Array.getElem?_modify]
  intro e
  omega
/-- The three results while they are overwritten. -/
structure Ovr (N : List Nd) (w2 : World) (vf vc vl : Value) (m m2 m3 r9 : Nat) (cs9 : Array Value) (W : World) : Prop where
  bl : Below w2.heap.size w2 W
  f : Rg W w2.heap.size 23 2 vf m
  c : Rg W w2.heap.size 59 3 vc m2
  l : Rg W w2.heap.size 23 2 vl m3
  r : W.heap[r9]? = some (.cells cs9 27 (0, 0))
  nf : vf.ownBlock ≠ some r9
  fc : ∀ k, vf.ownBlock = some k → vc.ownBlock ≠ some k ∧ vl.ownBlock ≠ some k
  cl : ∀ k, vc.ownBlock = some k → vl.ownBlock ≠ some k
variable {N : List Nd} {w2 : World} {vf vc vl : Value} {m m2 m3 r9 : Nat} {cs9 : Array Value} {W : World}
theorem Ovr.putF {g cap : Nat} (h : Ovr N w2 (.slice (some ⟨g, 0, none⟩) m cap) vc vl m m2 m3 r9 cs9 W) (j : Nat) (u : Value) : Ovr N w2 (.slice (some ⟨g, 0, none⟩) m cap) vc vl m m2 m3 r9 cs9 (W.setCell ⟨g, j, none⟩ u) := by
  have hg := (h.f.lt (k := g) rfl).1
  obtain ⟨h1, h2⟩ := h.fc g rfl
  exact ⟨h.bl.setCell (p := ⟨g, j, none⟩) hg u, h.f.put j u, h.c.far h1 u, h.l.far h2 u, set_row h.r (fun e => h.nf (by rw [e]; rfl)) u, h.nf, h.fc, h.cl⟩
theorem Ovr.putC {g cap : Nat} (h : Ovr N w2 vf (.slice (some ⟨g, 0, none⟩) m2 cap) vl m m2 m3 r9 cs9 W) (hr : r9 ≠ g) (j : Nat) (u : Value) : Ovr N w2 vf (.slice (some ⟨g, 0, none⟩) m2 cap) vl m m2 m3 r9 cs9 (W.setCell ⟨g, j, none⟩ u) := by
  have hg := (h.c.lt (k := g) rfl).1
  exact ⟨h.bl.setCell (p := ⟨g, j, none⟩) hg u, h.f.far (fun e => (h.fc g e).1 rfl) u, h.c.put j u, h.l.far (h.cl g rfl) u, set_row h.r hr u, h.nf, h.fc, h.cl⟩
theorem Ovr.putL {g cap : Nat} (h : Ovr N w2 vf vc (.slice (some ⟨g, 0, none⟩) m3 cap) m m2 m3 r9 cs9 W) (hr : r9 ≠ g) (j : Nat) (u : Value) : Ovr N w2 vf vc (.slice (some ⟨g, 0, none⟩) m3 cap) m m2 m3 r9 cs9 (W.setCell ⟨g, j, none⟩ u) := by
  have hg := (h.l.lt (k := g) rfl).1
  exact ⟨h.bl.setCell (p := ⟨g, j, none⟩) hg u, h.f.far (fun e => (h.fc g e).2 rfl) u, h.c.far (fun e => h.cl g e rfl) u, h.l.put j u, set_row h.r hr u, h.nf, h.fc, h.cl⟩
end Go.Proofs.Ytieaolihdbcekaa
