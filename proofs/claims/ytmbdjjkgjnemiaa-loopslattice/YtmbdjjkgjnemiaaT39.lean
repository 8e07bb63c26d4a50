import Derived.Test.YtmbdjjkgjnemiaaT38
import Derived.Deep.RegionHeldLaw
import Derived.Deep.DrawnRows
/- Layer 6: a goal in its simpler form. -/
namespace Go.Proofs.Ytmbdjjkgjnemiaa
open Go.RowKit
set_option linter.unusedVariables false
attribute [local go_sem ↓] Go.wp_at_zero Go.wp_at_succ

theorem Try.sizeGl : (Try.prog.info? 76).map (·.size) = some 3 := by kernel_rfl
theorem set_three' {w v : World} {r t : Nat} {a0 a1 a2 u0 u1 u2 : Value} (h : w.heap[r]? = some (.cells #[a0, a1, a2] t (0, 0))) (hv : v = ((w.setCell ⟨r, 0, none⟩ u0).setCell ⟨r, 1, none⟩ u1).setCell ⟨r, 2, none⟩ u2) :
    v.heap[r]? = some (.cells #[u0, u1, u2] t (0, 0)) ∧ ∀ B, B ≤ r → Below B w v := by
  subst hv
  refine ⟨?_, fun B hB => (((Below.refl B w).setCell (p := ⟨r, 0, none⟩) hB u0).setCell (p := ⟨r, 1, none⟩) hB u1).setCell (p := ⟨r, 2, none⟩) hB u2⟩
  simp [World.setCell, Array.getElem?_modify, h]
theorem heap_two {w : World} {r b : Nat} {u v : Value} (h : b ≠ r) : ((w.setCell ⟨b, 1, none⟩ u).setCell ⟨b, 2, none⟩ v).heap[r]? = w.heap[r]? := by
  simp [World.setCell, Array.getElem?_modify, h]
set_option maxRecDepth 100000 in
set_option maxHeartbeats 6400000 in
theorem simpler_any (N : List Nd) (A : Option Addr) (n c : Nat) (x : Tri) (w : World) (hN : Nl w A n c N) (hx : OkG n x) (hn : n ≤ 1000000) :
    Calls Try.prog 69 #[triV x, .slice A n c] w fun e w' => e = .returned (triV (simG N x)) ∧ Below w.heap.size w w' := by
  obtain ⟨u, i, j⟩ := x
  obtain ⟨hu, hi, hj⟩ := hx
  dsimp only at hu hi hj
  show Calls _ _ #[.agg #[.int .i64 (u : Int), .int .i64 (i : Int), .int .i64 (j : Int)], .slice A n c] w _
  obtain ⟨W, hW⟩ : ∃ W, W = (w.alloc (.cells #[.int .i64 (u : Int), .int .i64 (i : Int), .int .i64 (j : Int)] 76)).alloc (.cells #[.int .i64 0, .int .i64 0, .int .i64 0] 76) := ⟨_, rfl⟩
  have hb : Below w.heap.size w W := by rw [hW]; exact ((Below.refl _ w).alloc (Nat.le_refl _) _).alloc (by simp) _
  have hbx : W.heap[w.heap.size]? = some (.cells #[.int .i64 (u : Int), .int .i64 (i : Int), .int .i64 (j : Int)] 76 (0, 0)) := by
    rw [hW]
    show ((w.heap.push _).push _)[w.heap.size]? = _
    rw [Array.getElem?_push, if_neg (by simp), Array.getElem?_push, if_pos rfl]
  have hbf : W.heap[w.heap.size + 1]? = some (.cells #[.int .i64 0, .int .i64 0, .int .i64 0] 76 (0, 0)) := by
    rw [hW]
    show ((w.heap.push _).push _)[w.heap.size + 1]? = _
    rw [Array.getElem?_push, if_pos (by simp)]
  have hsz : W.heap.size = w.heap.size + 2 := by rw [hW]; simp
  have c0 : W.cell? ⟨w.heap.size, 0, none⟩ = some (.int .i64 (u : Int)) := cell_in hbx (i := 0) rfl
  obtain ⟨f, hf⟩ : ∃ f, f = farN (othN u) := ⟨_, rfl⟩
  have HFAR : Hid (∀ W, Calls Try.prog 70 #[.int .i64 (othN u : Int)] W fun e w' => e = .returned (.int .i64 (f : Int)) ∧ Below W.heap.size W w') := fun W => by rw [hf]; exact far_any (othN u) (othN_le u) W
  have HOTH := Lib.hid (fun W => oth_any u hu W)
  have HB := Lib.hid hb
  have HW := Lib.hid hW
  have HBX := Lib.hid hbx
  have HBF := Lib.hid hbf
  have HSZ := Lib.hid hsz
  have HF := Lib.hid hf
  have HN := Lib.hid (hN.below hb (Nat.le_refl _))
  rw [hW] at c0
  clear hW hb hbx hbf hN hsz hf
  go_enter Try.func69, Try.ntmps69
  go_wp2_with (first
    | (go_at_call 71; rw [← HW.out]; refine (HOTH.out _).mono ?_; rintro e w1 ⟨rfl, hb1⟩; have HB1 := Lib.hid hb1; clear hb1)
    | (go_at_call 70; refine (HFAR.out _).mono ?_; rintro e w2 ⟨rfl, hb2⟩; have HB2 := Lib.hid (HB1.out.trans (hb2.mono HB1.out.size)); have hr := (HB2.out.block w.heap.size (by have := HSZ.out; omega)).trans HBX.out; have k0 := cell_in hr (i := 1) rfl; have k1 := cell_in hr (i := 2) rfl; clear hb2 hr))
  go_quiet (fail)
  clear k0 k1
  have HB3 : Hid (Below W.heap.size W (w2.drewN nq)) := below_dn HB2.out _
  generalize w2.drewN nq = w3 at *
  have hr := (HB3.out.block w.heap.size (by have := HSZ.out; omega)).trans HBX.out
  have hr1 := (HB3.out.block (w.heap.size + 1) (by have := HSZ.out; omega)).trans HBF.out
  have e0 : w3.cell? ⟨w.heap.size, 0, none⟩ = some (.int .i64 (u : Int)) := cell_in hr (i := 0) rfl
  have e1 : w3.cell? ⟨w.heap.size, 1, none⟩ = some (.int .i64 (i : Int)) := cell_in hr (i := 1) rfl
  have e2 : w3.cell? ⟨w.heap.size, 2, none⟩ = some (.int .i64 (j : Int)) := cell_in hr (i := 2) rfl
  have y1 : w3.frozen? ⟨w.heap.size, 1, none⟩ = false := by simp [World.frozen?, hr]
  have y2 : w3.frozen? ⟨w.heap.size, 2, none⟩ = false := by simp [World.frozen?, hr]
  have HN3 := HN.out.below HB3.out (Nat.le_refl _)
  have hbig := HN3.big
  obtain ⟨b, off, rfl, hbl, n0, _, _⟩ := HN3.rows i hi
  obtain ⟨b', off', e', _, m0, _, _⟩ := HN3.rows j hj
  injection e' with e'
  injection e' with h1 h2 _
  subst h1
  subst h2
  have i1 : (i : Int) < (n : Int) := by omega
  have j1 : (j : Int) < (n : Int) := by omega
  have g0 : w3.cell? ⟨w.heap.size + 1, 0, none⟩ = some (.int .i64 0) := cell_in hr1 (i := 0) rfl
  have g1 : w3.cell? ⟨w.heap.size + 1, 1, none⟩ = some (.int .i64 0) := cell_in hr1 (i := 1) rfl
  have g2 : w3.cell? ⟨w.heap.size + 1, 2, none⟩ = some (.int .i64 0) := cell_in hr1 (i := 2) rfl
  have z0 : w3.frozen? ⟨w.heap.size + 1, 0, none⟩ = false := by simp [World.frozen?, hr1]
  have z1 : w3.frozen? ⟨w.heap.size + 1, 1, none⟩ = false := by simp [World.frozen?, hr1]
  have z2 : w3.frozen? ⟨w.heap.size + 1, 2, none⟩ = false := by simp [World.frozen?, hr1]
  have HR := Lib.hid hr
  have HR1 := Lib.hid hr1
  clear hr hr1 HN3
  by_cases q1 : (nd N i).k = f
  · have hs : simG N (u, i, j) = (u, j, j) := by
      unfold simG
      rw [if_pos (by rw [← HF.out]; exact q1)]
    have q1' : ((nd N i).k : Int) = (f : Int) := by rw [q1]
    go_wp2
    obtain ⟨v5, hv5⟩ : ∃ v, v = (((((w3.setCell ⟨w.heap.size, 1, none⟩ (.int .i64 (j : Int))).setCell ⟨w.heap.size, 2, none⟩ (.int .i64 (j : Int)))).setCell ⟨w.heap.size + 1, 0, none⟩ (.int .i64 (u : Int))).setCell ⟨w.heap.size + 1, 1, none⟩ (.int .i64 (j : Int))).setCell ⟨w.heap.size + 1, 2, none⟩ (.int .i64 (j : Int)) := ⟨_, rfl⟩
    rw [← hv5]
    obtain ⟨hrow, hbl5⟩ := set_three' ((heap_two (by omega)).trans HR1.out) hv5
    have hbw : Below w.heap.size w v5 := HB.out.trans ((HB3.out.mono HB.out.size).trans ((((Below.refl _ w3).setCell (p := ⟨w.heap.size, 1, none⟩) (Nat.le_refl _) _).setCell (p := ⟨w.heap.size, 2, none⟩) (Nat.le_refl _) _).trans (hbl5 w.heap.size (by omega))))
    refine bodyPost_ret (results_cell_row (by rfl) _ _ (w.heap.size + 1) 76 _ (0, 0) _ (by rfl) hrow Try.underlying76 (by rfl) Try.sizeGl) (by rfl) ⟨?_, hbw⟩
    rfl
  · have q1' : ¬ ((nd N i).k : Int) = (f : Int) := by omega
    by_cases q2 : (nd N j).k = f
    · have hs : simG N (u, i, j) = (u, i, i) := by
        unfold simG
        rw [if_neg (by rw [← HF.out]; exact q1), if_pos (by rw [← HF.out]; exact q2)]
      have q2' : ((nd N j).k : Int) = (f : Int) := by rw [q2]
      go_wp2
      obtain ⟨v5, hv5⟩ : ∃ v, v = (((((w3.setCell ⟨w.heap.size, 1, none⟩ (.int .i64 (i : Int))).setCell ⟨w.heap.size, 2, none⟩ (.int .i64 (i : Int)))).setCell ⟨w.heap.size + 1, 0, none⟩ (.int .i64 (u : Int))).setCell ⟨w.heap.size + 1, 1, none⟩ (.int .i64 (i : Int))).setCell ⟨w.heap.size + 1, 2, none⟩ (.int .i64 (i : Int)) := ⟨_, rfl⟩
      rw [← hv5]
      obtain ⟨hrow, hbl5⟩ := set_three' ((heap_two (by omega)).trans HR1.out) hv5
      have hbw : Below w.heap.size w v5 := HB.out.trans ((HB3.out.mono HB.out.size).trans ((((Below.refl _ w3).setCell (p := ⟨w.heap.size, 1, none⟩) (Nat.le_refl _) _).setCell (p := ⟨w.heap.size, 2, none⟩) (Nat.le_refl _) _).trans (hbl5 w.heap.size (by omega))))
      refine bodyPost_ret (results_cell_row (by rfl) _ _ (w.heap.size + 1) 76 _ (0, 0) _ (by rfl) hrow Try.underlying76 (by rfl) Try.sizeGl) (by rfl) ⟨?_, hbw⟩
      rfl
    · have hs : simG N (u, i, j) = (u, i, j) := by
        unfold simG
        rw [if_neg (by rw [← HF.out]; exact q1), if_neg (by rw [← HF.out]; exact q2)]
      have q2' : ¬ ((nd N j).k : Int) = (f : Int) := by omega
      go_wp2
      obtain ⟨v5, hv5⟩ : ∃ v, v = (((w3).setCell ⟨w.heap.size + 1, 0, none⟩ (.int .i64 (u : Int))).setCell ⟨w.heap.size + 1, 1, none⟩ (.int .i64 (i : Int))).setCell ⟨w.heap.size + 1, 2, none⟩ (.int .i64 (j : Int)) := ⟨_, rfl⟩
      rw [← hv5]
      obtain ⟨hrow, hbl5⟩ := set_three' HR1.out hv5
      have hbw : Below w.heap.size w v5 := HB.out.trans ((HB3.out.mono HB.out.size).trans (hbl5 w.heap.size (by omega)))
      refine bodyPost_ret (results_cell_row (by rfl) _ _ (w.heap.size + 1) 76 _ (0, 0) _ (by rfl) hrow Try.underlying76 (by rfl) Try.sizeGl) (by rfl) ⟨?_, hbw⟩
      rfl
end Go.Proofs.Ytmbdjjkgjnemiaa
