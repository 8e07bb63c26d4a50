import Derived.Test.YtmbdjjkgjnemiaaT39
import Derived.Test.YtmbdjjkgjnemiaaT38
import Derived.Deep.Cut
/- Layer 6: the node of a goal. -/
namespace Go.Proofs.Ytmbdjjkgjnemiaa
open Go.RowKit Go.Maps
set_option linter.unusedVariables false

theorem scG_part {N : List Nd} {x : Tri} {u p q k a b c d : Nat} (hs : simG N x = (u, p, q)) (hp : nd N p = ⟨k, a, b⟩) (hq : nd N q = ⟨k, c, d⟩) (h4 : 4 ≤ k) : scG N x = [(if k = 5 then othN u else u, a, c), (u, b, d)] := by
  have hu : x.1 = u := by rw [← simG_way N x, hs]
  unfold scG
  rw [hs, hu]
  dsimp only
  rw [hp, hq]
  exact if_pos ⟨rfl, h4⟩
theorem scG_leaf {N : List Nd} {x : Tri} {u p q k a b l c d : Nat} (hs : simG N x = (u, p, q)) (hp : nd N p = ⟨k, a, b⟩) (hq : nd N q = ⟨l, c, d⟩) (h4 : ¬ (k = l ∧ 4 ≤ k)) : scG N x = [] := by
  unfold scG
  rw [hs]
  dsimp only
  rw [hp, hq]
  exact if_neg h4
theorem mkG_part {N : List Nd} {x : Tri} {u p q k a b c d y z : Nat} (hs : simG N x = (u, p, q)) (hp : nd N p = ⟨k, a, b⟩) (hq : nd N q = ⟨k, c, d⟩) (h4 : 4 ≤ k) : mkG N x [y, z] = ⟨k, y, z⟩ := by
  unfold mkG
  rw [hs]
  dsimp only
  rw [hp, hq, if_pos rfl, if_pos h4]; rfl
theorem mkG_leaf {N : List Nd} {x : Tri} {u p q k a b c d : Nat} (hs : simG N x = (u, p, q)) (hp : nd N p = ⟨k, a, b⟩) (hq : nd N q = ⟨k, c, d⟩) (h4 : ¬ 4 ≤ k) (ps : List Nat) : mkG N x ps = ⟨k, a, b⟩ := by
  unfold mkG
  rw [hs]
  dsimp only
  rw [hp, hq, if_pos rfl, if_neg h4]
theorem mkG_diff {N : List Nd} {x : Tri} {u p q k a b l c d : Nat} (hs : simG N x = (u, p, q)) (hp : nd N p = ⟨k, a, b⟩) (hq : nd N q = ⟨l, c, d⟩) (h : k ≠ l) (ps : List Nat) : mkG N x ps = ⟨farN u, 0, 0⟩ := by
  have hu : x.1 = u := by rw [← simG_way N x, hs]
  unfold mkG
  rw [hs, hu]
  dsimp only
  rw [hp, hq, if_neg h]
set_option maxRecDepth 100000 in
set_option maxHeartbeats 12800000 in
theorem nodeG_any (N : List Nd) (A : Option Addr) (n c : Nat) (B s5 s6 bm : Nat) (L : List Tri) (v : Value) (x : Tri) (w0 w : World) (h0 : w0.heap.size = B) (hN : Nl w0 A n c N) (hok : OkN N) (hw : Below B w0 w) (h : PlS encGl ownG 107 108 B s5 s6 bm L v w) (hx : OkG n x) (hn : n ≤ 100000) (hLn : L.length ≤ 100000) :
    Calls Try.prog 65 #[triV x, .slice A n c, .func (.func 68) #[] #[.pointer (some ⟨s5, 0, none⟩), .pointer (some ⟨s6, 0, none⟩)]] w fun e w' =>
      NodeQ encGl ownG 107 108 B s5 s6 bm L v w (scG N) (mkG N) x e w' := by
  have hso := simG_ok (N := N) hx
  have hsw := simG_way N x
  obtain ⟨⟨u, p, q⟩, hs⟩ : ∃ s, simG N x = s := ⟨_, rfl⟩
  rw [hs] at hso hsw
  obtain ⟨hu1, hp, hq⟩ := hso
  dsimp only at hu1 hp hq hsw
  have hBw : B ≤ w.heap.size := by rw [← h0]; exact hw.size
  have hbig := hN.big
  have hl := hN.len
  have hkp := hok.kind p (by omega)
  have hkq := hok.kind q (by omega)
  have hap := hok.a p (by omega)
  have hbp := hok.b p (by omega)
  have haq := hok.a q (by omega)
  have hbq := hok.b q (by omega)
  rw [hl] at hap hbp haq hbq
  have HSIM : Hid (∀ W, Below w.heap.size w W → Calls Try.prog 69 #[.agg #[.int .i64 (x.1 : Int), .int .i64 (x.2.1 : Int), .int .i64 (x.2.2 : Int)], .slice A n c] W fun e w' => e = .returned (.agg #[.int .i64 (u : Int), .int .i64 (p : Int), .int .i64 (q : Int)]) ∧ Below W.heap.size W w') := fun W hW => by
    have := simpler_any N A n c x W (hN.below (hw.trans (hW.mono hBw)) (by omega)) hx (by omega)
    rw [hs] at this
    exact this
  have HNN : Hid (∀ W, Below w.heap.size w W → Nl W A n c N) := fun W hW => hN.below (hw.trans (hW.mono hBw)) (by omega)
  obtain ⟨b, off, rfl, hbl0, -⟩ := hN.two hp hq
  have hbl : b < w.heap.size := by omega
  obtain ⟨X, hX⟩ : ∃ y, nd N p = y := ⟨_, rfl⟩
  obtain ⟨Y, hY⟩ : ∃ y, nd N q = y := ⟨_, rfl⟩
  rw [hX] at hkp hap hbp
  rw [hY] at hkq haq hbq
  have HNN' : Hid (∀ W, Below w.heap.size w W → (W.cell? ⟨b, off + p * 3, none⟩ = some (.int .i64 (X.k : Int)) ∧ W.cell? ⟨b, off + p * 3 + 1, none⟩ = some (.int .i64 (X.a : Int)) ∧ W.cell? ⟨b, off + p * 3 + 2, none⟩ = some (.int .i64 (X.b : Int))) ∧
    (W.cell? ⟨b, off + q * 3, none⟩ = some (.int .i64 (Y.k : Int)) ∧ W.cell? ⟨b, off + q * 3 + 1, none⟩ = some (.int .i64 (Y.a : Int)) ∧ W.cell? ⟨b, off + q * 3 + 2, none⟩ = some (.int .i64 (Y.b : Int)))) := fun W hW => by
    obtain ⟨b', off', e, _, h1⟩ := (HNN.out W hW).two hp hq
    injection e with e
    injection e with e1 e2
    subst e1; subst e2
    rw [hX, hY] at h1
    exact h1
  obtain ⟨k, xa, xb⟩ := X
  obtain ⟨l, ya, yb⟩ := Y
  dsimp only at hkp hap hbp hkq haq hbq HNN'
  obtain ⟨W, hW⟩ : ∃ W, W = (w.alloc (.cells #[.int .i64 (x.1 : Int), .int .i64 (x.2.1 : Int), .int .i64 (x.2.2 : Int)] 76)).alloc (.cells #[.int .i64 0, .int .i64 0, .int .i64 0] 59) := ⟨_, rfl⟩
  have hb : Below w.heap.size w W := by rw [hW]; exact ((Below.refl _ w).alloc (Nat.le_refl _) _).alloc (by simp) _
  have hg : W.heap[w.heap.size]? = some (.cells #[.int .i64 (x.1 : Int), .int .i64 (x.2.1 : Int), .int .i64 (x.2.2 : Int)] 76 (0, 0)) := by
    rw [hW]
    show ((w.heap.push _).push _)[w.heap.size]? = _
    rw [Array.getElem?_push, if_neg (by simp), Array.getElem?_push, if_pos rfl]
  have hr : W.heap[w.heap.size + 1]? = some (.cells #[.int .i64 0, .int .i64 0, .int .i64 0] 59 (0, 0)) := by
    rw [hW]
    show ((w.heap.push _).push _)[w.heap.size + 1]? = _
    rw [Array.getElem?_push, if_pos (by simp)]
  have hz : W.heap.size = w.heap.size + 2 := by rw [hW]; simp
  have g0 := cell_in hg (i := 0) rfl
  have g1 := cell_in hg (i := 1) rfl
  have g2 := cell_in hg (i := 2) rfl
  have HW := Lib.hid hW
  have HB := Lib.hid hb
  have HG := Lib.hid hg
  have HR := Lib.hid hr
  have HZ := Lib.hid hz
  have HPS := Lib.hid h
  have HS := Lib.hid hs
  have HX := Lib.hid hX
  have HY := Lib.hid hY
  have HSG : Hid ((Try.prog.info? 76).map (·.size) = some (#[Value.int .i64 (u : Int), Value.int .i64 (p : Int), Value.int .i64 (q : Int)] : Array Value).size) := Try.sizeGl
  rw [hW] at g0 g1 g2
  clear hN hok hw h hx hs hsw hX hY hW hb hg hr hz hbl0 HNN hl
  show Calls _ _ #[.agg #[.int .i64 (x.1 : Int), .int .i64 (x.2.1 : Int), .int .i64 (x.2.2 : Int)], _, _] w _
  go_enter Try.func65, Try.ntmps65
  go_wp2_with (first
    | (go_at_call 69; rw [← HW.out]; refine (HSIM.out _ HB.out).mono ?_; rintro e w1 ⟨rfl, hb1⟩; have HB1 := Lib.hid hb1; have HG1 := Lib.hid ((hb1.block w.heap.size (by rw [HZ.out]; omega)).trans HG.out); have HR1 := Lib.hid ((hb1.block (w.heap.size + 1) (by rw [HZ.out]; omega)).trans HR.out); clear hb1 g0 g1 g2)
    | (refine wpList_store_row (by rfl) 76 (.tmp 3) (.tmp 15) (by rfl) w.heap.size _ (by rfl) (by rfl) 76 _ HG1.out HSG.out (by rfl) (by simp [Value.oneCell']) ?_; obtain ⟨W2, hW2, r2, s2, b2⟩ := row_set #[Value.int .i64 (u : Int), Value.int .i64 (p : Int), Value.int .i64 (q : Int)] HG1.out; rw [← hW2]; have HB2 := Lib.hid (b2 w.heap.size (Nat.le_refl _)); have HG2 := Lib.hid r2; have HR2 := Lib.hid ((s2 (w.heap.size + 1) (by omega)).trans HR1.out); clear hW2 r2 s2 b2))
  have HB3 : Hid (Below w.heap.size w W2) := HB.out.trans ((HB1.out.mono HB.out.size).trans HB2.out)
  clear HB1 HB2 HG1 HR1 HB HG HR HSIM HW
  have hz2 : w.heap.size + 2 ≤ W2.heap.size := by
    have := (Array.getElem?_eq_some_iff.1 HR2.out).1
    omega
  have hS : w.heap.size < W2.heap.size := by omega
  obtain ⟨⟨p0, p1, p2⟩, q0, q1, q2⟩ := HNN'.out W2 HB3.out
  have d1 : W2.cell? ⟨w.heap.size, 1, none⟩ = some (.int .i64 (p : Int)) := cell_in HG2.out (i := 1) rfl
  have d2 : W2.cell? ⟨w.heap.size, 2, none⟩ = some (.int .i64 (q : Int)) := cell_in HG2.out (i := 2) rfl
  have hblW : b < W2.heap.size := by omega
  have i1 : (p : Int) < (n : Int) := by omega
  have i2 : (q : Int) < (n : Int) := by omega
  have HCE : Hid (∀ V, Below W2.heap.size W2 V → V.cell? ⟨w.heap.size, 1, none⟩ = some (.int .i64 (p : Int)) ∧ V.cell? ⟨w.heap.size, 2, none⟩ = some (.int .i64 (q : Int)) ∧ V.cell? ⟨b, off + p * 3, none⟩ = some (.int .i64 (k : Int)) ∧ V.cell? ⟨b, off + p * 3 + 1, none⟩ = some (.int .i64 (xa : Int)) ∧ V.cell? ⟨b, off + p * 3 + 2, none⟩ = some (.int .i64 (xb : Int)) ∧
    V.cell? ⟨b, off + q * 3, none⟩ = some (.int .i64 (l : Int)) ∧ V.cell? ⟨b, off + q * 3 + 1, none⟩ = some (.int .i64 (ya : Int)) ∧ V.cell? ⟨b, off + q * 3 + 2, none⟩ = some (.int .i64 (yb : Int))) := fun V hV =>
    ⟨(hV.cell (p := ⟨w.heap.size, 1, none⟩) hS).trans d1, (hV.cell (p := ⟨w.heap.size, 2, none⟩) hS).trans d2, (hV.cell (p := ⟨b, off + p * 3, none⟩) hblW).trans p0, (hV.cell (p := ⟨b, off + p * 3 + 1, none⟩) hblW).trans p1, (hV.cell (p := ⟨b, off + p * 3 + 2, none⟩) hblW).trans p2,
      (hV.cell (p := ⟨b, off + q * 3, none⟩) hblW).trans q0, (hV.cell (p := ⟨b, off + q * 3 + 1, none⟩) hblW).trans q1, (hV.cell (p := ⟨b, off + q * 3 + 2, none⟩) hblW).trans q2⟩
  have HALL := Lib.hid (And.intro h0 (And.intro hn (And.intro hLn (And.intro hu1 (And.intro hBw (And.intro hbig (And.intro hkp (And.intro hap (And.intro hbp (And.intro hkq (And.intro haq (And.intro hbq (And.intro HNN' (And.intro HPS (And.intro HS (And.intro HX (And.intro HY (And.intro HSG (And.intro HB3 (And.intro HG2 (And.intro HR2 (And.intro hz2 (And.intro hp hq)))))))))))))))))))))))
  clear h0 hn hLn hu1 hBw hbig hkp hap hbp hkq haq hbq HNN' HPS HS HX HY HSG HB3 HG2 HR2 hz2 hp hq hbl HZ hblW hS p0 p1 p2 q0 q1 q2 d1 d2
  obtain ⟨MM, hMM⟩ : ∃ MM : Act → World → Prop, MM = fun a V => ∃ (r7 r8 : Nat), a = { tmps := List.toArray (.agg #[.int .i64 (x.1 : Int), .int .i64 (x.2.1 : Int), .int .i64 (x.2.2 : Int)] :: .slice (some ⟨b, off, none⟩) n c :: .func (.func 68) #[] #[.pointer (some ⟨s5, 0, none⟩), .pointer (some ⟨s6, 0, none⟩)] :: .pointer (some ⟨w.heap.size, 0, none⟩) :: undef :: undef :: .pointer (some ⟨w.heap.size + 1, 0, none⟩) :: .pointer (some ⟨r7, 0, none⟩) :: .pointer (some ⟨r8, 0, none⟩) :: undef :: undef :: undef :: undef :: .agg #[.int .i64 (x.1 : Int), .int .i64 (x.2.1 : Int), .int .i64 (x.2.2 : Int)] :: .slice (some ⟨b, off, none⟩) n c :: .agg #[.int .i64 (u : Int), .int .i64 (p : Int), .int .i64 (q : Int)] :: .slice (some ⟨b, off, none⟩) n c :: .pointer (some ⟨w.heap.size, 1, none⟩) :: .pointer (some ⟨w.heap.size, 1, none⟩) :: .int .i64 (p : Int) :: .pointer (some ⟨b, off + p * 3, none⟩) :: .agg #[.int .i64 (k : Int), .int .i64 (xa : Int), .int .i64 (xb : Int)] :: .slice (some ⟨b, off, none⟩) n c :: .pointer (some ⟨w.heap.size, 1, none⟩) :: .pointer (some ⟨w.heap.size, 2, none⟩) :: .int .i64 (q : Int) :: .pointer (some ⟨b, off + q * 3, none⟩) :: .agg #[.int .i64 (l : Int), .int .i64 (ya : Int), .int .i64 (yb : Int)] :: undef :: undef :: undef :: undef :: undef :: undef :: undef :: undef :: undef :: undef :: undef :: undef :: undef :: undef :: undef :: undef :: undef :: undef :: undef :: undef :: undef :: undef :: undef :: undef :: undef :: undef :: undef :: undef :: undef :: undef :: undef :: undef :: undef :: undef :: undef :: undef :: undef :: undef :: undef :: undef :: undef :: undef :: undef :: undef :: undef :: undef :: undef :: []), defers := [] } ∧ TwoNew W2 V r7 r8 #[.int .i64 (k : Int), .int .i64 (xa : Int), .int .i64 (xb : Int)] #[.int .i64 (l : Int), .int .i64 (ya : Int), .int .i64 (yb : Int)] 59 := ⟨_, rfl⟩
  have HMM := Lib.hid hMM
  clear hMM
  refine wp_then_monoO (K := MM) ?_ ?_
  rotate_left
  · refine wp_region_held_drew (S := fun V => V.cell? ⟨w.heap.size, 1, none⟩ = some (.int .i64 (p : Int)) ∧ V.cell? ⟨w.heap.size, 2, none⟩ = some (.int .i64 (q : Int)) ∧ V.cell? ⟨b, off + p * 3, none⟩ = some (.int .i64 (k : Int)) ∧ V.cell? ⟨b, off + p * 3 + 1, none⟩ = some (.int .i64 (xa : Int)) ∧ V.cell? ⟨b, off + p * 3 + 2, none⟩ = some (.int .i64 (xb : Int)) ∧
      V.cell? ⟨b, off + q * 3, none⟩ = some (.int .i64 (l : Int)) ∧ V.cell? ⟨b, off + q * 3 + 1, none⟩ = some (.int .i64 (ya : Int)) ∧ V.cell? ⟨b, off + q * 3 + 2, none⟩ = some (.int .i64 (yb : Int))) (by kernel_rfl) (HCE.out _ (Below.refl _ _).drew) (fun hHeld => ?_)
    have hk0 : Below W2.heap.size W2 W2.drew := (Below.refl _ _).drew
    have hs0 : Hid (W2.drew.heap.size = W2.heap.size) := rfl
    generalize W2.drew = V0 at *
    refine wpAnyH_takeO (i := 0) (v := ?_) (by simp only [↓List.getElem?_toArray, ↓List.getElem?_cons_succ, ↓List.getElem?_cons_zero]; rfl) (by kernel_rfl) (by kernel_rfl) (by kernel_rfl) (by assumption) ?_ ?_ ?_
    rotate_left
    · exact fun _ _ _ h => h
    · exact Or.inl ⟨by rfl, by (intro V hV; (try dsimp only at hV); go_simp; try with_reducible rfl)⟩
    simp only [Act.put, List.setIfInBounds_toArray, List.set_cons_zero, List.set_cons_succ]
    refine wpAnyH_takeO (i := 1) (v := ?_) (by simp only [↓List.getElem?_toArray, ↓List.getElem?_cons_succ, ↓List.getElem?_cons_zero]; rfl) (by kernel_rfl) (by kernel_rfl) (by kernel_rfl) (by assumption) ?_ ?_ ?_
    rotate_left
    · exact fun _ _ _ h => h
    · exact Or.inl ⟨by rfl, by (intro V hV; (try dsimp only at hV); go_simp; try with_reducible rfl)⟩
    simp only [Act.put, List.setIfInBounds_toArray, List.set_cons_zero, List.set_cons_succ]
    refine wpAnyH_takeO (i := 2) (v := ?_) (by simp only [↓List.getElem?_toArray, ↓List.getElem?_cons_succ, ↓List.getElem?_cons_zero]; rfl) (by kernel_rfl) (by kernel_rfl) (by kernel_rfl) (by assumption) ?_ ?_ ?_
    rotate_left
    · exact fun _ _ _ h => h
    · exact Or.inl ⟨by rfl, by (intro V hV; (try dsimp only at hV); go_simp; try with_reducible rfl)⟩
    simp only [Act.put, List.setIfInBounds_toArray, List.set_cons_zero, List.set_cons_succ]
    refine wpAnyH_takeO (i := 3) (v := ?_) (by simp only [↓List.getElem?_toArray, ↓List.getElem?_cons_succ, ↓List.getElem?_cons_zero]; rfl) (by kernel_rfl) (by kernel_rfl) (by kernel_rfl) (by assumption) ?_ ?_ ?_
    rotate_left
    · exact fun _ _ _ h => h
    · exact Or.inl ⟨by rfl, by (intro V hV; (try dsimp only at hV); go_simp; try with_reducible rfl)⟩
    simp only [Act.put, List.setIfInBounds_toArray, List.set_cons_zero, List.set_cons_succ]
    refine wpAnyH_takeO (i := 4) (v := ?_) (by simp only [↓List.getElem?_toArray, ↓List.getElem?_cons_succ, ↓List.getElem?_cons_zero]; rfl) (by kernel_rfl) (by kernel_rfl) (by kernel_rfl) (by assumption) ?_ ?_ ?_
    rotate_left
    · exact fun _ _ _ h => h
    · exact Or.inl ⟨by rfl, by (intro V hV; (try dsimp only at hV); go_simp; try with_reducible rfl)⟩
    simp only [Act.put, List.setIfInBounds_toArray, List.set_cons_zero, List.set_cons_succ]
    refine wpAnyH_takeO (i := 5) (v := ?_) (by simp only [↓List.getElem?_toArray, ↓List.getElem?_cons_succ, ↓List.getElem?_cons_zero]; rfl) (by kernel_rfl) (by kernel_rfl) (by kernel_rfl) (by assumption) ?_ ?_ ?_
    rotate_left
    · exact fun _ _ _ h => h
    · exact Or.inl ⟨by rfl, by (intro V hV; (try dsimp only at hV); go_simp; try with_reducible rfl)⟩
    simp only [Act.put, List.setIfInBounds_toArray, List.set_cons_zero, List.set_cons_succ]
    refine wpAnyH_takeO (i := 6) (v := ?_) (by simp only [↓List.getElem?_toArray, ↓List.getElem?_cons_succ, ↓List.getElem?_cons_zero]; rfl) (by kernel_rfl) (by kernel_rfl) (by kernel_rfl) (by assumption) ?_ ?_ ?_
    rotate_left
    · exact fun _ _ _ h => h
    · exact Or.inl ⟨by rfl, by (intro V hV; (try dsimp only at hV); go_simp; try with_reducible rfl)⟩
    simp only [Act.put, List.setIfInBounds_toArray, List.set_cons_zero, List.set_cons_succ]
    refine wpAnyH_takeO (i := 7) (v := ?_) (by simp only [↓List.getElem?_toArray, ↓List.getElem?_cons_succ, ↓List.getElem?_cons_zero]; rfl) (by kernel_rfl) (by kernel_rfl) (by kernel_rfl) (by assumption) ?_ ?_ ?_
    rotate_left
    · exact fun _ _ _ h => h
    · exact Or.inl ⟨by rfl, by (intro V hV; (try dsimp only at hV); go_simp; try with_reducible rfl)⟩
    simp only [Act.put, List.setIfInBounds_toArray, List.set_cons_zero, List.set_cons_succ]
    refine wpAnyH_takeO (i := 8) (v := ?_) (by simp only [↓List.getElem?_toArray, ↓List.getElem?_cons_succ, ↓List.getElem?_cons_zero]; rfl) (by kernel_rfl) (by kernel_rfl) (by kernel_rfl) (by assumption) ?_ ?_ ?_
    rotate_left
    · exact fun _ _ _ h => h
    · exact Or.inl ⟨by rfl, by (intro V hV; (try dsimp only at hV); go_simp; try with_reducible rfl)⟩
    simp only [Act.put, List.setIfInBounds_toArray, List.set_cons_zero, List.set_cons_succ]
    refine wpAnyH_takeO (i := 9) (v := ?_) (by simp only [↓List.getElem?_toArray, ↓List.getElem?_cons_succ, ↓List.getElem?_cons_zero]; rfl) (by kernel_rfl) (by kernel_rfl) (by kernel_rfl) (by assumption) ?_ ?_ ?_
    rotate_left
    · exact fun _ _ _ h => h
    · exact Or.inl ⟨by rfl, by (intro V hV; (try dsimp only at hV); go_simp; try with_reducible rfl)⟩
    simp only [Act.put, List.setIfInBounds_toArray, List.set_cons_zero, List.set_cons_succ]
    refine wpAnyH_takeO (i := 10) (v := ?_) (by simp only [↓List.getElem?_toArray, ↓List.getElem?_cons_succ, ↓List.getElem?_cons_zero]; rfl) (by kernel_rfl) (by kernel_rfl) (by kernel_rfl) (by assumption) ?_ ?_ ?_
    rotate_left
    · exact fun _ _ _ h => h
    · exact Or.inl ⟨by rfl, by (intro V hV; (try dsimp only at hV); go_simp; try with_reducible rfl)⟩
    simp only [Act.put, List.setIfInBounds_toArray, List.set_cons_zero, List.set_cons_succ]
    refine wpAnyH_takeO (i := 11) (v := ?_) (by simp only [↓List.getElem?_toArray, ↓List.getElem?_cons_succ, ↓List.getElem?_cons_zero]; rfl) (by kernel_rfl) (by kernel_rfl) (by kernel_rfl) (by assumption) ?_ ?_ ?_
    rotate_left
    · exact fun _ _ _ h => h
    · exact Or.inl ⟨by rfl, by (intro V hV; (try dsimp only at hV); go_simp; try with_reducible rfl)⟩
    simp only [Act.put, List.setIfInBounds_toArray, List.set_cons_zero, List.set_cons_succ]
    refine wpAnyH_ready (rs := [12, 13]) (by kernel_rfl) (by simp) ?_
    refine AllReadyH.cons rfl (fun K hK => ?_) ?_
    · go_simp
      obtain ⟨v1, hv1⟩ : ∃ v, v = World.alloc V0 (.cells #[.int .i64 0, .int .i64 0, .int .i64 0] 59) := ⟨_, rfl⟩
      have hb1 : Below V0.heap.size V0 v1 := by rw [hv1]; exact (Below.refl _ _).alloc (Nat.le_refl _) _
      have hw1 : v1.heap[V0.heap.size]? = some (.cells #[.int .i64 0, .int .i64 0, .int .i64 0] 59 (0, 0)) := by rw [hv1]; exact heap_alloc_new _ _
      have hs1 : Hid (v1.heap.size = V0.heap.size + 1) := by rw [hv1, Hid]; simp
      have hk1 := hk0.trans (hb1.mono hk0.size)
      rw [← hv1]
      refine hK.out _ _ (HCE.out _ hk1) (fun hHeld => ?_)
      clear hK K hv1
      try simp only [Act.put, List.setIfInBounds_toArray, List.set_cons_zero, List.set_cons_succ]
      refine wpAnyH_ready (rs := [13]) (by kernel_rfl) (by simp) ?_
      refine AllReadyH.cons rfl (fun K hK => ?_) ?_
      · go_simp
        obtain ⟨v2, hv2⟩ : ∃ v, v = World.alloc v1 (.cells #[.int .i64 0, .int .i64 0, .int .i64 0] 59) := ⟨_, rfl⟩
        have hb2 : Below v1.heap.size v1 v2 := by rw [hv2]; exact (Below.refl _ _).alloc (Nat.le_refl _) _
        have hw2 : v2.heap[v1.heap.size]? = some (.cells #[.int .i64 0, .int .i64 0, .int .i64 0] 59 (0, 0)) := by rw [hv2]; exact heap_alloc_new _ _
        have hs2 : v2.heap.size = v1.heap.size + 1 := by rw [hv2]; simp
        have hw1' := (hb2.block _ (by rw [hs1.out]; omega)).trans hw1
        have hk2 := hk1.trans (hb2.mono hk1.size)
        rw [← hv2]
        clear hs2
        have hs2 : Hid (v2.heap.size = v1.heap.size + 1) := by rw [hv2, Hid]; simp
        refine hK.out _ _ (HCE.out _ hk2) (fun hHeld => ?_)
        clear hK K hv2
        try simp only [Act.put, List.setIfInBounds_toArray, List.set_cons_zero, List.set_cons_succ]
        obtain ⟨r7, hr7⟩ : ∃ r, r = V0.heap.size := ⟨_, rfl⟩
        obtain ⟨r8, hr8⟩ : ∃ r, r = v1.heap.size := ⟨_, rfl⟩
        rw [← hr7, ← hr8]
        have h7 : v2.heap[r7]? = some (.cells #[.int .i64 0, .int .i64 0, .int .i64 0] 59 (0, 0)) := by rw [hr7]; assumption
        have h8 : v2.heap[r8]? = some (.cells #[.int .i64 0, .int .i64 0, .int .i64 0] 59 (0, 0)) := by rw [hr8]; assumption
        have q0 := hs0.out
        have q1 := hs1.out
        have q2 := hs2.out
        have hne : r8 ≠ r7 := by omega
        have hl7 : W2.heap.size ≤ r7 := by omega
        have hl8 : W2.heap.size ≤ r8 := by omega
        have hl7' : Hid (r7 < W2.heap.size + 2) := by rw [Hid]; omega
        have hl8' : Hid (r8 < W2.heap.size + 2) := by rw [Hid]; omega
        have hs2' : Hid (v2.heap.size = W2.heap.size + 2) := by rw [Hid]; omega
        clear q0 q1 q2 hr7 hr8 hw1 hw2 hw1' hb1 hb2 hs1 hs2
        refine wpAnyH_ready (rs := [14]) (by kernel_rfl) (by simp) ?_
        refine AllReadyH.cons rfl (fun K hK => ?_) ?_
        · have x0 := cell_in h7 (i := 0) rfl
          have x1 := cell_in h7 (i := 1) rfl
          have x2 := cell_in h7 (i := 2) rfl
          have y0 : v2.frozen? ⟨r7, 0, none⟩ = false := by simp [World.frozen?, h7]
          have y1 : v2.frozen? ⟨r7, 1, none⟩ = false := by simp [World.frozen?, h7]
          have y2 : v2.frozen? ⟨r7, 2, none⟩ = false := by simp [World.frozen?, h7]
          go_simp
          obtain ⟨v3, hv3⟩ : ∃ v, v = ((World.setCell v2 ⟨r7, 0, none⟩ (.int .i64 (k : Int))).setCell ⟨r7, 1, none⟩ (.int .i64 (xa : Int))).setCell ⟨r7, 2, none⟩ (.int .i64 (xb : Int)) := ⟨_, rfl⟩
          rw [← hv3]
          obtain ⟨hrow, hoth, hb3⟩ := set_threeO h7 hv3
          have hs3 : Hid (v3.heap.size = v2.heap.size) := by rw [hv3, Hid]; simp [World.setCell]
          have h8' := (hoth r8 hne).trans h8
          have hk3 := hk2.trans (hb3 _ hl7)
          refine hK.out _ _ (HCE.out _ hk3) (fun hHeld => ?_)
          clear hK K hv3 x0 x1 x2 y0 y1 y2
          try simp only [Act.put, List.setIfInBounds_toArray, List.set_cons_zero, List.set_cons_succ]
          refine wpAnyH_ready (rs := [15]) (by kernel_rfl) (by simp) ?_
          refine AllReadyH.cons rfl (fun K hK => ?_) ?_
          · have x0 := cell_in h8' (i := 0) rfl
            have x1 := cell_in h8' (i := 1) rfl
            have x2 := cell_in h8' (i := 2) rfl
            have y0 : v3.frozen? ⟨r8, 0, none⟩ = false := by simp [World.frozen?, h8']
            have y1 : v3.frozen? ⟨r8, 1, none⟩ = false := by simp [World.frozen?, h8']
            have y2 : v3.frozen? ⟨r8, 2, none⟩ = false := by simp [World.frozen?, h8']
            go_simp
            obtain ⟨v4, hv4⟩ : ∃ v, v = ((World.setCell v3 ⟨r8, 0, none⟩ (.int .i64 (l : Int))).setCell ⟨r8, 1, none⟩ (.int .i64 (ya : Int))).setCell ⟨r8, 2, none⟩ (.int .i64 (yb : Int)) := ⟨_, rfl⟩
            rw [← hv4]
            obtain ⟨hrow4, hoth4, hb4⟩ := set_threeO h8' hv4
            have hs4 : Hid (v4.heap.size = v3.heap.size) := by rw [hv4, Hid]; simp [World.setCell]
            have hk4 := hk3.trans (hb4 _ hl8)
            refine hK.out _ _ (HCE.out _ hk4) (fun hHeld => ?_)
            clear hK K hv4
            try simp only [Act.put, List.setIfInBounds_toArray, List.set_cons_zero, List.set_cons_succ]
            refine wpAnyH_done (by kernel_rfl) ?_ _
            (show MM _ _; rw [HMM.out]; have q2 := hs2'.out; have q3 := hs3.out; have q4 := hs4.out; have q5 := hl7'.out; have q6 := hl8'.out; exact ⟨r7, r8, rfl, hk4, by omega, (hoth4 r7 (Ne.symm hne)).trans hrow, hrow4, ⟨hl7, by omega⟩, ⟨hl8, by omega⟩⟩)
          · exact AllReadyH.nil
        · exact AllReadyH.nil
      · exact AllReadyH.nil
    refine AllReadyH.cons rfl (fun K hK => ?_) ?_
    · go_simp
      obtain ⟨v1, hv1⟩ : ∃ v, v = World.alloc V0 (.cells #[.int .i64 0, .int .i64 0, .int .i64 0] 59) := ⟨_, rfl⟩
      have hb1 : Below V0.heap.size V0 v1 := by rw [hv1]; exact (Below.refl _ _).alloc (Nat.le_refl _) _
      have hw1 : v1.heap[V0.heap.size]? = some (.cells #[.int .i64 0, .int .i64 0, .int .i64 0] 59 (0, 0)) := by rw [hv1]; exact heap_alloc_new _ _
      have hs1 : Hid (v1.heap.size = V0.heap.size + 1) := by rw [hv1, Hid]; simp
      have hk1 := hk0.trans (hb1.mono hk0.size)
      rw [← hv1]
      refine hK.out _ _ (HCE.out _ hk1) (fun hHeld => ?_)
      clear hK K hv1
      try simp only [Act.put, List.setIfInBounds_toArray, List.set_cons_zero, List.set_cons_succ]
      refine wpAnyH_ready (rs := [12]) (by kernel_rfl) (by simp) ?_
      refine AllReadyH.cons rfl (fun K hK => ?_) ?_
      · go_simp
        obtain ⟨v2, hv2⟩ : ∃ v, v = World.alloc v1 (.cells #[.int .i64 0, .int .i64 0, .int .i64 0] 59) := ⟨_, rfl⟩
        have hb2 : Below v1.heap.size v1 v2 := by rw [hv2]; exact (Below.refl _ _).alloc (Nat.le_refl _) _
        have hw2 : v2.heap[v1.heap.size]? = some (.cells #[.int .i64 0, .int .i64 0, .int .i64 0] 59 (0, 0)) := by rw [hv2]; exact heap_alloc_new _ _
        have hs2 : v2.heap.size = v1.heap.size + 1 := by rw [hv2]; simp
        have hw1' := (hb2.block _ (by rw [hs1.out]; omega)).trans hw1
        have hk2 := hk1.trans (hb2.mono hk1.size)
        rw [← hv2]
        clear hs2
        have hs2 : Hid (v2.heap.size = v1.heap.size + 1) := by rw [hv2, Hid]; simp
        refine hK.out _ _ (HCE.out _ hk2) (fun hHeld => ?_)
        clear hK K hv2
        try simp only [Act.put, List.setIfInBounds_toArray, List.set_cons_zero, List.set_cons_succ]
        obtain ⟨r7, hr7⟩ : ∃ r, r = v1.heap.size := ⟨_, rfl⟩
        obtain ⟨r8, hr8⟩ : ∃ r, r = V0.heap.size := ⟨_, rfl⟩
        rw [← hr7, ← hr8]
        have h7 : v2.heap[r7]? = some (.cells #[.int .i64 0, .int .i64 0, .int .i64 0] 59 (0, 0)) := by rw [hr7]; assumption
        have h8 : v2.heap[r8]? = some (.cells #[.int .i64 0, .int .i64 0, .int .i64 0] 59 (0, 0)) := by rw [hr8]; assumption
        have q0 := hs0.out
        have q1 := hs1.out
        have q2 := hs2.out
        have hne : r8 ≠ r7 := by omega
        have hl7 : W2.heap.size ≤ r7 := by omega
        have hl8 : W2.heap.size ≤ r8 := by omega
        have hl7' : Hid (r7 < W2.heap.size + 2) := by rw [Hid]; omega
        have hl8' : Hid (r8 < W2.heap.size + 2) := by rw [Hid]; omega
        have hs2' : Hid (v2.heap.size = W2.heap.size + 2) := by rw [Hid]; omega
        clear q0 q1 q2 hr7 hr8 hw1 hw2 hw1' hb1 hb2 hs1 hs2
        refine wpAnyH_ready (rs := [14]) (by kernel_rfl) (by simp) ?_
        refine AllReadyH.cons rfl (fun K hK => ?_) ?_
        · have x0 := cell_in h7 (i := 0) rfl
          have x1 := cell_in h7 (i := 1) rfl
          have x2 := cell_in h7 (i := 2) rfl
          have y0 : v2.frozen? ⟨r7, 0, none⟩ = false := by simp [World.frozen?, h7]
          have y1 : v2.frozen? ⟨r7, 1, none⟩ = false := by simp [World.frozen?, h7]
          have y2 : v2.frozen? ⟨r7, 2, none⟩ = false := by simp [World.frozen?, h7]
          go_simp
          obtain ⟨v3, hv3⟩ : ∃ v, v = ((World.setCell v2 ⟨r7, 0, none⟩ (.int .i64 (k : Int))).setCell ⟨r7, 1, none⟩ (.int .i64 (xa : Int))).setCell ⟨r7, 2, none⟩ (.int .i64 (xb : Int)) := ⟨_, rfl⟩
          rw [← hv3]
          obtain ⟨hrow, hoth, hb3⟩ := set_threeO h7 hv3
          have hs3 : Hid (v3.heap.size = v2.heap.size) := by rw [hv3, Hid]; simp [World.setCell]
          have h8' := (hoth r8 hne).trans h8
          have hk3 := hk2.trans (hb3 _ hl7)
          refine hK.out _ _ (HCE.out _ hk3) (fun hHeld => ?_)
          clear hK K hv3 x0 x1 x2 y0 y1 y2
          try simp only [Act.put, List.setIfInBounds_toArray, List.set_cons_zero, List.set_cons_succ]
          refine wpAnyH_ready (rs := [15]) (by kernel_rfl) (by simp) ?_
          refine AllReadyH.cons rfl (fun K hK => ?_) ?_
          · have x0 := cell_in h8' (i := 0) rfl
            have x1 := cell_in h8' (i := 1) rfl
            have x2 := cell_in h8' (i := 2) rfl
            have y0 : v3.frozen? ⟨r8, 0, none⟩ = false := by simp [World.frozen?, h8']
            have y1 : v3.frozen? ⟨r8, 1, none⟩ = false := by simp [World.frozen?, h8']
            have y2 : v3.frozen? ⟨r8, 2, none⟩ = false := by simp [World.frozen?, h8']
            go_simp
            obtain ⟨v4, hv4⟩ : ∃ v, v = ((World.setCell v3 ⟨r8, 0, none⟩ (.int .i64 (l : Int))).setCell ⟨r8, 1, none⟩ (.int .i64 (ya : Int))).setCell ⟨r8, 2, none⟩ (.int .i64 (yb : Int)) := ⟨_, rfl⟩
            rw [← hv4]
            obtain ⟨hrow4, hoth4, hb4⟩ := set_threeO h8' hv4
            have hs4 : Hid (v4.heap.size = v3.heap.size) := by rw [hv4, Hid]; simp [World.setCell]
            have hk4 := hk3.trans (hb4 _ hl8)
            refine hK.out _ _ (HCE.out _ hk4) (fun hHeld => ?_)
            clear hK K hv4
            try simp only [Act.put, List.setIfInBounds_toArray, List.set_cons_zero, List.set_cons_succ]
            refine wpAnyH_done (by kernel_rfl) ?_ _
            (show MM _ _; rw [HMM.out]; have q2 := hs2'.out; have q3 := hs3.out; have q4 := hs4.out; have q5 := hl7'.out; have q6 := hl8'.out; exact ⟨r7, r8, rfl, hk4, by omega, (hoth4 r7 (Ne.symm hne)).trans hrow, hrow4, ⟨hl7, by omega⟩, ⟨hl8, by omega⟩⟩)
          · exact AllReadyH.nil
        · exact AllReadyH.nil
      · exact AllReadyH.nil
    exact AllReadyH.nil
  intro a V hMV
  rw [HMM.out] at hMV
  obtain ⟨r7, r8, rfl, T⟩ := hMV
  obtain ⟨h0, hn, hLn, hu1, hBw, hbig, hkp, hap, hbp, hkq, haq, hbq, HNN', HPS, HS, HX, HY, HSG, HB3, HG2, HR2, hz2, hp, hq⟩ := HALL.out
  clear HALL HMM MM HCE HNN' HSG
  have hu := T.hu
  have hv := T.hv
  have hlu := T.lu
  have hlv := T.lv
  have HB4 : Hid (Below w.heap.size w V) := HB3.out.trans (T.bl.mono HB3.out.size)
  have HRO : Hid (∀ V', Below V.heap.size V V' → V'.heap[w.heap.size]? = some (.cells #[.int .i64 (u : Int), .int .i64 (p : Int), .int .i64 (q : Int)] 76 (0, 0)) ∧ V'.heap[w.heap.size + 1]? = some (.cells #[.int .i64 0, .int .i64 0, .int .i64 0] 59 (0, 0)) ∧ V'.heap[r7]? = some (.cells #[.int .i64 (k : Int), .int .i64 (xa : Int), .int .i64 (xb : Int)] 59 (0, 0)) ∧ V'.heap[r8]? = some (.cells #[.int .i64 (l : Int), .int .i64 (ya : Int), .int .i64 (yb : Int)] 59 (0, 0))) := fun V' h =>
    ⟨(h.block _ (by rw [T.sz]; omega)).trans ((T.bl.block _ (by omega)).trans HG2.out), (h.block _ (by rw [T.sz]; omega)).trans ((T.bl.block _ (by omega)).trans HR2.out), (h.block _ hlu.2).trans hu, (h.block _ hlv.2).trans hv⟩
  have hzV : w.heap.size + 4 ≤ V.heap.size := by rw [T.sz]; omega
  have hl7 : w.heap.size + 2 ≤ r7 ∧ r7 < V.heap.size := ⟨by omega, hlu.2⟩
  have hl8 : w.heap.size + 2 ≤ r8 ∧ r8 < V.heap.size := ⟨by omega, hlv.2⟩
  have c70 := cell_in hu (i := 0) rfl
  have c71 := cell_in hu (i := 1) rfl
  have c72 := cell_in hu (i := 2) rfl
  have c80 := cell_in hv (i := 0) rfl
  have HI3 : Hid (∀ a b c : Nat, (Try.prog.info? 59).map (·.size) = some (#[Value.int .i64 (a : Int), Value.int .i64 (b : Int), Value.int .i64 (c : Int)] : Array Value).size) := fun _ _ _ => Try.sizeTy
  clear T hu hv hlu hlv HG2 HR2 hz2 HB3
  by_cases hkl : k = l
  · have g2 : ((k : Int) != (l : Int)) = false := by simp; omega
    by_cases h4 : 4 ≤ k
    · have HHP := Lib.hid (fun W => hasParts_is ⟨k, xa, xb⟩ true W (by rw [hasB'_nat k hkp]; exact decide_eq_true h4))
      obtain ⟨u', hu'⟩ : ∃ u', u' = if k = 5 then othN u else u := ⟨_, rfl⟩
      have hu1' : u' ≤ 1 := by rw [hu']; split; exact othN_le u; exact hu1
      have hsc : scG N x = [(u', xa, ya), (u, xb, yb)] := by rw [scG_part HS.out HX.out (by rw [hkl]; exact HY.out) h4, hu']
      have HAL : Hid (addAll L (scG N x) = addK (addK L (u', xa, ya)) (u, xb, yb)) := by rw [Hid, hsc]; rfl
      have hix1 : ixK (addK (addK L (u', xa, ya)) (u, xb, yb)) (u', xa, ya) = ixK (addK L (u', xa, ya)) (u', xa, ya) := by
        obtain ⟨X, hX⟩ := addK_pre (addK L (u', xa, ya)) (u, xb, yb)
        rw [hX]
        exact idx_append (addK_mem L (u', xa, ya))
      have HMK : Hid (mkG N x ((scG N x).map (ixK (addAll L (scG N x)))) = ⟨k, ixK (addK L (u', xa, ya)) (u', xa, ya), ixK (addK (addK L (u', xa, ya)) (u, xb, yb)) (u, xb, yb)⟩) := by
        rw [Hid, HAL.out, hsc, List.map_cons, List.map_cons, List.map_nil, mkG_part HS.out HX.out (by rw [hkl]; exact HY.out) h4, hix1]
      have hok1 : triOk (u', xa, ya) := ⟨by show u' ≤ _; omega, by show xa ≤ _; omega, by show ya ≤ _; omega⟩
      have hok2 : triOk (u, xb, yb) := ⟨by show u ≤ _; omega, by show xb ≤ _; omega, by show yb ≤ _; omega⟩
      have hL1 : (addK L (u', xa, ya)).length ≤ 1000000 := by
        unfold addK
        split
        · omega
        · rw [List.length_append]; simp; omega
      have HPL1 : Hid (∀ W, PlS encGl ownG 107 108 B s5 s6 bm L v W → B ≤ W.heap.size → Calls Try.prog 68 #[.agg #[.int .i64 (u' : Int), .int .i64 (xa : Int), .int .i64 (ya : Int)], .pointer (some ⟨s5, 0, none⟩), .pointer (some ⟨s6, 0, none⟩)] W fun e w' => ∃ v', e = .returned (.int .i64 ((ixK (addK L (u', xa, ya)) (u', xa, ya) : Nat) : Int)) ∧ PlQ encGl ownG 107 108 B s5 s6 bm L v W (addK L (u', xa, ya)) v' w') := fun W hp hB => placeG_any B s5 s6 bm L v (u', xa, ya) W hp hok1 (by omega) hB
      have HPL2 : Hid (∀ W v4, PlS encGl ownG 107 108 B s5 s6 bm (addK L (u', xa, ya)) v4 W → B ≤ W.heap.size → Calls Try.prog 68 #[.agg #[.int .i64 (u : Int), .int .i64 (xb : Int), .int .i64 (yb : Int)], .pointer (some ⟨s5, 0, none⟩), .pointer (some ⟨s6, 0, none⟩)] W fun e w' => ∃ v', e = .returned (.int .i64 ((ixK (addK (addK L (u', xa, ya)) (u, xb, yb)) (u, xb, yb) : Nat) : Int)) ∧ PlQ encGl ownG 107 108 B s5 s6 bm (addK L (u', xa, ya)) v4 W (addK (addK L (u', xa, ya)) (u, xb, yb)) v' w') := fun W v4 hp hB => placeG_any B s5 s6 bm (addK L (u', xa, ya)) v4 (u, xb, yb) W hp hok2 hL1 hB
      have HOTH := Lib.hid (fun W => oth_any u hu1 W)
      generalize ixK (addK L (u', xa, ya)) (u', xa, ya) = x1 at *
      generalize ixK (addK (addK L (u', xa, ya)) (u, xb, yb)) (u, xb, yb) = x2 at *
      have HU' := Lib.hid hu'
      have HK4 : Hid (4 ≤ k) := h4
      have HBW := Lib.hid hBw
      clear hsc hix1 hok1 hok2 hL1 HS HX HY h4 hu' hkp hkq hap hbp haq hbq hkl hBw h0
      by_cases h5 : k = 5
      · have H5 := Lib.hid h5
        have g5 : ((k : Int) == 5) = true := by simp; omega
        clear h5
        go_upto_region 10 with (first
          | (go_at_call 51; refine (HHP.out _).mono ?_; rintro e w5 ⟨rfl, hb5⟩; obtain ⟨R0, R1, R2, R3⟩ := HRO.out w5 hb5; have HB5 := Lib.hid hb5; have d0 := cell_in R0 (i := 0) rfl; have d70 := cell_in R2 (i := 0) rfl; have d71 := cell_in R2 (i := 1) rfl; have d81 := cell_in R3 (i := 1) rfl; have hz5 : w.heap.size + 4 ≤ w5.heap.size := (Nat.le_trans hzV hb5.size); have hy7 : r7 < w5.heap.size := (Nat.lt_of_lt_of_le hl7.2 hb5.size); have hy8 : r8 < w5.heap.size := (Nat.lt_of_lt_of_le hl8.2 hb5.size); have hy0 : w.heap.size < w5.heap.size := (by omega); clear hb5 R0 R1 R2 R3)
          | (go_at_call 71; refine (HOTH.out _).mono ?_; rintro e w6 ⟨rfl, hb6⟩; have HB6 : Hid (Below w5.heap.size w5 w6) := ((Below.refl _ w5).alloc (Nat.le_refl _) _).trans (hb6.mono (by simp)); have hr9 : w6.heap[w5.heap.size]? = some (.cells #[.int .i64 (u : Int), .int .i64 (xa : Int), .int .i64 (ya : Int)] 76 (0, 0)) := (hb6.block _ (by simp)).trans (heap_alloc_new _ _); have HR9 := Lib.hid hr9; have e90 := cell_in hr9 (i := 0) rfl; have f90 : w6.frozen? ⟨w5.heap.size, 0, none⟩ = false := (by simp [World.frozen?, hr9]); clear hb6 hr9))
        obtain ⟨w7, hw7⟩ : ∃ v, v = w6.setCell ⟨w5.heap.size, 0, none⟩ (.int .i64 (othN u : Int)) := ⟨_, rfl⟩
        rw [← hw7]
        have HB7 : Hid (Below w5.heap.size w5 w7) := by rw [hw7, Hid]; exact HB6.out.setCell (p := ⟨w5.heap.size, 0, none⟩) (Nat.le_refl _) _
        have HR7 : Hid (w7.heap[w5.heap.size]? = some (.cells #[.int .i64 (u' : Int), .int .i64 (xa : Int), .int .i64 (ya : Int)] 76 (0, 0))) := by
          have e : u' = othN u := by rw [HU'.out, if_pos H5.out]
          rw [Hid, hw7, e]
          simp [World.setCell, Array.getElem?_modify, HR9.out]
        clear hw7 HR9 e90 f90 HB6 d0 d70 d71 d81
        have HB57 := Lib.hid (HB5.out.trans (HB7.out.mono HB5.out.size))
        obtain ⟨R0, R1, R2, R3⟩ := HRO.out w7 HB57.out
        have j0 := cell_in R0 (i := 0) rfl
        have j70 := cell_in R2 (i := 0) rfl
        have j72 := cell_in R2 (i := 2) rfl
        have j82 := cell_in R3 (i := 2) rfl
        have hz57 := HB7.out.size
        have hl9 : w5.heap.size < w7.heap.size := (Array.getElem?_eq_some_iff.1 HR7.out).1
        clear R0 R1 R2 R3
        go_upto_region 11 with (fail)
        obtain ⟨w8, hw8⟩ : ∃ v, v = w7.alloc (.cells #[.int .i64 (u : Int), .int .i64 (xb : Int), .int .i64 (yb : Int)] 76) := ⟨_, rfl⟩
        rw [← hw8]
        have hb78 : Below w7.heap.size w7 w8 := by rw [hw8]; exact (Below.refl _ w7).alloc (Nat.le_refl _) _
        have HB58 := Lib.hid (HB57.out.trans (hb78.mono HB57.out.size))
        have HR9 : Hid (w8.heap[w5.heap.size]? = some (.cells #[.int .i64 (u' : Int), .int .i64 (xa : Int), .int .i64 (ya : Int)] 76 (0, 0))) := (hb78.block _ hl9).trans HR7.out
        have HR10 : Hid (w8.heap[w7.heap.size]? = some (.cells #[.int .i64 (u : Int), .int .i64 (xb : Int), .int .i64 (yb : Int)] 76 (0, 0))) := by rw [hw8]; exact heap_alloc_new _ _
        have hz8 : w8.heap.size = w7.heap.size + 1 := by rw [hw8]; simp
        clear hw8 j0 j70 j72 j82
        have HB48 := Lib.hid (HB4.out.trans (HB58.out.mono HB4.out.size))
        have HPW := Lib.hid (HPS.out.below HB48.out)
        obtain ⟨R0, R1, R2, R3⟩ := HRO.out w8 HB58.out
        have HR1 := Lib.hid R1
        have HR2 := Lib.hid R2
        have m0 := cell_in HR9.out (i := 0) rfl
        have m1 := cell_in HR9.out (i := 1) rfl
        have m2 := cell_in HR9.out (i := 2) rfl
        have HSZ8 : Hid (w5.heap.size < w8.heap.size ∧ w7.heap.size < w8.heap.size ∧ w.heap.size ≤ w7.heap.size ∧ w.heap.size ≤ w5.heap.size ∧ w.heap.size + 1 < w8.heap.size ∧ r7 < w8.heap.size ∧ w.heap.size ≤ r7 ∧ w.heap.size ≤ w8.heap.size) := ⟨by omega, by omega, by omega, by omega, by omega, by omega, by omega, by omega⟩
        clear R0 R1 R2 R3 hz8 hb78
        go_wp2_with (first
          | (go_at_call 68; (with_reducible refine (HPL1.out _ HPW.out (Nat.le_trans HBW.out HB48.out.size)).mono ?_); rintro e w9 ⟨v4, rfl, q4⟩; have Q4 := Lib.hid q4; have h10 := (PlQ.far HPS.out q4 HB48.out.size HSZ8.out.2.2.1 HSZ8.out.2.1).trans HR10.out; have n0 := cell_in h10 (i := 0) rfl; have n1 := cell_in h10 (i := 1) rfl; have n2 := cell_in h10 (i := 2) rfl; clear q4 h10 m0 m1 m2)
          | (go_at_call 68; (with_reducible refine (HPL2.out _ _ Q4.out.s (Nat.le_trans HBW.out (Nat.le_trans HB48.out.size Q4.out.t.size))).mono ?_); rintro e w10 ⟨v5, rfl, q5⟩; have Q5 := Lib.hid (Q4.out.trans q5); have H7 := Lib.hid ((PlQ.far HPS.out Q5.out HB48.out.size HSZ8.out.2.2.2.2.2.2.1 HSZ8.out.2.2.2.2.2.1).trans HR2.out); have H1 := Lib.hid ((PlQ.far HPS.out Q5.out HB48.out.size (k := w.heap.size + 1) (Nat.le_succ _) HSZ8.out.2.2.2.2.1).trans HR1.out); have g0 := cell_in H7.out (i := 0) rfl; clear q5 n0 n1 n2)
          | (refine wpList_store_row (by rfl) 59 (.tmp 6) (.tmp 74) (by rfl) (w.heap.size + 1) _ (by rfl) (by rfl) 59 _ H1.out (HI3.out _ _ _) (by rfl) (by simp [Value.oneCell']) ?_))
        refine bodyPost_ret (results_cell_row (by rfl) _ _ (w.heap.size + 1) 59 _ (0, 0) _ (by rfl) (setRow_heap _ _ _ _ _ _ H1.out) Try.underlying59 (by rfl) (HI3.out _ _ _)) (by rfl) ⟨v5, congrArg (fun y => Ending.returned (ndV y)) HMK.out.symm, ?_⟩
        obtain ⟨W6, hW6, _, s6', r6⟩ := row_set #[Value.int .i64 (k : Int), Value.int .i64 (x1 : Int), Value.int .i64 (x2 : Int)] H1.out
        rw [← hW6, HAL.out]
        exact PlQ.turn HPS.out HB48.out Q5.out (Nat.le_succ _) HSZ8.out.2.2.2.2.1 s6' (r6 _ (Nat.le_refl _))
      · have H5 := Lib.hid h5
        have g5 : ((k : Int) == 5) = false := by simp; omega
        clear h5
        go_upto_region 10 with (first
          | (go_at_call 51; refine (HHP.out _).mono ?_; rintro e w5 ⟨rfl, hb5⟩; obtain ⟨R0, R1, R2, R3⟩ := HRO.out w5 hb5; have HB5 := Lib.hid hb5; have d0 := cell_in R0 (i := 0) rfl; have d70 := cell_in R2 (i := 0) rfl; have d71 := cell_in R2 (i := 1) rfl; have d81 := cell_in R3 (i := 1) rfl; have hz5 : w.heap.size + 4 ≤ w5.heap.size := (Nat.le_trans hzV hb5.size); have hy7 : r7 < w5.heap.size := (Nat.lt_of_lt_of_le hl7.2 hb5.size); have hy8 : r8 < w5.heap.size := (Nat.lt_of_lt_of_le hl8.2 hb5.size); have hy0 : w.heap.size < w5.heap.size := (by omega); clear hb5 R0 R1 R2 R3))
        obtain ⟨w7, hw7⟩ : ∃ v, v = w5.alloc (.cells #[.int .i64 (u : Int), .int .i64 (xa : Int), .int .i64 (ya : Int)] 76) := ⟨_, rfl⟩
        rw [← hw7]
        have HB7 : Hid (Below w5.heap.size w5 w7) := by rw [hw7, Hid]; exact (Below.refl _ w5).alloc (Nat.le_refl _) _
        have HR7 : Hid (w7.heap[w5.heap.size]? = some (.cells #[.int .i64 (u' : Int), .int .i64 (xa : Int), .int .i64 (ya : Int)] 76 (0, 0))) := by
          have e : u' = u := by rw [HU'.out, if_neg H5.out]
          rw [Hid, hw7, e]
          exact heap_alloc_new _ _
        clear hw7 d0 d70 d71 d81
        have HB57 := Lib.hid (HB5.out.trans (HB7.out.mono HB5.out.size))
        obtain ⟨R0, R1, R2, R3⟩ := HRO.out w7 HB57.out
        have j0 := cell_in R0 (i := 0) rfl
        have j70 := cell_in R2 (i := 0) rfl
        have j72 := cell_in R2 (i := 2) rfl
        have j82 := cell_in R3 (i := 2) rfl
        have hz57 := HB7.out.size
        have hl9 : w5.heap.size < w7.heap.size := (Array.getElem?_eq_some_iff.1 HR7.out).1
        clear R0 R1 R2 R3
        go_upto_region 11 with (fail)
        obtain ⟨w8, hw8⟩ : ∃ v, v = w7.alloc (.cells #[.int .i64 (u : Int), .int .i64 (xb : Int), .int .i64 (yb : Int)] 76) := ⟨_, rfl⟩
        rw [← hw8]
        have hb78 : Below w7.heap.size w7 w8 := by rw [hw8]; exact (Below.refl _ w7).alloc (Nat.le_refl _) _
        have HB58 := Lib.hid (HB57.out.trans (hb78.mono HB57.out.size))
        have HR9 : Hid (w8.heap[w5.heap.size]? = some (.cells #[.int .i64 (u' : Int), .int .i64 (xa : Int), .int .i64 (ya : Int)] 76 (0, 0))) := (hb78.block _ hl9).trans HR7.out
        have HR10 : Hid (w8.heap[w7.heap.size]? = some (.cells #[.int .i64 (u : Int), .int .i64 (xb : Int), .int .i64 (yb : Int)] 76 (0, 0))) := by rw [hw8]; exact heap_alloc_new _ _
        have hz8 : w8.heap.size = w7.heap.size + 1 := by rw [hw8]; simp
        clear hw8 j0 j70 j72 j82
        have HB48 := Lib.hid (HB4.out.trans (HB58.out.mono HB4.out.size))
        have HPW := Lib.hid (HPS.out.below HB48.out)
        obtain ⟨R0, R1, R2, R3⟩ := HRO.out w8 HB58.out
        have HR1 := Lib.hid R1
        have HR2 := Lib.hid R2
        have m0 := cell_in HR9.out (i := 0) rfl
        have m1 := cell_in HR9.out (i := 1) rfl
        have m2 := cell_in HR9.out (i := 2) rfl
        have HSZ8 : Hid (w5.heap.size < w8.heap.size ∧ w7.heap.size < w8.heap.size ∧ w.heap.size ≤ w7.heap.size ∧ w.heap.size ≤ w5.heap.size ∧ w.heap.size + 1 < w8.heap.size ∧ r7 < w8.heap.size ∧ w.heap.size ≤ r7 ∧ w.heap.size ≤ w8.heap.size) := ⟨by omega, by omega, by omega, by omega, by omega, by omega, by omega, by omega⟩
        clear R0 R1 R2 R3 hz8 hb78
        go_wp2_with (first
          | (go_at_call 68; (with_reducible refine (HPL1.out _ HPW.out (Nat.le_trans HBW.out HB48.out.size)).mono ?_); rintro e w9 ⟨v4, rfl, q4⟩; have Q4 := Lib.hid q4; have h10 := (PlQ.far HPS.out q4 HB48.out.size HSZ8.out.2.2.1 HSZ8.out.2.1).trans HR10.out; have n0 := cell_in h10 (i := 0) rfl; have n1 := cell_in h10 (i := 1) rfl; have n2 := cell_in h10 (i := 2) rfl; clear q4 h10 m0 m1 m2)
          | (go_at_call 68; (with_reducible refine (HPL2.out _ _ Q4.out.s (Nat.le_trans HBW.out (Nat.le_trans HB48.out.size Q4.out.t.size))).mono ?_); rintro e w10 ⟨v5, rfl, q5⟩; have Q5 := Lib.hid (Q4.out.trans q5); have H7 := Lib.hid ((PlQ.far HPS.out Q5.out HB48.out.size HSZ8.out.2.2.2.2.2.2.1 HSZ8.out.2.2.2.2.2.1).trans HR2.out); have H1 := Lib.hid ((PlQ.far HPS.out Q5.out HB48.out.size (k := w.heap.size + 1) (Nat.le_succ _) HSZ8.out.2.2.2.2.1).trans HR1.out); have g0 := cell_in H7.out (i := 0) rfl; clear q5 n0 n1 n2)
          | (refine wpList_store_row (by rfl) 59 (.tmp 6) (.tmp 74) (by rfl) (w.heap.size + 1) _ (by rfl) (by rfl) 59 _ H1.out (HI3.out _ _ _) (by rfl) (by simp [Value.oneCell']) ?_))
        refine bodyPost_ret (results_cell_row (by rfl) _ _ (w.heap.size + 1) 59 _ (0, 0) _ (by rfl) (setRow_heap _ _ _ _ _ _ H1.out) Try.underlying59 (by rfl) (HI3.out _ _ _)) (by rfl) ⟨v5, congrArg (fun y => Ending.returned (ndV y)) HMK.out.symm, ?_⟩
        obtain ⟨W6, hW6, _, s6', r6⟩ := row_set #[Value.int .i64 (k : Int), Value.int .i64 (x1 : Int), Value.int .i64 (x2 : Int)] H1.out
        rw [← hW6, HAL.out]
        exact PlQ.turn HPS.out HB48.out Q5.out (Nat.le_succ _) HSZ8.out.2.2.2.2.1 s6' (r6 _ (Nat.le_refl _))
    · have HHP := Lib.hid (fun W => hasParts_is ⟨k, xa, xb⟩ false W (by rw [hasB'_nat k hkp]; exact decide_eq_false h4))
      have HAL : Hid (addAll L (scG N x) = L) := by rw [Hid, scG_leaf HS.out HX.out HY.out (fun h => h4 h.2)]; rfl
      have HMK : Hid (mkG N x ((scG N x).map (ixK (addAll L (scG N x)))) = ⟨k, xa, xb⟩) := mkG_leaf HS.out HX.out (by rw [hkl]; exact HY.out) h4 _
      clear HS HX HY h4 hkl
      go_wp2_with (first
        | (go_at_call 51; refine (HHP.out _).mono ?_; rintro e w5 ⟨rfl, hb5⟩; obtain ⟨R0, R1, R2, R3⟩ := HRO.out w5 hb5; have HB5 := Lib.hid hb5; have d70 := cell_in R2 (i := 0) rfl; have d71 := cell_in R2 (i := 1) rfl; have d72 := cell_in R2 (i := 2) rfl; have H1 := Lib.hid R1; clear hb5 R0 R1 R2 R3)
        | (refine wpList_store_row (by rfl) 59 (.tmp 6) (.tmp 40) (by rfl) (w.heap.size + 1) _ (by rfl) (by rfl) 59 _ H1.out (HI3.out _ _ _) (by rfl) (by simp [Value.oneCell']) ?_))
      refine bodyPost_ret (results_cell_row (by rfl) _ _ (w.heap.size + 1) 59 _ (0, 0) _ (by rfl) (setRow_heap _ _ _ _ _ _ H1.out) Try.underlying59 (by rfl) (HI3.out _ _ _)) (by rfl) ⟨v, congrArg (fun y => Ending.returned (ndV y)) HMK.out.symm, ?_⟩
      obtain ⟨W6, hW6, _, s6', r6⟩ := row_set #[Value.int .i64 (k : Int), Value.int .i64 (xa : Int), Value.int .i64 (xb : Int)] H1.out
      rw [← hW6, HAL.out]
      have HB48 := Lib.hid (HB4.out.trans (HB5.out.mono HB4.out.size))
      exact PlQ.turn HPS.out HB48.out (PlQ.refl (HPS.out.below HB48.out)) (Nat.le_succ _) (by have := HB5.out.size; omega) s6' (r6 _ (Nat.le_refl _))
  · have g2 : ((k : Int) != (l : Int)) = true := by simp; omega
    have HIF : Hid ((Try.prog.info? 59).map (·.size) = some (#[Value.int .i64 (farN u : Int), Value.int .i64 0, Value.int .i64 0] : Array Value).size) := Try.sizeTy
    have HFAR := Lib.hid (fun W => far_any u hu1 W)
    have HAL : Hid (addAll L (scG N x) = L) := by rw [Hid, scG_leaf HS.out HX.out HY.out (fun h => hkl h.1)]; rfl
    have HMK : Hid (mkG N x ((scG N x).map (ixK (addAll L (scG N x)))) = ⟨farN u, 0, 0⟩) := mkG_diff HS.out HX.out HY.out hkl _
    have d0 := cell_in (HRO.out V (Below.refl _ _)).1 (i := 0) rfl
    clear HS HX HY hkl
    go_wp2_with (first
      | (go_at_call 70; refine (HFAR.out _).mono ?_; rintro e w5 ⟨rfl, hb5⟩; obtain ⟨R0, R1, R2, R3⟩ := HRO.out w5 hb5; have HB5 := Lib.hid hb5; have H1 := Lib.hid R1; clear hb5 R0 R1 R2 R3)
      | (refine wpList_store_row (by rfl) 59 (.tmp 6) (.tmp 36) (by rfl) (w.heap.size + 1) _ (by rfl) (by rfl) 59 _ H1.out HIF.out (by rfl) (by simp [Value.oneCell']) ?_))
    refine bodyPost_ret (results_cell_row (by rfl) _ _ (w.heap.size + 1) 59 _ (0, 0) _ (by rfl) (setRow_heap _ _ _ _ _ _ H1.out) Try.underlying59 (by rfl) HIF.out) (by rfl) ⟨v, congrArg (fun y => Ending.returned (ndV y)) HMK.out.symm, ?_⟩
    obtain ⟨W6, hW6, _, s6', r6⟩ := row_set #[Value.int .i64 (farN u : Int), Value.int .i64 0, Value.int .i64 0] H1.out
    rw [← hW6, HAL.out]
    have HB48 := Lib.hid (HB4.out.trans (HB5.out.mono HB4.out.size))
    exact PlQ.turn HPS.out HB48.out (PlQ.refl (HPS.out.below HB48.out)) (Nat.le_succ _) (by have := HB5.out.size; omega) s6' (r6 _ (Nat.le_refl _))
end Go.Proofs.Ytmbdjjkgjnemiaa
