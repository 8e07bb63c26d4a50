import Derived.Test.YtfeohcknopdamaaT05
import Derived.Test.YtfeohcknopdamaaT02
import Derived.Deep.WholeRow
import Derived.Test.YtfeohcknopdamaaT08
/- Layer 10: continuations (the table of ways). -/
namespace Go.Proofs.Ytfeohcknopdamaa
open Go.RowKit
set_option linter.unusedVariables false

/-- Ways to go on: l things are left, g groups are there. -/
def wy : Nat → Nat → Nat
  | 0, _ => 1
  | l + 1, g => g * wy l g + wy l (g + 1)
def stepW (r : List Nat) : List Nat := (List.range (r.length - 1)).map fun g => g * r.getD g 0 + r.getD (g + 1) 0
def wyT : Nat → List Nat
  | 0 => List.replicate 22 1
  | l + 1 => stepW (wyT l)
theorem wyT_spec : ∀ l, l ≤ 21 → (wyT l).length = 22 - l ∧ ∀ g, g < 22 - l → (wyT l).getD g 0 = wy l g
  | 0, _ => ⟨by simp [wyT], fun g hg => by
    show (List.replicate 22 1).getD g 0 = 1
    rw [List.getD_eq_getElem?_getD, List.getElem?_replicate, if_pos (by omega)]; rfl⟩
  | l + 1, h => by
    obtain ⟨h1, h2⟩ := wyT_spec l (by omega)
    refine ⟨by rw [wyT, stepW, List.length_map, List.length_range, h1]; omega, fun g hg => ?_⟩
    rw [wyT, stepW, List.getD_eq_getElem?_getD, List.getElem?_map, List.getElem?_range (by rw [h1]; omega)]
    show g * (wyT l).getD g 0 + (wyT l).getD (g + 1) 0 = wy (l + 1) g
    rw [h2 g (by omega), h2 (g + 1) (by omega), wy]
theorem wy_21 : wy 21 0 = 474869816156751 := by
  rw [← (wyT_spec 21 (by omega)).2 0 (by omega)]
  decide +kernel
theorem wy_up : ∀ l g, wy l g ≤ wy l (g + 1)
  | 0, _ => Nat.le_refl _
  | l + 1, g => by
    rw [wy, wy]
    exact Nat.add_le_add (Nat.mul_le_mul (Nat.le_succ g) (wy_up l g)) (wy_up l (g + 1))
theorem wy_next (l g : Nat) : wy l (g + 1) ≤ wy (l + 1) g := by rw [wy]; omega
theorem wy_diag : ∀ g l, wy l g ≤ wy (l + g) 0
  | 0, l => Nat.le_refl _
  | g + 1, l => by
    have h1 := wy_next l g
    have h2 := wy_diag g (l + 1)
    rw [show l + (g + 1) = l + 1 + g by omega]
    omega
theorem wy_le {l g : Nat} (h : l + g ≤ 21) : wy l g ≤ 474869816156751 := by
  have h1 := wy_diag g l
  have h2 : ∀ d n, wy n 0 ≤ wy (n + d) 0 := fun d => by
    induction d with
    | zero => exact fun n => Nat.le_refl _
    | succ d ih => exact fun n => Nat.le_trans (ih n) (Nat.le_trans (wy_up (n + d) 0) (wy_next (n + d) 0))
  have h3 := h2 (21 - (l + g)) (l + g)
  rw [show l + g + (21 - (l + g)) = 21 by omega, wy_21] at h3
  omega
theorem wy_pos : ∀ l g, 1 ≤ wy l g
  | 0, _ => Nat.le_refl _
  | l + 1, g => Nat.le_trans (wy_pos l (g + 1)) (wy_next l g)
/-- The first row, up to j. -/
def initF (j i : Nat) : Int := if i < j ∧ i < 21 then 1 else 0
theorem init_0 (i : Nat) : (0 : Int) = initF 0 i := by unfold initF; rw [if_neg (by omega)]
theorem init_step {j : Nat} (hj : j < 21) (i : Nat) : upd (initF j) j 1 i = initF (j + 1) i := by
  unfold upd initF
  by_cases h : i = j
  · subst h; rw [if_pos rfl, if_pos ⟨by omega, hj⟩]
  · rw [if_neg h]
    by_cases h2 : i < j ∧ i < 21
    · rw [if_pos h2, if_pos ⟨by omega, h2.2⟩]
    · rw [if_neg h2, if_neg (by omega)]
/-- The table: rows up to l, and of row l + 1 the first j. -/
def wayF (l j i : Nat) : Int := if (i / 21 ≤ l ∧ i / 21 + i % 21 ≤ 20) ∨ (i / 21 = l + 1 ∧ i % 21 < j) then ((wy (i / 21) (i % 21) : Nat) : Int) else 0
theorem way_start (i : Nat) : initF 21 i = wayF 0 0 i := by
  unfold initF wayF
  by_cases h : i < 21
  · rw [if_pos ⟨h, h⟩, if_pos (.inl ⟨by omega, by omega⟩), show i / 21 = 0 by omega]; rfl
  · rw [if_neg (by omega), if_neg (by omega)]
theorem way_at {l j x g : Nat} (hx : x ≤ l) (hg : x + g ≤ 20) : wayF l j (x * 21 + g) = ((wy x g : Nat) : Int) := by
  unfold wayF
  rw [show (x * 21 + g) / 21 = x by omega, show (x * 21 + g) % 21 = g by omega, if_pos (.inl ⟨hx, hg⟩)]
theorem way_step {l j : Nat} (h : l + 1 + j ≤ 20) (i : Nat) : upd (wayF l j) ((l + 1) * 21 + j) ((j : Int) * (wy l j : Int) + (wy l (j + 1) : Int)) i = wayF l (j + 1) i := by
  unfold upd
  by_cases e : i = (l + 1) * 21 + j
  · subst e
    rw [if_pos rfl, wayF, show ((l + 1) * 21 + j) / 21 = l + 1 by omega, show ((l + 1) * 21 + j) % 21 = j by omega, if_pos (.inr ⟨rfl, by omega⟩), wy]
    push_cast; rfl
  · rw [if_neg e]
    unfold wayF
    by_cases h1 : i / 21 ≤ l ∧ i / 21 + i % 21 ≤ 20
    · rw [if_pos (.inl h1), if_pos (.inl h1)]
    · by_cases h2 : i / 21 = l + 1 ∧ i % 21 < j
      · rw [if_pos (.inr h2), if_pos (.inr ⟨h2.1, by omega⟩)]
      · rw [if_neg (by omega), if_neg (by omega)]
theorem way_row {l : Nat} (h : l < 20) (i : Nat) : wayF l (20 - l) i = wayF (l + 1) 0 i := by
  unfold wayF
  by_cases h1 : i / 21 ≤ l ∧ i / 21 + i % 21 ≤ 20
  · rw [if_pos (.inl h1), if_pos (.inl ⟨by omega, h1.2⟩)]
  · by_cases h2 : i / 21 = l + 1 ∧ i % 21 < 20 - l
    · rw [if_pos (.inr h2), if_pos (.inl ⟨by omega, by omega⟩)]
    · rw [if_neg (by omega), if_neg (by omega)]
theorem mul_wrap {j x : Nat} (h : j * x ≤ 20 * 474869816156751) : wrap64 ((j : Int) * (x : Int)) = (j : Int) * (x : Int) := by
  rw [← Int.natCast_mul]
  exact IntWalk.wrap64_in _ ⟨by omega, by omega⟩
theorem mul_add_wrap {j x y : Nat} (h : j * x ≤ 20 * 474869816156751) (hy : y ≤ 474869816156751) : wrap64 ((j : Int) * (x : Int) + (y : Int)) = (j : Int) * (x : Int) + (y : Int) := by
  rw [← Int.natCast_mul]
  exact IntWalk.wrap64_in _ ⟨by omega, by omega⟩
theorem Try.sizeWays : (Try.prog.info? 68).map (·.size) = some 441 := by kernel_rfl
set_option maxRecDepth 100000 in
set_option maxHeartbeats 3200000 in
theorem continuations_any (w : World) : Calls Try.prog 70 #[] w fun e w' => e = .returned (.agg (rowV 441 (wayF 20 0))) ∧ Below w.heap.size w w' := by
  have HZ := Lib.hid Try.zeroWays
  go_enter Try.func70, Try.ntmps70
  go_wp2_with (refine wpList_alloc_row rfl 68 rfl _ HZ.out ?_)
  have hR2 : Rw ((w.alloc (.cells (rowV 441 fun _ => 0) 68)).alloc (.cells (rowV 441 fun _ => 0) 68)) w.heap.size 68 441 (fun _ => 0) := (Rw.new w _ _ _).alloc _
  have hR1 : Rw ((w.alloc (.cells (rowV 441 fun _ => 0) 68)).alloc (.cells (rowV 441 fun _ => 0) 68)) (w.heap.size + 1) 68 441 (initF 0) := by
    have := Rw.new (w.alloc (.cells (rowV 441 fun _ => 0) 68)) 68 441 (fun _ => 0)
    rw [World.size_alloc] at this
    exact this.congr (fun i _ => init_0 i)
  have hB1 : Below w.heap.size w ((w.alloc (.cells (rowV 441 fun _ => 0) 68)).alloc (.cells (rowV 441 fun _ => 0) 68)) := ((Below.refl _ w).alloc (Nat.le_refl _) _).alloc (by simp) _
  have HR1 := Lib.hid hR1
  have HR2 := Lib.hid hR2
  have HB1 := Lib.hid hB1
  clear hR1 hR2 hB1
  generalize (w.alloc (.cells (rowV 441 fun _ => 0) 68)).alloc (.cells (rowV 441 fun _ => 0) 68) = w1 at HR1 HR2 HB1 ⊢
  go_loopw [5] (fun i w' => ∃ j : Nat, j ≤ 21 ∧ i = .int .i64 (j : Int) ∧ Hid (Rw w' (w.heap.size + 1) 68 441 (initF j)) ∧ Hid (Rw w' w.heap.size 68 441 (fun _ => 0)) ∧ Hid (Below w.heap.size w w')) (fun i _ => 21 - (intOf i).toNat)
  case atStart => exact ⟨0, by omega, by go_num, HR1, HR2, HB1⟩
  case round =>
    obtain ⟨j, hj, rfl, HR, HS, HB⟩ := hrel
    clear HR1 HR2 HB1
    obtain ⟨wo, rfl⟩ : ∃ wo : World, wo = wr := ⟨_, rfl⟩
    by_cases hlt : j < 21
    · have i1 : (j : Int) < 21 := by omega
      have hc := HR.out.cell (i := j) (by omega)
      have hf := HR.out.free j
      go_wp2
      exact ⟨⟨j + 1, by omega, by go_num, (HR.out.set (i := j) 1).congr (fun i _ => init_step hlt i), HS.out.setOther (by show w.heap.size + 1 ≠ w.heap.size; omega) _, HB.out.setCell (p := ⟨w.heap.size + 1, j, none⟩) (by show w.heap.size ≤ w.heap.size + 1; omega) _⟩, by simp [intOf]; omega⟩
    · have hj21 : j = 21 := by omega
      subst hj21
      have HR0 : Hid (Rw wo (w.heap.size + 1) 68 441 (wayF 0 0)) := HR.out.congr (fun i _ => way_start i)
      clear HR
      go_wp2
      go_loopw [12] (fun i w' => ∃ l : Nat, l ≤ 20 ∧ i = .int .i64 (l : Int) ∧ Hid (Rw w' (w.heap.size + 1) 68 441 (wayF l 0)) ∧ Hid (Rw w' w.heap.size 68 441 (fun _ => 0)) ∧ Hid (Below w.heap.size w w')) (fun i _ => 20 - (intOf i).toNat)
      case atStart => exact ⟨0, by omega, by go_num, HR0.out, HS.out, HB.out⟩
      case round =>
        obtain ⟨l, hl, rfl, HR, HS, HB⟩ := hrel
        clear HR0
        obtain ⟨wo, rfl⟩ : ∃ wo : World, wo = wr := ⟨_, rfl⟩
        by_cases hlt : l < 20
        · have i1 : (l : Int) < 20 := by omega
          obtain ⟨q, hq⟩ : ∃ q, q = 20 - l := ⟨_, rfl⟩
          have V0 : Hid (IntKind.i64.wrap (20 - (l : Int)) = (q : Int)) := by rw [Hid, show 20 - (l : Int) = (q : Int) by omega]; exact IntWalk.i64_in _ (by omega)
          have HQ := Lib.hid hq
          have v0 := V0.out
          clear hq
          go_wp2
          clear v0
          go_loopw [17] (fun i w' => ∃ j : Nat, j ≤ q ∧ i = .int .i64 (j : Int) ∧ Hid (Rw w' (w.heap.size + 1) 68 441 (wayF l j)) ∧ Hid (Rw w' w.heap.size 68 441 (fun _ => 0)) ∧ Hid (Below w.heap.size w w')) (fun i _ => q - (intOf i).toNat)
          case atStart => exact ⟨0, by omega, by go_num, HR.out, HS.out, HB.out⟩
          case round =>
            clear HR HS HB
            obtain ⟨j, hj, rfl, HR, HS, HB⟩ := hrel
            obtain ⟨wi, rfl⟩ : ∃ wi : World, wi = wr := ⟨_, rfl⟩
            by_cases hlj : j < q
            · have i2 : (j : Int) < (q : Int) := by omega
              have hq := HQ.out
              have hc1 := HR.out.cell (i := l * 21 + j) (by omega)
              have hc2 := HR.out.cell (i := l * 21 + (j + 1)) (by omega)
              rw [way_at (Nat.le_refl _) (by omega)] at hc1 hc2
              have hc3 := HR.out.cell (i := (l + 1) * 21 + j) (by omega)
              have hf3 := HR.out.free ((l + 1) * 21 + j)
              have HN : Hid (∀ i, i < 441 → upd (wayF l j) ((l + 1) * 21 + j) ((j : Int) * (wy l j : Int) + (wy l (j + 1) : Int)) i = wayF l (j + 1) i) := fun i _ => way_step (by omega) i
              have hx := wy_le (l := l) (g := j) (by omega)
              have hy := wy_le (l := l) (g := j + 1) (by omega)
              have f1 : (j : Int) + 1 < 21 := by omega
              have f2 : (l : Int) + 1 < 21 := by omega
              have f3 : (l : Int) < 21 := by omega
              have f4 : (j : Int) < 21 := by omega
              have f5 : j ≤ 20 := by omega
              have HF5 := Lib.hid f5
              generalize wy l j = x at *
              generalize wy l (j + 1) = y at *
              have hp : j * x ≤ 20 * 474869816156751 := Nat.mul_le_mul f5 hx
              have V1 := Lib.hid (mul_wrap hp)
              have V2 := Lib.hid (mul_add_wrap hp hy)
              have v1 := V1.out
              have v2 := V2.out
              clear hq hp
              go_wp2
              go_region
              have HR3 : Hid (Rw (wi.setCell ⟨w.heap.size + 1, (l + 1) * 21 + j, none⟩ (.int .i64 ((j : Int) * (x : Int) + (y : Int)))).drew (w.heap.size + 1) 68 441 (wayF l (j + 1))) := (HR.out.set (i := (l + 1) * 21 + j) _).congr HN.out
              have HS3 : Hid (Rw (wi.setCell ⟨w.heap.size + 1, (l + 1) * 21 + j, none⟩ (.int .i64 ((j : Int) * (x : Int) + (y : Int)))).drew w.heap.size 68 441 (fun _ => 0)) := HS.out.setOther (by show w.heap.size + 1 ≠ w.heap.size; omega) _
              have HB3 : Hid (Below w.heap.size w (wi.setCell ⟨w.heap.size + 1, (l + 1) * 21 + j, none⟩ (.int .i64 ((j : Int) * (x : Int) + (y : Int)))).drew) := (HB.out.setCell (p := ⟨w.heap.size + 1, (l + 1) * 21 + j, none⟩) (by show w.heap.size ≤ w.heap.size + 1; omega) _).drew
              clear hc1 hc2 hc3 hf3 HR HS HB HN v1 v2 V1 V2 f1 f2 f3 f4 f5 hx hy
              generalize (wi.setCell ⟨w.heap.size + 1, (l + 1) * 21 + j, none⟩ (.int .i64 ((j : Int) * (x : Int) + (y : Int)))).drew = w3 at HR3 HS3 HB3 ⊢
              have f5 := HF5.out
              go_wp2
              exact ⟨⟨j + 1, by omega, by go_num, HR3.out, HS3.out, HB3.out⟩, by simp [intOf]; omega⟩
            · have hjq : j = q := by omega
              subst hjq
              have HR3 : Hid (Rw wi (w.heap.size + 1) 68 441 (wayF (l + 1) 0)) := by
                have := HR.out
                rw [HQ.out] at this
                exact this.congr (fun i _ => way_row hlt i)
              have i2 : ¬ (j : Int) < (j : Int) := by omega
              go_wp2
              exact ⟨⟨l + 1, by omega, by go_num, HR3.out, HS.out, HB.out⟩, by simp [intOf]; omega⟩
        · have hl20 : l = 20 := by omega
          subst hl20
          have HINF : Hid ((Try.prog.info? 68).map (·.size) = some (rowV 441 (wayF 20 0)).size) := by rw [Hid, rowV_size]; exact Try.sizeWays
          have HZ2 : Hid ((rowV 441 fun _ => 0).size = (rowV 441 (wayF 20 0)).size) := by rw [Hid, rowV_size, rowV_size]
          have HONE := Lib.hid (rowV_one 441 (wayF 20 0))
          go_wp2_with (first | (refine wpList_load_row (by rfl) 68 (.tmp 1) (by rfl) (w.heap.size + 1) (by rfl) 68 _ (0, 0) _ HR.out Try.underlying68 (by rfl) HINF.out ?_) | (refine wpList_store_row (by rfl) 68 (.tmp 0) (.tmp 41) (by rfl) w.heap.size _ (by rfl) (by rfl) 68 _ HS.out HINF.out HZ2.out HONE.out ?_))
          refine bodyPost_ret (results_cell_row (by rfl) _ _ w.heap.size 68 _ (0, 0) _ (by rfl) (setRow_heap _ _ _ _ _ _ HS.out) Try.underlying68 (by rfl) HINF.out) (by rfl) ⟨by rfl, ?_⟩
          exact ⟨HB.out.os, HB.out.tape, HB.out.output, by simpa [World.setRow] using HB.out.size, fun k hk => (setRow_other _ _ _ _ (by omega)).trans (HB.out.block k hk)⟩
end Go.Proofs.Ytfeohcknopdamaa
/- Layer 10: Groupings. -/
namespace Go.Proofs.Ytfeohcknopdamaa
open Go.RowKit
set_option linter.unusedVariables false

theorem rowV_extract (f : Nat → Int) (n : Nat) (hn : n < 21) : (rowV 441 f).extract (n * 21) (n * 21 + 21) = rowV 21 (fun g => f (n * 21 + g)) := by
  apply Array.ext
  · rw [Array.size_extract, rowV_size, rowV_size]; omega
  intro j h1 h2
  rw [rowV_size] at h2
  have e1 := rowV_at 21 (fun g => f (n * 21 + g)) j h2
  have e2 := rowV_at 441 f (n * 21 + j) (by omega)
  rw [Array.getElem?_eq_getElem (by rw [rowV_size]; exact h2)] at e1
  rw [Array.getElem?_eq_getElem (by rw [rowV_size]; omega)] at e2
  rw [Array.getElem_extract, Option.some.inj e1]
  exact Option.some.inj e2
theorem Try.infoRow21 : (Try.prog.info? 66).map (·.size) = some 21 := by kernel_rfl
theorem run_index_ways (f : Nat → Int) (W : World) (n : Nat) (hn : n < 21) :
    (Instr.index 68 (.agg (rowV 441 f)) (.int .i64 (n : Int))).run Try.prog W = .ok (.agg (rowV 21 (fun g => f (n * 21 + g)))) W := by
  have hu := Try.underlying68
  have hs : (sizeOf 66).run Try.prog W = .ok 21 W := by
    have h := Try.infoRow21
    cases hi : Try.prog.info? 66 with
    | none => rw [hi] at h; cases h
    | some i =>
      rw [hi] at h
      have h2 : i.size = 21 := by simpa using h
      simp [sizeOf, typeInfo, hi, h2]
  have ha : (isAgg 66).run Try.prog W = .ok true W := by
    unfold isAgg
    rw [Sem.run_bind, run_underlying Try.underlying66 W]
    rfl
  have hx := rowV_extract f n hn
  have hn' : (n : Int) < 21 := by omega
  simp [Instr.index, asIntOf, Sem.run_bind, run_underlying hu W, hn, part, hs, hx]
theorem run_index_row (f : Nat → Int) (W : World) : (Instr.index 66 (.agg (rowV 21 f)) (.int .i64 0)).run Try.prog W = .ok (.int .i64 (f 0)) W := by
  have hu := Try.underlying66
  obtain ⟨i0, hi, hz0, hz1, hz2⟩ := info_parts Try.infoInt
  have hs : (sizeOf 3).run Try.prog W = .ok 1 W := by
    simp [sizeOf, typeInfo, hi, hz1]
  have ha : (isAgg 3).run Try.prog W = .ok false W := by
    unfold isAgg
    rw [Sem.run_bind, run_underlying Try.underlying3 W]
    rfl
  have h := rowV_at 21 f 0 (by omega)
  simp [Instr.index, asIntOf, Sem.run_bind, run_underlying hu W, part, hs, h]
/-- From 0 to 20. -/
def in20 (n : Int) : Bool := decide (0 ≤ n) && decide (n ≤ 20)
theorem in20_nat {n : Int} (h : in20 n = true) : ∃ k : Nat, n = (k : Int) ∧ k ≤ 20 := by
  rw [in20, Bool.and_eq_true, decide_eq_true_iff, decide_eq_true_iff] at h
  exact ⟨n.toNat, by omega, by omega⟩
theorem groupingsP_any (n : Int) (w : World) : Calls Try.prog 40 #[.int .i64 n] w fun e w' =>
    e = (if in20 n then .returned (.tuple #[.int .i64 ((wy n.toNat 0 : Nat) : Int), .int .i64 0]) else badI) ∧ Below w.heap.size w w' := by
  have HB := Lib.hid (fun w => isBetween_any n 0 20 w)
  rcases h0 : in20 n with _ | _
  · simp only [Bool.false_eq_true, if_false]
    rw [show (decide (0 ≤ n) && decide (n ≤ 20)) = false from h0] at HB
    clear h0
    go_enter Try.func40, Try.ntmps40
    go_wp2_with (go_at_call 55; (with_reducible refine (HB.out _).mono ?_); rintro e w1 ⟨rfl, rfl⟩)
    go_ret2
    exact ⟨rfl, Below.refl _ _⟩
  · simp only [if_true]
    rw [show (decide (0 ≤ n) && decide (n ≤ 20)) = true from h0] at HB
    obtain ⟨N, rfl, hN⟩ := in20_nat h0
    rw [Int.toNat_natCast]
    have HC := Lib.hid (fun w => continuations_any w)
    have hix := fun W => run_index_ways (wayF 20 0) W N (by omega)
    have hiy := fun W => run_index_row (fun g => wayF 20 0 (N * 21 + g)) W
    have hv : wayF 20 0 (N * 21) = ((wy N 0 : Nat) : Int) := by
      have := way_at (l := 20) (j := 0) (x := N) (g := 0) (by omega) (by omega)
      rwa [Nat.add_zero] at this
    simp only [Nat.add_zero, hv] at hiy
    clear h0 hv
    generalize (fun g => wayF 20 0 (N * 21 + g)) = F at hix hiy
    generalize wy N 0 = v at *
    go_enter Try.func40, Try.ntmps40
    go_wp2_with (first | (go_at_call 55; (with_reducible refine (HB.out _).mono ?_); rintro e w1 ⟨rfl, rfl⟩) | (go_at_call 70; (with_reducible refine (HC.out _).mono ?_); rintro e w1 ⟨rfl, hbw⟩; have HBW := Lib.hid hbw; clear hbw))
    go_ret2
    exact ⟨rfl, HBW.out⟩
end Go.Proofs.Ytfeohcknopdamaa
