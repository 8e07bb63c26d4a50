import Derived.Test.YtcnjkdkkflpgnaaT04
import Derived.Laws.CopyOwn
import Derived.Lib.SliceRun
/- Layer 8: moved. -/
namespace Go.Proofs.Ytcnjkdkkflpgnaa
open Go.RowKit
set_option linter.unusedVariables false

/-- Where a part of an order begins. -/
def ordA (g a : Nat) : Addr := if 6 = a then ⟨g, 0, none⟩ else ⟨g, a, none⟩
theorem Try.ordUnd : Try.prog.underlying 80 = some (.array (Try.prog.arrayLen 80) (Try.prog.elem 80)) := by kernel_rfl
theorem Try.ordLen : Try.prog.arrayLen 80 = 6 := by kernel_rfl
theorem Try.ordElem : Try.prog.elem 80 = Try.prog.elem 22 := by kernel_rfl
theorem slice_ord (g : Nat) {a b : Nat} (l h : Int) (el : l = (a : Int)) (eh : h = (b : Int)) (hab : a ≤ b) (hb : b ≤ 6) (W : World) :
    (Instr.sliceAt 80 (.pointer (some ⟨g, 0, none⟩)) (some (.int .i64 l)) (some (.int .i64 h)) none).run Try.prog W = .ok (.slice (some (ordA g a)) (b - a) (6 - a)) W := by
  subst el eh
  rw [run_sliceAt_array_lh W 80 ⟨g, 0, none⟩ Try.ordUnd .i64 .i64 (a : Int) (b : Int) (by omega) (by omega) (by rw [Try.ordLen]; omega), Try.ordElem, Try.sizeInts W, Try.ordLen]
  by_cases e : 6 = a
  · simp [Result.andThen, slicedAt, ordA, e]
  · rw [show ordA g a = ⟨g, a, none⟩ from if_neg e]
    show Result.ok (slicedAt ⟨g, 0, none⟩ (a : Int).toNat (b : Int).toNat 6 1) W = _
    simp only [slicedAt, Int.toNat_natCast, if_neg e, Addr.add, Nat.mul_one, Nat.zero_add]
    by_cases e0 : a = 0
    · subst e0; rfl
    · rw [if_neg e0]
/-- The cells of an order. -/
def oL (xs : List Int) : List Value := [.int .i64 (atI xs 0), .int .i64 (atI xs 1), .int .i64 (atI xs 2), .int .i64 (atI xs 3), .int .i64 (atI xs 4), .int .i64 (atI xs 5)]
def oCs (xs : List Int) (p q : Nat) : List Value := ((oL xs).drop q).take (p - q)
theorem oCs_len (xs : List Int) {p q : Nat} (hp : p < 6) (hq : q ≤ p) : (oCs xs p q).length = p - q := by
  unfold oCs
  rw [List.length_take, List.length_drop, show (oL xs).length = 6 from rfl]; omega
theorem oCs_one (xs : List Int) (p q : Nat) : ∀ v ∈ oCs xs p q, v.oneCell' = true := fun v hv => by
  have : v ∈ oL xs := List.mem_of_mem_drop (List.mem_of_mem_take hv)
  simp only [oL, List.mem_cons, List.not_mem_nil, or_false] at this
  rcases this with rfl | rfl | rfl | rfl | rfl | rfl <;> rfl
theorem oCs_at {xs : List Int} {p q j : Nat} {v : Value} (h : (oCs xs p q)[j]? = some v) : (oC xs)[q + j]? = some v := by
  unfold oCs at h
  rw [List.getElem?_take] at h
  split at h
  · rw [List.getElem?_drop] at h
    rw [show oC xs = (oL xs).toArray from rfl, List.getElem?_toArray]
    exact h
  · cases h
theorem splice_size (xs : List Int) {p q : Nat} (hp : p < 6) (hq : q ≤ p) : (splice (oL xs) (q + 1) (oCs xs p q)).toArray.size = 6 := by
  show (splice (oL xs) (q + 1) (oCs xs p q)).length = 6
  rw [length_splice _ _ _ (by rw [oCs_len xs hp hq]; show _ ≤ 6; omega)]; rfl
/-- What the copy and the store leave of the order. -/
theorem moved_row {xs : List Int} {p q : Nat} (hl : xs.length = 6) (hp : p < 6) (hq : q ≤ p) : (splice (oL xs) (q + 1) (oCs xs p q)).toArray.setIfInBounds q (.int .i64 (atI xs p)) = oC (movedL xs p q) := by
  obtain ⟨a0, a1, a2, a3, a4, a5, rfl⟩ : ∃ a0 a1 a2 a3 a4 a5, xs = [a0, a1, a2, a3, a4, a5] := by
    match xs, hl with
    | [a0, a1, a2, a3, a4, a5], _ => exact ⟨a0, a1, a2, a3, a4, a5, rfl⟩
  rcases (show p = 0 ∨ p = 1 ∨ p = 2 ∨ p = 3 ∨ p = 4 ∨ p = 5 by omega) with rfl | rfl | rfl | rfl | rfl | rfl <;>
  rcases (show q = 0 ∨ q = 1 ∨ q = 2 ∨ q = 3 ∨ q = 4 ∨ q = 5 by omega) with rfl | rfl | rfl | rfl | rfl | rfl <;>
  first
    | omega
    | rfl
theorem add_at (g q j : Nat) : (⟨g, q, none⟩ : Addr).add j = ⟨g, q + j, none⟩ := by
  unfold Addr.add
  split
  · next h => subst h; rfl
  · rfl
theorem copy_ord (g : Nat) {xs : List Int} {p q : Nat} (hp : p < 6) (hq : q ≤ p) (V : World) (h : V.heap[g]? = some (.cells (oC xs) 80 (0, 0))) :
    ∃ (V1 : World) (k : Nat), (∀ ty, (Builtin.copy_ #[22, 22] ty #[.slice (some (ordA g (q + 1))) (p - q) (5 - q), .slice (some (ordA g q)) (p - q) (6 - q)]).run Try.prog V = .ok (goInt k) V1) ∧
      V1.heap[g]? = some (.cells (splice (oL xs) (q + 1) (oCs xs p q)).toArray 80 (0, 0)) ∧ (∀ j, j ≠ g → V1.heap[j]? = V.heap[j]?) ∧ ∀ B, B ≤ g → Below B V V1 := by
  have hlen := oCs_len xs hp hq
  have hinf : (Try.prog.info? 3).map (·.size) = some 1 := by kernel_rfl
  by_cases e : q = p
  · subst e
    refine ⟨V, 0, fun ty => run_copy_none V _ _ ty 3 _ _ _ _ _ _ Try.underlying22 hinf (by rw [Nat.sub_self]; rfl), ?_, fun _ _ => rfl, fun B hB => Below.refl _ _⟩
    have h0 : oCs xs q q = [] := List.eq_nil_of_length_eq_zero (by rw [hlen, Nat.sub_self])
    rw [h0, h]
    unfold splice
    rw [List.nil_append, List.length_nil, Nat.add_zero, List.take_append_drop]; rfl
  · have e1 : ordA g (q + 1) = ⟨g, q + 1, none⟩ := if_neg (by omega)
    have e2 : ordA g q = ⟨g, q, none⟩ := if_neg (by omega)
    refine ⟨V.setRow g (splice (oL xs) (q + 1) (oCs xs p q)).toArray, (oCs xs p q).length, fun ty => ?_, setRow_heap _ _ _ _ _ _ h, fun j hj => setRow_other _ _ _ _ hj, fun B hB => below_setRow (Below.refl _ _) hB _⟩
    rw [e1, e2]
    have := run_copy_row (P := Try.prog) V 22 22 ty 3 g (q + 1) (p - q) (5 - q) ⟨g, q, none⟩ (p - q) (6 - q) (oC xs) 80 (oCs xs p q) Try.underlying22 hinf h
      (by rw [hlen]; exact (Nat.min_self _).symm) (fun j v hv => by rw [add_at]; exact cell_in h (oCs_at hv)) (by rw [hlen]; show _ ≤ 6; omega) (oCs_one xs p q)
    rw [this]
    unfold splice
    rw [List.append_assoc]; rfl
set_option maxRecDepth 100000 in
set_option maxHeartbeats 6400000 in
theorem movedP_any (xs : List Int) (p q : Nat) (w : World) (hl : xs.length = 6) (hp : p < 6) (hq : q ≤ p) :
    Calls Try.prog 59 #[oV xs, .int .i64 (p : Int), .int .i64 (q : Int)] w fun e w' => e = .returned (oV (movedL xs p q)) ∧ Below w.heap.size w w' := by
  obtain ⟨W, hW⟩ : ∃ W, W = (w.alloc (.cells (oC xs) 80)).alloc (.cells #[.int .i64 0, .int .i64 0, .int .i64 0, .int .i64 0, .int .i64 0, .int .i64 0] 80) := ⟨_, rfl⟩
  have hb : Below w.heap.size w W := by rw [hW]; exact ((Below.refl _ w).alloc (Nat.le_refl _) _).alloc (by simp) _
  have hr0 : W.heap[w.heap.size]? = some (.cells (oC xs) 80 (0, 0)) := by
    rw [hW]
    show ((w.heap.push _).push _)[w.heap.size]? = _
    rw [Array.getElem?_push, if_neg (by simp), Array.getElem?_push, if_pos rfl]
  have hr1 : W.heap[w.heap.size + 1]? = some (.cells #[.int .i64 0, .int .i64 0, .int .i64 0, .int .i64 0, .int .i64 0, .int .i64 0] 80 (0, 0)) := by
    rw [hW]
    show ((w.heap.push _).push _)[w.heap.size + 1]? = _
    rw [Array.getElem?_push, if_pos (by simp)]
  have hz : W.heap.size = w.heap.size + 2 := by rw [hW]; simp
  have c0 : W.cell? ⟨w.heap.size, p, none⟩ = some (.int .i64 (atI xs p)) := cell_in hr0 (oC_at xs hp)
  have HB := Lib.hid hb
  have HR0 := Lib.hid hr0
  have HR1 := Lib.hid hr1
  have HW := Lib.hid hW
  have HPQ : Hid (p < 6 ∧ q ≤ p ∧ xs.length = 6) := ⟨hp, hq, hl⟩
  have i1 : (p : Int) < 6 := by omega
  have HMR : Hid ((splice (oL xs) (q + 1) (oCs xs p q)).toArray.setIfInBounds q (.int .i64 (atI xs p)) = oC (movedL xs p q)) := moved_row hl hp hq
  clear hW hb hr0 hr1 hl
  generalize atI xs p = z at *
  go_enter Try.func59, Try.ntmps59
  go_upto_region 1 with (fail)
  rw [← HW.out]
  go_upto_region 2 with (fail)
  have v1 : IntKind.i64.wrap ((q : Int) + 1) = (q : Int) + 1 := IntWalk.i64_in _ (by omega)
  have v2 : IntKind.i64.wrap ((p : Int) + 1) = (p : Int) + 1 := IntWalk.i64_in _ (by omega)
  have hs1 := fun V => slice_ord w.heap.size ((q : Int) + 1) ((p : Int) + 1) (a := q + 1) (b := p + 1) rfl rfl (by omega) (by omega) V
  have hs2 := fun V => slice_ord w.heap.size (q : Int) (p : Int) (a := q) (b := p) rfl rfl hq (by omega) V
  have HD : Hid (Below W.heap.size W W.drew) := (Below.refl _ W).drew
  refine wp_region_held_drew (S := fun _ => True) (by kernel_rfl) trivial (fun hHeld => ?_)
  refine wpAnyH_takeX (i := 0) (v := ?_) (by simp only [↓List.getElem?_toArray, ↓List.getElem?_cons_zero]; rfl) (by kernel_rfl) (by kernel_rfl) (by kernel_rfl) (by assumption) ?_ ?_ ?_
  rotate_left
  · exact fun _ _ _ h => h
  · exact Or.inl ⟨by rfl, by (intro V hV; (try dsimp only at hV); go_simp; try with_reducible rfl)⟩
  simp only [Act.put, List.setIfInBounds_toArray, List.set_cons_zero, List.set_cons_succ]
  refine wpAnyH_takeX (i := 1) (v := ?_) (by simp only [↓List.getElem?_toArray, ↓List.getElem?_cons_succ, ↓List.getElem?_cons_zero]; rfl) (by kernel_rfl) (by kernel_rfl) (by kernel_rfl) (by assumption) ?_ ?_ ?_
  rotate_left
  · exact fun _ _ _ h => h
  · exact Or.inl ⟨by rfl, by (intro V hV; (try dsimp only at hV); go_simp; try with_reducible rfl)⟩
  simp only [Act.put, List.setIfInBounds_toArray, List.set_cons_zero, List.set_cons_succ]
  refine wpAnyH_takeX (i := 2) (v := ?_) (by simp only [↓List.getElem?_toArray, ↓List.getElem?_cons_succ, ↓List.getElem?_cons_zero]; rfl) (by kernel_rfl) (by kernel_rfl) (by kernel_rfl) (by assumption) ?_ ?_ ?_
  rotate_left
  · exact fun _ _ _ h => h
  · exact Or.inl ⟨by rfl, by (intro V hV; (try dsimp only at hV); go_simp; try with_reducible rfl)⟩
  simp only [Act.put, List.setIfInBounds_toArray, List.set_cons_zero, List.set_cons_succ]
  refine wpAnyH_takeX (i := 3) (v := ?_) (by simp only [↓List.getElem?_toArray, ↓List.getElem?_cons_succ, ↓List.getElem?_cons_zero]; rfl) (by kernel_rfl) (by kernel_rfl) (by kernel_rfl) (by assumption) ?_ ?_ ?_
  rotate_left
  · exact fun _ _ _ h => h
  · exact Or.inl ⟨by rfl, by (intro V hV; (try dsimp only at hV); go_simp; try with_reducible rfl)⟩
  simp only [Act.put, List.setIfInBounds_toArray, List.set_cons_zero, List.set_cons_succ]
  refine wpAnyH_takeX (i := 4) (v := ?_) (by simp only [↓List.getElem?_toArray, ↓List.getElem?_cons_succ, ↓List.getElem?_cons_zero]; rfl) (by kernel_rfl) (by kernel_rfl) (by kernel_rfl) (by assumption) ?_ ?_ ?_
  rotate_left
  · exact fun _ _ _ h => h
  · exact Or.inl ⟨by rfl, by (intro V hV; (try dsimp only at hV); go_simp; try with_reducible rfl)⟩
  simp only [Act.put, List.setIfInBounds_toArray, List.set_cons_zero, List.set_cons_succ]
  refine wpAnyH_takeX (i := 5) (v := ?_) (by simp only [↓List.getElem?_toArray, ↓List.getElem?_cons_succ, ↓List.getElem?_cons_zero]; rfl) (by kernel_rfl) (by kernel_rfl) (by kernel_rfl) (by assumption) ?_ ?_ ?_
  rotate_left
  · exact fun _ _ _ h => h
  · exact Or.inl ⟨by rfl, by (intro V hV; (try dsimp only at hV); go_simp; try with_reducible rfl)⟩
  simp only [Act.put, List.setIfInBounds_toArray, List.set_cons_zero, List.set_cons_succ]
  refine wpAnyH_takeX (i := 6) (v := ?_) (by simp only [↓List.getElem?_toArray, ↓List.getElem?_cons_succ, ↓List.getElem?_cons_zero]; rfl) (by kernel_rfl) (by kernel_rfl) (by kernel_rfl) (by assumption) ?_ ?_ ?_
  rotate_left
  · exact fun _ _ _ h => h
  · exact Or.inl ⟨by rfl, by (intro V hV; (try dsimp only at hV); go_simp; try with_reducible rfl)⟩
  simp only [Act.put, List.setIfInBounds_toArray, List.set_cons_zero, List.set_cons_succ]
  refine wpAnyH_takeX (i := 7) (v := ?_) (by simp only [↓List.getElem?_toArray, ↓List.getElem?_cons_succ, ↓List.getElem?_cons_zero]; rfl) (by kernel_rfl) (by kernel_rfl) (by kernel_rfl) (by assumption) ?_ ?_ ?_
  rotate_left
  · exact fun _ _ _ h => h
  · exact Or.inl ⟨by rfl, by (intro V hV; (try dsimp only at hV); go_simp; try with_reducible rfl)⟩
  simp only [Act.put, List.setIfInBounds_toArray, List.set_cons_zero, List.set_cons_succ]
  generalize W.drew = V0 at *
  refine wpAnyH_ready (rs := [8]) (by kernel_rfl) (by simp) ?_
  refine AllReadyH.cons rfl (fun K hK => ?_) AllReadyH.nil
  have h0 : V0.heap[w.heap.size]? = some (.cells (oL xs).toArray 80 (0, 0)) := (HD.out.block _ (by omega)).trans HR0.out
  have H0 := Lib.hid h0
  have HBV : Hid (Below w.heap.size w V0) := HB.out.trans (HD.out.mono (by omega))
  clear h0
  obtain ⟨V1, kk, hrun, hv1, ho1, hb1⟩ := copy_ord w.heap.size hp hq V0 H0.out
  have HBW : Hid (Below w.heap.size w V1) := HBV.out.trans (hb1 _ (Nat.le_refl _))
  have HR2 : Hid (V1.heap[w.heap.size + 1]? = some (.cells #[.int .i64 0, .int .i64 0, .int .i64 0, .int .i64 0, .int .i64 0, .int .i64 0] 80 (0, 0))) := (ho1 _ (by omega)).trans ((HD.out.block _ (by omega)).trans HR1.out)
  have HV1 := Lib.hid hv1
  have HSPZ := Lib.hid (splice_size xs hp hq)
  clear hv1 hb1 ho1
  go_wp2
  refine hK.out _ _ trivial (fun hHeld => ?_)
  clear hK K
  try simp only [Act.put, List.setIfInBounds_toArray, List.set_cons_zero, List.set_cons_succ]
  refine wpAnyH_done (by kernel_rfl) ?_ _
  clear hs1 hs2 hrun c0
  have hqs : q < (splice (oL xs) (q + 1) (oCs xs p q)).toArray.size := by rw [HSPZ.out]; omega
  have c1 : V1.cell? ⟨w.heap.size, q, none⟩ = some ((splice (oL xs) (q + 1) (oCs xs p q)).toArray[q]) := cell_in HV1.out (Array.getElem?_eq_getElem hqs)
  generalize (splice (oL xs) (q + 1) (oCs xs p q)).toArray[q] = y at c1
  have f1 : V1.frozen? ⟨w.heap.size, q, none⟩ = false := frz HV1.out
  have i2 : (q : Int) < 6 := by omega
  go_upto_region 4 with (fail)
  obtain ⟨V2, hV2⟩ : ∃ V, V = V1.setCell ⟨w.heap.size, q, none⟩ (.int .i64 z) := ⟨_, rfl⟩
  rw [← hV2]
  have h2 : V2.heap[w.heap.size]? = some (.cells (oC (movedL xs p q)) 80 (0, 0)) := by
    rw [hV2, set_row1 HV1.out, HMR.out]
  have h3 : V2.heap[w.heap.size + 1]? = some (.cells #[.int .i64 0, .int .i64 0, .int .i64 0, .int .i64 0, .int .i64 0, .int .i64 0] 80 (0, 0)) := by
    rw [hV2, set_oth (by omega)]; exact HR2.out
  have HB2 : Hid (Below w.heap.size w V2) := by
    rw [Hid, hV2]; exact HBW.out.setCell (p := ⟨w.heap.size, q, none⟩) (Nat.le_refl _) _
  have H3 := Lib.hid h3
  clear hV2 h3 c1 f1 HV1 HR2 HBW HMR hqs HSPZ
  obtain ⟨ms, hms⟩ : ∃ ms, ms = movedL xs p q := ⟨_, rfl⟩
  rw [← hms] at h2
  have HMS := Lib.hid hms
  clear hms
  have d0 := cell_in h2 (i := 0) rfl
  have d1 := cell_in h2 (i := 1) rfl
  have d2 := cell_in h2 (i := 2) rfl
  have d3 := cell_in h2 (i := 3) rfl
  have d4 := cell_in h2 (i := 4) rfl
  have d5 := cell_in h2 (i := 5) rfl
  clear h2
  have HSZ : Hid ((Try.prog.info? 80).map (·.size) = some (oC ms).size) := Try.sizeOrd
  go_wp2_with (refine wpList_store_row (by rfl) 80 (.tmp 6) (.tmp 23) (by rfl) (w.heap.size + 1) (oC ms) (by rfl) (by rfl) 80 _ H3.out HSZ.out (by rfl) (by simp [Value.oneCell']) ?_)
  refine bodyPost_ret (results_cell_row (by rfl) _ _ (w.heap.size + 1) 80 (oC ms) (0, 0) _ (by rfl) (setRow_heap _ _ _ _ _ _ H3.out) Try.underlying80 (by rfl) HSZ.out) (by rfl) ⟨by rw [← HMS.out], ?_⟩
  exact below_setRow HB2.out (by omega) _
end Go.Proofs.Ytcnjkdkkflpgnaa
/- Layer 8: slices.Clone, list. -/
namespace Go.Proofs.Ytcnjkdkkflpgnaa
open Go.RowKit
set_option linter.unusedVariables false

/-- A new slice with no element. -/
theorem Ow.none0 (w : World) (B e : Nat) (hB : B ≤ w.heap.size) : Ow (w.alloc (.cells #[] e)) B e (.slice (some ⟨w.heap.size, 0, none⟩) 0 0) [] := by
  have h := World.ownsRow_lit (base := B) (e := e) (size := 1) w #[] 0 hB (by unfold maxLen; omega) rfl
  simpa [Ow] using h
theorem slice_ordh (g : Nat) {b : Nat} (h : Int) (eh : h = (b : Int)) (hb : b ≤ 6) (W : World) :
    (Instr.sliceAt 80 (.pointer (some ⟨g, 0, none⟩)) none (some (.int .i64 h)) none).run Try.prog W = .ok (.slice (some ⟨g, 0, none⟩) b 6) W := by
  subst eh
  rw [run_sliceAt_array_h W 80 ⟨g, 0, none⟩ Try.ordUnd .i64 (b : Int) (by omega) (by rw [Try.ordLen]; omega), Try.ordElem, Try.sizeInts W, Try.ordLen]
  simp [Result.andThen, slicedAt, Addr.add]
set_option maxRecDepth 100000 in
set_option maxHeartbeats 1600000 in
theorem clone_any (zs : List Int) (g off n c : Nat) (w : World) (h : Sl w (some ⟨g, off, none⟩) n c zs) (hn : n ≤ 1000000) :
    Calls Try.prog 77 #[.slice (some ⟨g, off, none⟩) n c] w fun e w' => (∃ v, e = .returned v ∧ Ow w' w.heap.size 3 v zs) ∧ Below w.heap.size w w' := by
  obtain ⟨i0, hi, hz0, hz1, hz2⟩ := info_parts Try.infoInt
  have HI : Hid (Try.prog.info? 3 = some i0 ∧ i0.zero = some (.int .i64 0) ∧ i0.size = 1 ∧ i0.bytes = 8) := ⟨hi, hz0, hz1, hz2⟩
  clear hi hz0 hz1 hz2
  have HS : Hid (Sl (w.alloc (.cells #[] 3)) (some ⟨g, off, none⟩) n c zs) := h.below ((Below.refl _ w).alloc (Nat.le_refl _) _) (Nat.le_refl _)
  have hnil := Lib.run_eql_slice_nil (P := Try.prog) w 22 3 (some ⟨g, off, none⟩) n c 0 0 Try.underlying22
  clear h
  go_enter Try.func77, Try.ntmps77

  go_wp2_with (at_builtin; go_must (refine apps_law _ rfl (.tmp 5) (.tmp 6) 22 rfl w.heap.size 3 i0 Try.underlying22 HI.out (.slice (some ⟨w.heap.size, 0, none⟩) 0 0) [] rfl (Ow.none0 w _ _ (Nat.le_refl _)) (some ⟨g, off, none⟩) n c zs rfl HS.out (by simp; omega) (by simp) ?_); intro v1 w1 hown hg; have HO := Lib.hid hown; have HG := Lib.hid (((Below.refl w.heap.size w).alloc (Nat.le_refl _) _).grown hg (by simp) (by intro k e; cases e; exact Nat.le_refl _)); clear hown hg)
  go_ret
  exact ⟨⟨v1, rfl, by have h := HO.out; rw [List.nil_append] at h; exact h⟩, HG.out⟩
set_option maxRecDepth 100000 in
set_option maxHeartbeats 1600000 in
theorem list_ord (xs : List Int) (m : Nat) (w : World) (hl : xs.length = 6) (hm : m ≤ 6) :
    Calls Try.prog 60 #[oV xs, .int .i64 (m : Int)] w fun e w' => (∃ v, e = .returned v ∧ Ow w' (w.heap.size + 1) 3 v (xs.take m)) ∧ Below w.heap.size w w' := by
  obtain ⟨W, hW⟩ : ∃ W, W = w.alloc (.cells (oC xs) 80) := ⟨_, rfl⟩
  have hb : Below w.heap.size w W := by rw [hW]; exact (Below.refl _ w).alloc (Nat.le_refl _) _
  have hr : W.heap[w.heap.size]? = some (.cells (oC xs) 80 (0, 0)) := by rw [hW]; exact heap_alloc_new _ _
  have hz : W.heap.size = w.heap.size + 1 := by rw [hW]; simp
  have HC := Lib.hid (clone_any (xs.take m) w.heap.size 0 m 6 W ((oC_sl hl hr).take hm) (by omega))
  have hs1 := fun V => slice_ordh w.heap.size (m : Int) (b := m) rfl hm V
  have HB := Lib.hid hb
  have HW := Lib.hid hW
  have HZ := Lib.hid hz
  clear hW hb hr hl hz
  generalize atI xs 0 = a0 at *
  generalize atI xs 1 = a1 at *
  generalize atI xs 2 = a2 at *
  generalize atI xs 3 = a3 at *
  generalize atI xs 4 = a4 at *
  generalize atI xs 5 = a5 at *
  go_enter Try.func60, Try.ntmps60
  go_wp2_with (go_at_call 77; rw [← HW.out]; refine HC.out.mono ?_; rintro e w1 ⟨⟨v1, rfl, ho⟩, hb1⟩; have HO := Lib.hid ho; have HB1 := Lib.hid (HB.out.trans (hb1.mono (by rw [HZ.out]; omega))); clear ho hb1)
  go_ret
  exact ⟨⟨v1, rfl, HZ.out ▸ HO.out⟩, HB1.out⟩
end Go.Proofs.Ytcnjkdkkflpgnaa
