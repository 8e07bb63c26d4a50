import Derived.Test.YtcnjkdkkflpgnaaT01
import Derived.Deep.RegionHeldLaw
import Derived.Deep.DrawnRows
/- Layer 8: orders in memory; slices.Index, place, firstOrder. -/
namespace Go.Proofs.Ytcnjkdkkflpgnaa
open Go.RowKit
set_option linter.unusedVariables false

/-- An order as a value. -/
abbrev oV (xs : List Int) : Value := .agg #[.int .i64 (atI xs 0), .int .i64 (atI xs 1), .int .i64 (atI xs 2), .int .i64 (atI xs 3), .int .i64 (atI xs 4), .int .i64 (atI xs 5)]
abbrev oC (xs : List Int) : Array Value := #[.int .i64 (atI xs 0), .int .i64 (atI xs 1), .int .i64 (atI xs 2), .int .i64 (atI xs 3), .int .i64 (atI xs 4), .int .i64 (atI xs 5)]
theorem oC_at (xs : List Int) {k : Nat} (hk : k < 6) : (oC xs)[k]? = some (.int .i64 (atI xs k)) := by
  rcases (show k = 0 ∨ k = 1 ∨ k = 2 ∨ k = 3 ∨ k = 4 ∨ k = 5 by omega) with rfl | rfl | rfl | rfl | rfl | rfl <;> rfl
theorem cell_in {W : World} {u t i : Nat} {xs : Array Value} {x : Value} (h : W.heap[u]? = some (.cells xs t (0, 0))) (hi : xs[i]? = some x) : W.cell? ⟨u, i, none⟩ = some x := by
  rw [cell_of_row _ _ _ _ _ _ h]; exact hi
theorem heap_alloc_new (w : World) (o : Obj) : (w.alloc o).heap[w.heap.size]? = some o := by
  show (w.heap.push o)[w.heap.size]? = _
  rw [Array.getElem?_push, if_pos rfl]
/-- The whole of a box as a slice. -/
theorem oC_sl {W : World} {g t : Nat} {xs : List Int} (hl : xs.length = 6) (h : W.heap[g]? = some (.cells (oC xs) t (0, 0))) : Sl W (some ⟨g, 0, none⟩) 6 6 xs := by
  refine ⟨hl, Nat.le_refl _, by omega, fun e => (by cases e), fun k hk => ⟨g, 0, rfl, ?_⟩, fun b off e _ => ?_⟩
  · rw [Nat.zero_add]
    exact cell_in h (oC_at xs (by omega))
  · injection e with e
    injection e with e _
    rw [← e]
    exact (Array.getElem?_eq_some_iff.1 h).1
set_option maxHeartbeats 1600000 in
theorem sIndex_any (zs : List Int) (x : Int) (A : Option Addr) (n c : Nat) (w : World) (h : Sl w A n c zs) :
    Calls Try.prog 76 #[.slice A n c, .int .i64 x] w fun e w' => e = .returned (.int .i64 (ixI zs x)) ∧ w = w' := by
  have hbig := h.big
  have HL : Hid (zs.length = n) := h.len
  have HR : Hid (Rd w A zs) := h.rd
  have HF : Hid (∀ k, k < n → zs[k]?.getD 0 = x → (∀ j, j < k → zs[j]?.getD 0 ≠ x) → ixI zs x = (k : Int)) := fun k hk h hn => ixI_at (by rw [HL.out]; exact hk) h hn
  have HN : Hid ((∀ j, j < n → zs[j]?.getD 0 ≠ x) → ixI zs x = -1) := fun h => ixI_no (by rw [HL.out]; exact h)
  clear h
  go_enter Try.func76, Try.ntmps76
  go_wp2
  go_loopw [8] (fun i w' => ∃ k : Nat, k ≤ n ∧ i = .int .i64 (k : Int) ∧ Hid (∀ j, j < k → zs[j]?.getD 0 ≠ x) ∧ w = w') (fun i _ => n - (intOf i).toNat)
  case atStart => exact ⟨0, Nat.zero_le _, by go_num, fun j hj => absurd hj (Nat.not_lt_zero _), rfl⟩
  case round =>
    obtain ⟨k, hk, rfl, HK, rfl⟩ := hrel
    by_cases hlt : k < n
    · have i1 : (k : Int) < (n : Int) := by omega
      obtain ⟨b, off, rfl, hc⟩ := HR.out k (by rw [HL.out]; exact hlt)
      by_cases hx : zs[k]?.getD 0 = x
      · have hb : (x == zs[k]?.getD 0) = true := by simpa using hx.symm
        have HX := Lib.hid (HF.out k hlt hx HK.out)
        clear hx
        go_wp2
        go_ret
        rw [HX.out]
        exact ⟨rfl, rfl⟩
      · have hb : (x == zs[k]?.getD 0) = false := by
          rw [beq_eq_false_iff_ne]
          exact fun e => hx e.symm
        have HX : Hid (∀ j, j < k + 1 → zs[j]?.getD 0 ≠ x) := fun j hj => by
          by_cases e : j = k
          · rw [e]; exact hx
          · exact HK.out j (by omega)
        clear hx
        go_wp2
        exact ⟨⟨k + 1, by omega, by go_num, HX.out, trivial⟩, by simp [intOf]; omega⟩
    · have hkn : k = n := by omega
      have HX := Lib.hid (HN.out (by rw [← hkn]; exact HK.out))
      have i1 : ¬ (k : Int) < (n : Int) := by omega
      clear hkn
      go_wp2
      go_ret
      rw [HX.out]
      exact ⟨rfl, rfl⟩
set_option maxRecDepth 100000 in
set_option maxHeartbeats 1600000 in
theorem place_any (xs : List Int) (x : Int) (w : World) (hl : xs.length = 6) :
    Calls Try.prog 58 #[oV xs, .int .i64 x] w fun e w' => e = .returned (.int .i64 (ixI xs x)) ∧ Below w.heap.size w w' := by
  obtain ⟨W, hW⟩ : ∃ W, W = w.alloc (.cells (oC xs) 80) := ⟨_, rfl⟩
  have hb : Below w.heap.size w W := by rw [hW]; exact (Below.refl _ w).alloc (Nat.le_refl _) _
  have hr : W.heap[w.heap.size]? = some (.cells (oC xs) 80 (0, 0)) := by rw [hW]; exact heap_alloc_new _ _
  have HIX := Lib.hid (sIndex_any xs x (some ⟨w.heap.size, 0, none⟩) 6 6 W (oC_sl hl hr))
  have HB := Lib.hid hb
  have HW := Lib.hid hW
  clear hW hb hr hl
  generalize atI xs 0 = a0 at *
  generalize atI xs 1 = a1 at *
  generalize atI xs 2 = a2 at *
  generalize atI xs 3 = a3 at *
  generalize atI xs 4 = a4 at *
  generalize atI xs 5 = a5 at *
  go_enter Try.func58, Try.ntmps58
  go_wp2_with (go_at_call 76; rw [← HW.out]; refine HIX.out.mono ?_; rintro e w1 ⟨rfl, rfl⟩)
  go_ret
  exact ⟨rfl, HB.out⟩
end Go.Proofs.Ytcnjkdkkflpgnaa
/- Layer 8: firstOrder, turned, exchanges. -/
namespace Go.Proofs.Ytcnjkdkkflpgnaa
open Go.RowKit
set_option linter.unusedVariables false

def fo (k i : Nat) : Int := if i < k then (i : Int) else 0
theorem Try.sizeOrd : (Try.prog.info? 80).map (·.size) = some 6 := by kernel_rfl
def o6 : List Int := [0, 1, 2, 3, 4, 5]
theorem set_row1 {W : World} {g t k : Nat} {old : Array Value} {v : Value} (h : W.heap[g]? = some (.cells old t (0, 0))) : (W.setCell ⟨g, k, none⟩ v).heap[g]? = some (.cells (old.setIfInBounds k v) t (0, 0)) := by
  simp [World.setCell, Array.getElem?_modify, h]
theorem frz {W : World} {g t i : Nat} {xs : Array Value} (h : W.heap[g]? = some (.cells xs t (0, 0))) : W.frozen? ⟨g, i, none⟩ = false := by simp [World.frozen?, h]
set_option maxRecDepth 100000 in
set_option maxHeartbeats 3200000 in
theorem firstOrder_any (w : World) : Calls Try.prog 57 #[] w fun e w' => e = .returned (oV o6) ∧ Below w.heap.size w w' := by
  obtain ⟨W, hW⟩ : ∃ W, W = (w.alloc (.cells #[.int .i64 0, .int .i64 0, .int .i64 0, .int .i64 0, .int .i64 0, .int .i64 0] 80)).alloc (.cells #[.int .i64 0, .int .i64 0, .int .i64 0, .int .i64 0, .int .i64 0, .int .i64 0] 80) := ⟨_, rfl⟩
  have hb : Below w.heap.size w W := by rw [hW]; exact ((Below.refl _ w).alloc (Nat.le_refl _) _).alloc (by simp) _
  have hr0 : W.heap[w.heap.size]? = some (.cells #[.int .i64 0, .int .i64 0, .int .i64 0, .int .i64 0, .int .i64 0, .int .i64 0] 80 (0, 0)) := by
    rw [hW]
    show ((w.heap.push _).push _)[w.heap.size]? = _
    rw [Array.getElem?_push, if_neg (by simp), Array.getElem?_push, if_pos rfl]
  have hr1 : W.heap[w.heap.size + 1]? = some (.cells #[.int .i64 (fo 0 0), .int .i64 (fo 0 1), .int .i64 (fo 0 2), .int .i64 (fo 0 3), .int .i64 (fo 0 4), .int .i64 (fo 0 5)] 80 (0, 0)) := by
    rw [hW]
    show ((w.heap.push _).push _)[w.heap.size + 1]? = _
    rw [Array.getElem?_push, if_pos (by simp)]
    rfl
  have HB := Lib.hid hb
  have HR0 := Lib.hid hr0
  have HR1 := Lib.hid hr1
  have HW := Lib.hid hW
  clear hW hb hr0 hr1
  go_enter Try.func57, Try.ntmps57
  go_wp2
  rw [← HW.out]
  go_loopw [3] (fun i w' => ∃ k : Nat, k ≤ 6 ∧ i = .int .i64 (k : Int) ∧ Hid (w'.heap[w.heap.size]? = some (.cells #[.int .i64 0, .int .i64 0, .int .i64 0, .int .i64 0, .int .i64 0, .int .i64 0] 80 (0, 0))) ∧ Hid (w'.heap[w.heap.size + 1]? = some (.cells #[.int .i64 (fo k 0), .int .i64 (fo k 1), .int .i64 (fo k 2), .int .i64 (fo k 3), .int .i64 (fo k 4), .int .i64 (fo k 5)] 80 (0, 0))) ∧ Hid (Below w.heap.size w w')) (fun i _ => 6 - (intOf i).toNat)
  case atStart => exact ⟨0, by omega, by go_num, HR0.out, HR1.out, HB.out⟩
  case round =>
    obtain ⟨k, hk, rfl, H0, H1, H2⟩ := hrel
    obtain ⟨wo, rfl⟩ : ∃ wo : World, wo = wr := ⟨_, rfl⟩
    clear HR0 HR1
    by_cases hlt : k < 6
    · have i1 : (k : Int) < 6 := by omega
      have c0 : wo.cell? ⟨w.heap.size + 1, k, none⟩ = some (.int .i64 (fo k k)) := by
        rcases (show k = 0 ∨ k = 1 ∨ k = 2 ∨ k = 3 ∨ k = 4 ∨ k = 5 by omega) with rfl | rfl | rfl | rfl | rfl | rfl <;> exact cell_in H1.out rfl
      have f0 : wo.frozen? ⟨w.heap.size + 1, k, none⟩ = false := frz H1.out
      have HS1 : Hid ((wo.setCell ⟨w.heap.size + 1, k, none⟩ (.int .i64 (k : Int))).heap[w.heap.size + 1]? = some (.cells #[.int .i64 (fo (k + 1) 0), .int .i64 (fo (k + 1) 1), .int .i64 (fo (k + 1) 2), .int .i64 (fo (k + 1) 3), .int .i64 (fo (k + 1) 4), .int .i64 (fo (k + 1) 5)] 80 (0, 0))) := by
        refine (set_row1 H1.out).trans ?_
        rcases (show k = 0 ∨ k = 1 ∨ k = 2 ∨ k = 3 ∨ k = 4 ∨ k = 5 by omega) with rfl | rfl | rfl | rfl | rfl | rfl <;> rfl
      have HS0 : Hid ((wo.setCell ⟨w.heap.size + 1, k, none⟩ (.int .i64 (k : Int))).heap[w.heap.size]? = wo.heap[w.heap.size]?) := by
        have hne : ¬ (w.heap.size + 1 = w.heap.size) := by omega
        rw [Hid]
        simp [World.setCell, Array.getElem?_modify]
      go_wp2
      exact ⟨⟨k + 1, by omega, by go_num, HS0.out.trans H0.out, HS1.out, H2.out.setCell (p := ⟨w.heap.size + 1, k, none⟩) (by show w.heap.size ≤ w.heap.size + 1; omega) _⟩, by simp [intOf]; omega⟩
    · have hk6 : k = 6 := by omega
      subst hk6
      have i1 : ¬ ((6 : Nat) : Int) < 6 := by omega
      have d0 := cell_in H1.out (i := 0) rfl
      have d1 := cell_in H1.out (i := 1) rfl
      have d2 := cell_in H1.out (i := 2) rfl
      have d3 := cell_in H1.out (i := 3) rfl
      have d4 := cell_in H1.out (i := 4) rfl
      have d5 := cell_in H1.out (i := 5) rfl
      have HSZ : Hid ((Try.prog.info? 80).map (·.size) = some (oC o6).size) := Try.sizeOrd
      go_wp2_with (refine wpList_store_row (by rfl) 80 (.tmp 0) (.tmp 10) (by rfl) w.heap.size (oC o6) (by rfl) (by rfl) 80 _ H0.out HSZ.out (by rfl) (by simp [Value.oneCell']) ?_)
      refine bodyPost_ret (results_cell_row (by rfl) _ _ w.heap.size 80 (oC o6) (0, 0) _ (by rfl) (setRow_heap _ _ _ _ _ _ H0.out) Try.underlying80 (by rfl) HSZ.out) (by rfl) ⟨rfl, ?_⟩
      exact H2.out.trans ⟨rfl, rfl, rfl, by simp [World.setRow], fun k hk => setRow_other _ _ _ _ (by omega)⟩
end Go.Proofs.Ytcnjkdkkflpgnaa
/- Layer 8: turned. -/
namespace Go.Proofs.Ytcnjkdkkflpgnaa
open Go.RowKit
set_option linter.unusedVariables false

theorem wpAnyH_takeX {P : Program} {md : Region.Mode} {ops : Array Oper} {Q : Exit → Act → World → Prop} {S : World → Prop} {i : Nat} {oi : Oper} {v : Value} {fuel : Nat} {listed : Array Bool} {a : Act} {w : World} (hi : ops[i]? = some oi)
    (hs : Region.noSelect ops = true) (hf : Region.free md ops listed i = true) (hr : (Region.ready md ops listed).contains i = true) (hS : S w)
    (hQ : ∀ c a w, Q (.panic c) (a.put oi.dst v) w → Q (.panic c) a w) (hy : YieldsIf P ops S oi v a)
    (h : wpAnyH P md ops Q S fuel (listed.setIfInBounds i true) (a.put oi.dst v) w) : wpAnyH P md ops Q S (fuel + 1) listed a w :=
  wpAnyH_take hi hs hf hr hQ hy hS h
theorem wp_then_mono {P : Program} {c : Code} {K K' : Act → World → Prop} {Q : Exit → Act → World → Prop} {a : Act} {w : World} (h : ∀ a w, K a w → K' a w) (hc : c.wp P (Exit.then K Q) a w) : c.wp P (Exit.then K' Q) a w :=
  Code.wp_mono (fun e a w hq => by
    cases e
    case normal => exact h a w hq
    all_goals exact hq) hc
/-- How many of the first ones are turned with this one. -/
def colT (a b : List Int) (s : Nat) : Nat → Nat
  | 0 => 0
  | f + 1 => colT a b s f + if invB a b f s = true then 1 else 0
def colsT (a b : List Int) : Nat → Nat
  | 0 => 0
  | s + 1 => colsT a b s + colT a b s s
theorem colT_le (a b : List Int) (s : Nat) : ∀ f, colT a b s f ≤ f
  | 0 => Nat.le_refl _
  | f + 1 => by
    unfold colT
    have := colT_le a b s f
    split <;> omega
theorem colsT_le (a b : List Int) : ∀ s, colsT a b s ≤ s * s
  | 0 => Nat.le_refl _
  | s + 1 => by
    unfold colsT
    have h1 := colsT_le a b s
    have h2 := colT_le a b s s
    have : (s + 1) * (s + 1) = s * s + 2 * s + 1 := by rw [Nat.succ_mul, Nat.mul_succ]; omega
    omega
/-- Both ways of counting agree at six rolls. -/
theorem turn_six (a b : List Int) (h : a.length = 6) : turnN a b = colsT a b 6 := by
  unfold turnN
  rw [h]
  simp only [totT, rowT, colsT, colT, Nat.zero_add, Nat.add_zero]
  simp
  omega
set_option maxRecDepth 100000 in
set_option maxHeartbeats 6400000 in
theorem turnedP_any (xs ys : List Int) (w : World) (hx : xs.length = 6) (hy : ys.length = 6) :
    Calls Try.prog 83 #[oV xs, oV ys] w fun e w' => e = .returned (.int .i64 (turnN xs ys : Int)) ∧ Below w.heap.size w w' := by
  obtain ⟨W, hW⟩ : ∃ W, W = (w.alloc (.cells (oC xs) 80)).alloc (.cells (oC ys) 80) := ⟨_, rfl⟩
  have hb : Below w.heap.size w W := by rw [hW]; exact ((Below.refl _ w).alloc (Nat.le_refl _) _).alloc (by simp) _
  have hr0 : W.heap[w.heap.size]? = some (.cells (oC xs) 80 (0, 0)) := by
    rw [hW]
    show ((w.heap.push _).push _)[w.heap.size]? = _
    rw [Array.getElem?_push, if_neg (by simp), Array.getElem?_push, if_pos rfl]
  have hr1 : W.heap[w.heap.size + 1]? = some (.cells (oC ys) 80 (0, 0)) := by
    rw [hW]
    show ((w.heap.push _).push _)[w.heap.size + 1]? = _
    rw [Array.getElem?_push, if_pos (by simp)]
  have hz : W.heap.size = w.heap.size + 2 := by rw [hW]; simp
  have HXC : Hid (∀ V, Below W.heap.size W V → ∀ k, k < 6 → V.cell? ⟨w.heap.size, k, none⟩ = some (.int .i64 (atI xs k))) := fun V hV k hk => cell_in ((hV.block _ (by omega)).trans hr0) (oC_at xs hk)
  have HYC : Hid (∀ V, Below W.heap.size W V → V.cell? ⟨w.heap.size + 1, 0, none⟩ = some (.int .i64 (atI ys 0)) ∧ V.cell? ⟨w.heap.size + 1, 1, none⟩ = some (.int .i64 (atI ys 1)) ∧ V.cell? ⟨w.heap.size + 1, 2, none⟩ = some (.int .i64 (atI ys 2)) ∧ V.cell? ⟨w.heap.size + 1, 3, none⟩ = some (.int .i64 (atI ys 3)) ∧ V.cell? ⟨w.heap.size + 1, 4, none⟩ = some (.int .i64 (atI ys 4)) ∧ V.cell? ⟨w.heap.size + 1, 5, none⟩ = some (.int .i64 (atI ys 5))) := fun V hV => by
    have h := (hV.block _ (by omega)).trans hr1
    exact ⟨cell_in h rfl, cell_in h rfl, cell_in h rfl, cell_in h rfl, cell_in h rfl, cell_in h rfl⟩
  have HPL := Lib.hid (fun x V => place_any ys x V hy)
  have HT := Lib.hid (turn_six xs ys hx)
  have HB := Lib.hid hb
  have HW := Lib.hid hW
  rw [HT.out]
  clear hW hb hr0 hr1 hz hx hy HT
  go_enter Try.func83, Try.ntmps83
  go_wp2
  rw [← HW.out]
  go_loopw [5, 8] (fun s i w' => ∃ p : Nat, p ≤ 6 ∧ i = .int .i64 (p : Int) ∧ s = .int .i64 (colsT xs ys p : Int) ∧ Hid (Below W.heap.size W w')) (fun _ i _ => 6 - (intOf i).toNat)
  case atStart => exact ⟨0, by omega, by go_num, rfl, Below.refl _ _⟩
  case round =>
    obtain ⟨p, hp, rfl, rfl, HD⟩ := hrel
    obtain ⟨wo, rfl⟩ : ∃ wo : World, wo = wr := ⟨_, rfl⟩
    by_cases hlt : p < 6
    · have i1 : (p : Int) < 6 := by omega
      go_wp2
      go_loopw [5, 12] (fun s k w' => ∃ q : Nat, q ≤ p ∧ k = .int .i64 (q : Int) ∧ s = .int .i64 ((colsT xs ys p + colT xs ys p q : Nat) : Int) ∧ Hid (Below W.heap.size W w')) (fun _ k _ => p - (intOf k).toNat)
      case atStart => exact ⟨0, by omega, by go_num, rfl, HD.out⟩
      case round =>
        obtain ⟨q, hq, rfl, rfl, HE⟩ := hrel
        obtain ⟨wi, rfl⟩ : ∃ wi : World, wi = wr := ⟨_, rfl⟩
        clear HD
        by_cases hlq : q < p
        · have i2 : (q : Int) < (p : Int) := by omega
          have i3 : (q : Int) < 6 := by omega
          have HK0 : Hid (Below W.heap.size W wi.drew) := HE.out.drew
          have HCE : Hid (∀ V, Below W.heap.size W V → V.cell? ⟨w.heap.size, p, none⟩ = some (.int .i64 (atI xs p)) ∧ V.cell? ⟨w.heap.size, q, none⟩ = some (.int .i64 (atI xs q)) ∧ V.cell? ⟨w.heap.size + 1, 0, none⟩ = some (.int .i64 (atI ys 0)) ∧ V.cell? ⟨w.heap.size + 1, 1, none⟩ = some (.int .i64 (atI ys 1)) ∧ V.cell? ⟨w.heap.size + 1, 2, none⟩ = some (.int .i64 (atI ys 2)) ∧ V.cell? ⟨w.heap.size + 1, 3, none⟩ = some (.int .i64 (atI ys 3)) ∧ V.cell? ⟨w.heap.size + 1, 4, none⟩ = some (.int .i64 (atI ys 4)) ∧ V.cell? ⟨w.heap.size + 1, 5, none⟩ = some (.int .i64 (atI ys 5))) := fun V hV => ⟨HXC.out V hV p hlt, HXC.out V hV q (by omega), HYC.out V hV⟩
          have HP1 : Hid (∀ V, Calls Try.prog 58 #[.agg #[.int .i64 (atI ys 0), .int .i64 (atI ys 1), .int .i64 (atI ys 2), .int .i64 (atI ys 3), .int .i64 (atI ys 4), .int .i64 (atI ys 5)], .int .i64 (atI xs q)] V fun e w' => e = .returned (.int .i64 (ixI ys (atI xs q))) ∧ Below V.heap.size V w') := fun V => HPL.out (atI xs q) V
          have HP2 : Hid (∀ V, Calls Try.prog 58 #[.agg #[.int .i64 (atI ys 0), .int .i64 (atI ys 1), .int .i64 (atI ys 2), .int .i64 (atI ys 3), .int .i64 (atI ys 4), .int .i64 (atI ys 5)], .int .i64 (atI xs p)] V fun e w' => e = .returned (.int .i64 (ixI ys (atI xs p))) ∧ Below V.heap.size V w') := fun V => HPL.out (atI xs p) V
          have HSU : Hid (colT xs ys p (q + 1) = colT xs ys p q + if invB xs ys q p = true then 1 else 0) := rfl
          have HIN : Hid (invB xs ys q p = decide (ixI ys (atI xs p) < ixI ys (atI xs q))) := rfl
          have hb1 : colsT xs ys p + colT xs ys p q ≤ 100 := by
            have h1 := colsT_le xs ys p
            have h2 := colT_le xs ys p q
            have h3 := Nat.mul_le_mul (show p ≤ 6 by omega) (show p ≤ 6 by omega)
            omega
          generalize hss : colsT xs ys p + colT xs ys p q = s at *
          have HSS := Lib.hid hss
          clear hss
          generalize atI xs q = z1 at *
          generalize atI xs p = z2 at *
          generalize atI ys 0 = a0 at *
          generalize atI ys 1 = a1 at *
          generalize atI ys 2 = a2 at *
          generalize atI ys 3 = a3 at *
          generalize atI ys 4 = a4 at *
          generalize atI ys 5 = a5 at *
          obtain ⟨r1, hr1⟩ : ∃ r, r = ixI ys z1 := ⟨_, rfl⟩
          obtain ⟨r2, hr2⟩ : ∃ r, r = ixI ys z2 := ⟨_, rfl⟩
          rw [← hr1] at HP1 HIN
          rw [← hr2] at HP2 HIN
          clear hr1 hr2 HPL HXC HYC
          obtain ⟨dd, hdd⟩ : ∃ d, d = decide (r2 < r1) := ⟨_, rfl⟩
          have d1 : decide (r2 < r1) = dd := hdd.symm
          rw [d1] at HIN
          clear hdd
          go_wp2
          refine wp_region_held_drew (S := fun V => V.cell? ⟨w.heap.size, p, none⟩ = some (.int .i64 z2) ∧ V.cell? ⟨w.heap.size, q, none⟩ = some (.int .i64 z1) ∧ V.cell? ⟨w.heap.size + 1, 0, none⟩ = some (.int .i64 a0) ∧ V.cell? ⟨w.heap.size + 1, 1, none⟩ = some (.int .i64 a1) ∧ V.cell? ⟨w.heap.size + 1, 2, none⟩ = some (.int .i64 a2) ∧ V.cell? ⟨w.heap.size + 1, 3, none⟩ = some (.int .i64 a3) ∧ V.cell? ⟨w.heap.size + 1, 4, none⟩ = some (.int .i64 a4) ∧ V.cell? ⟨w.heap.size + 1, 5, none⟩ = some (.int .i64 a5)) (by kernel_rfl) (HCE.out _ HK0.out) (fun hHeld => ?_)
          generalize wi.drew = V0 at *
          refine wpAnyH_takeX (i := 0) (v := ?_) (by simp only [↓List.getElem?_toArray, ↓List.getElem?_cons_zero]; rfl) (by kernel_rfl) (by kernel_rfl) (by kernel_rfl) (by assumption) ?_ ?_ ?_
          rotate_left
          · exact fun _ _ _ h => h
          · exact Or.inl ⟨by rfl, by (intro V hV; (try dsimp only at hV); go_simp; try with_reducible rfl)⟩
          simp only [Act.put, List.setIfInBounds_toArray, List.set_cons_zero, List.set_cons_succ]
          refine wpAnyH_takeX (i := 1) (v := ?_) (by simp only [↓List.getElem?_toArray, ↓List.getElem?_cons_succ, ↓List.getElem?_cons_zero]; rfl) (by kernel_rfl) (by kernel_rfl) (by kernel_rfl) (by assumption) ?_ ?_ ?_
          rotate_left
          · exact fun _ _ _ h => h
          · exact Or.inl ⟨by rfl, by (intro V hV; (try dsimp only at hV); go_simp; try with_reducible rfl)⟩
          simp only [Act.put, List.setIfInBounds_toArray, List.set_cons_zero, List.set_cons_succ]
          refine wpAnyH_takeX (i := 2) (v := ?_) (by simp only [↓List.getElem?_toArray, ↓List.getElem?_cons_succ, ↓List.getElem?_cons_zero]; rfl) (by kernel_rfl) (by kernel_rfl) (by kernel_rfl) (by assumption) ?_ ?_ ?_
          rotate_left
          · exact fun _ _ _ h => h
          · exact Or.inl ⟨by rfl, by (intro V hV; (try dsimp only at hV); go_simp; try with_reducible rfl)⟩
          simp only [Act.put, List.setIfInBounds_toArray, List.set_cons_zero, List.set_cons_succ]
          refine wpAnyH_takeX (i := 3) (v := ?_) (by simp only [↓List.getElem?_toArray, ↓List.getElem?_cons_succ, ↓List.getElem?_cons_zero]; rfl) (by kernel_rfl) (by kernel_rfl) (by kernel_rfl) (by assumption) ?_ ?_ ?_
          rotate_left
          · exact fun _ _ _ h => h
          · exact Or.inl ⟨by rfl, by (intro V hV; (try dsimp only at hV); go_simp; try with_reducible rfl)⟩
          simp only [Act.put, List.setIfInBounds_toArray, List.set_cons_zero, List.set_cons_succ]
          refine wpAnyH_takeX (i := 5) (v := ?_) (by simp only [↓List.getElem?_toArray, ↓List.getElem?_cons_succ, ↓List.getElem?_cons_zero]; rfl) (by kernel_rfl) (by kernel_rfl) (by kernel_rfl) (by assumption) ?_ ?_ ?_
          rotate_left
          · exact fun _ _ _ h => h
          · exact Or.inl ⟨by rfl, by (intro V hV; (try dsimp only at hV); go_simp; try with_reducible rfl)⟩
          simp only [Act.put, List.setIfInBounds_toArray, List.set_cons_zero, List.set_cons_succ]
          refine wpAnyH_takeX (i := 6) (v := ?_) (by simp only [↓List.getElem?_toArray, ↓List.getElem?_cons_succ, ↓List.getElem?_cons_zero]; rfl) (by kernel_rfl) (by kernel_rfl) (by kernel_rfl) (by assumption) ?_ ?_ ?_
          rotate_left
          · exact fun _ _ _ h => h
          · exact Or.inl ⟨by rfl, by (intro V hV; (try dsimp only at hV); go_simp; try with_reducible rfl)⟩
          simp only [Act.put, List.setIfInBounds_toArray, List.set_cons_zero, List.set_cons_succ]
          refine wpAnyH_takeX (i := 7) (v := ?_) (by simp only [↓List.getElem?_toArray, ↓List.getElem?_cons_succ, ↓List.getElem?_cons_zero]; rfl) (by kernel_rfl) (by kernel_rfl) (by kernel_rfl) (by assumption) ?_ ?_ ?_
          rotate_left
          · exact fun _ _ _ h => h
          · exact Or.inl ⟨by rfl, by (intro V hV; (try dsimp only at hV); go_simp; try with_reducible rfl)⟩
          simp only [Act.put, List.setIfInBounds_toArray, List.set_cons_zero, List.set_cons_succ]
          refine wpAnyH_takeX (i := 8) (v := ?_) (by simp only [↓List.getElem?_toArray, ↓List.getElem?_cons_succ, ↓List.getElem?_cons_zero]; rfl) (by kernel_rfl) (by kernel_rfl) (by kernel_rfl) (by assumption) ?_ ?_ ?_
          rotate_left
          · exact fun _ _ _ h => h
          · exact Or.inl ⟨by rfl, by (intro V hV; (try dsimp only at hV); go_simp; try with_reducible rfl)⟩
          simp only [Act.put, List.setIfInBounds_toArray, List.set_cons_zero, List.set_cons_succ]
          refine wpAnyH_ready (rs := [4]) (by kernel_rfl) (by simp) ?_
          refine AllReadyH.cons rfl (fun K hK => ?_) ?_
          · go_simp
            go_wp2_with (go_at_call 58; (with_reducible refine (HP1.out _).mono ?_); rintro e v1 ⟨rfl, hb⟩)
            have HK1 : Hid (Below W.heap.size W v1) := HK0.out.trans (hb.mono HK0.out.size)
            clear hb
            refine hK.out _ _ (HCE.out _ HK1.out) (fun hHeld => ?_)
            clear hK K
            try simp only [Act.put, List.setIfInBounds_toArray, List.set_cons_zero, List.set_cons_succ]
            refine wpAnyH_ready (rs := [9]) (by kernel_rfl) (by simp) ?_
            refine AllReadyH.cons rfl (fun K hK => ?_) ?_
            · go_simp
              go_wp2_with (go_at_call 58; (with_reducible refine (HP2.out _).mono ?_); rintro e v2 ⟨rfl, hb⟩)
              have HK2 : Hid (Below W.heap.size W v2) := HK1.out.trans (hb.mono HK1.out.size)
              clear hb
              refine hK.out _ _ (HCE.out _ HK2.out) (fun hHeld => ?_)
              clear hK K
              try simp only [Act.put, List.setIfInBounds_toArray, List.set_cons_zero, List.set_cons_succ]
              refine wpAnyH_takeX (i := 10) (v := ?_) (by simp only [↓List.getElem?_toArray, ↓List.getElem?_cons_succ, ↓List.getElem?_cons_zero]; rfl) (by kernel_rfl) (by kernel_rfl) (by kernel_rfl) (by assumption) ?_ ?_ ?_
              rotate_left
              · exact fun _ _ _ h => h
              · exact Or.inl ⟨by rfl, by (intro V hV; (try dsimp only at hV); go_simp; try with_reducible rfl)⟩
              simp only [Act.put, List.setIfInBounds_toArray, List.set_cons_zero, List.set_cons_succ]
              refine wpAnyH_done (by kernel_rfl) ?_ _
              clear HCE HP1 HP2
              have HSU2 : Hid (colsT xs ys p + colT xs ys p (q + 1) = s + if dd = true then 1 else 0) := by rw [Hid, HSU.out, HIN.out, ← HSS.out, Nat.add_assoc]
              clear HSU HIN d1
              have v1 : IntKind.i64.wrap ((s : Int) + 1) = (s : Int) + 1 := IntWalk.i64_in _ (by omega)
              cases dd
              · go_wp2
                exact ⟨⟨q + 1, by omega, by go_num, (by show Value.int .i64 (s : Int) = .int .i64 ((colsT xs ys p + colT xs ys p (q + 1) : Nat) : Int); rw [HSU2.out]; rfl), HK2.out⟩, by simp [intOf]; omega⟩
              · go_wp2
                exact ⟨⟨q + 1, by omega, by go_num, (by show Value.int .i64 ((s : Int) + 1) = .int .i64 ((colsT xs ys p + colT xs ys p (q + 1) : Nat) : Int); rw [HSU2.out]; rfl), HK2.out⟩, by simp [intOf]; omega⟩
            · exact AllReadyH.nil
          · exact AllReadyH.nil
        · have hqp : q = p := by omega
          have i2 : ¬ (q : Int) < (p : Int) := by omega
          go_wp2
          exact ⟨⟨p + 1, by omega, by go_num, by rw [hqp]; rfl, HE.out⟩, by simp [intOf]; omega⟩
    · have hp6 : p = 6 := by omega
      subst hp6
      have i1 : ¬ ((6 : Nat) : Int) < 6 := by omega
      go_wp2
      go_ret
      exact ⟨rfl, HB.out.trans (HD.out.mono HB.out.size)⟩
end Go.Proofs.Ytcnjkdkkflpgnaa
