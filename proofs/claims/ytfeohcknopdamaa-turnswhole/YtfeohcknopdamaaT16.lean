import Derived.Test.YtfeohcknopdamaaT15
import Derived.Test.YtfeohcknopdamaaT11
import Derived.Test.YtfeohcknopdamaaT05
import Derived.Test.YtfeohcknopdamaaT08
/- Layer 10: orderIn, Order. -/
namespace Go.Proofs.Ytfeohcknopdamaa
open Go.RowKit Go.Shelf
set_option linter.unusedVariables false
attribute [local go_sem] Oper.semAt_some

/-- Where n + 1 is inserted, at the position a. -/
def placeN (n a : Nat) : Nat := dirN (n + 1) (decide (a / (n + 1) % 2 = 0)) (a % (n + 1))
/-- The order at a position. -/
def oN : Nat → Nat → List Int
  | 0, _ => []
  | n + 1, a => insI (oN n (a / (n + 1))) (placeN n a) ((n + 1 : Nat) : Int)
/-- The places of insertion. -/
def plN : Nat → Nat → List Nat
  | 0, _ => []
  | n + 1, a => plN n (a / (n + 1)) ++ [placeN n a]
def bld (ps : List Nat) : Nat → List Int
  | 0 => []
  | k + 1 => insI (bld ps k) (ps.getD k 0) ((k + 1 : Nat) : Int)
theorem placeN_le (n a : Nat) : placeN n a ≤ n := by
  have : a % (n + 1) < n + 1 := Nat.mod_lt a (Nat.succ_pos n)
  unfold placeN dirN
  split <;> omega
theorem plN_len : ∀ n a, (plN n a).length = n
  | 0, _ => rfl
  | n + 1, a => by rw [plN, List.length_append, plN_len n]; rfl
theorem plN_le : ∀ n a j, j < n → (plN n a).getD j 0 ≤ j
  | n + 1, a, j, h => by
    rw [plN, List.getD_eq_getElem?_getD]
    by_cases e : j < n
    · rw [List.getElem?_append_left (by rw [plN_len]; exact e), ← List.getD_eq_getElem?_getD]
      exact plN_le n _ j e
    · rw [List.getElem?_append_right (by rw [plN_len]; omega), plN_len, show j - n = 0 by omega]
      have := placeN_le n a
      show placeN n a ≤ j
      omega
theorem bld_congr {ps qs : List Nat} : ∀ k, (∀ j, j < k → ps.getD j 0 = qs.getD j 0) → bld ps k = bld qs k
  | 0, _ => rfl
  | k + 1, h => by rw [bld, bld, h k (Nat.lt_succ_self k), bld_congr k (fun j hj => h j (by omega))]
theorem oN_bld : ∀ n a, oN n a = bld (plN n a) n
  | 0, _ => rfl
  | n + 1, a => by
    rw [oN, bld, oN_bld n, plN]
    rw [show (plN n (a / (n + 1)) ++ [placeN n a]).getD n 0 = placeN n a from by
      rw [List.getD_eq_getElem?_getD, List.getElem?_append_right (by rw [plN_len]; exact Nat.le_refl _), plN_len, Nat.sub_self]; rfl]
    rw [bld_congr (ps := plN n (a / (n + 1))) (qs := plN n (a / (n + 1)) ++ [placeN n a]) n (fun j hj => by
      rw [List.getD_eq_getElem?_getD, List.getD_eq_getElem?_getD, List.getElem?_append_left (by rw [plN_len]; exact hj)])]
theorem bld_len (ps : List Nat) : ∀ k, (bld ps k).length = k
  | 0 => rfl
  | k + 1 => by rw [bld, insI_len, bld_len ps k]
/-- What stands when k numbers are left to place. -/
structure OrdI (w : World) (n a0 k a : Nat) (S : List Nat) (F : Nat → Int) (W : World) : Prop where
  lt : a < fac k
  eq : plN n a0 = plN k a ++ S
  len : S.length + k = n
  at_ : ∀ j, j < S.length → F (k + 1 + j) = ((S.getD j 0 : Nat) : Int)
  size : w.heap.size + 3 ≤ W.heap.size
  below : Below w.heap.size w W
  b0 : Boxed W w.heap.size 3 (.int .i64 (a : Int))
  row : Rw W (w.heap.size + 1) 78 19 F
theorem rw_others {w w' : World} {row : Option Nat} {b t n : Nat} {f : Nat → Int} (h : Rw w b t n f) (hg : w.grownBy w' row) (hr : ∀ r, row = some r → ∃ o : Obj, w.heap[r]? = some o ∧ o.isCells = false) : Rw w' b t n f :=
  h.of_block (hg.block b h.lt (fun e => by
    obtain ⟨o, ho, hc⟩ := hr b e.symm
    rw [show w.heap[b]? = _ from h] at ho; cases ho; cases hc))
theorem OrdI.own {w : World} {n a0 B : Nat} (hB : w.heap.size ≤ B) : OwnFrom B (fun (k : Nat) W => ∃ a S F, OrdI w n a0 k a S F W) := by
  rintro k W W' row ⟨a, S, F, h⟩ hg hr
  have hr' : ∀ r, row = some r → ∃ o : Obj, W.heap[r]? = some o ∧ o.isCells = false := fun r e => (hr r e).2
  exact ⟨a, S, F, h.lt, h.eq, h.len, h.at_, Nat.le_trans h.size hg.size, h.below.grown hg (Nat.le_trans (Nat.le_add_right _ _) h.size) (fun k e => Nat.le_trans hB (hr k e).1), boxed_others h.b0 hg hr', rw_others h.row hg hr'⟩
theorem rowZ19 : #[Value.int .i64 0, .int .i64 0, .int .i64 0, .int .i64 0, .int .i64 0, .int .i64 0, .int .i64 0, .int .i64 0, .int .i64 0, .int .i64 0, .int .i64 0, .int .i64 0, .int .i64 0, .int .i64 0, .int .i64 0, .int .i64 0, .int .i64 0, .int .i64 0, .int .i64 0] = rowV 19 fun _ => 0 := by kernel_rfl
def ordW (w : World) (a n : Int) : World := ((w.alloc (.cells #[.int .i64 a] 3)).alloc (.cells (rowV 19 fun _ => 0) 78)).alloc (.cells #[.int .i64 n] 3)
theorem ordW_spec (w : World) (a n : Int) : (ordW w a n).heap.size = w.heap.size + 3 ∧ Below w.heap.size w (ordW w a n) ∧ Boxed (ordW w a n) w.heap.size 3 (.int .i64 a) ∧ Rw (ordW w a n) (w.heap.size + 1) 78 19 (fun _ => 0) ∧ Boxed (ordW w a n) (w.heap.size + 2) 3 (.int .i64 n) := by
  obtain ⟨w1, h1⟩ : ∃ x, x = w.alloc (.cells #[.int .i64 a] 3) := ⟨_, rfl⟩
  obtain ⟨w2, h2⟩ : ∃ x, x = w1.alloc (.cells (rowV 19 fun _ => 0) 78) := ⟨_, rfl⟩
  have e : ordW w a n = w2.alloc (.cells #[.int .i64 n] 3) := by rw [h2, h1]; rfl
  have z1 : w1.heap.size = w.heap.size + 1 := by rw [h1]; simp
  have z2 : w2.heap.size = w.heap.size + 2 := by rw [h2]; simp [z1]
  rw [e]
  have b0 : Boxed w1 w.heap.size 3 (.int .i64 a) := by rw [h1]; exact Boxed.new _ _ _
  have b1 : Rw w2 (w.heap.size + 1) 78 19 (fun _ => 0) := by rw [h2, ← z1]; exact Rw.new _ _ _ _
  refine ⟨by simp [z2], ?_, ?_, b1.alloc _, by rw [← z2]; exact Boxed.new _ _ _⟩
  · rw [h2, h1]
    exact (((Below.refl _ w).alloc (Nat.le_refl _) _).alloc (by simp) _).alloc (by simp; omega) _
  · rw [h2]; exact (b0.alloc _).alloc _
set_option maxRecDepth 100000 in
set_option maxHeartbeats 6400000 in
theorem orderIn_any (n a0 : Nat) (w : World) (hn : n ≤ 18) (ha : a0 < fac n) :
    Calls Try.prog 63 #[.int .i64 (n : Int), .int .i64 (a0 : Int)] w fun e w' => (∃ v, e = .returned v ∧ Ow w' w.heap.size 3 v (oN n a0)) ∧ Below w.heap.size w w' := by
  obtain ⟨R, hR⟩ : ∃ R : Ending → World → Prop, R = fun e w' => (∃ v, e = .returned v ∧ Ow w' w.heap.size 3 v (oN n a0)) ∧ Below w.heap.size w w' := ⟨_, rfl⟩
  rw [← hR]
  have HRR := Lib.hid hR
  have HN := Lib.hid hn
  have HZ := Lib.hid Try.zeroPlaces
  have HA0 := Lib.hid ha
  clear hR ha
  refine (callsIn_wide (n := 9)).1 ?_
  refine callsIn_of_wp_marks Try.func63 rfl trivial ?_ rfl
  simp only [Try.ntmps63, List.size_toArray, List.length_cons, List.length_nil, Nat.reduceAdd, Nat.reduceSub, Array.replicate_succ, Array.replicate_zero, List.push_toArray, List.append_toArray, List.nil_append, List.cons_append]
  gi_wp2_with (refine ⟨trivial, ?_⟩; gi_at_call 76; refine (callsIn_wide.2 (down_any _ _)).mono ?_; rintro e w' ⟨rfl, rfl⟩)
  rw [rowZ19]
  rw [show ((w.alloc (.cells #[.int .i64 (a0 : Int)] 3)).alloc (.cells (rowV 19 fun _ => 0) 78)).alloc (.cells #[.int .i64 (n : Int)] 3) = ordW w a0 n from rfl]
  obtain ⟨z0, hb0, q0, q1, q2⟩ := ordW_spec w a0 n
  generalize ordW w a0 n = w0 at z0 hb0 q0 q1 q2 ⊢
  have HZ0 := Lib.hid z0
  rw [show w.heap.size + 1 + 1 = w.heap.size + 2 from rfl]
  refine down_law (n := 8) (w.heap.size + 2) n (by omega) (by rfl) q2.cell (fun k W => ∃ a S F, OrdI w n a0 k a S F W) (OrdI.own (by omega)) ⟨a0, [], _, HA0.out, by simp, by simp, fun j hj => absurd hj (Nat.not_lt_zero _), by omega, hb0, q0, q1⟩ ?a1 ?assign ?body ?done
  case assign =>
    intro l x W K hK
    gi_wp2
    exact hK
  case body =>
    clear q0 q1 q2 hb0 HRR
    rintro l k W hk ⟨a, S, F, hi⟩
    have HI := Lib.hid hi
    have c0 := hi.b0.cell
    have f0 := hi.b0.frozen
    have hlt := hi.lt
    have hz := hi.size
    have hfl := fac_le (n := k + 1) (by omega)
    obtain ⟨q, hq⟩ : ∃ q, q = a / (k + 1) := ⟨_, rfl⟩
    obtain ⟨r, hr⟩ : ∃ r, r = a % (k + 1) := ⟨_, rfl⟩
    have hql : q < fac k := by
      rw [hq]
      rw [fac] at hlt
      exact Nat.div_lt_of_lt_mul hlt
    have hrl : r < k + 1 := by rw [hr]; exact Nat.mod_lt _ (Nat.succ_pos _)
    have hqf := fac_le (n := k) (by omega)
    have hal : a ≤ 6402373705728000 := by omega
    have hqa : q ≤ 6402373705728000 := by omega
    have D2 : Hid ((a : Int).tdiv ((k : Int) + 1) = (q : Int)) := by
      rw [Hid, Int.tdiv_eq_ediv_of_nonneg (by omega), show (k : Int) + 1 = ((k + 1 : Nat) : Int) from rfl, ← Int.natCast_ediv, hq]
    have D3 : Hid ((a : Int).tmod ((k : Int) + 1) = (r : Int)) := by
      rw [Hid, Int.tmod_eq_emod_of_nonneg (by omega), show (k : Int) + 1 = ((k + 1 : Nat) : Int) from rfl, ← Int.natCast_emod, hr]
    have E2 : Hid ((a : Int) / ((k : Int) + 1) = (q : Int)) := by rw [Hid, show (k : Int) + 1 = ((k + 1 : Nat) : Int) from rfl, ← Int.natCast_ediv, hq]
    have E3 : Hid ((a : Int) % ((k : Int) + 1) = (r : Int)) := by rw [Hid, show (k : Int) + 1 = ((k + 1 : Nat) : Int) from rfl, ← Int.natCast_emod, hr]
    have HQL := Lib.hid hql
    have HRL := Lib.hid hrl
    have HPL : Hid (dirN (k + 1) (decide (q % 2 = 0)) r = placeN k a) := by rw [Hid, placeN, ← hq, ← hr]
    have HPE : Hid (plN (k + 1) a = plN k q ++ [placeN k a]) := by rw [Hid, plN, ← hq]
    clear hi hlt hfl hqf hql hq hr hrl
    generalize placeN k a = pl at *
    -- behind the store to at
    obtain ⟨W1, hW1⟩ : ∃ W1, W1 = W.setCell ⟨w.heap.size, 0, none⟩ (.int .i64 (q : Int)) := ⟨_, rfl⟩
    have HB1 : Hid (Boxed W1 w.heap.size 3 (.int .i64 (q : Int))) := by rw [hW1]; exact HI.out.b0.set _
    have HR1 : Hid (Rw W1 (w.heap.size + 1) 78 19 F) := by rw [hW1]; exact HI.out.row.setOther (by show w.heap.size ≠ w.heap.size + 1; omega) _
    have HW1 : Hid (Below w.heap.size w W1) := by rw [hW1]; exact HI.out.below.setCell (p := ⟨w.heap.size, 0, none⟩) (Nat.le_refl _) _
    have HK1 : Hid (KeepsOthers W W1) := by rw [hW1]; exact KeepsOthers.setCell _ _ _
    have HS1 : Hid (w.heap.size + 3 ≤ W1.heap.size) := by rw [hW1]; exact Nat.le_trans hz (KeepsWalks.setCell W _ _).size
    have c1 := HB1.out.cell
    -- behind inserted
    obtain ⟨V1, hV1⟩ : ∃ V1, V1 = dirW W1 ((k + 1 : Nat) : Int) (decide (q % 2 = 0)) := ⟨_, rfl⟩
    have hdc := dirW_cells W1 ((k + 1 : Nat) : Int) (decide (q % 2 = 0))
    have hdb := dirW_below W1 ((k + 1 : Nat) : Int) (decide (q % 2 = 0))
    have hdk := dirW_others W1 ((k + 1 : Nat) : Int) (decide (q % 2 = 0))
    have HIN : Hid (Calls Try.prog 80 #[.int .i64 ((k : Int) + 1), .int .i64 (q : Int)] W1 fun e w' => e = .returned (.func (.func 89) #[] #[.pointer (some ⟨W1.heap.size + 1, 0, none⟩), .pointer (some ⟨W1.heap.size, 0, none⟩)]) ∧ w' = V1) :=
      (inserted_any (k + 1) q W1 (by omega) (by omega)).mono fun e w' he => ⟨he.1, by rw [he.2, hV1]⟩
    rw [← hV1] at hdc hdb hdk
    have HCL : Hid (Calls Try.prog 89 #[.int .i64 (r : Int), .pointer (some ⟨W1.heap.size + 1, 0, none⟩), .pointer (some ⟨W1.heap.size, 0, none⟩)] V1 fun e w' => e = .returned (.int .i64 (pl : Int)) ∧ V1 = w') := by
      have := dirc_any (k + 1) r W1.heap.size (decide (q % 2 = 0)) V1 (by omega) HRL.out hdc.1 hdc.2
      rw [HPL.out] at this
      exact this
    have HRV : Hid (Rw V1 (w.heap.size + 1) 78 19 F) := HR1.out.below hdb HR1.out.lt
    have HBV : Hid (Boxed V1 w.heap.size 3 (.int .i64 (q : Int))) := boxed_below HB1.out hdb HB1.out.lt
    have HWV : Hid (Below w.heap.size w V1) := HW1.out.trans (hdb.mono HW1.out.size)
    have HKV : Hid (KeepsOthers W V1) := HK1.out.trans hdk
    have HSV : Hid (w.heap.size + 3 ≤ V1.heap.size) := Nat.le_trans HS1.out hdb.size
    have cr := HRV.out.cell (i := k + 1) (by omega)
    have fr := HRV.out.free (k + 1)
    have HW1E := Lib.hid hW1
    clear hdc hdb hdk hV1 hW1
    have g1 : (k : Int) + 1 < 19 := by omega
    have W2 : Hid (wrap64 (q : Int) = (q : Int)) := IntWalk.wrap64_in _ ⟨by omega, by omega⟩
    have W3 : Hid (wrap64 (r : Int) = (r : Int)) := by have := HRL.out; exact IntWalk.wrap64_in _ ⟨by omega, by omega⟩
    have W4 : Hid (IntKind.i64.wrap (q : Int) = (q : Int)) := IntWalk.i64_in _ (by omega)
    have W5 : Hid (IntKind.i64.wrap (r : Int) = (r : Int)) := by have := HRL.out; exact IntWalk.i64_in _ (by omega)
    have d2 := D2.out
    have d3 := D3.out
    have e2 := E2.out
    have e3 := E3.out
    have w4 := W4.out
    have w5 := W5.out
    gi_wp2_with (first | (refine ⟨trivial, ?_⟩; gi_at_call 80; rw [← HW1E.out]; refine (CallsIn.inRound l (callsIn_wide.2 HIN.out)).mono ?_; rintro e w' ⟨rfl, rfl⟩) | (refine ⟨trivial, ?_⟩; gi_at_call 89; refine (CallsIn.inRound l (callsIn_wide.2 HCL.out)).mono ?_; rintro e w' ⟨rfl, rfl⟩))
    clear d2 d3 e2 e3 w4 w5
    have hi := HI.out
    have hS : (S.length : Nat) + (k + 1) = n := hi.len
    refine ⟨HKV.out.trans (KeepsOthers.setCell _ _ _), q, pl :: S, upd F (k + 1) (pl : Int), HQL.out, ?_, ?_, ?_, Nat.le_trans HSV.out (KeepsWalks.setCell _ _ _).size, HWV.out.setCell (p := ⟨w.heap.size + 1, k + 1, none⟩) (by show w.heap.size ≤ w.heap.size + 1; omega) _, ?_, HRV.out.set _⟩
    · rw [hi.eq, HPE.out, List.append_assoc]; rfl
    · rw [List.length_cons]; omega
    · intro j hj
      match j, hj with
      | 0, _ => exact upd_same _ _ _
      | j + 1, hj =>
        rw [List.length_cons] at hj
        rw [upd_other _ _ (by omega), show k + 1 + (j + 1) = k + 1 + 1 + j by omega, hi.at_ j (by omega)]
        rfl
    · exact (Below.heap_setCell _ _ _ _ (by show w.heap.size ≠ w.heap.size + 1; omega)).trans HBV.out
  case done =>
    clear q0 q1 q2 hb0
    rintro D W hD ⟨a, S, F, hi⟩ hd
    have HPS : Hid (plN n a0 = S) := by rw [Hid, hi.eq, plN]; rfl
    have HAT : Hid (∀ j, j < n → F (1 + j) = ((S.getD j 0 : Nat) : Int)) := fun j hj => by
      have := hi.at_ j (by have := hi.len; omega)
      rwa [show 0 + 1 + j = 1 + j by omega] at this
    have HPLE : Hid (∀ j, j < n → S.getD j 0 ≤ j) := fun j hj => by rw [← HPS.out]; exact plN_le n a0 j hj
    have HON : Hid (oN n a0 = bld S n) := by rw [Hid, oN_bld, HPS.out]
    have HROW : Hid (Rw W (w.heap.size + 1) 78 19 F) := hi.row
    have HBW : Hid (Below w.heap.size w W) := hi.below
    have HD : Hid (w.heap.size ≤ D) := by rw [Hid]; omega
    have HSZ : Hid (w.heap.size + 3 ≤ W.heap.size) := hi.size
    have HDD := Lib.hid hd
    clear hi hd
    gi_wp2
    refine (wpIn_wide (n := 9)).2 ?_
    go_loopw [8, 28] (fun v i wr => ∃ (k : Nat) (v' : Value), k ≤ n ∧ v' = v ∧ i = .int .i64 (k : Int) ∧ Hid (Ow wr W.heap.size 3 v' (bld S k)) ∧ Hid (Below W.heap.size W wr)) (fun _ i _ => n - (intOf i).toNat)
    case atStart => exact ⟨0, _, Nat.zero_le _, rfl, by go_num, Ow.nil _ _ _, Below.refl _ _⟩
    case round =>
      obtain ⟨k, v, hk, rfl, rfl, HO, HB⟩ := hrel
      obtain ⟨wo, rfl⟩ : ∃ wo : World, wo = wr := ⟨_, rfl⟩
      by_cases hlt : k < n
      · have i1 : (k : Int) < (n : Int) := by omega
        have HRB : Hid (Rw wo (w.heap.size + 1) 78 19 F) := HROW.out.below HB.out HROW.out.lt
        have hc := HRB.out.cell (i := k + 1) (by omega)
        rw [Nat.add_comm k 1, HAT.out k hlt] at hc
        have hple := HPLE.out k hlt
        have HBL : Hid ((bld S k).length = k) := bld_len S k
        have HSTEP : Hid (bld S (k + 1) = insI (bld S k) (S.getD k 0) ((k + 1 : Nat) : Int)) := rfl
        generalize S.getD k 0 = pl at *
        have g1 : (k : Int) + 1 < 19 := by omega
        rw [Nat.add_comm 1 k] at hc
        have HINS : Hid (Calls Try.prog 81 #[v, .int .i64 (pl : Int), .slice (some ⟨wo.heap.size, 0, none⟩) 1 1] (wo.alloc (.cells #[.int .i64 ((k : Int) + 1)] 3)) fun e w' => (∃ v', e = .returned v' ∧ Ow w' W.heap.size 3 v' (bld S (k + 1))) ∧ Below W.heap.size W w') := by
          have h0 := insert_any (bld S k) v W.heap.size wo.heap.size pl ((k : Int) + 1) (wo.alloc (.cells #[.int .i64 ((k : Int) + 1)] 3)) (HO.out.alloc _) (by rw [HBL.out]; omega) (by rw [HBL.out]; exact hple) (Nat.le_trans HB.out.size (by simp)) (World.alloc_heap_new wo _) (fun e => by have := (HO.out.lt e).2; omega)
          refine h0.mono ?_
          rintro e w' ⟨⟨v', rfl, hv'⟩, hg'⟩
          refine ⟨⟨v', rfl, ?_⟩, (HB.out.alloc HB.out.size _).grown hg' (Nat.le_trans HB.out.size (by simp)) (fun b e => (HO.out.lt e).1)⟩
          rw [HSTEP.out]
          exact hv'
        go_wp2_with (go_at_call 81; refine HINS.out.mono ?_; rintro e w5 ⟨⟨v', rfl, hv'⟩, hb'⟩; have HV' := Lib.hid hv'; have HB' := Lib.hid hb'; clear hv' hb')
        exact ⟨⟨k + 1, v', by omega, rfl, by go_num, HV'.out, HB'.out⟩, by simp [intOf]; omega⟩
      · have hkn : k = n := by omega
        have i1 : ¬ (k : Int) < (n : Int) := by omega
        have HV2 : Hid (Ow wo W.heap.size 3 v (oN n a0)) := by rw [Hid, HON.out, ← hkn]; exact HO.out
        clear hkn
        go_wp2
        gi_wp2
        have hdl : D < W.heap.size := (Array.getElem?_eq_some_iff.1 HDD.out).1
        have hd2 : wo.heap[D]? = some (.deferred (some [])) := (HB.out.block D hdl).trans HDD.out
        refine ⟨by simp, .inl ⟨_, _, rfl, run_takeDeferred hd2, ?_⟩⟩
        refine ⟨_, results_tmp rfl _ _ _, ?_⟩
        rw [HRR.out]
        have hs2 := HSZ.out
        have hbw := HBW.out.size
        exact ⟨⟨v, rfl, Ow.base (ownsRow_putObj HV2.out _ hd2 rfl) hbw⟩, (HBW.out.trans (HB.out.mono hbw)).trans (below_putO _ HD.out _)⟩
/-- From 0 to 18. -/
def in18 (n : Int) : Bool := decide (0 ≤ n) && decide (n ≤ 18)
theorem in18_nat {n : Int} (h : in18 n = true) : ∃ k : Nat, n = (k : Int) ∧ k ≤ 18 := by
  rw [in18, Bool.and_eq_true, decide_eq_true_iff, decide_eq_true_iff] at h
  exact ⟨n.toNat, by omega, by omega⟩
theorem orderP_any (n a : Int) (w : World) : Calls Try.prog 30 #[.int .i64 n, .int .i64 a] w fun e w' =>
    (if in18 n && posB a ((fac n.toNat : Nat) : Int) then ∃ v, e = .returned (.tuple #[v, .int .i64 0]) ∧ Ow w' w.heap.size 3 v (oN n.toNat a.toNat) else e = badL) ∧ Below w.heap.size w w' := by
  have HB := Lib.hid (fun w => isBetween_any n 0 18 w)
  rcases h0 : in18 n with _ | _
  · simp only [Bool.false_and, Bool.false_eq_true, if_false]
    rw [show (decide (0 ≤ n) && decide (n ≤ 18)) = false from h0] at HB
    clear h0
    go_enter Try.func30, Try.ntmps30
    go_wp2_with (go_at_call 55; (with_reducible refine (HB.out _).mono ?_); rintro e w1 ⟨rfl, rfl⟩)
    go_ret2
    exact ⟨rfl, Below.refl _ _⟩
  · rw [show (decide (0 ≤ n) && decide (n ≤ 18)) = true from h0] at HB
    obtain ⟨k, rfl, hk⟩ := in18_nat h0
    rw [Bool.true_and, Int.toNat_natCast]
    have HF := Lib.hid (fun w => factorial_any k w hk)
    have HP := Lib.hid (fun w => isPosition_any a ((fac k : Nat) : Int) w)
    rcases h1 : posB a ((fac k : Nat) : Int) with _ | _
    · simp only [Bool.false_eq_true, if_false]
      rw [show (decide (0 ≤ a) && decide (a < ((fac k : Nat) : Int))) = false from h1] at HP
      clear h0 h1
      generalize fac k = q at *
      go_enter Try.func30, Try.ntmps30
      go_wp2_with (first | (go_at_call 55; (with_reducible refine (HB.out _).mono ?_); rintro e w1 ⟨rfl, rfl⟩) | (go_at_call 62; (with_reducible refine (HF.out _).mono ?_); rintro e w1 ⟨rfl, hbw⟩; have HBW := Lib.hid hbw; clear hbw) | (go_at_call 56; (with_reducible refine (HP.out _).mono ?_); rintro e w2 ⟨rfl, rfl⟩))
      go_ret2
      exact ⟨rfl, HBW.out⟩
    · simp only [if_true]
      rw [show (decide (0 ≤ a) && decide (a < ((fac k : Nat) : Int))) = true from h1] at HP
      obtain ⟨b, rfl, hb⟩ := posB_nat h1
      have HS := Lib.hid (fun w => orderIn_any k b w hk hb)
      rw [Int.toNat_natCast]
      clear h0 h1 hb
      generalize fac k = q at HF HP
      go_enter Try.func30, Try.ntmps30
      go_wp2_with (first | (go_at_call 55; (with_reducible refine (HB.out _).mono ?_); rintro e w1 ⟨rfl, rfl⟩) | (go_at_call 62; (with_reducible refine (HF.out _).mono ?_); rintro e w1 ⟨rfl, hbw⟩; have HBW := Lib.hid hbw; clear hbw) | (go_at_call 56; (with_reducible refine (HP.out _).mono ?_); rintro e w2 ⟨rfl, rfl⟩) | (go_at_call 63; (with_reducible refine (HS.out _).mono ?_); rintro e w3 ⟨⟨v, rfl, hv⟩, hbx⟩; have HV := Lib.hid (Ow.base hv HBW.out.size); have HBX := Lib.hid (HBW.out.trans (hbx.mono HBW.out.size)); clear hv hbx))
      go_ret2
      exact ⟨⟨v, rfl, HV.out⟩, HBX.out⟩
end Go.Proofs.Ytfeohcknopdamaa
