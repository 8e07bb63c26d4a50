import Derived.Test.YtcnjkdkkflpgnaaT02
import Derived.Deep.Cut
/- Layer 8: allBelow with its closure, areRequests, isPlaces, isRolls. -/
namespace Go.Proofs.Ytcnjkdkkflpgnaa
open Go.RowKit
set_option linter.unusedVariables false

def lowB (m : Int) (z : Int) : Bool := decide (0 ≤ z) && decide (z < m)
/-- All numbers are from 0 to m - 1. -/
def belB (zs : List Int) (m : Int) : Bool := allB (fun j => lowB m (atI zs j)) zs.length
theorem all1_any (z m : Int) (s : Nat) (W : World) (h : W.cell? ⟨s, 0, none⟩ = some (.int .i64 m)) :
    Calls Try.prog 85 #[.int .i64 z, .pointer (some ⟨s, 0, none⟩)] W fun e w' => e = .returned (.bool (!lowB m z)) ∧ W = w' := by
  by_cases h0 : z < 0
  · have HX : Hid (true = !lowB m z) := by unfold lowB; rw [Hid, decide_eq_false (show ¬ 0 ≤ z by omega)]; rfl
    have d0 : decide (z < 0) = true := decide_eq_true h0
    clear h0
    go_enter Try.func85, Try.ntmps85
    go_wp2
    go_ret
    exact ⟨bend HX.out, rfl⟩
  · have d0 : decide (z < 0) = false := decide_eq_false h0
    by_cases h1 : m ≤ z
    · have HX : Hid (true = !lowB m z) := by unfold lowB; rw [Hid, decide_eq_false (show ¬ z < m by omega), Bool.and_false]; rfl
      have d1 : decide (m ≤ z) = true := decide_eq_true h1
      clear h0 h1
      go_enter Try.func85, Try.ntmps85
      go_wp2
      go_ret
      exact ⟨bend HX.out, rfl⟩
    · have HX : Hid (false = !lowB m z) := by unfold lowB; rw [Hid, decide_eq_true (show 0 ≤ z by omega), decide_eq_true (show z < m by omega)]; rfl
      have d1 : decide (m ≤ z) = false := decide_eq_false h1
      clear h0 h1
      go_enter Try.func85, Try.ntmps85
      go_wp2
      go_ret
      exact ⟨bend HX.out, rfl⟩
set_option maxHeartbeats 1600000 in
theorem idxF_any (zs : List Int) (m : Int) (s : Nat) (A : Option Addr) (n c : Nat) (w : World) (h : Sl w A n c zs) (hc : w.cell? ⟨s, 0, none⟩ = some (.int .i64 m)) :
    Calls Try.prog 92 #[.slice A n c, .func (.func 85) #[] #[.pointer (some ⟨s, 0, none⟩)]] w fun e w' => (∃ r : Int, e = .returned (.int .i64 r) ∧ decide (0 ≤ r) = !belB zs m) ∧ w = w' := by
  have hbig := h.big
  have HL : Hid (zs.length = n) := h.len
  have HR : Hid (Rd w A zs) := h.rd
  have HC := Lib.hid hc
  have HBAD : Hid (∀ k, k < n → lowB m (zs[k]?.getD 0) = false → decide ((0 : Int) ≤ (k : Int)) = !belB zs m) := fun k hk h => by
    unfold belB
    rw [← allB_bad (p := fun j => lowB m (atI zs j)) (by rw [HL.out]; exact hk) h, decide_eq_true (by omega)]; rfl
  have HGOOD : Hid ((∀ k, k < n → lowB m (zs[k]?.getD 0) = true) → decide ((0 : Int) ≤ -1) = !belB zs m) := fun h => by
    unfold belB
    rw [← allB_good (p := fun j => lowB m (atI zs j)) (by rw [HL.out]; exact h)]; rfl
  clear h hc
  go_enter Try.func92, Try.ntmps92
  go_wp2
  go_loopw [8] (fun i w' => ∃ k : Nat, k ≤ n ∧ i = .int .i64 (k : Int) ∧ Hid (∀ j, j < k → lowB m (zs[j]?.getD 0) = true) ∧ w = w') (fun i _ => n - (intOf i).toNat)
  case atStart => exact ⟨0, Nat.zero_le _, by go_num, fun j hj => absurd hj (Nat.not_lt_zero _), rfl⟩
  case round =>
    obtain ⟨k, hk, rfl, HK, rfl⟩ := hrel
    by_cases hlt : k < n
    · have i1 : (k : Int) < (n : Int) := by omega
      obtain ⟨b, off, rfl, hcell⟩ := HR.out k (by rw [HL.out]; exact hlt)
      have HBK := Lib.hid (HBAD.out k hlt)
      have HKS : Hid (lowB m (zs[k]?.getD 0) = true → ∀ j, j < k + 1 → lowB m (zs[j]?.getD 0) = true) := fun h j hj => by
        by_cases e : j = k
        · rw [e]; exact h
        · exact HK.out j (by omega)
      generalize zs[k]?.getD 0 = z at *
      have HA := Lib.hid (all1_any z m s w HC.out)
      rcases hl : lowB m z with _ | _
      · have HX := Lib.hid (HBK.out hl)
        rw [hl] at HA
        clear hl HBK HKS
        go_wp2_with (go_at_call 85; refine HA.out.mono ?_; rintro e w1 ⟨rfl, rfl⟩)
        go_ret
        exact ⟨⟨_, rfl, HX.out⟩, rfl⟩
      · have HX := Lib.hid (HKS.out hl)
        rw [hl] at HA
        clear hl HBK HKS
        go_wp2_with (go_at_call 85; refine HA.out.mono ?_; rintro e w1 ⟨rfl, rfl⟩)
        exact ⟨⟨k + 1, by omega, by go_num, HX.out, trivial⟩, by simp [intOf]; omega⟩
    · have hkn : k = n := by omega
      have HX := Lib.hid (HGOOD.out (by rw [← hkn]; exact HK.out))
      have i1 : ¬ (k : Int) < (n : Int) := by omega
      clear hkn
      go_wp2
      go_ret
      exact ⟨⟨-1, rfl, HX.out⟩, rfl⟩
theorem contF_any (zs : List Int) (m : Int) (s : Nat) (A : Option Addr) (n c : Nat) (w : World) (h : Sl w A n c zs) (hc : w.cell? ⟨s, 0, none⟩ = some (.int .i64 m)) :
    Calls Try.prog 84 #[.slice A n c, .func (.func 85) #[] #[.pointer (some ⟨s, 0, none⟩)]] w fun e w' => e = .returned (.bool (!belB zs m)) ∧ w = w' := by
  have HI := Lib.hid (idxF_any zs m s A n c w h hc)
  clear h hc
  go_enter Try.func84, Try.ntmps84
  go_wp2_with (go_at_call 92; refine HI.out.mono ?_; rintro e w1 ⟨⟨r, rfl, hr⟩, rfl⟩; have HR := Lib.hid hr; clear hr)
  go_ret
  exact ⟨bend HR.out, rfl⟩
theorem allBelow_any (zs : List Int) (m : Int) (A : Option Addr) (n c : Nat) (w : World) (h : Sl w A n c zs) :
    Calls Try.prog 72 #[.slice A n c, .int .i64 m] w fun e w' => e = .returned (.bool (belB zs m)) ∧ Below w.heap.size w w' := by
  have hb : Below w.heap.size w (w.alloc (.cells #[.int .i64 m] 3)) := (Below.refl _ w).alloc (Nat.le_refl _) _
  have HC := Lib.hid (contF_any zs m w.heap.size A n c (w.alloc (.cells #[.int .i64 m] 3)) (h.below hb (Nat.le_refl _)) (by simp))
  have HB := Lib.hid hb
  clear h hb
  go_enter Try.func72, Try.ntmps72
  go_wp2_with (go_at_call 84; refine HC.out.mono ?_; rintro e w1 ⟨rfl, rfl⟩)
  go_ret
  exact ⟨rfl, HB.out⟩
theorem isPlaces_any (k : Int) (w : World) : Calls Try.prog 44 #[.int .i64 k] w fun e w' => e = .returned (.bool (decide (1 ≤ k) && decide (k ≤ 8))) ∧ w = w' := by
  by_cases h0 : 1 ≤ k
  · have d0 : decide (1 ≤ k) = true := decide_eq_true h0
    by_cases h1 : k ≤ 8
    · have d1 : decide (k ≤ 8) = true := decide_eq_true h1
      rw [d0, d1]
      clear h0 h1
      go_enter Try.func44, Try.ntmps44
      go_wp2
      go_ret
      exact ⟨rfl, rfl⟩
    · have d1 : decide (k ≤ 8) = false := decide_eq_false h1
      rw [d0, d1]
      clear h0 h1
      go_enter Try.func44, Try.ntmps44
      go_wp2
      go_ret
      exact ⟨rfl, rfl⟩
  · have d0 : decide (1 ≤ k) = false := decide_eq_false h0
    rw [d0]
    clear h0
    go_enter Try.func44, Try.ntmps44
    go_wp2
    go_ret
    exact ⟨rfl, rfl⟩
theorem isRolls_any (k : Int) (w : World) : Calls Try.prog 71 #[.int .i64 k] w fun e w' => e = .returned (.bool (decide (1 ≤ k) && decide (k ≤ 6))) ∧ w = w' := by
  by_cases h0 : 1 ≤ k
  · have d0 : decide (1 ≤ k) = true := decide_eq_true h0
    by_cases h1 : k ≤ 6
    · have d1 : decide (k ≤ 6) = true := decide_eq_true h1
      rw [d0, d1]
      clear h0 h1
      go_enter Try.func71, Try.ntmps71
      go_wp2
      go_ret
      exact ⟨rfl, rfl⟩
    · have d1 : decide (k ≤ 6) = false := decide_eq_false h1
      rw [d0, d1]
      clear h0 h1
      go_enter Try.func71, Try.ntmps71
      go_wp2
      go_ret
      exact ⟨rfl, rfl⟩
  · have d0 : decide (1 ≤ k) = false := decide_eq_false h0
    rw [d0]
    clear h0
    go_enter Try.func71, Try.ntmps71
    go_wp2
    go_ret
    exact ⟨rfl, rfl⟩
theorem areRequests_any (zs : List Int) (A : Option Addr) (n c : Nat) (w : World) (h : Sl w A n c zs) :
    Calls Try.prog 43 #[.slice A n c] w fun e w' => e = .returned (.bool (reqB zs 200 15)) ∧ Below w.heap.size w w' := by
  have hl := h.len
  have hR : reqB zs 200 15 = (decide ((n : Int) ≤ 200) && belB zs 16) := by
    unfold reqB belB
    rw [hl, Bool.and_comm]
    congr 1
    unfold allB
    refine congrArg (fun f => (List.range n).all f) ?_
    funext j
    unfold lowB
    congr 1
    have : ∀ z : Int, decide (z ≤ 15) = decide (z < 16) := fun z => decide_eq_decide.2 (by omega)
    exact this _
  rw [hR]
  clear hR
  have HA : Hid (Calls Try.prog 72 #[.slice A n c, .int .i64 16] w fun e w' => e = .returned (.bool (belB zs 16)) ∧ Below w.heap.size w w') := allBelow_any zs 16 A n c w h
  clear h hl
  by_cases h0 : (n : Int) ≤ 200
  · have d0 : decide ((n : Int) ≤ 200) = true := decide_eq_true h0
    rw [d0]
    go_enter Try.func43, Try.ntmps43
    go_wp2_with (go_at_call 72; refine HA.out.mono ?_; rintro e w1 ⟨rfl, hb1⟩; have HB1 := Lib.hid hb1; clear hb1)
    go_ret
    exact ⟨rfl, HB1.out⟩
  · have d0 : decide ((n : Int) ≤ 200) = false := decide_eq_false h0
    rw [d0]
    go_enter Try.func43, Try.ntmps43
    go_wp2
    go_ret
    exact ⟨rfl, Below.refl _ _⟩
end Go.Proofs.Ytcnjkdkkflpgnaa
/- Layer 8: orderOf. -/
namespace Go.Proofs.Ytcnjkdkkflpgnaa
open Go.RowKit
set_option linter.unusedVariables false

theorem results_row_tmp {P : Program} {fn : Func} {p u : Tmp} {ty : TypeId} (h : fn.results = #[.cell p ty, .tmp u]) (tmps : Array Value) (w : World) (g : Nat) (t : TypeId) (cs : Array Value) (fr : Nat × Nat) (d : TypeDesc)
    (hp : tmps.getD p undef = .pointer (some ⟨g, 0, none⟩)) (hg : w.heap[g]? = some (.cells cs t fr))
    (hu : P.underlying ty = some d) (hd : (match d with | .struct _ | .array _ _ => true | _ => false) = true) (hi : (P.info? ty).map (·.size) = some cs.size) (v : Value) (hv : tmps.getD u undef = v) :
    (results fn tmps).run P w = .ok (.tuple #[.agg cs, v]) w := by
  rw [results_cell_tmp h, hp]
  simp [asAddr, run_loadVar_row w g t ty cs fr d hg hu hd hi, Result.andThen]
  simpa using hv
abbrev row6 (f : Nat → Value) : Array Value := #[f 0, f 1, f 2, f 3, f 4, f 5]
theorem row6_at (f : Nat → Value) {k : Nat} (hk : k < 6) : (row6 f)[k]? = some (f k) := by
  rcases (show k = 0 ∨ k = 1 ∨ k = 2 ∨ k = 3 ∨ k = 4 ∨ k = 5 by omega) with rfl | rfl | rfl | rfl | rfl | rfl <;> rfl
def updF (f : Nat → Value) (k : Nat) (v : Value) (i : Nat) : Value := if i = k then v else f i
theorem row6_set (f : Nat → Value) (v : Value) {k : Nat} (hk : k < 6) : (row6 f).setIfInBounds k v = row6 (updF f k v) := by
  rcases (show k = 0 ∨ k = 1 ∨ k = 2 ∨ k = 3 ∨ k = 4 ∨ k = 5 by omega) with rfl | rfl | rfl | rfl | rfl | rfl <;> rfl
theorem set_row6 {W : World} {g t k : Nat} {f : Nat → Value} {v : Value} (h : W.heap[g]? = some (.cells (row6 f) t (0, 0))) (hk : k < 6) : (W.setCell ⟨g, k, none⟩ v).heap[g]? = some (.cells (row6 (updF f k v)) t (0, 0)) := by
  rw [set_row1 h, row6_set f v hk]
theorem row_setO {W : World} {g t : Nat} {old : Array Value} (c : Array Value) (h : W.heap[g]? = some (.cells old t (0, 0))) : ∃ W4, W4 = W.setRow g c ∧ W4.heap[g]? = some (.cells c t (0, 0)) ∧ (∀ k, k ≠ g → W4.heap[k]? = W.heap[k]?) ∧ (∀ B, B ≤ g → Below B W W4) :=
  ⟨_, rfl, setRow_heap _ _ _ _ _ _ h, fun k hk => setRow_other _ _ _ _ hk, fun B hB => ⟨rfl, rfl, rfl, by simp [World.setRow], fun k hk => setRow_other _ _ _ _ (by omega)⟩⟩
theorem set_oth {W : World} {g k j : Nat} {v : Value} (h : j ≠ g) : (W.setCell ⟨g, k, none⟩ v).heap[j]? = W.heap[j]? := by
  have hne : ¬ g = j := fun e => h e.symm
  simp [World.setCell, Array.getElem?_modify, hne]
def z6 : List Int := [0, 0, 0, 0, 0, 0]
/-- The list is an order of m rolls, as orderOf finds. -/
def okO (zs : List Int) (m : Nat) : Bool := decide (zs.length = m) && belB zs m && allB (fun k => decide (ixI (zs.take k) (atI zs k) < 0)) zs.length
/-- The rolls that a shorter row does not have stay at their places. -/
def padO (zs : List Int) : List Int := zs ++ o6.drop zs.length
theorem padO_len {zs : List Int} (h : zs.length ≤ 6) : (padO zs).length = 6 := by
  unfold padO
  rw [List.length_append, List.length_drop]
  show zs.length + (6 - zs.length) = 6
  omega
/-- The order of orderOf between two rounds, and what it has seen. -/
def oF (zs : List Int) (k i : Nat) : Value := if i < k then .int .i64 (atI zs i) else .int .i64 (atI o6 i)
def sF (zs : List Int) (k i : Nat) : Value := .bool (decide ((i : Int) ∈ zs.take k))
theorem oF_step {zs : List Int} {k : Nat} : updF (oF zs k) k (.int .i64 (atI zs k)) = oF zs (k + 1) := by
  funext i
  unfold updF oF
  by_cases e : i = k
  · subst e; rw [if_pos rfl, if_pos (by omega)]
  · rw [if_neg e]
    by_cases h : i < k
    · rw [if_pos h, if_pos (by omega)]
    · rw [if_neg h, if_neg (by omega)]
theorem sF_step {zs : List Int} {k r : Nat} (hk : k < zs.length) (hr : atI zs k = (r : Int)) : updF (sF zs k) r (.bool true) = sF zs (k + 1) := by
  have e : zs.take (k + 1) = zs.take k ++ [(r : Int)] := by
    rw [List.take_add_one, List.getElem?_eq_getElem hk]
    have : zs[k] = (r : Int) := by rw [← hr]; unfold atI; rw [List.getElem?_eq_getElem hk]; rfl
    rw [this]; rfl
  funext i
  unfold updF sF
  rw [e]
  by_cases h : i = r
  · subst h; rw [if_pos rfl, decide_eq_true (by simp)]
  · rw [if_neg h]
    congr 1
    exact decide_eq_decide.2 ⟨fun h' => by simp [h'], fun h' => by
      simp at h'
      rcases h' with h' | h'
      · exact h'
      · omega⟩
theorem oF_end {zs : List Int} (h : zs.length ≤ 6) : row6 (oF zs zs.length) = oC (padO zs) := by
  have key : ∀ i, i < 6 → oF zs zs.length i = .int .i64 (atI (padO zs) i) := fun i hi => by
    unfold oF padO
    by_cases hl : i < zs.length
    · rw [if_pos hl]
      congr 1
      unfold atI
      rw [List.getElem?_append_left hl]
    · rw [if_neg hl]
      congr 1
      unfold atI
      rw [List.getElem?_append_right (by omega), List.getElem?_drop, show zs.length + (i - zs.length) = i from by omega]
  unfold row6 oC
  rw [key 0 (by omega), key 1 (by omega), key 2 (by omega), key 3 (by omega), key 4 (by omega), key 5 (by omega)]
theorem plI_mem : ∀ {zs : List Int} {x : Int}, (plI zs x).isSome = decide (x ∈ zs)
  | [], x => rfl
  | z :: zs, x => by
    have ih := plI_mem (zs := zs) (x := x)
    unfold plI
    by_cases e : z = x
    · subst e; rw [if_pos rfl, decide_eq_true (by simp)]; rfl
    · rw [if_neg e, Option.isSome_map, ih]
      exact decide_eq_decide.2 ⟨fun h => List.mem_cons_of_mem _ h, fun h => (List.mem_cons.1 h).resolve_left (fun e' => e e'.symm)⟩
theorem ixI_neg {zs : List Int} {x : Int} : decide (ixI zs x < 0) = !decide (x ∈ zs) := by
  rw [← plI_mem]
  unfold ixI
  rcases plI zs x with _ | k
  · rfl
  · exact decide_eq_false (by show ¬ ((k : Int) < 0); omega)
set_option maxRecDepth 100000 in
set_option maxHeartbeats 6400000 in
theorem orderOf_any (zs : List Int) (m : Nat) (A : Option Addr) (n c : Nat) (w : World) (h : Sl w A n c zs) (hm : m ≤ 6) :
    Calls Try.prog 68 #[.slice A n c, .int .i64 (m : Int)] w fun e w' => ((okO zs m = true ∧ e = .returned (.tuple #[oV (padO zs), .bool true])) ∨ (okO zs m = false ∧ e = .returned (.tuple #[oV z6, .bool false]))) ∧ Below w.heap.size w w' := by
  have hbig := h.big
  have HL : Hid (zs.length = n) := h.len
  obtain ⟨W, hW⟩ : ∃ W, W = w.alloc (.cells #[.int .i64 0, .int .i64 0, .int .i64 0, .int .i64 0, .int .i64 0, .int .i64 0] 80) := ⟨_, rfl⟩
  have hb : Below w.heap.size w W := by rw [hW]; exact (Below.refl _ w).alloc (Nat.le_refl _) _
  have hr : W.heap[w.heap.size]? = some (.cells #[.int .i64 0, .int .i64 0, .int .i64 0, .int .i64 0, .int .i64 0, .int .i64 0] 80 (0, 0)) := by rw [hW]; exact heap_alloc_new _ _
  have hz : W.heap.size = w.heap.size + 1 := by rw [hW]; simp
  have HAB := Lib.hid (allBelow_any zs (m : Int) A n c W (h.below hb (Nat.le_refl _)))
  have HSL := Lib.hid (fun V (hV : Below w.heap.size w V) => h.below hV (Nat.le_refl _))
  have HB := Lib.hid hb
  have HR := Lib.hid hr
  have HZ := Lib.hid hz
  have HW := Lib.hid hW
  have HS6 : Hid ((Try.prog.info? 80).map (·.size) = some (#[Value.int .i64 0, Value.int .i64 0, Value.int .i64 0, Value.int .i64 0, Value.int .i64 0, Value.int .i64 0] : Array Value).size) := Try.sizeOrd
  clear hW hb hr hz h
  by_cases hnm : n = m
  · have gnm : ((n : Int) != (m : Int)) = false := by simp; omega
    rcases hbl : belB zs (m : Int) with _ | _
    · have HX : Hid (okO zs m = false) := by unfold okO; rw [Hid, hbl, Bool.and_false]; rfl
      rw [hbl] at HAB
      clear hbl hnm
      go_enter Try.func68, Try.ntmps68
      go_wp2_with (first
        | (go_at_call 72; rw [← HW.out]; refine HAB.out.mono ?_; rintro e w1 ⟨rfl, hb1⟩; have HB1 := Lib.hid (HB.out.trans (hb1.mono HB.out.size)); have HR1 := Lib.hid ((hb1.block _ (by rw [HZ.out]; omega)).trans HR.out); clear hb1)
        | (refine wpList_store_row (by rfl) 80 (.tmp 4) (.tmp 20) (by rfl) w.heap.size _ (by rfl) (by rfl) 80 _ HR1.out HS6.out (by rfl) (by simp [Value.oneCell']) ?_))
      obtain ⟨W6, hW6, r6, _, b6⟩ := row_setO #[Value.int .i64 0, Value.int .i64 0, Value.int .i64 0, Value.int .i64 0, Value.int .i64 0, Value.int .i64 0] HR1.out
      rw [← hW6]
      refine bodyPost_ret (results_row_tmp (by rfl) _ _ w.heap.size 80 _ (0, 0) _ (by rfl) r6 Try.underlying80 (by rfl) HS6.out _ (by rfl)) (by rfl) ⟨.inr ⟨HX.out, rfl⟩, HB1.out.trans (b6 _ (Nat.le_refl _))⟩
    · rw [hbl] at HAB
      have HBL : Hid (∀ k, k < n → ∃ r : Nat, atI zs k = (r : Int) ∧ r < m) := fun k hk => by
        have := allB_iff.1 (show allB (fun j => lowB (m : Int) (atI zs j)) zs.length = true from hbl) k (by rw [HL.out]; exact hk)
        unfold lowB at this
        rw [Bool.and_eq_true, decide_eq_true_iff, decide_eq_true_iff] at this
        exact ⟨(atI zs k).toNat, by omega, by omega⟩
      have HOK : Hid (∀ b, allB (fun k => decide (ixI (zs.take k) (atI zs k) < 0)) n = b → okO zs m = b) := fun b hb => by
        unfold okO
        rw [hbl, HL.out, hb, decide_eq_true hnm]; rfl
      have HNM := Lib.hid hnm
      have HFO := Lib.hid (fun V => firstOrder_any V)
      have HPD : Hid (row6 (oF zs n) = oC (padO zs)) := by
        have := oF_end (zs := zs) (by rw [HL.out]; omega)
        rw [HL.out] at this
        exact this
      clear hbl hnm
      go_enter Try.func68, Try.ntmps68
      go_upto_region 5 with (first
        | (go_at_call 72; rw [← HW.out]; refine HAB.out.mono ?_; rintro e w1 ⟨rfl, hb1⟩; have HB1 := Lib.hid (HB.out.trans (hb1.mono HB.out.size)); have HR1 := Lib.hid ((hb1.block _ (by rw [HZ.out]; omega)).trans HR.out); have HZ1 : Hid (w.heap.size < w1.heap.size) := (by have := hb1.size; have := HZ.out; rw [Hid]; omega); clear hb1)
        | (go_at_call 57; refine (HFO.out _).mono ?_; rintro e w2 ⟨rfl, hb2⟩; have HB2 := Lib.hid (HB1.out.trans (hb2.mono HB1.out.size)); have HR2 := Lib.hid ((hb2.block _ HZ1.out).trans HR1.out); have HZ2 : Hid (w.heap.size < w2.heap.size) := (Nat.lt_of_lt_of_le HZ1.out hb2.size); clear hb2))
      obtain ⟨W3, hW3⟩ : ∃ v, v = (w2.alloc (.cells (oC o6) 80)).alloc (.cells #[.bool false, .bool false, .bool false, .bool false, .bool false, .bool false] 109) := ⟨_, rfl⟩
      rw [show (w2.alloc (.cells (oC o6) 80)).alloc (.cells #[.bool false, .bool false, .bool false, .bool false, .bool false, .bool false] 109) = W3 from hW3.symm]
      have hb3 : Below w2.heap.size w2 W3 := by rw [hW3]; exact ((Below.refl _ w2).alloc (Nat.le_refl _) _).alloc (by simp) _
      have hro : W3.heap[w2.heap.size]? = some (.cells (row6 (oF zs 0)) 80 (0, 0)) := by
        rw [hW3]
        show ((w2.heap.push _).push _)[w2.heap.size]? = _
        rw [Array.getElem?_push, if_neg (by simp), Array.getElem?_push, if_pos rfl]
        rfl
      have hrs : W3.heap[w2.heap.size + 1]? = some (.cells (row6 (sF zs 0)) 109 (0, 0)) := by
        rw [hW3]
        show ((w2.heap.push _).push _)[w2.heap.size + 1]? = _
        rw [Array.getElem?_push, if_pos (by simp)]
        rfl
      have HRR : Hid (W3.heap[w.heap.size]? = some (.cells #[.int .i64 0, .int .i64 0, .int .i64 0, .int .i64 0, .int .i64 0, .int .i64 0] 80 (0, 0))) := (hb3.block _ HZ2.out).trans HR2.out
      have HBB : Hid (Below w.heap.size w W3) := HB2.out.trans (hb3.mono HB2.out.size)
      have HRO := Lib.hid hro
      have HRS := Lib.hid hrs
      have hz2 := HZ2.out
      clear hW3 hb3 hro hrs HB1 HR1 HZ1 HB2 HR2 HAB HFO HB HR HW HZ
      generalize hgg : w2.heap.size = g at *
      clear hgg
      go_wp2
      go_loopw [24] (fun i w' => ∃ k : Nat, k ≤ n ∧ i = .int .i64 (k : Int) ∧ Hid (w'.heap[w.heap.size]? = some (.cells #[.int .i64 0, .int .i64 0, .int .i64 0, .int .i64 0, .int .i64 0, .int .i64 0] 80 (0, 0))) ∧ Hid (w'.heap[g]? = some (.cells (row6 (oF zs k)) 80 (0, 0))) ∧ Hid (w'.heap[g + 1]? = some (.cells (row6 (sF zs k)) 109 (0, 0))) ∧ Hid (Below w.heap.size w w') ∧ Hid (∀ j, j < k → decide (ixI (zs.take j) (atI zs j) < 0) = true)) (fun i _ => n - (intOf i).toNat)
      case atStart => exact ⟨0, by omega, by go_num, HRR.out, HRO.out, HRS.out, HBB.out, fun j hj => absurd hj (Nat.not_lt_zero _)⟩
      case round =>
        obtain ⟨k, hk, rfl, H0, H1, H2, H3, H4⟩ := hrel
        obtain ⟨wo, rfl⟩ : ∃ wo : World, wo = wr := ⟨_, rfl⟩
        clear HRR HRO HRS HBB
        by_cases hlt : k < n
        · have i1 : (k : Int) < (n : Int) := by omega
          have hk6 : k < 6 := by have := HNM.out; omega
          obtain ⟨r, hr, hrm⟩ := HBL.out k hlt
          have hr6 : r < 6 := by omega
          obtain ⟨b, off, rfl, hc⟩ := (HSL.out wo H3.out).at_ hlt
          rw [show zs[k]?.getD 0 = (r : Int) from hr] at hc
          have c1 : wo.cell? ⟨g + 1, r, none⟩ = some (sF zs k r) := cell_in H2.out (row6_at _ hr6)
          have f1 : wo.frozen? ⟨g + 1, r, none⟩ = false := frz H2.out
          have i2 : (r : Int) < 6 := by omega
          have i3 : (k : Int) < 6 := by omega
          have HIX : Hid (decide (ixI (zs.take k) (atI zs k) < 0) = !decide ((r : Int) ∈ zs.take k)) := by rw [Hid, ixI_neg, hr]
          have HS : Hid (sF zs k r = .bool (decide ((r : Int) ∈ zs.take k))) := rfl
          rw [HS.out] at c1
          rcases hmem : decide ((r : Int) ∈ zs.take k) with _ | _
          · rw [hmem] at c1 HIX
            have HAL : Hid (∀ j, j < k + 1 → decide (ixI (zs.take j) (atI zs j) < 0) = true) := fun j hj => by
              by_cases e : j = k
              · rw [e]; exact HIX.out
              · exact H4.out j (by omega)
            have hlk : k < zs.length := by rw [HL.out]; exact hlt
            obtain ⟨V1, hV1⟩ : ∃ v, v = wo.setCell ⟨g + 1, r, none⟩ (.bool true) := ⟨_, rfl⟩
            have hs1 : V1.heap[g + 1]? = some (.cells (row6 (sF zs (k + 1))) 109 (0, 0)) := by rw [hV1, set_row6 H2.out hr6, sF_step hlk hr]
            have ho1 : V1.heap[g]? = some (.cells (row6 (oF zs k)) 80 (0, 0)) := by rw [hV1, set_oth (by omega)]; exact H1.out
            have hz1 : V1.heap[w.heap.size]? = some (.cells #[.int .i64 0, .int .i64 0, .int .i64 0, .int .i64 0, .int .i64 0, .int .i64 0] 80 (0, 0)) := by rw [hV1, set_oth (by omega)]; exact H0.out
            have hbV : Below w.heap.size w V1 := by rw [hV1]; exact H3.out.setCell (p := ⟨g + 1, r, none⟩) (by show w.heap.size ≤ g + 1; omega) _
            have c2 : V1.cell? ⟨g, k, none⟩ = some (oF zs k k) := cell_in ho1 (row6_at _ hk6)
            have f2 : V1.frozen? ⟨g, k, none⟩ = false := frz ho1
            obtain ⟨V2, hV2⟩ : ∃ v, v = V1.setCell ⟨g, k, none⟩ (.int .i64 (r : Int)) := ⟨_, rfl⟩
            have HO2 : Hid (V2.heap[g]? = some (.cells (row6 (oF zs (k + 1))) 80 (0, 0))) := by rw [hV2, Hid, set_row6 ho1 hk6, ← hr, oF_step]
            have HS2 : Hid (V2.heap[g + 1]? = some (.cells (row6 (sF zs (k + 1))) 109 (0, 0))) := by rw [hV2, Hid, set_oth (by omega)]; exact hs1
            have HZ2' : Hid (V2.heap[w.heap.size]? = some (.cells #[.int .i64 0, .int .i64 0, .int .i64 0, .int .i64 0, .int .i64 0, .int .i64 0] 80 (0, 0))) := by rw [hV2, Hid, set_oth (by omega)]; exact hz1
            have HB2' : Hid (Below w.heap.size w V2) := by rw [hV2, Hid]; exact hbV.setCell (p := ⟨g, k, none⟩) (by show w.heap.size ≤ g; omega) _
            have HV1 := Lib.hid hV1
            have HV2 := Lib.hid hV2
            rw [hV1] at c2 f2
            clear hmem hr hV1 hs1 ho1 hz1 hbV hV2 HIX HS hlk
            go_wp2
            rw [← HV1.out, ← HV2.out]
            exact ⟨⟨k + 1, by omega, by go_num, HZ2'.out, HO2.out, HS2.out, HB2'.out, HAL.out⟩, by simp [intOf]; omega⟩
          · rw [hmem] at c1 HIX
            have HX : Hid (okO zs m = false) := HOK.out _ (allB_bad (p := fun k => decide (ixI (zs.take k) (atI zs k) < 0)) hlt HIX.out).symm
            clear hmem hr HIX HS
            go_wp2_with (refine wpList_store_row (by rfl) 80 (.tmp 4) (.tmp 32) (by rfl) w.heap.size _ (by rfl) (by rfl) 80 _ H0.out HS6.out (by rfl) (by simp [Value.oneCell']) ?_)
            obtain ⟨W6, hW6, r6, _, b6⟩ := row_setO #[Value.int .i64 0, Value.int .i64 0, Value.int .i64 0, Value.int .i64 0, Value.int .i64 0, Value.int .i64 0] H0.out
            rw [← hW6]
            refine bodyPost_ret (results_row_tmp (by rfl) _ _ w.heap.size 80 _ (0, 0) _ (by rfl) r6 Try.underlying80 (by rfl) HS6.out _ (by rfl)) (by rfl) ⟨.inr ⟨HX.out, rfl⟩, H3.out.trans (b6 _ (Nat.le_refl _))⟩
        · have hkn : k = n := by omega
          have HX : Hid (okO zs m = true) := HOK.out _ (allB_good (p := fun k => decide (ixI (zs.take k) (atI zs k) < 0)) (by rw [← hkn]; exact H4.out)).symm
          have i1 : ¬ (k : Int) < (n : Int) := by omega
          have hro := H1.out
          rw [hkn, HPD.out] at hro
          have e0 := cell_in hro (i := 0) rfl
          have e1 := cell_in hro (i := 1) rfl
          have e2 := cell_in hro (i := 2) rfl
          have e3 := cell_in hro (i := 3) rfl
          have e4 := cell_in hro (i := 4) rfl
          have e5 := cell_in hro (i := 5) rfl
          have HSZ : Hid ((Try.prog.info? 80).map (·.size) = some (oC (padO zs)).size) := Try.sizeOrd
          clear hkn hro
          go_wp2_with (refine wpList_store_row (by rfl) 80 (.tmp 4) (.tmp 39) (by rfl) w.heap.size (oC (padO zs)) (by rfl) (by rfl) 80 _ H0.out HSZ.out (by rfl) (by simp [Value.oneCell']) ?_)
          obtain ⟨W6, hW6, r6, _, b6⟩ := row_setO (oC (padO zs)) H0.out
          rw [← hW6]
          refine bodyPost_ret (results_row_tmp (by rfl) _ _ w.heap.size 80 (oC (padO zs)) (0, 0) _ (by rfl) r6 Try.underlying80 (by rfl) HSZ.out _ (by rfl)) (by rfl) ⟨.inl ⟨HX.out, rfl⟩, H3.out.trans (b6 _ (Nat.le_refl _))⟩
  · have gnm : ((n : Int) != (m : Int)) = true := by simp; omega
    have HX : Hid (okO zs m = false) := by unfold okO; rw [Hid, HL.out, decide_eq_false hnm]; rfl
    clear hnm HAB
    go_enter Try.func68, Try.ntmps68
    have c0 := cell_in HR.out (i := 0) rfl
    go_upto_region 2 with (fail)
    rw [← HW.out]
    go_wp2_with (refine wpList_store_row (by rfl) 80 (.tmp 4) (.tmp 20) (by rfl) w.heap.size _ (by rfl) (by rfl) 80 _ HR.out HS6.out (by rfl) (by simp [Value.oneCell']) ?_)
    obtain ⟨W6, hW6, r6, _, b6⟩ := row_setO #[Value.int .i64 0, Value.int .i64 0, Value.int .i64 0, Value.int .i64 0, Value.int .i64 0, Value.int .i64 0] HR.out
    rw [← hW6]
    refine bodyPost_ret (results_row_tmp (by rfl) _ _ w.heap.size 80 _ (0, 0) _ (by rfl) r6 Try.underlying80 (by rfl) HS6.out _ (by rfl)) (by rfl) ⟨.inr ⟨HX.out, rfl⟩, HB.out.trans (b6 _ (Nat.le_refl _))⟩
theorem orderOf_is (zs : List Int) (m : Nat) (A : Option Addr) (n c : Nat) (w : World) (h : Sl w A n c zs) (hm : m ≤ 6) :
    Calls Try.prog 68 #[.slice A n c, .int .i64 (m : Int)] w fun e w' => (∃ o, e = .returned (.tuple #[oV o, .bool (okO zs m)]) ∧ o.length = 6 ∧ (okO zs m = true → o = padO zs)) ∧ Below w.heap.size w w' := by
  refine (orderOf_any zs m A n c w h hm).mono ?_
  rintro e w' ⟨⟨h1, rfl⟩ | ⟨h1, rfl⟩, hb⟩
  · refine ⟨⟨padO zs, by rw [h1], padO_len ?_, fun _ => rfl⟩, hb⟩
    unfold okO at h1
    rw [Bool.and_eq_true, Bool.and_eq_true, decide_eq_true_iff] at h1
    omega
  · exact ⟨⟨z6, by rw [h1], rfl, fun e => by rw [h1] at e; cases e⟩, hb⟩
end Go.Proofs.Ytcnjkdkkflpgnaa
