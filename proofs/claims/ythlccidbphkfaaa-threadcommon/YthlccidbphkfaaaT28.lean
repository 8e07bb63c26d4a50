import Derived.Test.YthlccidbphkfaaaT27
import Derived.Test.YthlccidbphkfaaaT01
import Derived.Test.YthlccidbphkfaaaT22
/- Layer 3: the reference's Longest. -/
namespace Go.Proofs.Ythlccidbphkfaaa
open Go.RowKit
set_option linter.unusedVariables false

theorem Try.infoRow : (Try.prog.info? 23).map (fun i => (i.zero, i.size, i.bytes)) = some (some (.slice none 0 0), 1, 24) := by kernel_rfl
/-- The call owns the slice v of slices. -/
def Owr (w : World) (B : Nat) (v : Value) (vs : List Value) : Prop := w.ownsRow B 23 1 v vs.length vs
theorem Owr.cellAt {w : World} {B g n cap : Nat} {vs : List Value} (h : Owr w B (.slice (some ⟨g, 0, none⟩) n cap) vs) (hn : vs.length = n) {k : Nat} {x : Value} (hk : vs[k]? = some x) : w.cell? ⟨g, k, none⟩ = some x := by
  subst hn
  have h' : w.ownsRow B 23 1 (.slice (some ⟨g, 0, none⟩) vs.length cap) vs.length vs := h
  obtain ⟨hk1, hk2⟩ := List.getElem?_eq_some_iff.1 hk
  rw [h'.cellAt k (by omega), hk]
theorem Owr.free {w : World} {B g n cap : Nat} {vs : List Value} (h : Owr w B (.slice (some ⟨g, 0, none⟩) n cap) vs) (hn : vs.length = n) (k : Nat) : w.frozen? ⟨g, k, none⟩ = false := by
  subst hn
  have h' : w.ownsRow B 23 1 (.slice (some ⟨g, 0, none⟩) vs.length cap) vs.length vs := h
  exact h'.frozenAt k
theorem Owr.put {w : World} {B g n cap : Nat} {vs : List Value} (h : Owr w B (.slice (some ⟨g, 0, none⟩) n cap) vs) (hn : vs.length = n) (j : Nat) (x : Value) :
    Owr (w.setCell ⟨g, j, none⟩ x) B (.slice (some ⟨g, 0, none⟩) n cap) (vs.set j x) := by
  subst hn
  have h' : w.ownsRow B 23 1 (.slice (some ⟨g, 0, none⟩) vs.length cap) vs.length vs := h
  have := (h'.stored j x).1
  unfold Owr
  rw [List.length_set]
  exact this
theorem maker_law {P : Program} (w : World) {ops : Array Oper} {rest : List Oper} {o : Oper} {a : Act} {Q : Exit → Act → World → Prop}
    (hg : o.guard = none) (l c : Operand) (t : TypeId) (hop : o.op = Op.makeSlice t l c)
    (B : Nat) (i : TypeInfo) (ht : P.underlying t = some (.slice 23)) (hI : P.info? 23 = some i ∧ i.zero = some (.slice none 0 0) ∧ i.size = 1 ∧ i.bytes = 24)
    (L C : Int) (n : Nat) (hl : a.eval l = .int .i64 L) (hc : a.eval c = .int .i64 C) (hL : L = (n : Int)) (hC : C = (n : Int)) (hn : n ≤ 1000000) (hB : B ≤ w.heap.size)
    (hK : ∀ w', Owr w' B (.slice (some ⟨w.heap.size, 0, none⟩) n n) (List.replicate n (.slice none 0 0)) → w.grownBy w' none → wpList P ops Q rest (a.put o.dst (.slice (some ⟨w.heap.size, 0, none⟩) n n)) w') :
    wpList P ops Q (o :: rest) a w := by
  obtain ⟨h1, h2, h3, h4⟩ := hI
  refine wpList_make_full w hg l c t hop B 23 i _ 1 ht h1 h2 h3 .i64 .i64 L C n hl hc hL hC (by rw [h4]; omega) (by unfold maxLen; omega) hB fun w' ho hgr => hK w' ?_ hgr
  have hcs : (Value.slice none 0 0).cells = #[.slice none 0 0] := rfl
  rw [hcs, Nat.mul_one, toList_madeCells_one] at ho
  unfold Owr
  rw [List.length_replicate]
  exact ho
/-- A row whose places from b on are done. -/
def rowL (us ws : List Int) (i b : Nat) : List Int := (List.range (ws.length + 1)).map fun k => if b ≤ k then (lcs us ws i k : Int) else 0
theorem rowL_len (us ws : List Int) (i b : Nat) : (rowL us ws i b).length = ws.length + 1 := by simp [rowL]
theorem rowL_at {us ws : List Int} {i b k : Nat} (hk : k ≤ ws.length) : (rowL us ws i b)[k]?.getD 0 = if b ≤ k then (lcs us ws i k : Int) else 0 := by
  unfold rowL
  rw [List.getElem?_map, List.getElem?_range (by omega)]
  rfl
theorem rowL_end {us ws : List Int} {i : Nat} (hi : i ≤ us.length) : List.replicate (ws.length + 1) 0 = rowL us ws i ws.length := by
  refine List.ext_getElem (by rw [rowL_len, List.length_replicate]) fun k h1 h2 => ?_
  rw [List.getElem_replicate]
  simp only [rowL, List.getElem_map, List.getElem_range]
  rw [rowL_len] at h2
  split
  · rw [lcs_end hi (by omega) (.inr (by omega))]; rfl
  · rfl
theorem rowL_last {us ws : List Int} {b : Nat} : rowL us ws us.length b = rowL us ws us.length 0 := by
  unfold rowL
  refine List.map_congr_left fun k hk => ?_
  have := List.mem_range.1 hk
  rw [lcs_end (Nat.le_refl _) (by omega) (.inl rfl)]
  split <;> simp
theorem rowL_put {us ws : List Int} {i k : Nat} (hk : k < ws.length) {x : Int} (hx : x = (lcs us ws i k : Int)) : (rowL us ws i (k + 1)).set k x = rowL us ws i k := by
  refine List.ext_getElem (by rw [List.length_set, rowL_len, rowL_len]) fun j h1 h2 => ?_
  rw [List.getElem_set]
  simp only [rowL, List.getElem_map, List.getElem_range]
  by_cases e : k = j
  · subst e
    rw [if_pos rfl, if_pos (Nat.le_refl _)]; exact hx
  · rw [if_neg e]
    by_cases h : k + 1 ≤ j
    · rw [if_pos h, if_pos (by omega)]
    · rw [if_neg h, if_neg (by omega)]
/-- The table: its rows from a on are done. -/
structure BtI (us ws : List Int) (m n : Nat) (w : World) (a : Nat) (wr : World) : Prop where
  tabO : ∃ vs : List Value, vs.length = m + 1 ∧ Owr wr w.heap.size (.slice (some ⟨w.heap.size, 0, none⟩) (m + 1) (m + 1)) vs ∧ ∀ i, a ≤ i → i ≤ m → ∃ r, vs[i]? = some (.slice (some ⟨r, 0, none⟩) (n + 1) (n + 1)) ∧ w.heap.size < r ∧ r < wr.heap.size ∧ ∀ k, k ≤ n → wr.cell? ⟨r, k, none⟩ = some (.int .i64 (lcs us ws i k : Int))
  bl : Below w.heap.size w wr
theorem BtI.row {us ws : List Int} {m n : Nat} {w : World} {a : Nat} {wr : World} (h : BtI us ws m n w a wr) {i : Nat} (hi : a ≤ i) (him : i ≤ m) : ∃ r, wr.cell? ⟨w.heap.size, i, none⟩ = some (.slice (some ⟨r, 0, none⟩) (n + 1) (n + 1)) ∧ w.heap.size < r ∧ r < wr.heap.size ∧ ∀ k, k ≤ n → wr.cell? ⟨r, k, none⟩ = some (.int .i64 (lcs us ws i k : Int)) := by
  obtain ⟨vs, h1, h2, h3⟩ := h.tabO
  obtain ⟨r, h4, h5⟩ := h3 i hi him
  exact ⟨r, h2.cellAt h1 h4, h5⟩
theorem BtI.below {us ws : List Int} {m n : Nat} {w : World} {a : Nat} {wr w' : World} (h : BtI us ws m n w a wr) (hb : Below wr.heap.size wr w') : BtI us ws m n w a w' := by
  obtain ⟨vs, h1, h2, h3⟩ := h.tabO
  refine ⟨⟨vs, h1, rows_below h2 hb, fun i hi him => ?_⟩, h.bl.trans (hb.mono h.bl.size)⟩
  obtain ⟨r, h4, h5, h6, h7⟩ := h3 i hi him
  exact ⟨r, h4, h5, Nat.lt_of_lt_of_le h6 hb.size, fun k hk => (World.cell?_of_block (a := ⟨r, k, none⟩) (hb.block r h6)).trans (h7 k hk)⟩
/-- One row more. -/
theorem BtI.more {us ws : List Int} {m n : Nat} {w : World} {i r : Nat} {wr : World} (h : BtI us ws m n w (i + 1) wr) (him : i ≤ m) (hr : w.heap.size < r) (hr2 : r < wr.heap.size) (hc : ∀ k, k ≤ n → wr.cell? ⟨r, k, none⟩ = some (.int .i64 (lcs us ws i k : Int))) :
    BtI us ws m n w i (wr.setCell ⟨w.heap.size, i, none⟩ (.slice (some ⟨r, 0, none⟩) (n + 1) (n + 1))) := by
  obtain ⟨vs, h1, h2, h3⟩ := h.tabO
  have hsz : (wr.setCell ⟨w.heap.size, i, none⟩ (.slice (some ⟨r, 0, none⟩) (n + 1) (n + 1))).heap.size = wr.heap.size := by simp [World.setCell]
  have hcell : ∀ q k, q ≠ w.heap.size → (wr.setCell ⟨w.heap.size, i, none⟩ (.slice (some ⟨r, 0, none⟩) (n + 1) (n + 1))).cell? ⟨q, k, none⟩ = wr.cell? ⟨q, k, none⟩ := fun q k hq => World.cell?_of_block (a := ⟨q, k, none⟩) (Below.heap_setCell _ _ _ _ hq)
  refine ⟨⟨vs.set i (.slice (some ⟨r, 0, none⟩) (n + 1) (n + 1)), by rw [List.length_set]; exact h1, h2.put h1 i _, fun q hq hqm => ?_⟩, h.bl.setCell (p := ⟨w.heap.size, i, none⟩) (Nat.le_refl _) _⟩
  by_cases e : q = i
  · subst e
    refine ⟨r, by rw [List.getElem?_set_self (by omega)], hr, by rw [hsz]; exact hr2, fun k hk => ?_⟩
    rw [hcell r k (by omega)]
    exact hc k hk
  · obtain ⟨r', h4, h5, h6, h7⟩ := h3 q (by omega) hqm
    refine ⟨r', by rw [List.getElem?_set_ne (by omega)]; exact h4, h5, by rw [hsz]; exact h6, fun k hk => ?_⟩
    rw [hcell r' k (by omega)]
    exact h7 k hk
end Go.Proofs.Ythlccidbphkfaaa
/- Layer 3: contract: the reference's Longest. -/
namespace Go.Proofs.Ythlccidbphkfaaa
open Go.RowKit
set_option linter.unusedVariables false

theorem BtI.cellT {us ws : List Int} {m n : Nat} {w : World} {a : Nat} {wr : World} (h : BtI us ws m n w a wr) {i : Nat} (him : i ≤ m) : (∃ x, wr.cell? ⟨w.heap.size, i, none⟩ = some x) ∧ wr.frozen? ⟨w.heap.size, i, none⟩ = false := by
  obtain ⟨vs, h1, h2, h3⟩ := h.tabO
  exact ⟨⟨vs[i], h2.cellAt h1 (List.getElem?_eq_getElem (by omega))⟩, h2.free h1 i⟩
theorem BtI.lt {us ws : List Int} {m n : Nat} {w : World} {a : Nat} {wr : World} (h : BtI us ws m n w a wr) : w.heap.size < wr.heap.size := by
  obtain ⟨vs, h1, h2, h3⟩ := h.tabO
  exact (World.ownsRow.lt h2 w.heap.size rfl).2
set_option maxRecDepth 100000 in
set_option maxHeartbeats 3200000 in
theorem longestR_any (u s : ByteArray) (w : World) (hu : wordB (bs u) = true) (hs : wordB (bs s) = true) :
    Calls Try.prog 22 #[.string u, .string s] w fun e w' => (∃ o : ByteArray, e = .returned (.string o) ∧ IsG (bs u) (bs s) 0 0 (bs o)) ∧ Below w.heap.size w w' := by
  obtain ⟨i0, hi, hz0, hz1, hz2⟩ := info_parts Try.infoInt
  have HII : Hid (Try.prog.info? 3 = some i0 ∧ i0.zero = some (.int .i64 0) ∧ i0.size = 1 ∧ i0.bytes = 8) := ⟨hi, hz0, hz1, hz2⟩
  clear hi hz0 hz1 hz2
  obtain ⟨i1, hi, hz0, hz1, hz2⟩ := info_parts Try.infoRow
  have HIR : Hid (Try.prog.info? 23 = some i1 ∧ i1.zero = some (.slice none 0 0) ∧ i1.size = 1 ∧ i1.bytes = 24) := ⟨hi, hz0, hz1, hz2⟩
  clear hi hz0 hz1 hz2
  have hu60 := word_size hu
  have hs60 := word_size hs
  have HLU := Lib.hid (fun k hk => letter_of hu (k := k) hk)
  have HLS := Lib.hid (fun k hk => letter_of hs (k := k) hk)
  have HWU : Hid (isW 4 (bs u)) := by
    unfold wordB at hu; rw [Bool.and_eq_true] at hu
    intro b hb
    obtain ⟨i, hi, e⟩ := List.mem_iff_getElem.1 hb
    have := lettersB_iff.1 hu.2 i hi
    rw [List.getElem?_eq_getElem hi, Option.getD_some, e] at this
    omega
  obtain ⟨m, hm⟩ : ∃ m, u.size = m := ⟨_, rfl⟩
  obtain ⟨n, hn⟩ : ∃ n, s.size = n := ⟨_, rfl⟩
  have HUL : Hid ((bs u).length = m) := by rw [Hid, bs_len, hm]
  have HSL : Hid ((bs s).length = n) := by rw [Hid, bs_len, hn]
  clear hu hs
  go_enter Try.func22, Try.ntmps22
  go_wp2_with (at_make; go_must (refine maker_law _ rfl (.tmp 17) (.tmp 17) 83 rfl w.heap.size i1 Try.underlying83 HIR.out _ _ (m + 1) rfl rfl (by omega) (by omega) (by omega) (Nat.le_refl _) ?_); intro w1 hv1 hg1; have HV1 := Lib.hid hv1; clear hv1; have HG1 := Lib.hid hg1; clear hg1)
  have HB1 : Hid (BtI (bs u) (bs s) m n w (m + 1) w1) := ⟨⟨_, List.length_replicate, HV1.out, fun i h1 h2 => by omega⟩, (Below.refl w.heap.size w).grown HG1.out (Nat.le_refl _) (by simp)⟩
  clear HV1 HG1
  have hu1 : (u.size : Int) = (m : Int) := by omega
  have hs1 : (s.size : Int) = (n : Int) := by omega
  go_loopw [6, 7, 8] (fun i _ _ w' => ∃ a : Nat, a ≤ m + 1 ∧ i = .int .i64 ((a : Int) - 1) ∧ Hid (BtI (bs u) (bs s) m n w a w')) (fun i _ _ _ => (intOf i + 1).toNat)
  case atStart => exact ⟨m + 1, by omega, by first | (rw [← hu1]; done) | go_num, HB1⟩
  case round =>
    obtain ⟨a, ha, rfl, HI⟩ := hrel
    obtain ⟨wo, rfl⟩ : ∃ wo : World, wo = wr := ⟨_, rfl⟩
    clear HB1
    cases a with
    | zero =>
      have hbw := HI.out.bl
      have HBW := Lib.hid hbw
      clear hbw
      go_wp2
      go_loopw [9, 10, 11] (fun o i k w' => ∃ (I K : Nat) (out : ByteArray), I ≤ m ∧ K ≤ n ∧ out.size ≤ I ∧ o = .string out ∧ i = .int .i64 (I : Int) ∧ k = .int .i64 (K : Int) ∧ Hid (∀ z, IsG (bs u) (bs s) I K z → IsG (bs u) (bs s) 0 0 (bs out ++ z)) ∧ Hid (Below wo.heap.size wo w')) (fun _ i _ _ => 61 - (intOf i).toNat)
      case atStart => exact ⟨0, 0, ⟨#[]⟩, by omega, by omega, by decide, rfl, by go_num, by go_num, fun z hz => hz, Below.refl _ _⟩
      case round =>
        obtain ⟨I, K, out, hI, hK, hoz, rfl, rfl, rfl, HG, HW⟩ := hrel
        obtain ⟨wi, rfl⟩ : ∃ wi : World, wi = wr := ⟨_, rfl⟩
        obtain ⟨L, hL⟩ : ∃ L, L = lcs (bs u) (bs s) I K := ⟨_, rfl⟩
        have hL60 : L ≤ 60 := by
          have := lcs_bound (u := bs u) (w := bs s) (i := I) (k := K) (by rw [HUL.out]; exact hI) (by rw [HSL.out]; exact hK)
          rw [HUL.out] at this; omega
        have HCT : Hid (∀ x y V, x ≤ m → y ≤ n → Below wo.heap.size wo V → ∃ r, V.cell? ⟨w.heap.size, x, none⟩ = some (.slice (some ⟨r, 0, none⟩) (n + 1) (n + 1)) ∧ V.cell? ⟨r, y, none⟩ = some (.int .i64 (lcs (bs u) (bs s) x y : Int))) := fun x y V hx hy hV => by
          obtain ⟨r, c1, c2, c3, c4⟩ := (HI.out.below hV).row (i := x) (Nat.zero_le _) hx
          exact ⟨r, c1, c4 y hy⟩
        obtain ⟨r0, c1, c2⟩ := HCT.out I K wi hI hK HW.out
        rw [← hL] at c2
        have HLE := Lib.hid hL
        clear hL
        by_cases hz : L = 0
        · have HE := Lib.hid (HG.out [] (.nil (by rw [← HLE.out]; exact hz)))
          subst hz
          go_wp2
          go_ret
          exact ⟨⟨out, rfl, by have := HE.out; rwa [List.append_nil] at this⟩, HBW.out.trans (HW.out.mono HBW.out.size)⟩
        · have g0 : decide ((0 : Int) < (L : Int)) = true := decide_eq_true (by omega)
          have g00 : decide (0 < L) = true := decide_eq_true (by omega)
          go_wp2
          clear g0 g00 c1 c2
          go_loopw [9, 10, 11, 12] (fun o i k c w' => ∃ d : Nat, d ≤ 4 ∧ o = .string out ∧ i = .int .i64 (I : Int) ∧ k = .int .i64 (K : Int) ∧ c = .int .u8 (97 + (d : Int)) ∧ Hid (∀ e, e < d → valL (bs u) (bs s) I K e ≠ lcs (bs u) (bs s) I K) ∧ Hid (Below wo.heap.size wo w')) (fun _ _ _ c _ => 101 - (intOf c).toNat)
          case atStart => exact ⟨0, by omega, rfl, rfl, rfl, by go_num, fun e he => absurd he (by omega), HW⟩
          case round =>
            obtain ⟨d, hd, rfl, rfl, rfl, rfl, HF, HWd⟩ := hrel
            obtain ⟨wd, rfl⟩ : ∃ wd : World, wd = wr := ⟨_, rfl⟩
            have hd4 : d < 4 := val_some (us := bs u) (ws := bs s) (i := I) (j := K) (by rw [HUL.out]; exact hI) (by rw [← HLE.out]; exact hz) HF.out
            have HN1 := Lib.hid (fun W => next_any u I (97 + (d : Int)) W (by omega) (by omega))
            have HN2 := Lib.hid (fun W => next_any s K (97 + (d : Int)) W (by omega) (by omega))
            obtain ⟨r1, hr1⟩ : ∃ r, r = nextF (bs u) I (97 + (d : Int)) := ⟨_, rfl⟩
            obtain ⟨r2, hr2⟩ : ∃ r, r = nextF (bs s) K (97 + (d : Int)) := ⟨_, rfl⟩
            rw [← hr1] at HN1
            rw [← hr2] at HN2
            have hg1 := nextF_rng (bs u) I (97 + (d : Int))
            have hg2 := nextF_rng (bs s) K (97 + (d : Int))
            rw [← hr1, HUL.out] at hg1
            rw [← hr2, HSL.out] at hg2
            have HR1 := Lib.hid hr1
            have HR2 := Lib.hid hr2
            have HNO : Hid (valL (bs u) (bs s) I K d ≠ lcs (bs u) (bs s) I K → ∀ e, e < d + 1 → valL (bs u) (bs s) I K e ≠ lcs (bs u) (bs s) I K) := fun h e he => by
              by_cases ee : e = d
              · subst ee; exact h
              · exact HF.out e (by omega)
            have HV0 : Hid (both (bs u) (bs s) I K d = none → valL (bs u) (bs s) I K d ≠ lcs (bs u) (bs s) I K) := fun h => by
              unfold valL; rw [h, ← HLE.out]; exact fun h => hz h.symm
            have hcu : IntKind.u8.wrap (97 + (d : Int) + 1) = 97 + (d : Int) + 1 := by
              rw [show (97 + (d : Int) + 1) = ((97 + d + 1 : Nat) : Int) from by omega]; exact IntWalk.u8_in _ (by omega)
            clear hr1 hr2
            by_cases h1 : r1 < 0
            · have HF2 := Lib.hid (HNO.out (HV0.out (by unfold both; rw [nx_of_none (by rw [← HR1.out]; exact h1)])))
              have gx : decide (r1 ≥ 0) = false := decide_eq_false (by omega)
              go_wp2_with (first | (go_at_call 54; (with_reducible refine (HN1.out _).mono ?_); rintro e w3 ⟨rfl, rfl⟩) | (go_at_call 54; (with_reducible refine (HN2.out _).mono ?_); rintro e w4 ⟨rfl, rfl⟩))
              go_quiet (fail)
              go_wp2
              refine ⟨?_, by simp [intOf] <;> omega⟩
              repeat apply Exists.intro
              refine ⟨⟨d + 1, by omega, rfl, rfl, rfl, ?_, HF2, below_dn HWd.out _⟩, rfl⟩
              go_num
            · obtain ⟨X, rfl⟩ : ∃ X : Nat, r1 = (X : Int) := ⟨r1.toNat, by omega⟩
              by_cases h2 : r2 < 0
              · have HF2 := Lib.hid (HNO.out (HV0.out (by unfold both; rw [nx_of_none (c := d) (w := bs s) (by rw [← HR2.out]; exact h2)]; cases nx (bs u) I d <;> rfl)))
                have gx : decide (r2 ≥ 0) = false := decide_eq_false (by omega)
                go_wp2_with (first | (go_at_call 54; (with_reducible refine (HN1.out _).mono ?_); rintro e w3 ⟨rfl, rfl⟩) | (go_at_call 54; (with_reducible refine (HN2.out _).mono ?_); rintro e w4 ⟨rfl, rfl⟩))
                go_quiet (fail)
                go_wp2
                refine ⟨?_, by simp [intOf] <;> omega⟩
                repeat apply Exists.intro
                refine ⟨⟨d + 1, by omega, rfl, rfl, rfl, ?_, HF2, below_dn HWd.out _⟩, rfl⟩
                go_num
              · obtain ⟨Y, rfl⟩ : ∃ Y : Nat, r2 = (Y : Int) := ⟨r2.toNat, by omega⟩
                have HBO : Hid (both (bs u) (bs s) I K d = some (X, Y)) := both_of (nx_of HR1.out.symm) (nx_of HR2.out.symm)
                have hXm : X ≤ m := by omega
                have hYn : Y ≤ n := by omega
                have hIX : I < X := by omega
                obtain ⟨E, hE⟩ : ∃ E, E = lcs (bs u) (bs s) X Y := ⟨_, rfl⟩
                have hE60 : E ≤ 60 := by
                  have := lcs_bound (u := bs u) (w := bs s) (i := X) (k := Y) (by rw [HUL.out]; exact hXm) (by rw [HSL.out]; exact hYn)
                  rw [HUL.out] at this; omega
                obtain ⟨rx, x1, x2⟩ := HCT.out X Y wd hXm hYn HWd.out
                obtain ⟨ri, y1, y2⟩ := HCT.out I K wd hI hK HWd.out
                rw [← hE] at x2
                rw [← HLE.out] at y2
                have HVV : Hid (valL (bs u) (bs s) I K d = 1 + E) := by rw [Hid, valL_both HBO.out, hE]
                have HEE := Lib.hid hE
                clear hE
                by_cases hEL : 1 + E = L
                · have HGX : Hid (∀ z, IsG (bs u) (bs s) X Y z → IsG (bs u) (bs s) 0 0 (bs (out ++ chr (97 + d)) ++ z)) := fun z hz => by
                    rw [bs_append, bs_chr (97 + d) (by omega), List.append_assoc, show ((97 + d : Nat) : Int) = 97 + (d : Int) from by omega]
                    exact HG.out _ (.cons hd4 HBO.out (by rw [← HLE.out, ← hEL, HEE.out]) HF.out hz)
                  subst hEL
                  have ge : ((1 + (E : Int)) == ((1 + E : Nat) : Int)) = true := by simp
                  have hz1 : (chr (97 + d)).size = 1 := rfl
                  have HZ : Hid ((out ++ chr (97 + d)).size = out.size + 1) := by rw [Hid, ByteArray.size_append, hz1]
                  have hz2 : out.size + (chr (97 + d)).size ≤ 9223372036854775807 := by omega
                  have hcv := fun q => one_letter (wd.drewN q) (97 + d) (by omega) (97 + (d : Int)) (by omega) wd.heap.size rfl
                  have hDn : Hid (∀ q, Below wo.heap.size wo ((wd.drewN q).alloc (.cells #[.int .u8 (97 + (d : Int))] 5))) := fun q => (below_dn HWd.out q).alloc (below_dn HWd.out q).size _
                  go_wp2_with (first | (go_at_call 54; (with_reducible refine (HN1.out _).mono ?_); rintro e w3 ⟨rfl, rfl⟩) | (go_at_call 54; (with_reducible refine (HN2.out _).mono ?_); rintro e w4 ⟨rfl, rfl⟩))
                  have q1 : IntKind.i64.wrap (1 + (E : Int)) = 1 + (E : Int) := IntWalk.i64_in _ (by omega)
                  go_quiet (fail)
                  go_wp2
                  refine ⟨?_, by simp [intOf] <;> omega⟩
                  repeat apply Exists.intro
                  exact ⟨⟨X, Y, out ++ chr (97 + d), hXm, hYn, by rw [HZ.out]; omega, rfl, rfl, rfl, HGX, hDn.out _⟩, rfl⟩
                · have HF2 := Lib.hid (HNO.out (by rw [HVV.out, ← HLE.out]; exact hEL))
                  have ge : ((1 + (E : Int)) == (L : Int)) = false := by simp; omega
                  go_wp2_with (first | (go_at_call 54; (with_reducible refine (HN1.out _).mono ?_); rintro e w3 ⟨rfl, rfl⟩) | (go_at_call 54; (with_reducible refine (HN2.out _).mono ?_); rintro e w4 ⟨rfl, rfl⟩))
                  have q1 : IntKind.i64.wrap (1 + (E : Int)) = 1 + (E : Int) := IntWalk.i64_in _ (by omega)
                  go_quiet (fail)
                  go_wp2
                  refine ⟨?_, by simp [intOf] <;> omega⟩
                  repeat apply Exists.intro
                  refine ⟨⟨d + 1, by omega, rfl, rfl, rfl, ?_, HF2, below_dn HWd.out _⟩, rfl⟩
                  go_num
    | succ i =>
      rw [show (((i + 1 : Nat) : Int) - 1) = (i : Int) from by omega]
      have hwo := HI.out.bl.size
      go_wp2_with (at_make; go_must (refine make_law _ rfl (.tmp 27) (.tmp 27) 23 rfl wo.heap.size 3 i0 Try.underlying23 HII.out _ _ (n + 1) rfl rfl (by omega) (by omega) (by omega) (Nat.le_refl _) ?_); intro w2 hv2 hg2; have HV2 := Lib.hid hv2; clear hv2; have HG2 := Lib.hid hg2; clear hg2)
      have HO2 : Hid (Ow w2 wo.heap.size 3 (.slice (some ⟨wo.heap.size, 0, none⟩) (n + 1) (n + 1)) (rowL (bs u) (bs s) i n)) := by
        have := HV2.out
        rw [← HSL.out, rowL_end (us := bs u) (i := i) (by rw [HUL.out]; omega)] at this
        rw [Hid, ← HSL.out]; exact this
      have HB2 : Hid (Below wo.heap.size wo w2) := (Below.refl wo.heap.size wo).grown HG2.out (Nat.le_refl _) (by simp)
      clear HV2 HG2
      go_loopw [8] (fun k w' => ∃ b : Nat, b ≤ n ∧ k = .int .i64 ((b : Int) - 1) ∧ Hid (Ow w' wo.heap.size 3 (.slice (some ⟨wo.heap.size, 0, none⟩) (n + 1) (n + 1)) (rowL (bs u) (bs s) i b)) ∧ Hid (Below wo.heap.size wo w')) (fun k _ => (intOf k + 1).toNat)
      case atStart => exact ⟨n, by omega, by first | (rw [← hs1]; done) | go_num, HO2, HB2⟩
      case round =>
        obtain ⟨b, hb, rfl, HO, HW⟩ := hrel
        obtain ⟨wi, rfl⟩ : ∃ wi : World, wi = wr := ⟨_, rfl⟩
        have HIi := Lib.hid (HI.out.below HW.out)
        by_cases hgo : i < m ∧ 0 < b
        · obtain ⟨k, rfl⟩ : ∃ k, b = k + 1 := ⟨b - 1, by omega⟩
          rw [show (((k + 1 : Nat) : Int) - 1) = (k : Int) from by omega]
          have him : i < m := hgo.1
          have HRLn : Hid ((rowL (bs u) (bs s) i (k + 1)).length = n + 1) := by rw [Hid, rowL_len, HSL.out]
          obtain ⟨r, rc1', rc2, rc3, rc4'⟩ := HI.out.row (i := i + 1) (Nat.le_refl _) (by omega)
          have HCT : Hid (∀ V, Below wo.heap.size wo V → V.cell? ⟨w.heap.size, i + 1, none⟩ = some (.slice (some ⟨r, 0, none⟩) (n + 1) (n + 1)) ∧ ∀ k, k ≤ n → V.cell? ⟨r, k, none⟩ = some (.int .i64 (lcs (bs u) (bs s) (i + 1) k : Int))) := fun V hV =>
            ⟨(World.cell?_of_block (a := ⟨w.heap.size, i + 1, none⟩) (hV.block _ HI.out.lt)).trans rc1', fun k hk => (World.cell?_of_block (a := ⟨r, k, none⟩) (hV.block r rc3)).trans (rc4' k hk)⟩
          obtain ⟨rc1, rc4⟩ := HCT.out wi HW.out
          obtain ⟨A, hA⟩ : ∃ A, A = lcs (bs u) (bs s) i (k + 1) := ⟨_, rfl⟩
          obtain ⟨B, hB⟩ : ∃ B, B = lcs (bs u) (bs s) (i + 1) k := ⟨_, rfl⟩
          obtain ⟨C, hC⟩ : ∃ C, C = lcs (bs u) (bs s) (i + 1) (k + 1) := ⟨_, rfl⟩
          have hbound : ∀ x y, x ≤ m → y ≤ n → lcs (bs u) (bs s) x y ≤ 60 := fun x y hx hy => by
            have := lcs_bound (u := bs u) (w := bs s) (i := x) (k := y) (by rw [HUL.out]; exact hx) (by rw [HSL.out]; exact hy)
            rw [HUL.out] at this; omega
          have hA60 : A ≤ 60 := by rw [hA]; exact hbound _ _ (by omega) (by omega)
          have hB60 : B ≤ 60 := by rw [hB]; exact hbound _ _ (by omega) (by omega)
          have hC60 : C ≤ 60 := by rw [hC]; exact hbound _ _ (by omega) (by omega)
          have d1 := HO.out.cellAt HRLn.out (k := k + 1) (by omega)
          have d0 := HO.out.cellAt HRLn.out (k := k) (by omega)
          have f0 := HO.out.free HRLn.out k
          rw [rowL_at (by rw [HSL.out]; omega), if_pos (Nat.le_refl _), ← hA] at d1
          have e1 := rc4 k (by omega)
          have e2 := rc4 (k + 1) (by omega)
          rw [← hB] at e1
          rw [← hC] at e2
          have HTB : Hid (lcs (bs u) (bs s) i k = max (max A B) (if (bs u)[i]?.getD 0 = (bs s)[k]?.getD 0 then 1 + C else 0)) := by
            rw [hA, hB, hC]; exact lcs_table HWU.out (by rw [HUL.out]; omega) (by rw [HSL.out]; omega)
          have HAE := Lib.hid hA
          have HCE := Lib.hid hC
          have HBE := Lib.hid hB
          clear hA hB hC rc4 hbound rc1' rc4'
          have HST : Hid (∀ (W : World) (zs : List Int) (x : Int), Below wo.heap.size wo W → Ow W wo.heap.size 3 (.slice (some ⟨wo.heap.size, 0, none⟩) (n + 1) (n + 1)) zs → zs.length = n + 1 → Ow (W.setCell ⟨wo.heap.size, k, none⟩ (.int .i64 x)) wo.heap.size 3 (.slice (some ⟨wo.heap.size, 0, none⟩) (n + 1) (n + 1)) (zs.set k x) ∧ Below wo.heap.size wo (W.setCell ⟨wo.heap.size, k, none⟩ (.int .i64 x))) := fun W zs x hW hO hl =>
            ⟨hO.put hl k x, hW.setCell (p := ⟨wo.heap.size, k, none⟩) (Nat.le_refl _) _⟩
          have HS9 : Hid (∀ (V : World) (zs : List Int), Below wo.heap.size wo V → Ow V wo.heap.size 3 (.slice (some ⟨wo.heap.size, 0, none⟩) (n + 1) (n + 1)) zs → zs.length = n + 1 → zs[k + 1]?.getD 0 = (A : Int) → V.cell? ⟨wo.heap.size, k + 1, none⟩ = some (.int .i64 (A : Int)) ∧ (V.cell? ⟨wo.heap.size, k, none⟩ = some (.int .i64 (zs[k]?.getD 0))) ∧ V.frozen? ⟨wo.heap.size, k, none⟩ = false ∧ V.cell? ⟨w.heap.size, i + 1, none⟩ = some (.slice (some ⟨r, 0, none⟩) (n + 1) (n + 1)) ∧ V.cell? ⟨r, k, none⟩ = some (.int .i64 (B : Int)) ∧ V.cell? ⟨r, k + 1, none⟩ = some (.int .i64 (C : Int))) := fun V zs hV hO hl hA => by
            obtain ⟨c1, c2⟩ := HCT.out V hV
            have b1 := hO.cellAt hl (k := k + 1) (by omega)
            rw [hA] at b1
            have b2 := c2 k (by omega)
            have b3 := c2 (k + 1) (by omega)
            rw [← HBE.out] at b2
            rw [← HCE.out] at b3
            exact ⟨b1, hO.cellAt hl (by omega), hO.free hl k, c1, b2, b3⟩
          have HRA : Hid ((rowL (bs u) (bs s) i (k + 1))[k + 1]?.getD 0 = (A : Int)) := by
            rw [Hid, rowL_at (by rw [HSL.out]; omega), if_pos (Nat.le_refl _), ← HAE.out]
          obtain ⟨b1, b2, b3, b4, b5, b6⟩ := HS9.out wi _ HW.out HO.out HRLn.out HRA.out
          have HS10 : Hid (∀ x, (wi.setCell ⟨wo.heap.size, k, none⟩ (.int .i64 x)).cell? ⟨wo.heap.size, k + 1, none⟩ = some (.int .i64 (A : Int)) ∧ (∃ z, (wi.setCell ⟨wo.heap.size, k, none⟩ (.int .i64 x)).cell? ⟨wo.heap.size, k, none⟩ = some (.int .i64 z)) ∧ (wi.setCell ⟨wo.heap.size, k, none⟩ (.int .i64 x)).frozen? ⟨wo.heap.size, k, none⟩ = false ∧ (wi.setCell ⟨wo.heap.size, k, none⟩ (.int .i64 x)).cell? ⟨w.heap.size, i + 1, none⟩ = some (.slice (some ⟨r, 0, none⟩) (n + 1) (n + 1)) ∧ (wi.setCell ⟨wo.heap.size, k, none⟩ (.int .i64 x)).cell? ⟨r, k, none⟩ = some (.int .i64 (B : Int))) := fun x => by
            obtain ⟨p1, p2⟩ := HST.out wi _ x HW.out HO.out HRLn.out
            obtain ⟨c1, c2, c3, c4, c5, c6⟩ := HS9.out _ _ p2 p1 (by rw [List.length_set]; exact HRLn.out) (by rw [set_other (by omega)]; exact HRA.out)
            exact ⟨c1, ⟨_, c2⟩, c3, c4, c5⟩
          clear d1 d0 f0 rc1 e1 e2
          go_upto_region 9 with (fail)
          have q1 : IntKind.i64.wrap ((k : Int) + 1) = (k : Int) + 1 := IntWalk.i64_in _ (by omega)
          have q2 : ((k : Int) + 1).toNat = k + 1 := by omega
          have q3 : (0 : Int) ≤ (k : Int) + 1 := by omega
          have q4 : (k : Int) + 1 < (n : Int) + 1 := by omega
          have q5 : IntKind.i64.wrap ((i : Int) + 1) = (i : Int) + 1 := IntWalk.i64_in _ (by omega)
          have q6 : ((i : Int) + 1).toNat = i + 1 := by omega
          have q7 : (0 : Int) ≤ (i : Int) + 1 := by omega
          have q8 : (i : Int) + 1 < (m : Int) + 1 := by omega
          have q9 : (k : Int) < (n : Int) + 1 := by omega
          go_region_held_law (fun V => V.cell? ⟨wo.heap.size, k + 1, none⟩ = some (.int .i64 (A : Int)) ∧ (∃ z, V.cell? ⟨wo.heap.size, k, none⟩ = some (.int .i64 z)) ∧ V.frozen? ⟨wo.heap.size, k, none⟩ = false ∧ V.cell? ⟨w.heap.size, i + 1, none⟩ = some (.slice (some ⟨r, 0, none⟩) (n + 1) (n + 1)) ∧ V.cell? ⟨r, k, none⟩ = some (.int .i64 (B : Int)))
            (first | assumption | exact ⟨b1, ⟨_, b2⟩, b3, b4, b5⟩ | exact HS10.out _) (fail)
          all_goals
            obtain ⟨x1, hx1⟩ : ∃ x1 : Nat, (if A < B then (B : Int) else (A : Int)) = (x1 : Int) := ⟨max A B, by split <;> omega⟩
            have HX1 : Hid (x1 = max A B) := by
              rw [Hid]
              by_cases h : A < B
              · rw [if_pos h] at hx1; omega
              · rw [if_neg h] at hx1; omega
            have hx60 : x1 ≤ 60 := by rw [HX1.out]; omega
            rw [hx1]
            obtain ⟨p1, p2⟩ := HST.out wi _ (x1 : Int) HW.out HO.out HRLn.out
            have HO9 : Hid (Ow (wi.setCell ⟨wo.heap.size, k, none⟩ (.int .i64 (x1 : Int))).drew wo.heap.size 3 (.slice (some ⟨wo.heap.size, 0, none⟩) (n + 1) (n + 1)) ((rowL (bs u) (bs s) i (k + 1)).set k (x1 : Int))) := p1
            have HW9 : Hid (Below wo.heap.size wo (wi.setCell ⟨wo.heap.size, k, none⟩ (.int .i64 (x1 : Int))).drew) := p2.drew
            clear p1 p2 hx1 b1 b2 b3 b4 b5 b6 HS10
            generalize (wi.setCell ⟨wo.heap.size, k, none⟩ (.int .i64 (x1 : Int))).drew = w9 at HO9 HW9 ⊢
            have HL9 : Hid (((rowL (bs u) (bs s) i (k + 1)).set k (x1 : Int)).length = n + 1) := by rw [Hid, List.length_set]; exact HRLn.out
            obtain ⟨b1, b2, b3, b4, b5, b6⟩ := HS9.out w9 _ HW9.out HO9.out HL9.out (by rw [set_other (by omega)]; exact HRA.out)
            rw [set_at (by rw [HRLn.out]; omega)] at b2
            obtain ⟨cu, cu4, cu1, cu2⟩ := HLU.out i (by omega)
            obtain ⟨cs, cs4, cs1, cs2⟩ := HLS.out k (by omega)
            have hui : (u[i]'(by omega)).toNat = 97 + cu := cu2
            have hsi : (s[k]'(by omega)).toNat = 97 + cs := cs2
            rw [cu1, cs1] at HTB
            by_cases hcc : cu = cs
            · subst hcc
              rw [if_pos rfl] at HTB
              have q10 : IntKind.i64.wrap (1 + (C : Int)) = 1 + (C : Int) := IntWalk.i64_in _ (by omega)
              have gcc : ((97 + (cu : Int)) == (97 + (cu : Int))) = true := by simp
              have HST2 : Hid (∀ q, Ow ((w9.drewN q).setCell ⟨wo.heap.size, k, none⟩ (.int .i64 (lcs (bs u) (bs s) i k : Int))) wo.heap.size 3 (.slice (some ⟨wo.heap.size, 0, none⟩) (n + 1) (n + 1)) (rowL (bs u) (bs s) i k) ∧ Below wo.heap.size wo ((w9.drewN q).setCell ⟨wo.heap.size, k, none⟩ (.int .i64 (lcs (bs u) (bs s) i k : Int)))) := fun q => by
                obtain ⟨p1, p2⟩ := HST.out (w9.drewN q) _ (lcs (bs u) (bs s) i k : Int) (below_dn HW9.out q) HO9.out HL9.out
                rw [List.set_set, rowL_put (by rw [HSL.out]; omega) rfl] at p1
                exact ⟨p1, p2⟩
              have HX2 : Hid ((if (x1 : Int) < 1 + (C : Int) then 1 + (C : Int) else (x1 : Int)) = (lcs (bs u) (bs s) i k : Int)) := by
                rw [Hid, HTB.out, HX1.out]
                split <;> omega
              go_upto_region 10 with (fail)
              go_quiet (fail)
              go_upto_region 11 with (fail)
              go_region_law (fail)
              all_goals
                go_wp2
                rw [HX2.out]
                exact ⟨⟨k, by omega, rfl, (HST2.out _).1, (HST2.out _).2⟩, by simp [intOf] <;> omega⟩
            · have HTE : Hid ((x1 : Int) = (lcs (bs u) (bs s) i k : Int)) := by rw [Hid, HTB.out, if_neg (by omega), HX1.out]; omega
              have HON : Hid (Ow w9 wo.heap.size 3 (.slice (some ⟨wo.heap.size, 0, none⟩) (n + 1) (n + 1)) (rowL (bs u) (bs s) i k)) := by
                have h1 := HO9.out
                rw [rowL_put (by rw [HSL.out]; omega) HTE.out] at h1
                exact h1
              have gcc : ((97 + (cu : Int)) == (97 + (cs : Int))) = false := by simp; omega
              go_upto_region 10 with (fail)
              go_quiet (fail)
              go_wp2
              exact ⟨⟨k, by omega, rfl, HON, below_dn HW9.out _⟩, by simp [intOf] <;> omega⟩
        · have HRL : Hid (rowL (bs u) (bs s) i b = rowL (bs u) (bs s) i 0) := by
            by_cases e : b = 0
            · rw [e]; rfl
            · have : i = (bs u).length := by rw [HUL.out]; omega
              rw [this]; exact rowL_last
          have HO0 : Hid (Ow wi wo.heap.size 3 (.slice (some ⟨wo.heap.size, 0, none⟩) (n + 1) (n + 1)) (rowL (bs u) (bs s) i 0)) := by rw [Hid, ← HRL.out]; exact HO.out
          have him : i ≤ m := by omega
          obtain ⟨⟨xv, hct⟩, hft⟩ := HIi.out.cellT him
          have HM : Hid (BtI (bs u) (bs s) m n w i (wi.setCell ⟨w.heap.size, i, none⟩ (.slice (some ⟨wo.heap.size, 0, none⟩) (n + 1) (n + 1)))) := by
            refine HIi.out.more him HI.out.lt (HO0.out.lt rfl).2 fun k hk => ?_
            have := HO0.out.cellAt (by rw [rowL_len, HSL.out]) (k := k) (by omega)
            rw [rowL_at (by rw [HSL.out]; exact hk), if_pos (Nat.zero_le _)] at this
            exact this
          clear HO HO0 HRL
          by_cases e : b = 0
          · subst e
            go_wp2
            exact ⟨⟨i, by omega, by go_num, HM⟩, by simp [intOf] <;> omega⟩
          · have e2 : i = m := by omega
            subst e2
            go_wp2
            exact ⟨⟨i, by omega, by go_num, HM⟩, by simp [intOf] <;> omega⟩
end Go.Proofs.Ythlccidbphkfaaa
