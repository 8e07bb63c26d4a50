import Derived.Test.YtcnjkdkkflpgnaaT51
import Derived.Test.YtcnjkdkkflpgnaaT44
/- Layer 8: the walk of ShelfRows. -/
namespace Go.Proofs.Ytcnjkdkkflpgnaa
open Go.RowKit Go.Maps
set_option linter.unusedVariables false

theorem tab_id {R : List (List Int)} (hl : R.length ≤ 62) (hr : ∀ o ∈ R, o.length ≤ 8) : tabL R 62 = R := by
  unfold tabL
  rw [List.take_of_length_le hl]
  have h : R.map (fun l => l.take 8) = R.map id := List.map_congr_left fun o ho => List.take_of_length_le (hr o ho)
  rw [h, List.map_id]
set_option maxRecDepth 100000 in
set_option maxHeartbeats 12800000 in
theorem rows_walk (x : Int) (A1 : Option Addr) (n1 c1 : Nat) (zs : List Int) (w : World) (h1 : Sl w A1 n1 c1 zs) :
    Calls Try.prog 6 #[.int .i64 x, .slice A1 n1 c1] w fun e w' => e = .returned (.bool true) ∧ Below w.heap.size w w' := by
  have HLI := Lib.hid (list_sl A1 n1 c1 zs w h1)
  clear h1
  go_enter Try.func6, Try.ntmps6
  go_upto_region 2 with (go_at_call 16; refine HLI.out.mono ?_; rintro e w2 ⟨⟨A3, n3, c3, rfl, hn3, hs3⟩, hb1⟩; have HS3 := Lib.hid hs3; have HN3 := Lib.hid hn3; have HB2 := Lib.hid hb1; clear hs3 hn3 hb1)
  generalize zs.take 201 = l at *
  have HSL := Lib.hid (fun V (hV : Below w2.heap.size w2 V) => HS3.out.below hV (Nat.le_refl _))
  have hn3 := HN3.out
  cases hrb : isRowB x l
  · have HFN : Hid (Calls Try.prog 29 #[.int .i64 x, .slice A3 n3 c3] w2 fun e w' => e = .returned (.tuple #[.int .i64 0, .slice none 0 0, .int .i64 2]) ∧ Below w2.heap.size w2 w') := (frontP_any x l A3 n3 c3 w2 HS3.out).mono fun e w' ⟨h, hb⟩ => by
      rcases h with ⟨h, _⟩ | ⟨_, h⟩
      · rw [hrb] at h; cases h
      · exact ⟨h, hb⟩
    have HID : Hid (∀ V, Below w2.heap.size w2 V → Calls Try.prog 30 #[.int .i64 x, .slice A3 n3 c3] V fun e w' => e = .returned (.tuple #[.int .i64 0, .slice none 0 0, .int .i64 2]) ∧ Below V.heap.size V w') := fun V hV => (ideal_any x l A3 n3 c3 V (HSL.out V hV)).mono fun e w' ⟨h, hb⟩ => by
      rcases h with ⟨h, _⟩ | ⟨_, h⟩
      · rw [hrb] at h; cases h
      · exact ⟨h, hb⟩
    have HRQ : Hid (1 ≤ x → x ≤ 6 → reqB l 60 (x - 1) = false) := fun a b => by rw [← req_row a b]; exact hrb
    clear hrb
    by_cases i1 : x < 1
    · go_wp2_with (first
        | (go_at_call 29; refine HFN.out.mono ?_; rintro e w3 ⟨rfl, hb⟩; have HE3 := Lib.hid hb; have HB3 := Lib.hid (HB2.out.trans (hb.mono HB2.out.size)); clear hb)
        | (go_at_call 30; refine (HID.out _ HE3.out).mono ?_; rintro e w4 ⟨rfl, hb⟩; have HB4 := Lib.hid (HB3.out.trans (hb.mono HB3.out.size)); clear hb)
        | (go_at_call 21; (with_reducible refine (awake_here _).mono ?_); rintro e w5 ⟨rfl, hb⟩; have HB7 := Lib.hid (HB4.out.trans (hb.mono HB4.out.size)); clear hb))
      go_ret
      exact ⟨rfl, HB7.out⟩
    · by_cases i2 : x > 6
      · go_wp2_with (first
          | (go_at_call 29; refine HFN.out.mono ?_; rintro e w3 ⟨rfl, hb⟩; have HE3 := Lib.hid hb; have HB3 := Lib.hid (HB2.out.trans (hb.mono HB2.out.size)); clear hb)
          | (go_at_call 30; refine (HID.out _ HE3.out).mono ?_; rintro e w4 ⟨rfl, hb⟩; have HB4 := Lib.hid (HB3.out.trans (hb.mono HB3.out.size)); clear hb)
          | (go_at_call 21; (with_reducible refine (awake_here _).mono ?_); rintro e w5 ⟨rfl, hb⟩; have HB7 := Lib.hid (HB4.out.trans (hb.mono HB4.out.size)); clear hb))
        go_ret
        exact ⟨rfl, HB7.out⟩
      · have v1 : IntKind.i64.wrap (x - 1) = x - 1 := IntWalk.i64_in _ (by omega)
        have HRE : Hid (∀ V, Below w2.heap.size w2 V → Calls Try.prog 20 #[.slice A3 n3 c3, .int .i64 60, .int .i64 (x - 1)] V fun e w' => e = .returned (.bool false) ∧ V = w') := fun V hV => by
          have := requests_any l 60 (x - 1) A3 n3 c3 V (HSL.out V hV)
          rw [HRQ.out (by omega) (by omega)] at this
          exact this
        go_wp2_with (first
          | (go_at_call 29; refine HFN.out.mono ?_; rintro e w3 ⟨rfl, hb⟩; have HE3 := Lib.hid hb; have HB3 := Lib.hid (HB2.out.trans (hb.mono HB2.out.size)); clear hb)
          | (go_at_call 30; refine (HID.out _ HE3.out).mono ?_; rintro e w4 ⟨rfl, hb⟩; have HE4 := Lib.hid (HE3.out.trans (hb.mono HE3.out.size)); have HB4 := Lib.hid (HB3.out.trans (hb.mono HB3.out.size)); clear hb)
          | (go_at_call 20; refine (HRE.out _ HE4.out).mono ?_; rintro e w5 ⟨rfl, rfl⟩)
          | (go_at_call 21; (with_reducible refine (awake_here _).mono ?_); rintro e w5 ⟨rfl, hb⟩; have HB7 := Lib.hid (HB4.out.trans (hb.mono HB4.out.size)); clear hb))
        go_ret
        exact ⟨rfl, HB7.out⟩
  · obtain ⟨m, rfl, hm1, hm6, hl60, hz⟩ := isRowB_parts hrb
    have HLN : Hid (l.length = n3) := HS3.out.len
    have hz2 := hz
    rw [HLN.out] at hz hl60
    have hl60 : n3 ≤ 60 := by omega
    have i1 : ¬ (m : Int) < 1 := by omega
    have i2 : ¬ (m : Int) > 6 := by omega
    have v1 : IntKind.i64.wrap ((m : Int) - 1) = (m : Int) - 1 := IntWalk.i64_in _ (by omega)
    have HRE : Hid (∀ V, Below w2.heap.size w2 V → Calls Try.prog 20 #[.slice A3 n3 c3, .int .i64 60, .int .i64 ((m : Int) - 1)] V fun e w' => e = .returned (.bool true) ∧ V = w') := fun V hV => by
      have := requests_any l 60 ((m : Int) - 1) A3 n3 c3 V (HSL.out V hV)
      rw [← req_row (by omega) (by omega), hrb] at this
      exact this
    have HFN := Lib.hid (front_sl m n3 c3 l A3 w2 HS3.out hm1 hm6 hl60 hz2)
    have HID := Lib.hid (fun V (hV : Below w2.heap.size w2 V) => ideal_hst m n3 c3 l A3 V (HSL.out V hV) hm1 hm6 hl60 hz2)
    have HFR := Lib.hid (fun V (hV : Below w2.heap.size w2 V) => frontR_any m l A3 n3 c3 V (HSL.out V hV) hm6 hl60 hz)
    have HIR := Lib.hid (fun V (hV : Below w2.heap.size w2 V) => idealR_any m n3 l A3 c3 V (HSL.out V hV) hm1 hm6 hl60 hz)
    have hhi := ideal_his hm1 hm6 HLN.out hz
    have hcs := ideal_is hm1 hm6 HLN.out hz
    rw [cst_ref hm6 (hisB_parts hhi).2 hz n3 (Nat.le_refl _)] at hcs
    have HIL : Hid ((idL m l n3).length = n3 ∧ ∀ k, k < n3 → (ordAt (idL m l n3) k).length ≤ 1099511627776) := ⟨by simp [idL], fun k hk => Nat.le_trans (idL_small m l n3 k hm6) (by omega)⟩
    have HTI : Hid (tabL (idL m l n3) 62 = idL m l n3) := tab_id (by rw [HIL.out.1]; omega) (fun o ho => by
      obtain ⟨k, hk, e⟩ := List.mem_iff_getElem.1 ho
      have h9 := idL_small m l n3 k hm6
      unfold ordAt at h9
      rw [List.getElem?_eq_getElem hk] at h9
      rw [← e]
      exact Nat.le_trans h9 (by omega))
    have HRC : Hid (∀ V (A6 : Option Addr) c6, Below w2.heap.size w2 V → Sll V A6 n3 c6 (idL m l n3) → Calls Try.prog 32 #[.int .i64 (m : Int), .slice A3 n3 c3, .slice A6 n3 c6] V fun e w' => e = .returned (.tuple #[.int .i64 (idN m l), .bool true]) ∧ Below V.heap.size V w') := fun V A6 c6 hV h6 => (costR_any m l (idL m l n3) A3 A6 n3 c3 n3 c6 V (HSL.out V hV) h6 hm1 hm6 hl60 hz).mono fun e w' ⟨h, hb⟩ => by
      rcases h with ⟨_, h⟩ | ⟨h, _⟩
      · rw [hcs] at h; exact ⟨h, hb⟩
      · rw [hhi] at h; cases h
    have HTB := Lib.hid (fun V (A6 : Option Addr) c6 (h6 : Sll V A6 n3 c6 (idL m l n3)) => table_any (idL m l n3) A6 n3 c6 V h6)
    rw [HTI.out] at HTB
    have HFL : Hid ((frO l (startL m) n3).length = m) := (okO_rolls (frM_ok hm6 hz2 (k := n3) (by rw [HLN.out]; exact Nat.le_refl _))).1
    have g0 : ((n3 : Int) != (n3 : Int)) = false := by simp
    generalize idL m l n3 = il at *
    generalize idN m l = I at *
    generalize frO l (startL m) n3 = fo at *
    generalize frC l (startL m) n3 = F at *
    have g1 : (F != F) = false := by simp
    have g2 : (I == I) = true := by simp
    clear hrb hz hz2 hhi hcs HTI
    go_wp2_with (first
      | (go_at_call 29; (with_reducible refine HFN.out.mono ?_); rintro e w3 ⟨⟨v, rfl, hv⟩, hb⟩; obtain ⟨A5, c5, rfl, hs5⟩ := hv.sl_len HFL.out (by omega); have HS5 := Lib.hid hs5; have HE3 := Lib.hid hb; clear hv hs5 hb)
      | (go_at_call 30; (with_reducible refine (HID.out _ HE3.out).mono ?_); rintro e w4 ⟨⟨v, rfl, hv⟩, hb⟩; obtain ⟨A6, c6, rfl, hs6⟩ := hv.sll HIL.out.1 (by omega) HIL.out.2; have HS6 := Lib.hid hs6; have HE4 := Lib.hid (HE3.out.trans (hb.mono HE3.out.size)); have HS5 := Lib.hid (HS5.out.below hb (Nat.le_refl _)); clear hv hs6 hb)
      | (go_at_call 20; refine (HRE.out _ HE4.out).mono ?_; rintro e w5 ⟨rfl, rfl⟩)
      | (go_at_call 31; (with_reducible refine (HFR.out _ HE4.out).mono ?_); rintro e w5 ⟨⟨v, rfl, hv⟩, hb⟩; obtain ⟨A7, c7, rfl, hs7⟩ := hv.sl_len HFL.out (by omega); have HS7 := Lib.hid hs7; have HE5 := Lib.hid (HE4.out.trans (hb.mono HE4.out.size)); have HS5 := Lib.hid (HS5.out.below hb (Nat.le_refl _)); have HS6 := Lib.hid (HS6.out.below hb (Nat.le_refl _)); clear hv hs7 hb)
      | (go_at_call 24; (refine (ints_same A5 A7 fo m c5 c7 w5 HFL.out (by omega) HS5.out.rd HS7.out.rd).mono ?_); rintro e w6 ⟨rfl, hd⟩; have HE6 := Lib.hid (HE5.out.trans (hd.below _)); have HS6 := Lib.hid (HS6.out.below (hd.below w5.heap.size) (Nat.le_refl _)); clear hd)
      | (go_at_call 33; refine (HTB.out _ _ _ HS6.out).mono ?_; rintro e w7 ⟨⟨v, rfl, hv⟩, hb⟩; obtain ⟨A8, c8, rfl, hs8⟩ := hv.sll HIL.out.1 (by omega) HIL.out.2; have HS8 := Lib.hid hs8; have HE7 := Lib.hid (HE6.out.trans (hb.mono HE6.out.size)); clear hv hs8 hb)
      | (go_at_call 32; refine (HRC.out _ _ _ HE7.out HS8.out).mono ?_; rintro e w8 ⟨rfl, hb⟩; have HE8 := Lib.hid (HE7.out.trans (hb.mono HE7.out.size)); clear hb)
      | (go_at_call 34; refine (HIR.out _ HE8.out).mono ?_; rintro e w9 ⟨rfl, hb⟩; have HE9 := Lib.hid (HE8.out.trans (hb.mono HE8.out.size)); clear hb)
      | (go_at_call 21; (with_reducible refine (awake_here _).mono ?_); rintro e w10 ⟨rfl, hb⟩; have HE10 := Lib.hid (HE9.out.trans (hb.mono HE9.out.size)); clear hb))
    go_ret
    exact ⟨rfl, HB2.out.trans (HE10.out.mono HB2.out.size)⟩
end Go.Proofs.Ytcnjkdkkflpgnaa
