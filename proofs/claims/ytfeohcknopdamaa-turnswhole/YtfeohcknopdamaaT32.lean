import Derived.Test.YtfeohcknopdamaaT31
import Derived.Test.YtfeohcknopdamaaT17
import Derived.Test.YtfeohcknopdamaaT25
/- Layer 10: Grouping, GroupingAt, Groupings, case by case. -/
namespace Go.Proofs.Ytfeohcknopdamaa
open Go.RowKit
set_option linter.unusedVariables false

theorem groupings_bad (n : Int) (w : World) (h : in20 n = false) : Calls Try.prog 40 #[.int .i64 n] w fun e w' => e = .returned (.tuple #[.int .i64 0, .int .i64 2]) ∧ Below w.heap.size w w' := by
  refine (groupingsP_any n w).mono ?_
  rintro e w' hh
  rw [if_neg (by rw [h]; decide)] at hh
  exact hh
theorem groupings_ok (N : Nat) (w : World) (h : N ≤ 20) : Calls Try.prog 40 #[.int .i64 (N : Int)] w fun e w' => e = .returned (.tuple #[.int .i64 ((wy N 0 : Nat) : Int), .int .i64 0]) ∧ Below w.heap.size w w' := by
  refine (groupingsP_any N w).mono ?_
  rintro e w' hh
  rw [if_pos (by rw [in20, decide_eq_true (by omega), decide_eq_true (by omega)]; rfl), Int.toNat_natCast] at hh
  exact hh
theorem grouping_bad (n a : Int) (w : World) (h : (in20 n && posB a ((wy n.toNat 0 : Nat) : Int)) = false) : Calls Try.prog 38 #[.int .i64 n, .int .i64 a] w fun e w' => e = .returned (.tuple #[.slice none 0 0, .int .i64 2]) ∧ Below w.heap.size w w' := by
  rcases h0 : in20 n with _ | _
  · have HG := Lib.hid (groupings_bad n w h0)
    clear h h0
    go_enter Try.func38, Try.ntmps38
    go_wp2_with (go_at_call 40; (with_reducible refine HG.out.mono ?_); rintro e w1 ⟨rfl, hb⟩; have HB := Lib.hid hb; clear hb)
    go_ret2
    exact ⟨rfl, HB.out⟩
  · obtain ⟨N, rfl, hN⟩ := in20_nat h0
    have HG := Lib.hid (groupings_ok N w hN)
    rw [h0, Bool.true_and, Int.toNat_natCast] at h
    have HP := Lib.hid (fun w => isPosition_any a ((wy N 0 : Nat) : Int) w)
    rw [show (decide (0 ≤ a) && decide (a < ((wy N 0 : Nat) : Int))) = false from h] at HP
    clear h h0
    generalize wy N 0 = q at *
    go_enter Try.func38, Try.ntmps38
    go_wp2_with (first | (go_at_call 40; (with_reducible refine HG.out.mono ?_); rintro e w1 ⟨rfl, hb⟩; have HB := Lib.hid hb; clear hb) | (go_at_call 56; (with_reducible refine (HP.out _).mono ?_); rintro e w1' ⟨rfl, rfl⟩))
    go_ret2
    exact ⟨rfl, HB.out⟩
theorem grouping_ok (N a : Nat) (w : World) (hN : N ≤ 20) (ha : a < wy N 0) : Calls Try.prog 38 #[.int .i64 (N : Int), .int .i64 (a : Int)] w fun e w' => (∃ A' c', e = .returned (.tuple #[.slice A' N c', .int .i64 0]) ∧ Sl w' A' N c' (gF N 0 a)) ∧ Below w.heap.size w w' := by
  have HG := Lib.hid (groupings_ok N w hN)
  have HP := Lib.hid (fun w => isPosition_any (a : Int) ((wy N 0 : Nat) : Int) w)
  rw [show (decide (0 ≤ (a : Int)) && decide ((a : Int) < ((wy N 0 : Nat) : Int))) = true from by rw [decide_eq_true (by omega), decide_eq_true (by omega)]; rfl] at HP
  have HI := Lib.hid (fun V => groupingIn_any N a V hN ha)
  clear ha
  generalize wy N 0 = q at *
  go_enter Try.func38, Try.ntmps38
  go_wp2_with (first | (go_at_call 40; (with_reducible refine HG.out.mono ?_); rintro e w1 ⟨rfl, hb⟩; have HB := Lib.hid hb; clear hb) | (go_at_call 56; (with_reducible refine (HP.out _).mono ?_); rintro e w1' ⟨rfl, rfl⟩) | (go_at_call 67; (with_reducible refine (HI.out _).mono ?_); rintro e w2 ⟨⟨v, rfl, hv⟩, hb⟩; obtain ⟨A', c', rfl, hs⟩ := hv.sl_len (gF_len N 0 a) (by omega); have HS := Lib.hid hs; have HB2 := Lib.hid (HB.out.trans (hb.mono HB.out.size)); clear hv hs hb))
  go_ret2
  exact ⟨⟨A', c', rfl, HS.out⟩, HB2.out⟩
theorem groupingAt_bad (zs : List Int) (A : Option Addr) (n c : Nat) (w : World) (hs : Sl w A n c zs) (h : grpB zs = false) : Calls Try.prog 39 #[.slice A n c] w fun e w' => e = .returned (.tuple #[.int .i64 0, .int .i64 2]) ∧ Below w.heap.size w w' := by
  have HI := Lib.hid (isGrouping_any zs A n c w hs)
  rw [h] at HI
  clear h hs
  go_enter Try.func39, Try.ntmps39
  go_wp2_with (go_at_call 68; (with_reducible refine HI.out.mono ?_); rintro e w1 ⟨rfl, rfl⟩)
  go_ret2
  exact ⟨rfl, Below.refl _ _⟩
theorem groupingAt_ok (zs : List Int) (A : Option Addr) (n c : Nat) (w : World) (hs : Sl w A n c zs) (h : grpB zs = true) : Calls Try.prog 39 #[.slice A n c] w fun e w' => e = .returned (.tuple #[.int .i64 ((gP 0 zs : Nat) : Int), .int .i64 0]) ∧ Below w.heap.size w w' := by
  have HI := Lib.hid (isGrouping_any zs A n c w hs)
  have HP := Lib.hid (placeOfGrouping_any zs A n c w hs h)
  rw [h] at HI
  clear h hs
  go_enter Try.func39, Try.ntmps39
  go_wp2_with (first | (go_at_call 68; (with_reducible refine HI.out.mono ?_); rintro e w1 ⟨rfl, rfl⟩) | (go_at_call 69; (with_reducible refine HP.out.mono ?_); rintro e w1 ⟨rfl, hb⟩; have HB := Lib.hid hb; clear hb))
  go_ret2
  exact ⟨rfl, HB.out⟩
theorem groupingR_ok (N a : Nat) (w : World) (hN : N ≤ 20) (ha : a < wy N 0) : Calls Try.prog 42 #[.int .i64 (N : Int), .int .i64 (a : Int)] w fun e w' => (∃ A' c', e = .returned (.slice A' N c') ∧ Sl w' A' N c' (gF N 0 a)) ∧ Below w.heap.size w w' := by
  refine (groupingR_any N a w hN ha).mono ?_
  rintro e w' ⟨⟨v, rfl, hv⟩, hb⟩
  obtain ⟨A', c', rfl, hs⟩ := hv.sl_len (gF_len N 0 a) (by omega)
  exact ⟨⟨A', c', rfl, hs⟩, hb⟩
theorem groupsR_zero (N : Nat) (w : World) (hN : N ≤ 20) : Calls Try.prog 41 #[.int .i64 0, .int .i64 (N : Int)] w fun e w' => e = .returned (.int .i64 ((wy N 0 : Nat) : Int)) ∧ Below w.heap.size w w' := groupsR_any 0 N w (by omega)
end Go.Proofs.Ytfeohcknopdamaa
/- Layer 10: TurnsGroups (written by gen_groups2.py). -/
namespace Go.Proofs.Ytfeohcknopdamaa
open Go.RowKit
set_option linter.unusedVariables false

set_option maxRecDepth 100000 in
set_option maxHeartbeats 6400000 in
theorem groups_walk (zs0 : List Int) (n a : Int) (A : Option Addr) (m c : Nat) (w : World) (h : Sl w A m c zs0) :
    Calls Try.prog 6 #[.int .i64 n, .int .i64 a, .slice A m c] w fun e w' => e = .returned (.bool true) ∧ Below w.heap.size w w' := by
  have HCP := Lib.hid (copy_any zs0 A m c w h)
  have HL0 : Hid (Sls w []) := fun _ h => by cases h
  have HB0 : Hid (Below w.heap.size w w) := Below.refl _ _
  have hl0 : (zs0.take 42).length ≤ 42 := by rw [List.length_take]; omega
  clear h
  generalize zs0.take 42 = zs at HCP hl0
  have HRB0 := Lib.hid (fun V A c (hs : Sl V A zs.length c zs) => groupingsR_any zs A zs.length c V hs)
  rcases h0 : in20 n with _ | _
  · have HGR := Lib.hid (fun V => grouping_bad n a V (by rw [h0]; rfl))
    have HGS := Lib.hid (fun V => groupings_bad n V h0)
    by_cases h1 : n < 0
    · have d0 : decide (n < 0) = true := decide_eq_true h1
      clear h0
      rcases h3 : grpB zs with _ | _
      · have HGA := Lib.hid (fun V A c (hs : Sl V A zs.length c zs) => groupingAt_bad zs A zs.length c V hs h3)
        have HRB := HRB0
        rw [h3] at HRB
        clear h3 HRB0
        go_enter Try.func6, Try.ntmps6
        go_wp2_with (first
          | (go_at_call 16; (with_reducible refine (HCP.out).mono ?_); rintro e w1 ⟨⟨A1, c1, rfl, hs⟩, hb⟩; have HL1 := Lib.hid ((HL0.out.below hb).push hs); have HB1 := Lib.hid (HB0.out.trans (hb.mono HB0.out.size)); clear hs hb)
          | (go_at_call 38; (with_reducible refine (HGR.out _).mono ?_); rintro e w2 ⟨rfl, hb⟩; have HL2 := Lib.hid ((HL1.out.below hb)); have HB2 := Lib.hid (HB1.out.trans (hb.mono HB1.out.size)); clear hb)
          | (go_at_call 39; (with_reducible refine (HGA.out _ _ _ HL2.out.hd).mono ?_); rintro e w3 ⟨rfl, hb⟩; have HL3 := Lib.hid ((HL2.out.below hb)); have HB3 := Lib.hid (HB2.out.trans (hb.mono HB2.out.size)); clear hb)
          | (go_at_call 40; (with_reducible refine (HGS.out _).mono ?_); rintro e w4 ⟨rfl, hb⟩; have HL4 := Lib.hid ((HL3.out.below hb)); have HB4 := Lib.hid (HB3.out.trans (hb.mono HB3.out.size)); clear hb)
          | (go_at_call 43; (with_reducible refine (HRB.out _ _ _ HL4.out.hd).mono ?_); rintro e w' ⟨rfl, rfl⟩)
          | (go_at_call 19; (with_reducible refine (awake_here _).mono ?_); rintro e w5 ⟨rfl, hb⟩; have HL5 := Lib.hid ((HL4.out.below hb)); have HB5 := Lib.hid (HB4.out.trans (hb.mono HB4.out.size)); clear hb))
        go_ret
        exact ⟨rfl, HB5.out⟩
      · have HGA := Lib.hid (fun V A c (hs : Sl V A zs.length c zs) => groupingAt_ok zs A zs.length c V hs h3)
        have HRA := Lib.hid (fun V A c (hs : Sl V A zs.length c zs) => groupingAtR_any zs A zs.length c V hs h3)
        have HRB := HRB0
        rw [h3] at HRB
        clear h3 HRB0
        generalize gP 0 zs = pp at *
        go_enter Try.func6, Try.ntmps6
        go_wp2_with (first
          | (go_at_call 16; (with_reducible refine (HCP.out).mono ?_); rintro e w1 ⟨⟨A1, c1, rfl, hs⟩, hb⟩; have HL1 := Lib.hid ((HL0.out.below hb).push hs); have HB1 := Lib.hid (HB0.out.trans (hb.mono HB0.out.size)); clear hs hb)
          | (go_at_call 38; (with_reducible refine (HGR.out _).mono ?_); rintro e w2 ⟨rfl, hb⟩; have HL2 := Lib.hid ((HL1.out.below hb)); have HB2 := Lib.hid (HB1.out.trans (hb.mono HB1.out.size)); clear hb)
          | (go_at_call 39; (with_reducible refine (HGA.out _ _ _ HL2.out.hd).mono ?_); rintro e w3 ⟨rfl, hb⟩; have HL3 := Lib.hid ((HL2.out.below hb)); have HB3 := Lib.hid (HB2.out.trans (hb.mono HB2.out.size)); clear hb)
          | (go_at_call 40; (with_reducible refine (HGS.out _).mono ?_); rintro e w4 ⟨rfl, hb⟩; have HL4 := Lib.hid ((HL3.out.below hb)); have HB4 := Lib.hid (HB3.out.trans (hb.mono HB3.out.size)); clear hb)
          | (go_at_call 43; (with_reducible refine (HRB.out _ _ _ HL4.out.hd).mono ?_); rintro e w' ⟨rfl, rfl⟩)
          | (go_at_call 44; (with_reducible refine (HRA.out _ _ _ HL4.out.hd).mono ?_); rintro e w5 ⟨rfl, hb⟩; have HL5 := Lib.hid ((HL4.out.below hb)); have HB5 := Lib.hid (HB4.out.trans (hb.mono HB4.out.size)); clear hb)
          | (go_at_call 19; (with_reducible refine (awake_here _).mono ?_); rintro e w6 ⟨rfl, hb⟩; have HL6 := Lib.hid ((HL5.out.below hb)); have HB6 := Lib.hid (HB5.out.trans (hb.mono HB5.out.size)); clear hb))
        go_ret
        exact ⟨rfl, HB6.out⟩
    · have h2 : n > 20 := by
        rw [in20, Bool.and_eq_false_iff, decide_eq_false_iff_not, decide_eq_false_iff_not] at h0
        omega
      have d0 : decide (n < 0) = false := decide_eq_false h1
      have d1 : decide (n > 20) = true := decide_eq_true h2
      have d2 : decide (20 < n) = true := decide_eq_true h2
      clear h0
      rcases h3 : grpB zs with _ | _
      · have HGA := Lib.hid (fun V A c (hs : Sl V A zs.length c zs) => groupingAt_bad zs A zs.length c V hs h3)
        have HRB := HRB0
        rw [h3] at HRB
        clear h3 HRB0
        go_enter Try.func6, Try.ntmps6
        go_wp2_with (first
          | (go_at_call 16; (with_reducible refine (HCP.out).mono ?_); rintro e w1 ⟨⟨A1, c1, rfl, hs⟩, hb⟩; have HL1 := Lib.hid ((HL0.out.below hb).push hs); have HB1 := Lib.hid (HB0.out.trans (hb.mono HB0.out.size)); clear hs hb)
          | (go_at_call 38; (with_reducible refine (HGR.out _).mono ?_); rintro e w2 ⟨rfl, hb⟩; have HL2 := Lib.hid ((HL1.out.below hb)); have HB2 := Lib.hid (HB1.out.trans (hb.mono HB1.out.size)); clear hb)
          | (go_at_call 39; (with_reducible refine (HGA.out _ _ _ HL2.out.hd).mono ?_); rintro e w3 ⟨rfl, hb⟩; have HL3 := Lib.hid ((HL2.out.below hb)); have HB3 := Lib.hid (HB2.out.trans (hb.mono HB2.out.size)); clear hb)
          | (go_at_call 40; (with_reducible refine (HGS.out _).mono ?_); rintro e w4 ⟨rfl, hb⟩; have HL4 := Lib.hid ((HL3.out.below hb)); have HB4 := Lib.hid (HB3.out.trans (hb.mono HB3.out.size)); clear hb)
          | (go_at_call 43; (with_reducible refine (HRB.out _ _ _ HL4.out.hd).mono ?_); rintro e w' ⟨rfl, rfl⟩)
          | (go_at_call 19; (with_reducible refine (awake_here _).mono ?_); rintro e w5 ⟨rfl, hb⟩; have HL5 := Lib.hid ((HL4.out.below hb)); have HB5 := Lib.hid (HB4.out.trans (hb.mono HB4.out.size)); clear hb))
        go_ret
        exact ⟨rfl, HB5.out⟩
      · have HGA := Lib.hid (fun V A c (hs : Sl V A zs.length c zs) => groupingAt_ok zs A zs.length c V hs h3)
        have HRA := Lib.hid (fun V A c (hs : Sl V A zs.length c zs) => groupingAtR_any zs A zs.length c V hs h3)
        have HRB := HRB0
        rw [h3] at HRB
        clear h3 HRB0
        generalize gP 0 zs = pp at *
        go_enter Try.func6, Try.ntmps6
        go_wp2_with (first
          | (go_at_call 16; (with_reducible refine (HCP.out).mono ?_); rintro e w1 ⟨⟨A1, c1, rfl, hs⟩, hb⟩; have HL1 := Lib.hid ((HL0.out.below hb).push hs); have HB1 := Lib.hid (HB0.out.trans (hb.mono HB0.out.size)); clear hs hb)
          | (go_at_call 38; (with_reducible refine (HGR.out _).mono ?_); rintro e w2 ⟨rfl, hb⟩; have HL2 := Lib.hid ((HL1.out.below hb)); have HB2 := Lib.hid (HB1.out.trans (hb.mono HB1.out.size)); clear hb)
          | (go_at_call 39; (with_reducible refine (HGA.out _ _ _ HL2.out.hd).mono ?_); rintro e w3 ⟨rfl, hb⟩; have HL3 := Lib.hid ((HL2.out.below hb)); have HB3 := Lib.hid (HB2.out.trans (hb.mono HB2.out.size)); clear hb)
          | (go_at_call 40; (with_reducible refine (HGS.out _).mono ?_); rintro e w4 ⟨rfl, hb⟩; have HL4 := Lib.hid ((HL3.out.below hb)); have HB4 := Lib.hid (HB3.out.trans (hb.mono HB3.out.size)); clear hb)
          | (go_at_call 43; (with_reducible refine (HRB.out _ _ _ HL4.out.hd).mono ?_); rintro e w' ⟨rfl, rfl⟩)
          | (go_at_call 44; (with_reducible refine (HRA.out _ _ _ HL4.out.hd).mono ?_); rintro e w5 ⟨rfl, hb⟩; have HL5 := Lib.hid ((HL4.out.below hb)); have HB5 := Lib.hid (HB4.out.trans (hb.mono HB4.out.size)); clear hb)
          | (go_at_call 19; (with_reducible refine (awake_here _).mono ?_); rintro e w6 ⟨rfl, hb⟩; have HL6 := Lib.hid ((HL5.out.below hb)); have HB6 := Lib.hid (HB5.out.trans (hb.mono HB5.out.size)); clear hb))
        go_ret
        exact ⟨rfl, HB6.out⟩
  · obtain ⟨N, rfl, hN⟩ := in20_nat h0
    have HGS := Lib.hid (fun V => groupings_ok N V hN)
    have HRG := Lib.hid (fun V => groupsR_zero N V hN)
    have d0 : decide ((N : Int) < 0) = false := decide_eq_false (by omega)
    have d1 : decide ((N : Int) > 20) = false := decide_eq_false (by omega)
    have d2 : decide (20 < (N : Int)) = false := decide_eq_false (by omega)
    have g0 : ¬ (N : Int) < 0 := by omega
    have g1 : ¬ (N : Int) > 20 := by omega
    rcases h1 : posB a ((wy N 0 : Nat) : Int) with _ | _
    · have HGR := Lib.hid (fun V => grouping_bad (N : Int) a V (by rw [h0, Int.toNat_natCast, h1]; rfl))
      have hp : a < 0 ∨ ((wy N 0 : Nat) : Int) ≤ a := by
        rw [posB, Bool.and_eq_false_iff, decide_eq_false_iff_not, decide_eq_false_iff_not] at h1
        omega
      clear h0 h1
      generalize wy N 0 = q at *
      by_cases hn : a < 0
      · have f0 : decide (a < 0) = true := decide_eq_true hn
        clear hp
        rcases h3 : grpB zs with _ | _
        · have HGA := Lib.hid (fun V A c (hs : Sl V A zs.length c zs) => groupingAt_bad zs A zs.length c V hs h3)
          have HRB := HRB0
          rw [h3] at HRB
          clear h3 HRB0
          go_enter Try.func6, Try.ntmps6
          go_wp2_with (first
            | (go_at_call 16; (with_reducible refine (HCP.out).mono ?_); rintro e w1 ⟨⟨A1, c1, rfl, hs⟩, hb⟩; have HL1 := Lib.hid ((HL0.out.below hb).push hs); have HB1 := Lib.hid (HB0.out.trans (hb.mono HB0.out.size)); clear hs hb)
            | (go_at_call 38; (with_reducible refine (HGR.out _).mono ?_); rintro e w2 ⟨rfl, hb⟩; have HL2 := Lib.hid ((HL1.out.below hb)); have HB2 := Lib.hid (HB1.out.trans (hb.mono HB1.out.size)); clear hb)
            | (go_at_call 39; (with_reducible refine (HGA.out _ _ _ HL2.out.hd).mono ?_); rintro e w3 ⟨rfl, hb⟩; have HL3 := Lib.hid ((HL2.out.below hb)); have HB3 := Lib.hid (HB2.out.trans (hb.mono HB2.out.size)); clear hb)
            | (go_at_call 40; (with_reducible refine (HGS.out _).mono ?_); rintro e w4 ⟨rfl, hb⟩; have HL4 := Lib.hid ((HL3.out.below hb)); have HB4 := Lib.hid (HB3.out.trans (hb.mono HB3.out.size)); clear hb)
            | (go_at_call 41; (with_reducible refine (HRG.out _).mono ?_); rintro e w5 ⟨rfl, hb⟩; have HL5 := Lib.hid ((HL4.out.below hb)); have HB5 := Lib.hid (HB4.out.trans (hb.mono HB4.out.size)); clear hb)
            | (go_at_call 43; (with_reducible refine (HRB.out _ _ _ HL5.out.hd).mono ?_); rintro e w' ⟨rfl, rfl⟩)
            | (go_at_call 19; (with_reducible refine (awake_here _).mono ?_); rintro e w6 ⟨rfl, hb⟩; have HL6 := Lib.hid ((HL5.out.below hb)); have HB6 := Lib.hid (HB5.out.trans (hb.mono HB5.out.size)); clear hb))
          go_ret
          exact ⟨rfl, HB6.out⟩
        · have HGA := Lib.hid (fun V A c (hs : Sl V A zs.length c zs) => groupingAt_ok zs A zs.length c V hs h3)
          have HRA := Lib.hid (fun V A c (hs : Sl V A zs.length c zs) => groupingAtR_any zs A zs.length c V hs h3)
          have HRB := HRB0
          rw [h3] at HRB
          clear h3 HRB0
          generalize gP 0 zs = pp at *
          go_enter Try.func6, Try.ntmps6
          go_wp2_with (first
            | (go_at_call 16; (with_reducible refine (HCP.out).mono ?_); rintro e w1 ⟨⟨A1, c1, rfl, hs⟩, hb⟩; have HL1 := Lib.hid ((HL0.out.below hb).push hs); have HB1 := Lib.hid (HB0.out.trans (hb.mono HB0.out.size)); clear hs hb)
            | (go_at_call 38; (with_reducible refine (HGR.out _).mono ?_); rintro e w2 ⟨rfl, hb⟩; have HL2 := Lib.hid ((HL1.out.below hb)); have HB2 := Lib.hid (HB1.out.trans (hb.mono HB1.out.size)); clear hb)
            | (go_at_call 39; (with_reducible refine (HGA.out _ _ _ HL2.out.hd).mono ?_); rintro e w3 ⟨rfl, hb⟩; have HL3 := Lib.hid ((HL2.out.below hb)); have HB3 := Lib.hid (HB2.out.trans (hb.mono HB2.out.size)); clear hb)
            | (go_at_call 40; (with_reducible refine (HGS.out _).mono ?_); rintro e w4 ⟨rfl, hb⟩; have HL4 := Lib.hid ((HL3.out.below hb)); have HB4 := Lib.hid (HB3.out.trans (hb.mono HB3.out.size)); clear hb)
            | (go_at_call 41; (with_reducible refine (HRG.out _).mono ?_); rintro e w5 ⟨rfl, hb⟩; have HL5 := Lib.hid ((HL4.out.below hb)); have HB5 := Lib.hid (HB4.out.trans (hb.mono HB4.out.size)); clear hb)
            | (go_at_call 43; (with_reducible refine (HRB.out _ _ _ HL5.out.hd).mono ?_); rintro e w' ⟨rfl, rfl⟩)
            | (go_at_call 44; (with_reducible refine (HRA.out _ _ _ HL5.out.hd).mono ?_); rintro e w6 ⟨rfl, hb⟩; have HL6 := Lib.hid ((HL5.out.below hb)); have HB6 := Lib.hid (HB5.out.trans (hb.mono HB5.out.size)); clear hb)
            | (go_at_call 19; (with_reducible refine (awake_here _).mono ?_); rintro e w7 ⟨rfl, hb⟩; have HL7 := Lib.hid ((HL6.out.below hb)); have HB7 := Lib.hid (HB6.out.trans (hb.mono HB6.out.size)); clear hb))
          go_ret
          exact ⟨rfl, HB7.out⟩
      · have hp2 : (q : Int) ≤ a := by omega
        have f0 : decide (a < 0) = false := decide_eq_false hn
        have f1 : decide (a ≥ (q : Int)) = true := decide_eq_true hp2
        have f2 : decide ((q : Int) ≤ a) = true := decide_eq_true hp2
        clear hp
        rcases h3 : grpB zs with _ | _
        · have HGA := Lib.hid (fun V A c (hs : Sl V A zs.length c zs) => groupingAt_bad zs A zs.length c V hs h3)
          have HRB := HRB0
          rw [h3] at HRB
          clear h3 HRB0
          go_enter Try.func6, Try.ntmps6
          go_wp2_with (first
            | (go_at_call 16; (with_reducible refine (HCP.out).mono ?_); rintro e w1 ⟨⟨A1, c1, rfl, hs⟩, hb⟩; have HL1 := Lib.hid ((HL0.out.below hb).push hs); have HB1 := Lib.hid (HB0.out.trans (hb.mono HB0.out.size)); clear hs hb)
            | (go_at_call 38; (with_reducible refine (HGR.out _).mono ?_); rintro e w2 ⟨rfl, hb⟩; have HL2 := Lib.hid ((HL1.out.below hb)); have HB2 := Lib.hid (HB1.out.trans (hb.mono HB1.out.size)); clear hb)
            | (go_at_call 39; (with_reducible refine (HGA.out _ _ _ HL2.out.hd).mono ?_); rintro e w3 ⟨rfl, hb⟩; have HL3 := Lib.hid ((HL2.out.below hb)); have HB3 := Lib.hid (HB2.out.trans (hb.mono HB2.out.size)); clear hb)
            | (go_at_call 40; (with_reducible refine (HGS.out _).mono ?_); rintro e w4 ⟨rfl, hb⟩; have HL4 := Lib.hid ((HL3.out.below hb)); have HB4 := Lib.hid (HB3.out.trans (hb.mono HB3.out.size)); clear hb)
            | (go_at_call 41; (with_reducible refine (HRG.out _).mono ?_); rintro e w5 ⟨rfl, hb⟩; have HL5 := Lib.hid ((HL4.out.below hb)); have HB5 := Lib.hid (HB4.out.trans (hb.mono HB4.out.size)); clear hb)
            | (go_at_call 43; (with_reducible refine (HRB.out _ _ _ HL5.out.hd).mono ?_); rintro e w' ⟨rfl, rfl⟩)
            | (go_at_call 19; (with_reducible refine (awake_here _).mono ?_); rintro e w6 ⟨rfl, hb⟩; have HL6 := Lib.hid ((HL5.out.below hb)); have HB6 := Lib.hid (HB5.out.trans (hb.mono HB5.out.size)); clear hb))
          go_ret
          exact ⟨rfl, HB6.out⟩
        · have HGA := Lib.hid (fun V A c (hs : Sl V A zs.length c zs) => groupingAt_ok zs A zs.length c V hs h3)
          have HRA := Lib.hid (fun V A c (hs : Sl V A zs.length c zs) => groupingAtR_any zs A zs.length c V hs h3)
          have HRB := HRB0
          rw [h3] at HRB
          clear h3 HRB0
          generalize gP 0 zs = pp at *
          go_enter Try.func6, Try.ntmps6
          go_wp2_with (first
            | (go_at_call 16; (with_reducible refine (HCP.out).mono ?_); rintro e w1 ⟨⟨A1, c1, rfl, hs⟩, hb⟩; have HL1 := Lib.hid ((HL0.out.below hb).push hs); have HB1 := Lib.hid (HB0.out.trans (hb.mono HB0.out.size)); clear hs hb)
            | (go_at_call 38; (with_reducible refine (HGR.out _).mono ?_); rintro e w2 ⟨rfl, hb⟩; have HL2 := Lib.hid ((HL1.out.below hb)); have HB2 := Lib.hid (HB1.out.trans (hb.mono HB1.out.size)); clear hb)
            | (go_at_call 39; (with_reducible refine (HGA.out _ _ _ HL2.out.hd).mono ?_); rintro e w3 ⟨rfl, hb⟩; have HL3 := Lib.hid ((HL2.out.below hb)); have HB3 := Lib.hid (HB2.out.trans (hb.mono HB2.out.size)); clear hb)
            | (go_at_call 40; (with_reducible refine (HGS.out _).mono ?_); rintro e w4 ⟨rfl, hb⟩; have HL4 := Lib.hid ((HL3.out.below hb)); have HB4 := Lib.hid (HB3.out.trans (hb.mono HB3.out.size)); clear hb)
            | (go_at_call 41; (with_reducible refine (HRG.out _).mono ?_); rintro e w5 ⟨rfl, hb⟩; have HL5 := Lib.hid ((HL4.out.below hb)); have HB5 := Lib.hid (HB4.out.trans (hb.mono HB4.out.size)); clear hb)
            | (go_at_call 43; (with_reducible refine (HRB.out _ _ _ HL5.out.hd).mono ?_); rintro e w' ⟨rfl, rfl⟩)
            | (go_at_call 44; (with_reducible refine (HRA.out _ _ _ HL5.out.hd).mono ?_); rintro e w6 ⟨rfl, hb⟩; have HL6 := Lib.hid ((HL5.out.below hb)); have HB6 := Lib.hid (HB5.out.trans (hb.mono HB5.out.size)); clear hb)
            | (go_at_call 19; (with_reducible refine (awake_here _).mono ?_); rintro e w7 ⟨rfl, hb⟩; have HL7 := Lib.hid ((HL6.out.below hb)); have HB7 := Lib.hid (HB6.out.trans (hb.mono HB6.out.size)); clear hb))
          go_ret
          exact ⟨rfl, HB7.out⟩
    · obtain ⟨b, rfl, hb⟩ := posB_nat h1
      have HGR := Lib.hid (fun V => grouping_ok N b V hN hb)
      have HRR := Lib.hid (fun V => groupingR_ok N b V hN hb)
      have HIN := Lib.hid (fun V A c B d (hz : Sl V A N c (gF N 0 b)) (hx : Sl V B N d (gF N 0 b)) => ints_one V A B N c d (gF N 0 b) (by omega) hz hx)
      clear h0 h1
      generalize gF N 0 b = LL at *
      generalize wy N 0 = q at *
      have f0 : decide ((b : Int) < 0) = false := decide_eq_false (by omega)
      have f1 : decide ((b : Int) ≥ (q : Int)) = false := decide_eq_false (by omega)
      have f2 : decide ((q : Int) ≤ (b : Int)) = false := decide_eq_false (by omega)
      have f3 : decide (q ≤ b) = false := decide_eq_false (by omega)
      rcases h3 : grpB zs with _ | _
      · have HGA := Lib.hid (fun V A c (hs : Sl V A zs.length c zs) => groupingAt_bad zs A zs.length c V hs h3)
        have HRB := HRB0
        rw [h3] at HRB
        clear h3 HRB0
        go_enter Try.func6, Try.ntmps6
        go_wp2_with (first
          | (go_at_call 16; (with_reducible refine (HCP.out).mono ?_); rintro e w1 ⟨⟨A1, c1, rfl, hs⟩, hb⟩; have HL1 := Lib.hid ((HL0.out.below hb).push hs); have HB1 := Lib.hid (HB0.out.trans (hb.mono HB0.out.size)); clear hs hb)
          | (go_at_call 38; (with_reducible refine (HGR.out _).mono ?_); rintro e w2 ⟨⟨A2, c2, rfl, hs⟩, hb⟩; have HL2 := Lib.hid ((HL1.out.below hb).push hs); have HB2 := Lib.hid (HB1.out.trans (hb.mono HB1.out.size)); clear hs hb)
          | (go_at_call 39; (with_reducible refine (HGA.out _ _ _ HL2.out.tl.hd).mono ?_); rintro e w3 ⟨rfl, hb⟩; have HL3 := Lib.hid ((HL2.out.below hb)); have HB3 := Lib.hid (HB2.out.trans (hb.mono HB2.out.size)); clear hb)
          | (go_at_call 40; (with_reducible refine (HGS.out _).mono ?_); rintro e w4 ⟨rfl, hb⟩; have HL4 := Lib.hid ((HL3.out.below hb)); have HB4 := Lib.hid (HB3.out.trans (hb.mono HB3.out.size)); clear hb)
          | (go_at_call 41; (with_reducible refine (HRG.out _).mono ?_); rintro e w5 ⟨rfl, hb⟩; have HL5 := Lib.hid ((HL4.out.below hb)); have HB5 := Lib.hid (HB4.out.trans (hb.mono HB4.out.size)); clear hb)
          | (go_at_call 42; (with_reducible refine (HRR.out _).mono ?_); rintro e w6 ⟨⟨A6, c6, rfl, hs⟩, hb⟩; have HL6 := Lib.hid ((HL5.out.below hb).push hs); have HB6 := Lib.hid (HB5.out.trans (hb.mono HB5.out.size)); clear hs hb)
          | (go_at_call 20; (with_reducible refine (HIN.out _ _ _ _ _ HL6.out.tl.hd HL6.out.hd).mono ?_); rintro e w7 ⟨rfl, hd⟩; have hb := hd.below w6.heap.size; have HL7 := Lib.hid ((HL6.out.below hb)); have HB7 := Lib.hid (HB6.out.trans (hb.mono HB6.out.size)); clear hb hd)
          | (go_at_call 43; (with_reducible refine (HRB.out _ _ _ HL7.out.tl.tl.hd).mono ?_); rintro e w' ⟨rfl, rfl⟩)
          | (go_at_call 19; (with_reducible refine (awake_here _).mono ?_); rintro e w8 ⟨rfl, hb⟩; have HL8 := Lib.hid ((HL7.out.below hb)); have HB8 := Lib.hid (HB7.out.trans (hb.mono HB7.out.size)); clear hb))
        go_ret
        exact ⟨rfl, HB8.out⟩
      · have HGA := Lib.hid (fun V A c (hs : Sl V A zs.length c zs) => groupingAt_ok zs A zs.length c V hs h3)
        have HRA := Lib.hid (fun V A c (hs : Sl V A zs.length c zs) => groupingAtR_any zs A zs.length c V hs h3)
        have HRB := HRB0
        rw [h3] at HRB
        clear h3 HRB0
        generalize gP 0 zs = pp at *
        go_enter Try.func6, Try.ntmps6
        go_wp2_with (first
          | (go_at_call 16; (with_reducible refine (HCP.out).mono ?_); rintro e w1 ⟨⟨A1, c1, rfl, hs⟩, hb⟩; have HL1 := Lib.hid ((HL0.out.below hb).push hs); have HB1 := Lib.hid (HB0.out.trans (hb.mono HB0.out.size)); clear hs hb)
          | (go_at_call 38; (with_reducible refine (HGR.out _).mono ?_); rintro e w2 ⟨⟨A2, c2, rfl, hs⟩, hb⟩; have HL2 := Lib.hid ((HL1.out.below hb).push hs); have HB2 := Lib.hid (HB1.out.trans (hb.mono HB1.out.size)); clear hs hb)
          | (go_at_call 39; (with_reducible refine (HGA.out _ _ _ HL2.out.tl.hd).mono ?_); rintro e w3 ⟨rfl, hb⟩; have HL3 := Lib.hid ((HL2.out.below hb)); have HB3 := Lib.hid (HB2.out.trans (hb.mono HB2.out.size)); clear hb)
          | (go_at_call 40; (with_reducible refine (HGS.out _).mono ?_); rintro e w4 ⟨rfl, hb⟩; have HL4 := Lib.hid ((HL3.out.below hb)); have HB4 := Lib.hid (HB3.out.trans (hb.mono HB3.out.size)); clear hb)
          | (go_at_call 41; (with_reducible refine (HRG.out _).mono ?_); rintro e w5 ⟨rfl, hb⟩; have HL5 := Lib.hid ((HL4.out.below hb)); have HB5 := Lib.hid (HB4.out.trans (hb.mono HB4.out.size)); clear hb)
          | (go_at_call 42; (with_reducible refine (HRR.out _).mono ?_); rintro e w6 ⟨⟨A6, c6, rfl, hs⟩, hb⟩; have HL6 := Lib.hid ((HL5.out.below hb).push hs); have HB6 := Lib.hid (HB5.out.trans (hb.mono HB5.out.size)); clear hs hb)
          | (go_at_call 20; (with_reducible refine (HIN.out _ _ _ _ _ HL6.out.tl.hd HL6.out.hd).mono ?_); rintro e w7 ⟨rfl, hd⟩; have hb := hd.below w6.heap.size; have HL7 := Lib.hid ((HL6.out.below hb)); have HB7 := Lib.hid (HB6.out.trans (hb.mono HB6.out.size)); clear hb hd)
          | (go_at_call 43; (with_reducible refine (HRB.out _ _ _ HL7.out.tl.tl.hd).mono ?_); rintro e w' ⟨rfl, rfl⟩)
          | (go_at_call 44; (with_reducible refine (HRA.out _ _ _ HL7.out.tl.tl.hd).mono ?_); rintro e w8 ⟨rfl, hb⟩; have HL8 := Lib.hid ((HL7.out.below hb)); have HB8 := Lib.hid (HB7.out.trans (hb.mono HB7.out.size)); clear hb)
          | (go_at_call 19; (with_reducible refine (awake_here _).mono ?_); rintro e w9 ⟨rfl, hb⟩; have HL9 := Lib.hid ((HL8.out.below hb)); have HB9 := Lib.hid (HB8.out.trans (hb.mono HB8.out.size)); clear hb))
        go_ret
        exact ⟨rfl, HB9.out⟩
end Go.Proofs.Ytfeohcknopdamaa
