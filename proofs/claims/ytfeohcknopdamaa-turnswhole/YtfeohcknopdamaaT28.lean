import Derived.Test.YtfeohcknopdamaaT25
import Derived.Test.YtfeohcknopdamaaT22
import Derived.Test.YtfeohcknopdamaaT27
/- Layer 10: TurnsChoices (written by gen_choices.py). -/
namespace Go.Proofs.Ytfeohcknopdamaa
open Go.RowKit
set_option linter.unusedVariables false

theorem choice_bad (n k a : Int) (w : World) (h : ((in40 n && upB k n) && posB a ((chs n.toNat k.toNat : Nat) : Int)) = false) : Calls Try.prog 24 #[.int .i64 n, .int .i64 k, .int .i64 a] w fun e w' => e = .returned (.tuple #[.slice none 0 0, .int .i64 2]) ∧ Below w.heap.size w w' := by
  refine (choiceP_any n k a w).mono ?_
  rintro e w' hh
  rw [if_neg (by rw [h]; decide)] at hh
  exact hh
theorem choiceAt_bad (n : Int) (zs : List Int) (A : Option Addr) (m c : Nat) (w : World) (hs : Sl w A m c zs) (h : (in40 n && setB n zs) = false) : Calls Try.prog 25 #[.int .i64 n, .slice A m c] w fun e w' => e = .returned (.tuple #[.int .i64 0, .int .i64 2]) ∧ Below w.heap.size w w' := by
  refine (choiceAtP_any n zs A m c w hs).mono ?_
  rintro e w' hh
  rw [if_neg (by rw [h]; decide)] at hh
  exact hh
theorem many_bad (n k : Int) (w : World) (h : (in40 n && upB k n) = false) : Calls Try.prog 26 #[.int .i64 n, .int .i64 k] w fun e w' => e = .returned (.tuple #[.int .i64 0, .int .i64 2]) ∧ Below w.heap.size w w' := by
  refine (manyP_any n k w).mono ?_
  rintro e w' hh
  rw [if_neg (by rw [h]; decide)] at hh
  exact hh
theorem choiceR_ok (N K a : Nat) (w : World) (hN : N ≤ 40) (hK : K ≤ N) (ha : a < chs N K) : Calls Try.prog 28 #[.int .i64 (N : Int), .int .i64 (K : Int), .int .i64 (a : Int)] w fun e w' =>
    (∃ A c, e = .returned (.slice A K c) ∧ Sl w' A K c (pL chs N K a)) ∧ Below w.heap.size w w' := by
  refine (choiceR_any N K a w hN hK ha).mono ?_
  rintro e w' ⟨⟨v, rfl, hv⟩, hb⟩
  obtain ⟨A', c', rfl, hs⟩ := hv.sl_len (choice_back N K a ha).1 (by omega)
  exact ⟨⟨A', c', rfl, hs⟩, hb⟩
set_option maxRecDepth 100000 in
set_option maxHeartbeats 6400000 in
theorem choices_walk (zs0 : List Int) (n k a : Int) (A : Option Addr) (m c : Nat) (w : World) (h : Sl w A m c zs0) :
    Calls Try.prog 4 #[.int .i64 n, .agg #[.int .i64 k, .int .i64 a], .slice A m c] w fun e w' => e = .returned (.bool true) ∧ Below w.heap.size w w' := by
  have HCP := Lib.hid (fun V (hV : Below w.heap.size w V) => copy_any zs0 A m c V (h.below hV (Nat.le_refl _)))
  have HBX : Hid (Below w.heap.size w (w.alloc (.cells #[.int .i64 k, .int .i64 a] 35))) := below_one w _
  have hx0 : (w.alloc (.cells #[.int .i64 k, .int .i64 a] 35)).cell? ⟨w.heap.size, 0, none⟩ = some (.int .i64 k) := by rw [cell_of_row _ _ _ _ _ _ (World.alloc_heap_new w _)]; rfl
  have hx1 : (w.alloc (.cells #[.int .i64 k, .int .i64 a] 35)).cell? ⟨w.heap.size, 1, none⟩ = some (.int .i64 a) := by rw [cell_of_row _ _ _ _ _ _ (World.alloc_heap_new w _)]; rfl
  have HX01 := Lib.hid (And.intro hx0 hx1)
  have hl0 : (zs0.take 42).length ≤ 42 := by rw [List.length_take]; omega
  clear h hx0 hx1
  generalize zs0.take 42 = zs at HCP hl0
  rcases h0 : in40 n with _ | _
  · have HCH := Lib.hid (fun V => choice_bad n k a V (by rw [h0]; rfl))
    have HCA := Lib.hid (fun V A c (hs : Sl V A zs.length c zs) => choiceAt_bad n zs A zs.length c V hs (by rw [h0]; rfl))
    have HMN := Lib.hid (fun V => many_bad n k V (by rw [h0]; rfl))
    by_cases h1 : n < 0
    · have d0 : decide (n < 0) = true := decide_eq_true h1
      clear h0
      go_enter Try.func4, Try.ntmps4
      go_upto_region 2 with (go_at_call 16; (with_reducible refine (HCP.out _ HBX.out).mono ?_); rintro e w1 ⟨⟨A1, c1, rfl, hs⟩, hb⟩; have HS1 := Lib.hid hs; have HB1 := Lib.hid (HBX.out.trans (hb.mono HBX.out.size)); have e0 : w1.cell? ⟨w.heap.size, 0, none⟩ = some (.int .i64 k) := (hb.cell (p := ⟨w.heap.size, 0, none⟩) (by simp)).trans HX01.out.1; have e1 : w1.cell? ⟨w.heap.size, 1, none⟩ = some (.int .i64 a) := (hb.cell (p := ⟨w.heap.size, 1, none⟩) (by simp)).trans HX01.out.2; clear hs hb)
      go_quiet (fail)
      have HL0 : Hid (Sls (w1.drewN nq) [(A1, zs.length, c1, zs)]) := Sls.push (fun _ h => by cases h) (HS1.out.dr ⟨nq, rfl⟩)
      have HB0 : Hid (Below w.heap.size w (w1.drewN nq)) := below_dn HB1.out nq
      clear e0 e1 HS1 HB1
      generalize w1.drewN nq = wd at HL0 HB0 ⊢
      go_wp2_with (first
        | (go_at_call 24; (with_reducible refine (HCH.out _).mono ?_); rintro e w1 ⟨rfl, hb⟩; have HL1 := Lib.hid ((HL0.out.below hb)); have HB1 := Lib.hid (HB0.out.trans (hb.mono HB0.out.size)); clear hb)
        | (go_at_call 25; (with_reducible refine (HCA.out _ _ _ HL1.out.hd).mono ?_); rintro e w2 ⟨rfl, hb⟩; have HL2 := Lib.hid ((HL1.out.below hb)); have HB2 := Lib.hid (HB1.out.trans (hb.mono HB1.out.size)); clear hb)
        | (go_at_call 26; (with_reducible refine (HMN.out _).mono ?_); rintro e w3 ⟨rfl, hb⟩; have HL3 := Lib.hid ((HL2.out.below hb)); have HB3 := Lib.hid (HB2.out.trans (hb.mono HB2.out.size)); clear hb)
        | (go_at_call 19; (with_reducible refine (awake_here _).mono ?_); rintro e w4 ⟨rfl, hb⟩; have HL4 := Lib.hid ((HL3.out.below hb)); have HB4 := Lib.hid (HB3.out.trans (hb.mono HB3.out.size)); clear hb))
      go_ret
      exact ⟨rfl, HB4.out⟩
    · have h2 : n > 40 := by
        rw [in40, Bool.and_eq_false_iff, decide_eq_false_iff_not, decide_eq_false_iff_not] at h0
        omega
      have d0 : decide (n < 0) = false := decide_eq_false h1
      have d1 : decide (n > 40) = true := decide_eq_true h2
      have d2 : decide (40 < n) = true := decide_eq_true h2
      clear h0
      go_enter Try.func4, Try.ntmps4
      go_upto_region 2 with (go_at_call 16; (with_reducible refine (HCP.out _ HBX.out).mono ?_); rintro e w1 ⟨⟨A1, c1, rfl, hs⟩, hb⟩; have HS1 := Lib.hid hs; have HB1 := Lib.hid (HBX.out.trans (hb.mono HBX.out.size)); have e0 : w1.cell? ⟨w.heap.size, 0, none⟩ = some (.int .i64 k) := (hb.cell (p := ⟨w.heap.size, 0, none⟩) (by simp)).trans HX01.out.1; have e1 : w1.cell? ⟨w.heap.size, 1, none⟩ = some (.int .i64 a) := (hb.cell (p := ⟨w.heap.size, 1, none⟩) (by simp)).trans HX01.out.2; clear hs hb)
      go_quiet (fail)
      have HL0 : Hid (Sls (w1.drewN nq) [(A1, zs.length, c1, zs)]) := Sls.push (fun _ h => by cases h) (HS1.out.dr ⟨nq, rfl⟩)
      have HB0 : Hid (Below w.heap.size w (w1.drewN nq)) := below_dn HB1.out nq
      clear e0 e1 HS1 HB1
      generalize w1.drewN nq = wd at HL0 HB0 ⊢
      go_wp2_with (first
        | (go_at_call 24; (with_reducible refine (HCH.out _).mono ?_); rintro e w1 ⟨rfl, hb⟩; have HL1 := Lib.hid ((HL0.out.below hb)); have HB1 := Lib.hid (HB0.out.trans (hb.mono HB0.out.size)); clear hb)
        | (go_at_call 25; (with_reducible refine (HCA.out _ _ _ HL1.out.hd).mono ?_); rintro e w2 ⟨rfl, hb⟩; have HL2 := Lib.hid ((HL1.out.below hb)); have HB2 := Lib.hid (HB1.out.trans (hb.mono HB1.out.size)); clear hb)
        | (go_at_call 26; (with_reducible refine (HMN.out _).mono ?_); rintro e w3 ⟨rfl, hb⟩; have HL3 := Lib.hid ((HL2.out.below hb)); have HB3 := Lib.hid (HB2.out.trans (hb.mono HB2.out.size)); clear hb)
        | (go_at_call 19; (with_reducible refine (awake_here _).mono ?_); rintro e w4 ⟨rfl, hb⟩; have HL4 := Lib.hid ((HL3.out.below hb)); have HB4 := Lib.hid (HB3.out.trans (hb.mono HB3.out.size)); clear hb))
      go_ret
      exact ⟨rfl, HB4.out⟩
  · obtain ⟨N, rfl, hN⟩ := in40_nat h0
    have HST0 := Lib.hid (fun V A c (hs : Sl V A zs.length c zs) => setsR_any zs (N : Int) A zs.length c V hs)
    have d0 : decide ((N : Int) < 0) = false := decide_eq_false (by omega)
    have d1 : decide ((N : Int) > 40) = false := decide_eq_false (by omega)
    have d2 : decide (40 < (N : Int)) = false := decide_eq_false (by omega)
    have g0 : ¬ (N : Int) < 0 := by omega
    have g1 : ¬ (N : Int) > 40 := by omega
    rcases h1 : upB k (N : Int) with _ | _
    · have HCH := Lib.hid (fun V => choice_bad (N : Int) k a V (by rw [h0, h1]; rfl))
      have HMN := Lib.hid (fun V => many_bad (N : Int) k V (by rw [h0, h1]; rfl))
      have hp : k < 0 ∨ (N : Int) < k := by
        rw [upB, Bool.and_eq_false_iff, decide_eq_false_iff_not, decide_eq_false_iff_not] at h1
        omega
      clear h1
      by_cases hn : k < 0
      · have e0 : decide (k < 0) = true := decide_eq_true hn
        clear hp
        rcases h3 : setB (N : Int) zs with _ | _
        · have HCA := Lib.hid (fun V A c (hs : Sl V A zs.length c zs) => choiceAt_bad (N : Int) zs A zs.length c V hs (by rw [h3, Bool.and_false]))
          have HST := HST0
          rw [h3] at HST
          clear h3 h0 HST0
          go_enter Try.func4, Try.ntmps4
          go_upto_region 2 with (go_at_call 16; (with_reducible refine (HCP.out _ HBX.out).mono ?_); rintro e w1 ⟨⟨A1, c1, rfl, hs⟩, hb⟩; have HS1 := Lib.hid hs; have HB1 := Lib.hid (HBX.out.trans (hb.mono HBX.out.size)); have e0 : w1.cell? ⟨w.heap.size, 0, none⟩ = some (.int .i64 k) := (hb.cell (p := ⟨w.heap.size, 0, none⟩) (by simp)).trans HX01.out.1; have e1 : w1.cell? ⟨w.heap.size, 1, none⟩ = some (.int .i64 a) := (hb.cell (p := ⟨w.heap.size, 1, none⟩) (by simp)).trans HX01.out.2; clear hs hb)
          go_quiet (fail)
          have HL0 : Hid (Sls (w1.drewN nq) [(A1, zs.length, c1, zs)]) := Sls.push (fun _ h => by cases h) (HS1.out.dr ⟨nq, rfl⟩)
          have HB0 : Hid (Below w.heap.size w (w1.drewN nq)) := below_dn HB1.out nq
          clear e0 e1 HS1 HB1
          generalize w1.drewN nq = wd at HL0 HB0 ⊢
          go_wp2_with (first
            | (go_at_call 24; (with_reducible refine (HCH.out _).mono ?_); rintro e w1 ⟨rfl, hb⟩; have HL1 := Lib.hid ((HL0.out.below hb)); have HB1 := Lib.hid (HB0.out.trans (hb.mono HB0.out.size)); clear hb)
            | (go_at_call 25; (with_reducible refine (HCA.out _ _ _ HL1.out.hd).mono ?_); rintro e w2 ⟨rfl, hb⟩; have HL2 := Lib.hid ((HL1.out.below hb)); have HB2 := Lib.hid (HB1.out.trans (hb.mono HB1.out.size)); clear hb)
            | (go_at_call 26; (with_reducible refine (HMN.out _).mono ?_); rintro e w3 ⟨rfl, hb⟩; have HL3 := Lib.hid ((HL2.out.below hb)); have HB3 := Lib.hid (HB2.out.trans (hb.mono HB2.out.size)); clear hb)
            | (go_at_call 22; (with_reducible refine (HST.out _ _ _ HL3.out.hd).mono ?_); rintro e w4 ⟨rfl, hd⟩; have hb := hd.below w3.heap.size; have HL4 := Lib.hid ((HL3.out.below hb)); have HB4 := Lib.hid (HB3.out.trans (hb.mono HB3.out.size)); clear hb hd)
            | (go_at_call 19; (with_reducible refine (awake_here _).mono ?_); rintro e w5 ⟨rfl, hb⟩; have HL5 := Lib.hid ((HL4.out.below hb)); have HB5 := Lib.hid (HB4.out.trans (hb.mono HB4.out.size)); clear hb))
          go_ret
          exact ⟨rfl, HB5.out⟩
        · have HCA := Lib.hid (fun V A c (hs : Sl V A zs.length c zs) => choiceAt_ok N zs A zs.length c V hN hs h3)
          have HRA := Lib.hid (fun V A c (hs : Sl V A zs.length c zs) => choiceAtR_any N zs A zs.length c V hN hs h3)
          have HST := HST0
          rw [h3] at HST
          clear h3 h0 HST0
          generalize plF chs zs zs.length = pp at *
          go_enter Try.func4, Try.ntmps4
          go_upto_region 2 with (go_at_call 16; (with_reducible refine (HCP.out _ HBX.out).mono ?_); rintro e w1 ⟨⟨A1, c1, rfl, hs⟩, hb⟩; have HS1 := Lib.hid hs; have HB1 := Lib.hid (HBX.out.trans (hb.mono HBX.out.size)); have e0 : w1.cell? ⟨w.heap.size, 0, none⟩ = some (.int .i64 k) := (hb.cell (p := ⟨w.heap.size, 0, none⟩) (by simp)).trans HX01.out.1; have e1 : w1.cell? ⟨w.heap.size, 1, none⟩ = some (.int .i64 a) := (hb.cell (p := ⟨w.heap.size, 1, none⟩) (by simp)).trans HX01.out.2; clear hs hb)
          go_quiet (fail)
          have HL0 : Hid (Sls (w1.drewN nq) [(A1, zs.length, c1, zs)]) := Sls.push (fun _ h => by cases h) (HS1.out.dr ⟨nq, rfl⟩)
          have HB0 : Hid (Below w.heap.size w (w1.drewN nq)) := below_dn HB1.out nq
          clear e0 e1 HS1 HB1
          generalize w1.drewN nq = wd at HL0 HB0 ⊢
          go_wp2_with (first
            | (go_at_call 24; (with_reducible refine (HCH.out _).mono ?_); rintro e w1 ⟨rfl, hb⟩; have HL1 := Lib.hid ((HL0.out.below hb)); have HB1 := Lib.hid (HB0.out.trans (hb.mono HB0.out.size)); clear hb)
            | (go_at_call 25; (with_reducible refine (HCA.out _ _ _ HL1.out.hd).mono ?_); rintro e w2 ⟨rfl, hb⟩; have HL2 := Lib.hid ((HL1.out.below hb)); have HB2 := Lib.hid (HB1.out.trans (hb.mono HB1.out.size)); clear hb)
            | (go_at_call 26; (with_reducible refine (HMN.out _).mono ?_); rintro e w3 ⟨rfl, hb⟩; have HL3 := Lib.hid ((HL2.out.below hb)); have HB3 := Lib.hid (HB2.out.trans (hb.mono HB2.out.size)); clear hb)
            | (go_at_call 22; (with_reducible refine (HST.out _ _ _ HL3.out.hd).mono ?_); rintro e w4 ⟨rfl, hd⟩; have hb := hd.below w3.heap.size; have HL4 := Lib.hid ((HL3.out.below hb)); have HB4 := Lib.hid (HB3.out.trans (hb.mono HB3.out.size)); clear hb hd)
            | (go_at_call 29; (with_reducible refine (HRA.out _ _ _ HL4.out.hd).mono ?_); rintro e w5 ⟨rfl, hb⟩; have HL5 := Lib.hid ((HL4.out.below hb)); have HB5 := Lib.hid (HB4.out.trans (hb.mono HB4.out.size)); clear hb)
            | (go_at_call 19; (with_reducible refine (awake_here _).mono ?_); rintro e w6 ⟨rfl, hb⟩; have HL6 := Lib.hid ((HL5.out.below hb)); have HB6 := Lib.hid (HB5.out.trans (hb.mono HB5.out.size)); clear hb))
          go_ret
          exact ⟨rfl, HB6.out⟩
      · have hp2 : (N : Int) < k := by omega
        have e0 : decide (k < 0) = false := decide_eq_false hn
        have e1 : decide (k > (N : Int)) = true := decide_eq_true hp2
        have e2 : decide ((N : Int) < k) = true := decide_eq_true hp2
        clear hp
        rcases h3 : setB (N : Int) zs with _ | _
        · have HCA := Lib.hid (fun V A c (hs : Sl V A zs.length c zs) => choiceAt_bad (N : Int) zs A zs.length c V hs (by rw [h3, Bool.and_false]))
          have HST := HST0
          rw [h3] at HST
          clear h3 h0 HST0
          go_enter Try.func4, Try.ntmps4
          go_upto_region 2 with (go_at_call 16; (with_reducible refine (HCP.out _ HBX.out).mono ?_); rintro e w1 ⟨⟨A1, c1, rfl, hs⟩, hb⟩; have HS1 := Lib.hid hs; have HB1 := Lib.hid (HBX.out.trans (hb.mono HBX.out.size)); have e0 : w1.cell? ⟨w.heap.size, 0, none⟩ = some (.int .i64 k) := (hb.cell (p := ⟨w.heap.size, 0, none⟩) (by simp)).trans HX01.out.1; have e1 : w1.cell? ⟨w.heap.size, 1, none⟩ = some (.int .i64 a) := (hb.cell (p := ⟨w.heap.size, 1, none⟩) (by simp)).trans HX01.out.2; clear hs hb)
          go_quiet (fail)
          have HL0 : Hid (Sls (w1.drewN nq) [(A1, zs.length, c1, zs)]) := Sls.push (fun _ h => by cases h) (HS1.out.dr ⟨nq, rfl⟩)
          have HB0 : Hid (Below w.heap.size w (w1.drewN nq)) := below_dn HB1.out nq
          clear e0 e1 HS1 HB1
          generalize w1.drewN nq = wd at HL0 HB0 ⊢
          go_wp2_with (first
            | (go_at_call 24; (with_reducible refine (HCH.out _).mono ?_); rintro e w1 ⟨rfl, hb⟩; have HL1 := Lib.hid ((HL0.out.below hb)); have HB1 := Lib.hid (HB0.out.trans (hb.mono HB0.out.size)); clear hb)
            | (go_at_call 25; (with_reducible refine (HCA.out _ _ _ HL1.out.hd).mono ?_); rintro e w2 ⟨rfl, hb⟩; have HL2 := Lib.hid ((HL1.out.below hb)); have HB2 := Lib.hid (HB1.out.trans (hb.mono HB1.out.size)); clear hb)
            | (go_at_call 26; (with_reducible refine (HMN.out _).mono ?_); rintro e w3 ⟨rfl, hb⟩; have HL3 := Lib.hid ((HL2.out.below hb)); have HB3 := Lib.hid (HB2.out.trans (hb.mono HB2.out.size)); clear hb)
            | (go_at_call 22; (with_reducible refine (HST.out _ _ _ HL3.out.hd).mono ?_); rintro e w4 ⟨rfl, hd⟩; have hb := hd.below w3.heap.size; have HL4 := Lib.hid ((HL3.out.below hb)); have HB4 := Lib.hid (HB3.out.trans (hb.mono HB3.out.size)); clear hb hd)
            | (go_at_call 19; (with_reducible refine (awake_here _).mono ?_); rintro e w5 ⟨rfl, hb⟩; have HL5 := Lib.hid ((HL4.out.below hb)); have HB5 := Lib.hid (HB4.out.trans (hb.mono HB4.out.size)); clear hb))
          go_ret
          exact ⟨rfl, HB5.out⟩
        · have HCA := Lib.hid (fun V A c (hs : Sl V A zs.length c zs) => choiceAt_ok N zs A zs.length c V hN hs h3)
          have HRA := Lib.hid (fun V A c (hs : Sl V A zs.length c zs) => choiceAtR_any N zs A zs.length c V hN hs h3)
          have HST := HST0
          rw [h3] at HST
          clear h3 h0 HST0
          generalize plF chs zs zs.length = pp at *
          go_enter Try.func4, Try.ntmps4
          go_upto_region 2 with (go_at_call 16; (with_reducible refine (HCP.out _ HBX.out).mono ?_); rintro e w1 ⟨⟨A1, c1, rfl, hs⟩, hb⟩; have HS1 := Lib.hid hs; have HB1 := Lib.hid (HBX.out.trans (hb.mono HBX.out.size)); have e0 : w1.cell? ⟨w.heap.size, 0, none⟩ = some (.int .i64 k) := (hb.cell (p := ⟨w.heap.size, 0, none⟩) (by simp)).trans HX01.out.1; have e1 : w1.cell? ⟨w.heap.size, 1, none⟩ = some (.int .i64 a) := (hb.cell (p := ⟨w.heap.size, 1, none⟩) (by simp)).trans HX01.out.2; clear hs hb)
          go_quiet (fail)
          have HL0 : Hid (Sls (w1.drewN nq) [(A1, zs.length, c1, zs)]) := Sls.push (fun _ h => by cases h) (HS1.out.dr ⟨nq, rfl⟩)
          have HB0 : Hid (Below w.heap.size w (w1.drewN nq)) := below_dn HB1.out nq
          clear e0 e1 HS1 HB1
          generalize w1.drewN nq = wd at HL0 HB0 ⊢
          go_wp2_with (first
            | (go_at_call 24; (with_reducible refine (HCH.out _).mono ?_); rintro e w1 ⟨rfl, hb⟩; have HL1 := Lib.hid ((HL0.out.below hb)); have HB1 := Lib.hid (HB0.out.trans (hb.mono HB0.out.size)); clear hb)
            | (go_at_call 25; (with_reducible refine (HCA.out _ _ _ HL1.out.hd).mono ?_); rintro e w2 ⟨rfl, hb⟩; have HL2 := Lib.hid ((HL1.out.below hb)); have HB2 := Lib.hid (HB1.out.trans (hb.mono HB1.out.size)); clear hb)
            | (go_at_call 26; (with_reducible refine (HMN.out _).mono ?_); rintro e w3 ⟨rfl, hb⟩; have HL3 := Lib.hid ((HL2.out.below hb)); have HB3 := Lib.hid (HB2.out.trans (hb.mono HB2.out.size)); clear hb)
            | (go_at_call 22; (with_reducible refine (HST.out _ _ _ HL3.out.hd).mono ?_); rintro e w4 ⟨rfl, hd⟩; have hb := hd.below w3.heap.size; have HL4 := Lib.hid ((HL3.out.below hb)); have HB4 := Lib.hid (HB3.out.trans (hb.mono HB3.out.size)); clear hb hd)
            | (go_at_call 29; (with_reducible refine (HRA.out _ _ _ HL4.out.hd).mono ?_); rintro e w5 ⟨rfl, hb⟩; have HL5 := Lib.hid ((HL4.out.below hb)); have HB5 := Lib.hid (HB4.out.trans (hb.mono HB4.out.size)); clear hb)
            | (go_at_call 19; (with_reducible refine (awake_here _).mono ?_); rintro e w6 ⟨rfl, hb⟩; have HL6 := Lib.hid ((HL5.out.below hb)); have HB6 := Lib.hid (HB5.out.trans (hb.mono HB5.out.size)); clear hb))
          go_ret
          exact ⟨rfl, HB6.out⟩
    · obtain ⟨K, rfl, hK⟩ : ∃ K : Nat, k = (K : Int) ∧ K ≤ N := by
        have h2 := h1
        rw [upB, Bool.and_eq_true, decide_eq_true_iff, decide_eq_true_iff] at h2
        exact ⟨k.toNat, by omega, by omega⟩
      have HMN := Lib.hid (fun V => many_ok N K V hN hK)
      have HMR := Lib.hid (fun V => manyR_any N K V hN hK)
      have hq := Nat.le_trans (chs_le N K) (two_le hN)
      have e0 : decide ((K : Int) < 0) = false := decide_eq_false (by omega)
      have e1 : decide ((K : Int) > (N : Int)) = false := decide_eq_false (by omega)
      have e2 : decide ((N : Int) < (K : Int)) = false := decide_eq_false (by omega)
      have e3 : decide (N < K) = false := decide_eq_false (by omega)
      rcases h2 : posB a ((chs N K : Nat) : Int) with _ | _
      · have HCH := Lib.hid (fun V => choice_bad (N : Int) (K : Int) a V (by rw [h0, h1, Int.toNat_natCast, Int.toNat_natCast, h2]; rfl))
        have hp : a < 0 ∨ ((chs N K : Nat) : Int) ≤ a := by
          rw [posB, Bool.and_eq_false_iff, decide_eq_false_iff_not, decide_eq_false_iff_not] at h2
          omega
        clear h1 h2
        generalize chs N K = q at *
        by_cases hn : a < 0
        · have f0 : decide (a < 0) = true := decide_eq_true hn
          clear hp
          rcases h3 : setB (N : Int) zs with _ | _
          · have HCA := Lib.hid (fun V A c (hs : Sl V A zs.length c zs) => choiceAt_bad (N : Int) zs A zs.length c V hs (by rw [h3, Bool.and_false]))
            have HST := HST0
            rw [h3] at HST
            clear h3 h0 HST0
            go_enter Try.func4, Try.ntmps4
            go_upto_region 2 with (go_at_call 16; (with_reducible refine (HCP.out _ HBX.out).mono ?_); rintro e w1 ⟨⟨A1, c1, rfl, hs⟩, hb⟩; have HS1 := Lib.hid hs; have HB1 := Lib.hid (HBX.out.trans (hb.mono HBX.out.size)); have e0 : w1.cell? ⟨w.heap.size, 0, none⟩ = some (.int .i64 (K : Int)) := (hb.cell (p := ⟨w.heap.size, 0, none⟩) (by simp)).trans HX01.out.1; have e1 : w1.cell? ⟨w.heap.size, 1, none⟩ = some (.int .i64 a) := (hb.cell (p := ⟨w.heap.size, 1, none⟩) (by simp)).trans HX01.out.2; clear hs hb)
            go_quiet (fail)
            have HL0 : Hid (Sls (w1.drewN nq) [(A1, zs.length, c1, zs)]) := Sls.push (fun _ h => by cases h) (HS1.out.dr ⟨nq, rfl⟩)
            have HB0 : Hid (Below w.heap.size w (w1.drewN nq)) := below_dn HB1.out nq
            clear e0 e1 HS1 HB1
            generalize w1.drewN nq = wd at HL0 HB0 ⊢
            go_wp2_with (first
              | (go_at_call 24; (with_reducible refine (HCH.out _).mono ?_); rintro e w1 ⟨rfl, hb⟩; have HL1 := Lib.hid ((HL0.out.below hb)); have HB1 := Lib.hid (HB0.out.trans (hb.mono HB0.out.size)); clear hb)
              | (go_at_call 25; (with_reducible refine (HCA.out _ _ _ HL1.out.hd).mono ?_); rintro e w2 ⟨rfl, hb⟩; have HL2 := Lib.hid ((HL1.out.below hb)); have HB2 := Lib.hid (HB1.out.trans (hb.mono HB1.out.size)); clear hb)
              | (go_at_call 26; (with_reducible refine (HMN.out _).mono ?_); rintro e w3 ⟨rfl, hb⟩; have HL3 := Lib.hid ((HL2.out.below hb)); have HB3 := Lib.hid (HB2.out.trans (hb.mono HB2.out.size)); clear hb)
              | (go_at_call 27; (with_reducible refine (HMR.out _).mono ?_); rintro e w4 ⟨rfl, hb⟩; have HL4 := Lib.hid ((HL3.out.below hb)); have HB4 := Lib.hid (HB3.out.trans (hb.mono HB3.out.size)); clear hb)
              | (go_at_call 22; (with_reducible refine (HST.out _ _ _ HL4.out.hd).mono ?_); rintro e w5 ⟨rfl, hd⟩; have hb := hd.below w4.heap.size; have HL5 := Lib.hid ((HL4.out.below hb)); have HB5 := Lib.hid (HB4.out.trans (hb.mono HB4.out.size)); clear hb hd)
              | (go_at_call 19; (with_reducible refine (awake_here _).mono ?_); rintro e w6 ⟨rfl, hb⟩; have HL6 := Lib.hid ((HL5.out.below hb)); have HB6 := Lib.hid (HB5.out.trans (hb.mono HB5.out.size)); clear hb))
            go_ret
            exact ⟨rfl, HB6.out⟩
          · have HCA := Lib.hid (fun V A c (hs : Sl V A zs.length c zs) => choiceAt_ok N zs A zs.length c V hN hs h3)
            have HRA := Lib.hid (fun V A c (hs : Sl V A zs.length c zs) => choiceAtR_any N zs A zs.length c V hN hs h3)
            have HST := HST0
            rw [h3] at HST
            clear h3 h0 HST0
            generalize plF chs zs zs.length = pp at *
            go_enter Try.func4, Try.ntmps4
            go_upto_region 2 with (go_at_call 16; (with_reducible refine (HCP.out _ HBX.out).mono ?_); rintro e w1 ⟨⟨A1, c1, rfl, hs⟩, hb⟩; have HS1 := Lib.hid hs; have HB1 := Lib.hid (HBX.out.trans (hb.mono HBX.out.size)); have e0 : w1.cell? ⟨w.heap.size, 0, none⟩ = some (.int .i64 (K : Int)) := (hb.cell (p := ⟨w.heap.size, 0, none⟩) (by simp)).trans HX01.out.1; have e1 : w1.cell? ⟨w.heap.size, 1, none⟩ = some (.int .i64 a) := (hb.cell (p := ⟨w.heap.size, 1, none⟩) (by simp)).trans HX01.out.2; clear hs hb)
            go_quiet (fail)
            have HL0 : Hid (Sls (w1.drewN nq) [(A1, zs.length, c1, zs)]) := Sls.push (fun _ h => by cases h) (HS1.out.dr ⟨nq, rfl⟩)
            have HB0 : Hid (Below w.heap.size w (w1.drewN nq)) := below_dn HB1.out nq
            clear e0 e1 HS1 HB1
            generalize w1.drewN nq = wd at HL0 HB0 ⊢
            go_wp2_with (first
              | (go_at_call 24; (with_reducible refine (HCH.out _).mono ?_); rintro e w1 ⟨rfl, hb⟩; have HL1 := Lib.hid ((HL0.out.below hb)); have HB1 := Lib.hid (HB0.out.trans (hb.mono HB0.out.size)); clear hb)
              | (go_at_call 25; (with_reducible refine (HCA.out _ _ _ HL1.out.hd).mono ?_); rintro e w2 ⟨rfl, hb⟩; have HL2 := Lib.hid ((HL1.out.below hb)); have HB2 := Lib.hid (HB1.out.trans (hb.mono HB1.out.size)); clear hb)
              | (go_at_call 26; (with_reducible refine (HMN.out _).mono ?_); rintro e w3 ⟨rfl, hb⟩; have HL3 := Lib.hid ((HL2.out.below hb)); have HB3 := Lib.hid (HB2.out.trans (hb.mono HB2.out.size)); clear hb)
              | (go_at_call 27; (with_reducible refine (HMR.out _).mono ?_); rintro e w4 ⟨rfl, hb⟩; have HL4 := Lib.hid ((HL3.out.below hb)); have HB4 := Lib.hid (HB3.out.trans (hb.mono HB3.out.size)); clear hb)
              | (go_at_call 22; (with_reducible refine (HST.out _ _ _ HL4.out.hd).mono ?_); rintro e w5 ⟨rfl, hd⟩; have hb := hd.below w4.heap.size; have HL5 := Lib.hid ((HL4.out.below hb)); have HB5 := Lib.hid (HB4.out.trans (hb.mono HB4.out.size)); clear hb hd)
              | (go_at_call 29; (with_reducible refine (HRA.out _ _ _ HL5.out.hd).mono ?_); rintro e w6 ⟨rfl, hb⟩; have HL6 := Lib.hid ((HL5.out.below hb)); have HB6 := Lib.hid (HB5.out.trans (hb.mono HB5.out.size)); clear hb)
              | (go_at_call 19; (with_reducible refine (awake_here _).mono ?_); rintro e w7 ⟨rfl, hb⟩; have HL7 := Lib.hid ((HL6.out.below hb)); have HB7 := Lib.hid (HB6.out.trans (hb.mono HB6.out.size)); clear hb))
            go_ret
            exact ⟨rfl, HB7.out⟩
        · have hp2 : (q : Int) ≤ a := by omega
          have f0 : decide (a < 0) = false := decide_eq_false hn
          have f1 : decide (a ≥ (q : Int)) = true := decide_eq_true hp2
          have f2 : decide ((q : Int) ≤ a) = true := decide_eq_true hp2
          clear hp
          rcases h3 : setB (N : Int) zs with _ | _
          · have HCA := Lib.hid (fun V A c (hs : Sl V A zs.length c zs) => choiceAt_bad (N : Int) zs A zs.length c V hs (by rw [h3, Bool.and_false]))
            have HST := HST0
            rw [h3] at HST
            clear h3 h0 HST0
            go_enter Try.func4, Try.ntmps4
            go_upto_region 2 with (go_at_call 16; (with_reducible refine (HCP.out _ HBX.out).mono ?_); rintro e w1 ⟨⟨A1, c1, rfl, hs⟩, hb⟩; have HS1 := Lib.hid hs; have HB1 := Lib.hid (HBX.out.trans (hb.mono HBX.out.size)); have e0 : w1.cell? ⟨w.heap.size, 0, none⟩ = some (.int .i64 (K : Int)) := (hb.cell (p := ⟨w.heap.size, 0, none⟩) (by simp)).trans HX01.out.1; have e1 : w1.cell? ⟨w.heap.size, 1, none⟩ = some (.int .i64 a) := (hb.cell (p := ⟨w.heap.size, 1, none⟩) (by simp)).trans HX01.out.2; clear hs hb)
            go_quiet (fail)
            have HL0 : Hid (Sls (w1.drewN nq) [(A1, zs.length, c1, zs)]) := Sls.push (fun _ h => by cases h) (HS1.out.dr ⟨nq, rfl⟩)
            have HB0 : Hid (Below w.heap.size w (w1.drewN nq)) := below_dn HB1.out nq
            clear e0 e1 HS1 HB1
            generalize w1.drewN nq = wd at HL0 HB0 ⊢
            go_wp2_with (first
              | (go_at_call 24; (with_reducible refine (HCH.out _).mono ?_); rintro e w1 ⟨rfl, hb⟩; have HL1 := Lib.hid ((HL0.out.below hb)); have HB1 := Lib.hid (HB0.out.trans (hb.mono HB0.out.size)); clear hb)
              | (go_at_call 25; (with_reducible refine (HCA.out _ _ _ HL1.out.hd).mono ?_); rintro e w2 ⟨rfl, hb⟩; have HL2 := Lib.hid ((HL1.out.below hb)); have HB2 := Lib.hid (HB1.out.trans (hb.mono HB1.out.size)); clear hb)
              | (go_at_call 26; (with_reducible refine (HMN.out _).mono ?_); rintro e w3 ⟨rfl, hb⟩; have HL3 := Lib.hid ((HL2.out.below hb)); have HB3 := Lib.hid (HB2.out.trans (hb.mono HB2.out.size)); clear hb)
              | (go_at_call 27; (with_reducible refine (HMR.out _).mono ?_); rintro e w4 ⟨rfl, hb⟩; have HL4 := Lib.hid ((HL3.out.below hb)); have HB4 := Lib.hid (HB3.out.trans (hb.mono HB3.out.size)); clear hb)
              | (go_at_call 22; (with_reducible refine (HST.out _ _ _ HL4.out.hd).mono ?_); rintro e w5 ⟨rfl, hd⟩; have hb := hd.below w4.heap.size; have HL5 := Lib.hid ((HL4.out.below hb)); have HB5 := Lib.hid (HB4.out.trans (hb.mono HB4.out.size)); clear hb hd)
              | (go_at_call 19; (with_reducible refine (awake_here _).mono ?_); rintro e w6 ⟨rfl, hb⟩; have HL6 := Lib.hid ((HL5.out.below hb)); have HB6 := Lib.hid (HB5.out.trans (hb.mono HB5.out.size)); clear hb))
            go_ret
            exact ⟨rfl, HB6.out⟩
          · have HCA := Lib.hid (fun V A c (hs : Sl V A zs.length c zs) => choiceAt_ok N zs A zs.length c V hN hs h3)
            have HRA := Lib.hid (fun V A c (hs : Sl V A zs.length c zs) => choiceAtR_any N zs A zs.length c V hN hs h3)
            have HST := HST0
            rw [h3] at HST
            clear h3 h0 HST0
            generalize plF chs zs zs.length = pp at *
            go_enter Try.func4, Try.ntmps4
            go_upto_region 2 with (go_at_call 16; (with_reducible refine (HCP.out _ HBX.out).mono ?_); rintro e w1 ⟨⟨A1, c1, rfl, hs⟩, hb⟩; have HS1 := Lib.hid hs; have HB1 := Lib.hid (HBX.out.trans (hb.mono HBX.out.size)); have e0 : w1.cell? ⟨w.heap.size, 0, none⟩ = some (.int .i64 (K : Int)) := (hb.cell (p := ⟨w.heap.size, 0, none⟩) (by simp)).trans HX01.out.1; have e1 : w1.cell? ⟨w.heap.size, 1, none⟩ = some (.int .i64 a) := (hb.cell (p := ⟨w.heap.size, 1, none⟩) (by simp)).trans HX01.out.2; clear hs hb)
            go_quiet (fail)
            have HL0 : Hid (Sls (w1.drewN nq) [(A1, zs.length, c1, zs)]) := Sls.push (fun _ h => by cases h) (HS1.out.dr ⟨nq, rfl⟩)
            have HB0 : Hid (Below w.heap.size w (w1.drewN nq)) := below_dn HB1.out nq
            clear e0 e1 HS1 HB1
            generalize w1.drewN nq = wd at HL0 HB0 ⊢
            go_wp2_with (first
              | (go_at_call 24; (with_reducible refine (HCH.out _).mono ?_); rintro e w1 ⟨rfl, hb⟩; have HL1 := Lib.hid ((HL0.out.below hb)); have HB1 := Lib.hid (HB0.out.trans (hb.mono HB0.out.size)); clear hb)
              | (go_at_call 25; (with_reducible refine (HCA.out _ _ _ HL1.out.hd).mono ?_); rintro e w2 ⟨rfl, hb⟩; have HL2 := Lib.hid ((HL1.out.below hb)); have HB2 := Lib.hid (HB1.out.trans (hb.mono HB1.out.size)); clear hb)
              | (go_at_call 26; (with_reducible refine (HMN.out _).mono ?_); rintro e w3 ⟨rfl, hb⟩; have HL3 := Lib.hid ((HL2.out.below hb)); have HB3 := Lib.hid (HB2.out.trans (hb.mono HB2.out.size)); clear hb)
              | (go_at_call 27; (with_reducible refine (HMR.out _).mono ?_); rintro e w4 ⟨rfl, hb⟩; have HL4 := Lib.hid ((HL3.out.below hb)); have HB4 := Lib.hid (HB3.out.trans (hb.mono HB3.out.size)); clear hb)
              | (go_at_call 22; (with_reducible refine (HST.out _ _ _ HL4.out.hd).mono ?_); rintro e w5 ⟨rfl, hd⟩; have hb := hd.below w4.heap.size; have HL5 := Lib.hid ((HL4.out.below hb)); have HB5 := Lib.hid (HB4.out.trans (hb.mono HB4.out.size)); clear hb hd)
              | (go_at_call 29; (with_reducible refine (HRA.out _ _ _ HL5.out.hd).mono ?_); rintro e w6 ⟨rfl, hb⟩; have HL6 := Lib.hid ((HL5.out.below hb)); have HB6 := Lib.hid (HB5.out.trans (hb.mono HB5.out.size)); clear hb)
              | (go_at_call 19; (with_reducible refine (awake_here _).mono ?_); rintro e w7 ⟨rfl, hb⟩; have HL7 := Lib.hid ((HL6.out.below hb)); have HB7 := Lib.hid (HB6.out.trans (hb.mono HB6.out.size)); clear hb))
            go_ret
            exact ⟨rfl, HB7.out⟩
      · obtain ⟨b, rfl, hb⟩ := posB_nat h2
        have HCH := Lib.hid (fun V => choice_ok N K b V hN hK hb)
        have HCR := Lib.hid (fun V => choiceR_ok N K b V hN hK hb)
        have HIN := Lib.hid (fun V A c B d (hz : Sl V A K c (pL chs N K b)) (hx : Sl V B K d (pL chs N K b)) => ints_one V A B K c d (pL chs N K b) (by omega) hz hx)
        clear h1 h2
        generalize pL chs N K b = LL at *
        generalize chs N K = q at *
        have f0 : decide ((b : Int) < 0) = false := decide_eq_false (by omega)
        have f1 : decide ((b : Int) ≥ (q : Int)) = false := decide_eq_false (by omega)
        have f2 : decide ((q : Int) ≤ (b : Int)) = false := decide_eq_false (by omega)
        have f3 : decide (q ≤ b) = false := decide_eq_false (by omega)
        rcases h3 : setB (N : Int) zs with _ | _
        · have HCA := Lib.hid (fun V A c (hs : Sl V A zs.length c zs) => choiceAt_bad (N : Int) zs A zs.length c V hs (by rw [h3, Bool.and_false]))
          have HST := HST0
          rw [h3] at HST
          clear h3 h0 HST0
          go_enter Try.func4, Try.ntmps4
          go_upto_region 2 with (go_at_call 16; (with_reducible refine (HCP.out _ HBX.out).mono ?_); rintro e w1 ⟨⟨A1, c1, rfl, hs⟩, hb⟩; have HS1 := Lib.hid hs; have HB1 := Lib.hid (HBX.out.trans (hb.mono HBX.out.size)); have e0 : w1.cell? ⟨w.heap.size, 0, none⟩ = some (.int .i64 (K : Int)) := (hb.cell (p := ⟨w.heap.size, 0, none⟩) (by simp)).trans HX01.out.1; have e1 : w1.cell? ⟨w.heap.size, 1, none⟩ = some (.int .i64 (b : Int)) := (hb.cell (p := ⟨w.heap.size, 1, none⟩) (by simp)).trans HX01.out.2; clear hs hb)
          go_quiet (fail)
          have HL0 : Hid (Sls (w1.drewN nq) [(A1, zs.length, c1, zs)]) := Sls.push (fun _ h => by cases h) (HS1.out.dr ⟨nq, rfl⟩)
          have HB0 : Hid (Below w.heap.size w (w1.drewN nq)) := below_dn HB1.out nq
          clear e0 e1 HS1 HB1
          generalize w1.drewN nq = wd at HL0 HB0 ⊢
          go_wp2_with (first
            | (go_at_call 24; (with_reducible refine (HCH.out _).mono ?_); rintro e w1 ⟨⟨A1, c1, rfl, hs⟩, hb⟩; have HL1 := Lib.hid ((HL0.out.below hb).push hs); have HB1 := Lib.hid (HB0.out.trans (hb.mono HB0.out.size)); clear hs hb)
            | (go_at_call 25; (with_reducible refine (HCA.out _ _ _ HL1.out.tl.hd).mono ?_); rintro e w2 ⟨rfl, hb⟩; have HL2 := Lib.hid ((HL1.out.below hb)); have HB2 := Lib.hid (HB1.out.trans (hb.mono HB1.out.size)); clear hb)
            | (go_at_call 26; (with_reducible refine (HMN.out _).mono ?_); rintro e w3 ⟨rfl, hb⟩; have HL3 := Lib.hid ((HL2.out.below hb)); have HB3 := Lib.hid (HB2.out.trans (hb.mono HB2.out.size)); clear hb)
            | (go_at_call 27; (with_reducible refine (HMR.out _).mono ?_); rintro e w4 ⟨rfl, hb⟩; have HL4 := Lib.hid ((HL3.out.below hb)); have HB4 := Lib.hid (HB3.out.trans (hb.mono HB3.out.size)); clear hb)
            | (go_at_call 28; (with_reducible refine (HCR.out _).mono ?_); rintro e w5 ⟨⟨A5, c5, rfl, hs⟩, hb⟩; have HL5 := Lib.hid ((HL4.out.below hb).push hs); have HB5 := Lib.hid (HB4.out.trans (hb.mono HB4.out.size)); clear hs hb)
            | (go_at_call 20; (with_reducible refine (HIN.out _ _ _ _ _ HL5.out.tl.hd HL5.out.hd).mono ?_); rintro e w6 ⟨rfl, hd⟩; have hb := hd.below w5.heap.size; have HL6 := Lib.hid ((HL5.out.below hb)); have HB6 := Lib.hid (HB5.out.trans (hb.mono HB5.out.size)); clear hb hd)
            | (go_at_call 22; (with_reducible refine (HST.out _ _ _ HL6.out.tl.tl.hd).mono ?_); rintro e w7 ⟨rfl, hd⟩; have hb := hd.below w6.heap.size; have HL7 := Lib.hid ((HL6.out.below hb)); have HB7 := Lib.hid (HB6.out.trans (hb.mono HB6.out.size)); clear hb hd)
            | (go_at_call 19; (with_reducible refine (awake_here _).mono ?_); rintro e w8 ⟨rfl, hb⟩; have HL8 := Lib.hid ((HL7.out.below hb)); have HB8 := Lib.hid (HB7.out.trans (hb.mono HB7.out.size)); clear hb))
          go_ret
          exact ⟨rfl, HB8.out⟩
        · have HCA := Lib.hid (fun V A c (hs : Sl V A zs.length c zs) => choiceAt_ok N zs A zs.length c V hN hs h3)
          have HRA := Lib.hid (fun V A c (hs : Sl V A zs.length c zs) => choiceAtR_any N zs A zs.length c V hN hs h3)
          have HST := HST0
          rw [h3] at HST
          clear h3 h0 HST0
          generalize plF chs zs zs.length = pp at *
          go_enter Try.func4, Try.ntmps4
          go_upto_region 2 with (go_at_call 16; (with_reducible refine (HCP.out _ HBX.out).mono ?_); rintro e w1 ⟨⟨A1, c1, rfl, hs⟩, hb⟩; have HS1 := Lib.hid hs; have HB1 := Lib.hid (HBX.out.trans (hb.mono HBX.out.size)); have e0 : w1.cell? ⟨w.heap.size, 0, none⟩ = some (.int .i64 (K : Int)) := (hb.cell (p := ⟨w.heap.size, 0, none⟩) (by simp)).trans HX01.out.1; have e1 : w1.cell? ⟨w.heap.size, 1, none⟩ = some (.int .i64 (b : Int)) := (hb.cell (p := ⟨w.heap.size, 1, none⟩) (by simp)).trans HX01.out.2; clear hs hb)
          go_quiet (fail)
          have HL0 : Hid (Sls (w1.drewN nq) [(A1, zs.length, c1, zs)]) := Sls.push (fun _ h => by cases h) (HS1.out.dr ⟨nq, rfl⟩)
          have HB0 : Hid (Below w.heap.size w (w1.drewN nq)) := below_dn HB1.out nq
          clear e0 e1 HS1 HB1
          generalize w1.drewN nq = wd at HL0 HB0 ⊢
          go_wp2_with (first
            | (go_at_call 24; (with_reducible refine (HCH.out _).mono ?_); rintro e w1 ⟨⟨A1, c1, rfl, hs⟩, hb⟩; have HL1 := Lib.hid ((HL0.out.below hb).push hs); have HB1 := Lib.hid (HB0.out.trans (hb.mono HB0.out.size)); clear hs hb)
            | (go_at_call 25; (with_reducible refine (HCA.out _ _ _ HL1.out.tl.hd).mono ?_); rintro e w2 ⟨rfl, hb⟩; have HL2 := Lib.hid ((HL1.out.below hb)); have HB2 := Lib.hid (HB1.out.trans (hb.mono HB1.out.size)); clear hb)
            | (go_at_call 26; (with_reducible refine (HMN.out _).mono ?_); rintro e w3 ⟨rfl, hb⟩; have HL3 := Lib.hid ((HL2.out.below hb)); have HB3 := Lib.hid (HB2.out.trans (hb.mono HB2.out.size)); clear hb)
            | (go_at_call 27; (with_reducible refine (HMR.out _).mono ?_); rintro e w4 ⟨rfl, hb⟩; have HL4 := Lib.hid ((HL3.out.below hb)); have HB4 := Lib.hid (HB3.out.trans (hb.mono HB3.out.size)); clear hb)
            | (go_at_call 28; (with_reducible refine (HCR.out _).mono ?_); rintro e w5 ⟨⟨A5, c5, rfl, hs⟩, hb⟩; have HL5 := Lib.hid ((HL4.out.below hb).push hs); have HB5 := Lib.hid (HB4.out.trans (hb.mono HB4.out.size)); clear hs hb)
            | (go_at_call 20; (with_reducible refine (HIN.out _ _ _ _ _ HL5.out.tl.hd HL5.out.hd).mono ?_); rintro e w6 ⟨rfl, hd⟩; have hb := hd.below w5.heap.size; have HL6 := Lib.hid ((HL5.out.below hb)); have HB6 := Lib.hid (HB5.out.trans (hb.mono HB5.out.size)); clear hb hd)
            | (go_at_call 22; (with_reducible refine (HST.out _ _ _ HL6.out.tl.tl.hd).mono ?_); rintro e w7 ⟨rfl, hd⟩; have hb := hd.below w6.heap.size; have HL7 := Lib.hid ((HL6.out.below hb)); have HB7 := Lib.hid (HB6.out.trans (hb.mono HB6.out.size)); clear hb hd)
            | (go_at_call 29; (with_reducible refine (HRA.out _ _ _ HL7.out.tl.tl.hd).mono ?_); rintro e w8 ⟨rfl, hb⟩; have HL8 := Lib.hid ((HL7.out.below hb)); have HB8 := Lib.hid (HB7.out.trans (hb.mono HB7.out.size)); clear hb)
            | (go_at_call 19; (with_reducible refine (awake_here _).mono ?_); rintro e w9 ⟨rfl, hb⟩; have HL9 := Lib.hid ((HL8.out.below hb)); have HB9 := Lib.hid (HB8.out.trans (hb.mono HB8.out.size)); clear hb))
          go_ret
          exact ⟨rfl, HB9.out⟩
end Go.Proofs.Ytfeohcknopdamaa
