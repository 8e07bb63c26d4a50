import Derived.Test.YtcnjkdkkflpgnaaT29
/- Layer 8: the walk of ShelfCurves. -/
namespace Go.Proofs.Ytcnjkdkkflpgnaa
open Go.RowKit Go.Maps
set_option linter.unusedVariables false

theorem cvL_succ (zs : List Int) (i : Nat) : cvL zs (i + 1) = cvL zs i ++ [rC rkLast ((i : Int) + 1) zs zs.length] := by unfold cvL; rw [List.range_succ, List.map_append]; rfl
theorem cvL_len (zs : List Int) (i : Nat) : (cvL zs i).length = i := by simp [cvL]
set_option maxRecDepth 100000 in
set_option maxHeartbeats 12800000 in
theorem curves_walk (A : Option Addr) (n0 c0 : Nat) (xs0 : List Int) (k : Int) (w : World) (hx : Sl w A n0 c0 xs0) :
    Calls Try.prog 5 #[.slice A n0 c0, .int .i64 k] w fun e w' => e = .returned (.bool true) ∧ Below w.heap.size w w' := by
  obtain ⟨i0, hi, hz0, hz1, hz2⟩ := info_parts Try.infoInt
  have HI : Hid (Try.prog.info? 3 = some i0 ∧ i0.zero = some (.int .i64 0) ∧ i0.size = 1 ∧ i0.bytes = 8) := ⟨hi, hz0, hz1, hz2⟩
  clear hi hz0 hz1 hz2
  have HX := Lib.hid (list_sl A n0 c0 xs0 w hx)
  generalize xs0.take 201 = xs at HX
  clear hx
  go_enter Try.func5, Try.ntmps5
  go_upto_region 2 with (go_at_call 16; (with_reducible refine HX.out.mono ?_); rintro e w1 ⟨⟨A1, n, c1, rfl, hn, hs⟩, hb⟩; have HB1 := Lib.hid hb; have SL := Lib.hid (fun V (hV : Below w1.heap.size w1 V) => hs.below hV (Nat.le_refl _)); clear hs hb)
  have HL : Hid (xs.length = n) := (SL.out w1 (Below.refl _ _)).len
  have HCU := Lib.hid (curve_any xs A1 n c1 w1 (SL.out w1 (Below.refl _ _)))
  have HPH := Lib.hid (fun V (hV : Below w1.heap.size w1 V) => phasesP_any k xs A1 n c1 V (SL.out V hV))
  have HRQ := Lib.hid (fun V (hV : Below w1.heap.size w1 V) => requests_any xs 200 15 A1 n c1 V (SL.out V hV))
  clear HX
  cases h1 : reqB xs 200 15
  · rw [h1] at HRQ
    have HC2 : Hid (Calls Try.prog 26 #[.slice A1 n c1] w1 fun e w' => e = .returned (.tuple #[.slice none 0 0, .int .i64 2]) ∧ Below w1.heap.size w1 w') := HCU.out.mono fun e w' ⟨h, hb⟩ => by
      rcases h with ⟨h, _⟩ | ⟨_, h⟩
      · rw [h1] at h; cases h
      · exact ⟨h, hb⟩
    have HP2 : Hid (∀ V, Below w1.heap.size w1 V → Calls Try.prog 27 #[.slice A1 n c1, .int .i64 k] V fun e w' => e = .returned (.tuple #[.slice none 0 0, .int .i64 2]) ∧ Below V.heap.size V w') := fun V hV => (HPH.out V hV).mono fun e w' ⟨h, hb⟩ => by
      rcases h with ⟨h, _⟩ | ⟨_, h⟩
      · rw [h1] at h; cases h
      · exact ⟨h, hb⟩
    clear h1 HCU HPH
    go_wp2_with (first
      | (go_at_call 26; (with_reducible refine HC2.out.mono ?_); rintro e w2 ⟨rfl, hb⟩; have HB2 := Lib.hid hb; clear hb)
      | (go_at_call 27; (with_reducible refine (HP2.out _ HB2.out).mono ?_); rintro e w3 ⟨rfl, hb⟩; have HB3 := Lib.hid (HB2.out.trans (hb.mono HB2.out.size)); clear hb)
      | (go_at_call 20; (with_reducible refine (HRQ.out _ HB3.out).mono ?_); rintro e w4 ⟨rfl, rfl⟩)
      | (go_at_call 21; (with_reducible refine (awake_here _).mono ?_); rintro e w6 ⟨rfl, hb6⟩))
    go_ret
    exact ⟨rfl, HB1.out.trans ((HB3.out.trans (hb6.mono HB3.out.size)).mono HB1.out.size)⟩
  · obtain ⟨hn2, hz⟩ := reqB_parts h1
    rw [HL.out] at hn2
    have HC2 : Hid (Calls Try.prog 26 #[.slice A1 n c1] w1 fun e w' => (∃ A' c', e = .returned (.tuple #[.slice A' 8 c', .int .i64 0]) ∧ Sl w' A' 8 c' (cvL xs 8)) ∧ Below w1.heap.size w1 w') := HCU.out.mono fun e w' ⟨h, hb⟩ => by
      rcases h with ⟨_, v, rfl, ho⟩ | ⟨h, _⟩
      · obtain ⟨A', c', rfl, hs⟩ := ho.sl_of (cvL_len _ _) (by omega)
        exact ⟨⟨A', c', rfl, hs⟩, hb⟩
      · rw [h1] at h; cases h
    have HSE : Hid (∀ i : Nat, i < 8 → ∀ V, Below w1.heap.size w1 V → Calls Try.prog 22 #[.slice A1 n c1, .int .i64 ((i : Int) + 1), .int .i64 0] V fun e w' => (∃ v, e = .returned (.tuple #[.int .i64 (rC rkLast ((i : Int) + 1) xs n), v])) ∧ Below V.heap.size V w') := fun i hi V hV => by
      refine (serveR_any 0 ((i : Int) + 1) xs A1 n c1 V (SL.out V hV) (by omega) (by omega) (by omega)).mono ?_
      rintro e w' ⟨⟨v, rfl, _⟩, hb⟩
      have s1 := (way_same (st := 0) (rk := rkLast) (.inl ⟨rfl, rfl⟩) (k := (i : Int) + 1) (by omega) hz).1
      rw [HL.out] at s1
      rw [← s1]
      exact ⟨⟨v, rfl⟩, hb⟩
    have HRF := Lib.hid (fun V (hV : Below w1.heap.size w1 V) => phasesR_any k xs A1 n c1 V (SL.out V hV) (by omega))
    rw [h1] at HRQ
    have hcase : (placesB k = false ∧ k < 1) ∨ (placesB k = false ∧ (¬ k < 1) ∧ k > 8) ∨ (placesB k = true ∧ (¬ k < 1) ∧ ¬ k > 8) := by
      cases h2 : placesB k
      · by_cases h3 : k < 1
        · exact .inl ⟨rfl, h3⟩
        · refine .inr (.inl ⟨rfl, h3, ?_⟩)
          refine Classical.byContradiction fun h4 => ?_
          unfold placesB at h2
          rw [decide_eq_true (by omega), decide_eq_true (by omega)] at h2
          cases h2
      · unfold placesB at h2
        rw [Bool.and_eq_true, decide_eq_true_iff, decide_eq_true_iff] at h2
        exact .inr (.inr ⟨rfl, by omega, by omega⟩)
    obtain ⟨PL, hPL⟩ : ∃ P : List Int, P = if placesB k = true then phS k xs n else [] := ⟨_, rfl⟩
    obtain ⟨ec, hec⟩ : ∃ P : Int, P = if placesB k = true then 0 else 2 := ⟨_, rfl⟩
    have hPLn : PL.length ≤ 1000 := by
      rw [hPL]
      split
      · have := phS_len k xs n; omega
      · simp
    have HP2 : Hid (∀ V, Below w1.heap.size w1 V → Calls Try.prog 27 #[.slice A1 n c1, .int .i64 k] V fun e w' => (∃ A' c', e = .returned (.tuple #[.slice A' PL.length c', .int .i64 ec]) ∧ Sl w' A' PL.length c' PL) ∧ Below V.heap.size V w') := fun V hV => (HPH.out V hV).mono fun e w' ⟨h, hb⟩ => by
      rcases h with ⟨_, h2, v, rfl, ho⟩ | ⟨h | h, rfl⟩
      · rw [if_pos h2] at hPL hec
        rw [hPL, hec]
        rw [hPL] at hPLn
        obtain ⟨A', c', rfl, hs⟩ := ho.sl_of rfl hPLn
        exact ⟨⟨A', c', rfl, hs⟩, hb⟩
      · rw [h1] at h; cases h
      · rw [if_neg (by rw [h]; decide)] at hPL hec
        rw [hPL, hec]
        exact ⟨⟨none, 0, rfl, ⟨rfl, Nat.le_refl _, by simp, fun _ => ⟨rfl, rfl⟩, fun k hk => absurd hk (by simp), fun _ _ h _ => (by cases h)⟩⟩, hb⟩
    have HPL : Hid (placesB k = true → PL = phS k xs n) := fun e => by rw [hPL, if_pos e]
    have HP0 : Hid (placesB k = false → PL = [] ∧ ec = 2) := fun e => by rw [hPL, hec, if_neg (by rw [e]; decide), if_neg (by rw [e]; decide)]; exact ⟨rfl, rfl⟩
    have HE0 : Hid (placesB k = true → ec = 0) := fun e => by rw [hec, if_pos e]
    have HCA := Lib.hid hcase
    have HPN := Lib.hid hPLn
    clear h1 HCU HPH hz hcase hPL hec hPLn
    obtain ⟨nP, hnP⟩ : ∃ q, q = PL.length := ⟨_, rfl⟩
    have HNP := Lib.hid hnP
    rw [← hnP] at HP2 HPN
    clear hnP
    go_upto_region 6 with (first
      | (go_at_call 26; (with_reducible refine HC2.out.mono ?_); rintro e w2 ⟨⟨A2, c2, rfl, hs⟩, hb⟩; have SC := Lib.hid hs; have HB2 := Lib.hid hb; clear hb hs)
      | (go_at_call 27; (with_reducible refine (HP2.out _ HB2.out).mono ?_); rintro e w3 ⟨⟨A3, c3, rfl, hs⟩, hb⟩; have HB3 := Lib.hid (HB2.out.trans (hb.mono HB2.out.size)); have SP := Lib.hid hs; have SC := Lib.hid (SC.out.below hb (Nat.le_refl _)); clear hb hs)
      | (go_at_call 20; (with_reducible refine (HRQ.out _ HB3.out).mono ?_); rintro e w4 ⟨rfl, rfl⟩))
    clear HC2 HP2 HRQ HB2
    go_wp2
    go_loopw [10, 11] (fun v r w' => ∃ i : Nat, i ≤ 8 ∧ r = .int .i64 ((i : Int) + 1) ∧ Hid (Ow w' w3.heap.size 3 v (cvL xs i)) ∧ Hid (Below w3.heap.size w3 w')) (fun _ r _ => 9 - (intOf r).toNat)
    case atStart => exact ⟨0, by omega, by go_num, Ow.nil _ _ _, Below.refl _ _⟩
    case round =>
      obtain ⟨i, hi, rfl, HO, HB⟩ := hrel
      obtain ⟨wo, rfl⟩ : ∃ wo : World, wo = wr := ⟨_, rfl⟩
      by_cases hlt : i < 8
      · have i1 : (i : Int) + 1 ≤ 8 := by omega
        have v1 : IntKind.i64.wrap ((i : Int) + 1 + 1) = (i : Int) + 1 + 1 := IntWalk.i64_in _ (by omega)
        have HS := Lib.hid (HSE.out i hlt wo (HB3.out.trans (HB.out.mono HB3.out.size)))
        have HCS : Hid (cvL xs (i + 1) = cvL xs i ++ [rC rkLast ((i : Int) + 1) xs n]) := by rw [Hid, cvL_succ, HL.out]
        have HLL : Hid ((cvL xs i).length ≤ 1099511627776) := by rw [Hid, cvL_len]; omega
        have HBZ : Hid (w3.heap.size ≤ wo.heap.size) := HB.out.size
        have HLI : Hid (i < 8) := hlt
        clear HSE HRF HCA HP0 HPL HE0
        generalize rC rkLast ((i : Int) + 1) xs n = cc at *
        generalize cvL xs i = CL at *
        go_wp2_with (first
          | (go_at_call 22; go_must (refine HS.out.mono ?_); rintro e w5 ⟨⟨v5, rfl⟩, hb⟩; have HO5 := Lib.hid (HO.out.below hb (Nat.le_refl _)); have HB5 := Lib.hid (HB.out.trans (hb.mono HBZ.out)); have HZ5 : Hid (w3.heap.size ≤ w5.heap.size) := (Nat.le_trans HBZ.out hb.size); clear hb)
          | (at_builtin; go_must (refine push_law _ rfl (.tmp 59) (.tmp 61) 22 rfl w3.heap.size 3 i0 Try.underlying22 HI.out _ CL cc rfl rfl HO5.out HLL.out HZ5.out ?_); intro v6 w6 hv6 hg6 _; have HO6 := Lib.hid hv6; have HB6 := Lib.hid (HB5.out.grown hg6 HZ5.out (fun j e => (HO5.out.lt e).1)); clear hv6 hg6))
        exact ⟨⟨i + 1, by omega, by go_num, by rw [HCS.out]; exact HO6.out, HB6.out⟩, by simp [intOf]; omega⟩
      · have hin : i = 8 := by omega
        subst hin
        have i1 : ¬ ((8 : Nat) : Int) + 1 ≤ 8 := by omega
        obtain ⟨A5, c5, rfl, hs5⟩ := HO.out.sl_of (cvL_len _ _) (by omega)
        have HIN := Lib.hid (ints_same A2 A5 (cvL xs 8) 8 c2 c5 wo (cvL_len _ _) (by omega) (SC.out.below HB.out (Nat.le_refl _)).rd hs5.rd)
        have SPo := Lib.hid (SP.out.below HB.out (Nat.le_refl _))
        have HBo := Lib.hid (HB3.out.trans (HB.out.mono HB3.out.size))
        clear HO HSE hs5 SC SP
        rcases HCA.out with ⟨h2, h3⟩ | ⟨h2, h3, h4⟩ | ⟨h2, h3, h4⟩
        · obtain ⟨e1, e2⟩ := HP0.out h2
          have e3 : nP = 0 := by rw [HNP.out, e1]; rfl
          subst e2 e3
          clear HP0 HPL HE0 HCA h2 e1
          go_wp2_with (first
            | (go_at_call 24; (with_reducible refine HIN.out.mono ?_); rintro e w7 ⟨rfl, hd⟩; have HB7 := Lib.hid (HBo.out.trans (hd.below _)); clear hd)
            | (go_at_call 21; (with_reducible refine (awake_here _).mono ?_); rintro e w8 ⟨rfl, hb8⟩))
          go_ret
          exact ⟨rfl, HB1.out.trans ((HB7.out.trans (hb8.mono HB7.out.size)).mono HB1.out.size)⟩
        · obtain ⟨e1, e2⟩ := HP0.out h2
          have e3 : nP = 0 := by rw [HNP.out, e1]; rfl
          subst e2 e3
          clear HP0 HPL HE0 HCA h2 e1
          go_wp2_with (first
            | (go_at_call 24; (with_reducible refine HIN.out.mono ?_); rintro e w7 ⟨rfl, hd⟩; have HB7 := Lib.hid (HBo.out.trans (hd.below _)); clear hd)
            | (go_at_call 21; (with_reducible refine (awake_here _).mono ?_); rintro e w8 ⟨rfl, hb8⟩))
          go_ret
          exact ⟨rfl, HB1.out.trans ((HB7.out.trans (hb8.mono HB7.out.size)).mono HB1.out.size)⟩
        · have e1 := HPL.out h2
          have e2 := HE0.out h2
          subst e2
          rw [← e1] at HRF
          have HNX := Lib.hid (HNP.out)
          clear HP0 HPL HE0 HCA h2 e1
          go_wp2_with (first
            | (go_at_call 24; (with_reducible refine HIN.out.mono ?_); rintro e w7 ⟨rfl, hd⟩; have HB7 := Lib.hid (HBo.out.trans (hd.below _)); have SP7 := Lib.hid (SPo.out.below (hd.below _) (Nat.le_refl _)); clear hd)
            | (go_at_call 28; (with_reducible refine (HRF.out _ HB7.out).mono ?_); rintro e w8 ⟨⟨v8, rfl, ho8⟩, hb⟩; obtain ⟨A8, c8, rfl, hs8⟩ := ho8.sl_of HNX.out.symm HPN.out; have HB8 := Lib.hid (HB7.out.trans (hb.mono HB7.out.size)); have SP8 := Lib.hid (SP7.out.below hb (Nat.le_refl _)); have S8 := Lib.hid hs8; clear hb ho8 hs8)
            | (go_at_call 24; (with_reducible refine (ints_same _ _ _ nP _ _ _ HNX.out.symm (by have := HPN.out; omega) SP8.out.rd S8.out.rd).mono ?_); rintro e w9 ⟨rfl, hd⟩; have HB9 := Lib.hid (HB8.out.trans (hd.below _)); clear hd)
            | (go_at_call 21; (with_reducible refine (awake_here _).mono ?_); rintro e w10 ⟨rfl, hb10⟩))
          go_ret
          exact ⟨rfl, HB1.out.trans ((HB9.out.trans (hb10.mono HB9.out.size)).mono HB1.out.size)⟩
end Go.Proofs.Ytcnjkdkkflpgnaa
