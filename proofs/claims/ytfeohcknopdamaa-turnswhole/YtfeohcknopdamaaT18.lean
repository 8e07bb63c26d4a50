import Derived.Test.YtfeohcknopdamaaT17
import Derived.Test.YtfeohcknopdamaaT10
/- Layer 10: list; TurnsSets (written by gen_laws10.py). -/
namespace Go.Proofs.Ytfeohcknopdamaa
open Go.RowKit
set_option linter.unusedVariables false

theorem list_any (A : Option Addr) (n c : Nat) (zs : List Int) (w : World) (hs : Sl w A n c zs) :
    Calls Try.prog 16 #[.slice A n c] w fun e w' => ∃ v, e = .returned v ∧ w'.ownsRow w.heap.size 3 1 v (min n 42) (ints (zs.take 42)) ∧ Below w.heap.size w w' := by
  have hcap := hs.cap
  have hbig := hs.big
  have HS := Lib.hid hs; clear hs
  obtain ⟨i0, hi, hz0, hz1, hz2⟩ := info_parts Try.infoInt
  have HI : Hid (Try.prog.info? 3 = some i0 ∧ i0.zero = some (.int .i64 0) ∧ i0.size = 1 ∧ i0.bytes = 8) := ⟨hi, hz0, hz1, hz2⟩
  clear hi hz0 hz1 hz2
  obtain ⟨k, hk⟩ : ∃ k, k = min n 42 := ⟨_, rfl⟩
  have HK := Lib.hid hk; clear hk
  by_cases h42 : n ≤ 42
  · have hmn : min (n : Int) 42 = (n : Int) := Int.min_eq_left (by omega)
    go_enter Try.func16, Try.ntmps16
    go_wp2_with (at_builtin; refine app_any _ rfl (.tmp 4) (.tmp 9) 22 rfl w.heap.size 3 i0 Try.underlying22 HI.out.1 HI.out.2.1 HI.out.2.2.1 HI.out.2.2.2 (.slice none 0 0) 0 [] rfl (World.ownsRow_nil _ _ _ _) A n c zs rfl HS.out (by omega) (Nat.le_refl _) ?_; intro v1 w1 hown hg; have HO := Lib.hid hown; clear hown; have HG := Lib.hid hg; clear hg)
    go_ret
    refine ⟨v1, rfl, ?_, (Below.refl _ _).grown HG.out (Nat.le_refl _) (by simp [Value.ownBlock])⟩
    have h := HO.out
    rw [List.take_of_length_le (by rw [HS.out.len]; exact h42), Nat.min_eq_left h42]
    simpa using h
  · have hmn : min (n : Int) 42 = 42 := Int.min_eq_right (by omega)
    go_enter Try.func16, Try.ntmps16
    go_wp2_with (at_builtin; refine app_any _ rfl (.tmp 4) (.tmp 9) 22 rfl w.heap.size 3 i0 Try.underlying22 HI.out.1 HI.out.2.1 HI.out.2.2.1 HI.out.2.2.2 (.slice none 0 0) 0 [] rfl (World.ownsRow_nil _ _ _ _) A 42 c (zs.take 42) rfl (HS.out.take (by omega)) (by omega) (Nat.le_refl _) ?_; intro v1 w1 hown hg; have HO := Lib.hid hown; clear hown; have HG := Lib.hid hg; clear hg)
    go_ret
    refine ⟨v1, rfl, ?_, (Below.refl _ _).grown HG.out (Nat.le_refl _) (by simp [Value.ownBlock])⟩
    have h := HO.out
    rw [Nat.min_eq_right (by omega)]
    simpa using h
/-- The law's copy. -/
theorem copy_any (zs : List Int) (A : Option Addr) (n c : Nat) (w : World) (h : Sl w A n c zs) :
    Calls Try.prog 16 #[.slice A n c] w fun e w' => (∃ A' c', e = .returned (.slice A' (zs.take 42).length c') ∧ Sl w' A' (zs.take 42).length c' (zs.take 42)) ∧ Below w.heap.size w w' := by
  refine (list_any A n c zs w h).mono ?_
  rintro e w' ⟨v, rfl, hv, hb⟩
  have hl : (zs.take 42).length = min n 42 := by rw [List.length_take, h.len, Nat.min_comm]
  rw [← hl] at hv
  obtain ⟨A', c', rfl, hs⟩ := Sl.of_own hv (by rw [hl]; omega)
  exact ⟨⟨A', c', rfl, hs⟩, hb⟩
theorem sl_nil (w : World) : Sl w none 0 0 [] := ⟨rfl, Nat.le_refl _, by omega, fun _ => ⟨rfl, rfl⟩, fun k hk => absurd hk (Nat.not_lt_zero _), fun b off e => by cases e⟩
set_option maxRecDepth 100000 in
set_option maxHeartbeats 6400000 in
theorem sets_walk (n a : Int) (zs0 : List Int) (A : Option Addr) (m c : Nat) (w : World) (h : Sl w A m c zs0) :
    Calls Try.prog 3 #[.int .i64 n, .int .i64 a, .slice A m c] w fun e w' => e = .returned (.bool true) ∧ Below w.heap.size w w' := by
  have HCP := Lib.hid (copy_any zs0 A m c w h)
  have hl0 : (zs0.take 42).length ≤ 42 := by rw [List.length_take]; omega
  clear h
  generalize zs0.take 42 = zs at HCP hl0
  have HAT0 := Lib.hid (fun V A1 c1 (hs : Sl V A1 zs.length c1 zs) => setAtP_any n zs A1 zs.length c1 V hs)
  have HSET0 := Lib.hid (fun V => setP_any n a V)
  rcases h0 : in40 n with _ | _
  · have HSET : Hid (∀ V, Calls Try.prog 17 #[.int .i64 n, .int .i64 a] V fun e w' => (∃ A c, e = .returned (.tuple #[.slice A 0 c, .int .i64 2]) ∧ Sl w' A 0 c []) ∧ Below V.heap.size V w') := fun V => (HSET0.out V).mono fun e w' hh => by
      rw [h0, Bool.false_and, if_neg (by decide)] at hh
      exact ⟨⟨none, 0, hh.1, sl_nil _⟩, hh.2⟩
    have HAT : Hid (∀ V A1 c1, Sl V A1 zs.length c1 zs → Calls Try.prog 18 #[.int .i64 n, .slice A1 zs.length c1] V fun e w' => e = .returned (.tuple #[.int .i64 0, .int .i64 2]) ∧ Below V.heap.size V w') := fun V A1 c1 hs => (HAT0.out V A1 c1 hs).mono fun e w' hh => by
      rw [h0, Bool.false_and, if_neg (by decide)] at hh
      exact hh
    clear HAT0 HSET0
    by_cases h1 : n < 0
    · have d0 : decide (n < 0) = true := decide_eq_true h1
      clear h0
      go_enter Try.func3, Try.ntmps3
      go_wp2_with (first
          | (go_at_call 16; (with_reducible refine HCP.out.mono ?_); rintro e w1 ⟨⟨A1, c1, rfl, hs⟩, hb⟩; have HS1 := Lib.hid hs; have HB1 := Lib.hid hb; clear hs hb)
          | (go_at_call 17; (with_reducible refine (HSET.out w1).mono ?_); rintro e w2 ⟨⟨A2, c2, rfl, hs⟩, hb⟩; have HS2 := Lib.hid hs; have HB2 := Lib.hid (HB1.out.trans (hb.mono HB1.out.size)); have HT2 := Lib.hid (HS1.out.below hb (Nat.le_refl _)); clear hs hb)
          | (go_at_call 18; (with_reducible refine (HAT.out w2 A1 c1 HT2.out).mono ?_); rintro e w3 ⟨rfl, hb⟩; have HS3 := Lib.hid (HS2.out.below hb (Nat.le_refl _)); have HB3 := Lib.hid (HB2.out.trans (hb.mono HB2.out.size)); have HBX := HB3; clear hb)
          | (go_at_call 19; (with_reducible refine (awake_here _).mono ?_); rintro e w9 ⟨rfl, hb⟩; have HB9 := Lib.hid (HBX.out.trans (hb.mono HBX.out.size)); clear hb))
      go_ret
      exact ⟨rfl, HB9.out⟩
    · have h2 : n > 40 := by
        rw [in40, Bool.and_eq_false_iff, decide_eq_false_iff_not, decide_eq_false_iff_not] at h0
        omega
      have d0 : decide (n < 0) = false := decide_eq_false h1
      have d1 : decide (n > 40) = true := decide_eq_true h2
      have d2 : decide (40 < n) = true := decide_eq_true h2
      clear h0
      go_enter Try.func3, Try.ntmps3
      go_wp2_with (first
          | (go_at_call 16; (with_reducible refine HCP.out.mono ?_); rintro e w1 ⟨⟨A1, c1, rfl, hs⟩, hb⟩; have HS1 := Lib.hid hs; have HB1 := Lib.hid hb; clear hs hb)
          | (go_at_call 17; (with_reducible refine (HSET.out w1).mono ?_); rintro e w2 ⟨⟨A2, c2, rfl, hs⟩, hb⟩; have HS2 := Lib.hid hs; have HB2 := Lib.hid (HB1.out.trans (hb.mono HB1.out.size)); have HT2 := Lib.hid (HS1.out.below hb (Nat.le_refl _)); clear hs hb)
          | (go_at_call 18; (with_reducible refine (HAT.out w2 A1 c1 HT2.out).mono ?_); rintro e w3 ⟨rfl, hb⟩; have HS3 := Lib.hid (HS2.out.below hb (Nat.le_refl _)); have HB3 := Lib.hid (HB2.out.trans (hb.mono HB2.out.size)); have HBX := HB3; clear hb)
          | (go_at_call 19; (with_reducible refine (awake_here _).mono ?_); rintro e w9 ⟨rfl, hb⟩; have HB9 := Lib.hid (HBX.out.trans (hb.mono HBX.out.size)); clear hb))
      go_ret
      exact ⟨rfl, HB9.out⟩
  · obtain ⟨N, rfl, hN⟩ := in40_nat h0
    have HRS0 := Lib.hid (fun V A1 c1 (hs : Sl V A1 zs.length c1 zs) => setsR_any zs (N : Int) A1 zs.length c1 V hs)
    have hsh := shl_nat N hN
    have h2N := two_le hN
    have d0 : decide ((N : Int) < 0) = false := decide_eq_false (by omega)
    have d1 : decide ((N : Int) > 40) = false := decide_eq_false (by omega)
    have d2 : decide (40 < (N : Int)) = false := decide_eq_false (by omega)
    have g0 : ¬ (N : Int) < 0 := by omega
    have g1 : ¬ (N : Int) > 40 := by omega
    rcases h1 : posB a ((2 ^ N : Nat) : Int) with _ | _
    · have HSET : Hid (∀ V, Calls Try.prog 17 #[.int .i64 (N : Int), .int .i64 a] V fun e w' => (∃ A c, e = .returned (.tuple #[.slice A 0 c, .int .i64 2]) ∧ Sl w' A 0 c []) ∧ Below V.heap.size V w') := fun V => (HSET0.out V).mono fun e w' hh => by
        rw [h0, Bool.true_and, Int.toNat_natCast, h1, if_neg (by decide)] at hh
        exact ⟨⟨none, 0, hh.1, sl_nil _⟩, hh.2⟩
      have hp : a < 0 ∨ ((2 ^ N : Nat) : Int) ≤ a := by
        rw [posB, Bool.and_eq_false_iff, decide_eq_false_iff_not, decide_eq_false_iff_not] at h1
        omega
      have HATF : setB (N : Int) zs = false → Hid (∀ V A1 c1, Sl V A1 zs.length c1 zs → Calls Try.prog 18 #[.int .i64 (N : Int), .slice A1 zs.length c1] V fun e w' => e = .returned (.tuple #[.int .i64 0, .int .i64 2]) ∧ Below V.heap.size V w') := fun h3 V A1 c1 hs => (HAT0.out V A1 c1 hs).mono fun e w' hh => by
        rw [h0, Bool.true_and, h3, if_neg (by decide)] at hh
        exact hh
      have HATT : setB (N : Int) zs = true → Hid (∀ V A1 c1, Sl V A1 zs.length c1 zs → Calls Try.prog 18 #[.int .i64 (N : Int), .slice A1 zs.length c1] V fun e w' => e = .returned (.tuple #[.int .i64 ((plF expL zs zs.length : Nat) : Int), .int .i64 0]) ∧ Below V.heap.size V w') := fun h3 V A1 c1 hs => (HAT0.out V A1 c1 hs).mono fun e w' hh => by
        rw [h0, Bool.true_and, h3, if_pos rfl] at hh
        exact hh
      have HRAT : setB (N : Int) zs = true → Hid (∀ V A1 c1, Sl V A1 zs.length c1 zs → Calls Try.prog 23 #[.int .i64 (N : Int), .slice A1 zs.length c1] V fun e w' => e = .returned (.int .i64 ((plF expL zs zs.length : Nat) : Int)) ∧ Dr V w') := fun h3 V A1 c1 hs => setAtR_any N zs A1 zs.length c1 V hN hs h3
      have HH3 := Lib.hid (And.intro HATF (And.intro HATT HRAT))
      clear HATF HATT HRAT HAT0
      clear h1 HSET0
      generalize 2 ^ N = q at *
      by_cases hn : a < 0
      · have e0 : decide (a < 0) = true := decide_eq_true hn
        rcases h3 : setB (N : Int) zs with _ | _
        · have HAT := HH3.out.1 h3
          have HRS := HRS0
          rw [h3] at HRS
          clear HRS0 HH3 h3 h0
          go_enter Try.func3, Try.ntmps3
          go_wp2_with (first
              | (go_at_call 16; (with_reducible refine HCP.out.mono ?_); rintro e w1 ⟨⟨A1, c1, rfl, hs⟩, hb⟩; have HS1 := Lib.hid hs; have HB1 := Lib.hid hb; clear hs hb)
              | (go_at_call 17; (with_reducible refine (HSET.out w1).mono ?_); rintro e w2 ⟨⟨A2, c2, rfl, hs⟩, hb⟩; have HS2 := Lib.hid hs; have HB2 := Lib.hid (HB1.out.trans (hb.mono HB1.out.size)); have HT2 := Lib.hid (HS1.out.below hb (Nat.le_refl _)); clear hs hb)
              | (go_at_call 18; (with_reducible refine (HAT.out w2 A1 c1 HT2.out).mono ?_); rintro e w3 ⟨rfl, hb⟩; have HS3 := Lib.hid (HS2.out.below hb (Nat.le_refl _)); have HB3 := Lib.hid (HB2.out.trans (hb.mono HB2.out.size)); have HT3 := Lib.hid (HT2.out.below hb (Nat.le_refl _)); clear hb)
              | (go_at_call 22; (with_reducible refine (HRS.out w3 A1 c1 HT3.out).mono ?_); rintro e w6 ⟨rfl, hd⟩; have HBY := Lib.hid (HB3.out.trans ((hd.below w3.heap.size).mono HB3.out.size)); have HT6 := Lib.hid (HT3.out.dr hd); have HBX := HBY; clear hd)
              | (go_at_call 19; (with_reducible refine (awake_here _).mono ?_); rintro e w9 ⟨rfl, hb⟩; have HB9 := Lib.hid (HBX.out.trans (hb.mono HBX.out.size)); clear hb))
          go_ret
          exact ⟨rfl, HB9.out⟩
        · have HAT := HH3.out.2.1 h3
          have HRA := HH3.out.2.2 h3
          have HRS := HRS0
          rw [h3] at HRS
          clear HRS0 HH3 h3 h0
          generalize plF expL zs zs.length = pp at *
          go_enter Try.func3, Try.ntmps3
          go_wp2_with (first
              | (go_at_call 16; (with_reducible refine HCP.out.mono ?_); rintro e w1 ⟨⟨A1, c1, rfl, hs⟩, hb⟩; have HS1 := Lib.hid hs; have HB1 := Lib.hid hb; clear hs hb)
              | (go_at_call 17; (with_reducible refine (HSET.out w1).mono ?_); rintro e w2 ⟨⟨A2, c2, rfl, hs⟩, hb⟩; have HS2 := Lib.hid hs; have HB2 := Lib.hid (HB1.out.trans (hb.mono HB1.out.size)); have HT2 := Lib.hid (HS1.out.below hb (Nat.le_refl _)); clear hs hb)
              | (go_at_call 18; (with_reducible refine (HAT.out w2 A1 c1 HT2.out).mono ?_); rintro e w3 ⟨rfl, hb⟩; have HS3 := Lib.hid (HS2.out.below hb (Nat.le_refl _)); have HB3 := Lib.hid (HB2.out.trans (hb.mono HB2.out.size)); have HT3 := Lib.hid (HT2.out.below hb (Nat.le_refl _)); clear hb)
              | (go_at_call 22; (with_reducible refine (HRS.out w3 A1 c1 HT3.out).mono ?_); rintro e w6 ⟨rfl, hd⟩; have HBY := Lib.hid (HB3.out.trans ((hd.below w3.heap.size).mono HB3.out.size)); have HT6 := Lib.hid (HT3.out.dr hd); clear hd)
              | (go_at_call 23; (with_reducible refine (HRA.out w6 A1 c1 HT6.out).mono ?_); rintro e w7 ⟨rfl, hd⟩; have HBX := Lib.hid (HBY.out.trans ((hd.below w6.heap.size).mono HBY.out.size)); clear hd)
              | (go_at_call 19; (with_reducible refine (awake_here _).mono ?_); rintro e w9 ⟨rfl, hb⟩; have HB9 := Lib.hid (HBX.out.trans (hb.mono HBX.out.size)); clear hb))
          go_ret
          exact ⟨rfl, HB9.out⟩
      · have e0 : decide (a < 0) = false := decide_eq_false hn
        have e1 : decide (a ≥ (q : Int)) = true := decide_eq_true (by omega)
        have e2 : decide ((q : Int) ≤ a) = true := decide_eq_true (by omega)
        rcases h3 : setB (N : Int) zs with _ | _
        · have HAT := HH3.out.1 h3
          have HRS := HRS0
          rw [h3] at HRS
          clear HRS0 HH3 h3 h0
          go_enter Try.func3, Try.ntmps3
          go_wp2_with (first
              | (go_at_call 16; (with_reducible refine HCP.out.mono ?_); rintro e w1 ⟨⟨A1, c1, rfl, hs⟩, hb⟩; have HS1 := Lib.hid hs; have HB1 := Lib.hid hb; clear hs hb)
              | (go_at_call 17; (with_reducible refine (HSET.out w1).mono ?_); rintro e w2 ⟨⟨A2, c2, rfl, hs⟩, hb⟩; have HS2 := Lib.hid hs; have HB2 := Lib.hid (HB1.out.trans (hb.mono HB1.out.size)); have HT2 := Lib.hid (HS1.out.below hb (Nat.le_refl _)); clear hs hb)
              | (go_at_call 18; (with_reducible refine (HAT.out w2 A1 c1 HT2.out).mono ?_); rintro e w3 ⟨rfl, hb⟩; have HS3 := Lib.hid (HS2.out.below hb (Nat.le_refl _)); have HB3 := Lib.hid (HB2.out.trans (hb.mono HB2.out.size)); have HT3 := Lib.hid (HT2.out.below hb (Nat.le_refl _)); clear hb)
              | (go_at_call 22; (with_reducible refine (HRS.out w3 A1 c1 HT3.out).mono ?_); rintro e w6 ⟨rfl, hd⟩; have HBY := Lib.hid (HB3.out.trans ((hd.below w3.heap.size).mono HB3.out.size)); have HT6 := Lib.hid (HT3.out.dr hd); have HBX := HBY; clear hd)
              | (go_at_call 19; (with_reducible refine (awake_here _).mono ?_); rintro e w9 ⟨rfl, hb⟩; have HB9 := Lib.hid (HBX.out.trans (hb.mono HBX.out.size)); clear hb))
          go_ret
          exact ⟨rfl, HB9.out⟩
        · have HAT := HH3.out.2.1 h3
          have HRA := HH3.out.2.2 h3
          have HRS := HRS0
          rw [h3] at HRS
          clear HRS0 HH3 h3 h0
          generalize plF expL zs zs.length = pp at *
          go_enter Try.func3, Try.ntmps3
          go_wp2_with (first
              | (go_at_call 16; (with_reducible refine HCP.out.mono ?_); rintro e w1 ⟨⟨A1, c1, rfl, hs⟩, hb⟩; have HS1 := Lib.hid hs; have HB1 := Lib.hid hb; clear hs hb)
              | (go_at_call 17; (with_reducible refine (HSET.out w1).mono ?_); rintro e w2 ⟨⟨A2, c2, rfl, hs⟩, hb⟩; have HS2 := Lib.hid hs; have HB2 := Lib.hid (HB1.out.trans (hb.mono HB1.out.size)); have HT2 := Lib.hid (HS1.out.below hb (Nat.le_refl _)); clear hs hb)
              | (go_at_call 18; (with_reducible refine (HAT.out w2 A1 c1 HT2.out).mono ?_); rintro e w3 ⟨rfl, hb⟩; have HS3 := Lib.hid (HS2.out.below hb (Nat.le_refl _)); have HB3 := Lib.hid (HB2.out.trans (hb.mono HB2.out.size)); have HT3 := Lib.hid (HT2.out.below hb (Nat.le_refl _)); clear hb)
              | (go_at_call 22; (with_reducible refine (HRS.out w3 A1 c1 HT3.out).mono ?_); rintro e w6 ⟨rfl, hd⟩; have HBY := Lib.hid (HB3.out.trans ((hd.below w3.heap.size).mono HB3.out.size)); have HT6 := Lib.hid (HT3.out.dr hd); clear hd)
              | (go_at_call 23; (with_reducible refine (HRA.out w6 A1 c1 HT6.out).mono ?_); rintro e w7 ⟨rfl, hd⟩; have HBX := Lib.hid (HBY.out.trans ((hd.below w6.heap.size).mono HBY.out.size)); clear hd)
              | (go_at_call 19; (with_reducible refine (awake_here _).mono ?_); rintro e w9 ⟨rfl, hb⟩; have HB9 := Lib.hid (HBX.out.trans (hb.mono HBX.out.size)); clear hb))
          go_ret
          exact ⟨rfl, HB9.out⟩
    · obtain ⟨b, rfl, hb⟩ := posB_nat h1
      have HLL : Hid ((pL expL N N b).length ≤ 1099511627776) := by have := pL_len expL N N b; rw [Hid]; omega
      have HSET : Hid (∀ V, Calls Try.prog 17 #[.int .i64 (N : Int), .int .i64 (b : Int)] V fun e w' => (∃ A c, e = .returned (.tuple #[.slice A (pL expL N N b).length c, .int .i64 0]) ∧ Sl w' A (pL expL N N b).length c (pL expL N N b)) ∧ Below V.heap.size V w') := fun V => (HSET0.out V).mono fun e w' hh => by
        rw [h0, Bool.true_and, Int.toNat_natCast, h1, if_pos rfl, Int.toNat_natCast] at hh
        obtain ⟨⟨v, rfl, hv⟩, hb⟩ := hh
        obtain ⟨A, c, rfl, hs⟩ := hv.sl HLL.out
        exact ⟨⟨A, c, rfl, hs⟩, hb⟩
      have HRSET : Hid (∀ V, Calls Try.prog 21 #[.int .i64 (N : Int), .int .i64 (b : Int)] V fun e w' => (∃ A c, e = .returned (.slice A (pL expL N N b).length c) ∧ Sl w' A (pL expL N N b).length c (pL expL N N b)) ∧ Below V.heap.size V w') := fun V => (setR_any N N b V hN hb).mono fun e w' hh => by
        obtain ⟨⟨v, rfl, hv⟩, hb⟩ := hh
        obtain ⟨A, c, rfl, hs⟩ := hv.sl HLL.out
        exact ⟨⟨A, c, rfl, hs⟩, hb⟩
      have HATF : setB (N : Int) zs = false → Hid (∀ V A1 c1, Sl V A1 zs.length c1 zs → Calls Try.prog 18 #[.int .i64 (N : Int), .slice A1 zs.length c1] V fun e w' => e = .returned (.tuple #[.int .i64 0, .int .i64 2]) ∧ Below V.heap.size V w') := fun h3 V A1 c1 hs => (HAT0.out V A1 c1 hs).mono fun e w' hh => by
        rw [h0, Bool.true_and, h3, if_neg (by decide)] at hh
        exact hh
      have HATT : setB (N : Int) zs = true → Hid (∀ V A1 c1, Sl V A1 zs.length c1 zs → Calls Try.prog 18 #[.int .i64 (N : Int), .slice A1 zs.length c1] V fun e w' => e = .returned (.tuple #[.int .i64 ((plF expL zs zs.length : Nat) : Int), .int .i64 0]) ∧ Below V.heap.size V w') := fun h3 V A1 c1 hs => (HAT0.out V A1 c1 hs).mono fun e w' hh => by
        rw [h0, Bool.true_and, h3, if_pos rfl] at hh
        exact hh
      have HRAT : setB (N : Int) zs = true → Hid (∀ V A1 c1, Sl V A1 zs.length c1 zs → Calls Try.prog 23 #[.int .i64 (N : Int), .slice A1 zs.length c1] V fun e w' => e = .returned (.int .i64 ((plF expL zs zs.length : Nat) : Int)) ∧ Dr V w') := fun h3 V A1 c1 hs => setAtR_any N zs A1 zs.length c1 V hN hs h3
      have HH3 := Lib.hid (And.intro HATF (And.intro HATT HRAT))
      clear HATF HATT HRAT HAT0
      clear h1 HSET0
      generalize pL expL N N b = LL at *
      generalize 2 ^ N = q at *
      have e0 : decide ((b : Int) < 0) = false := decide_eq_false (by omega)
      have e1 : decide ((b : Int) ≥ (q : Int)) = false := decide_eq_false (by omega)
      have e2 : decide ((q : Int) ≤ (b : Int)) = false := decide_eq_false (by omega)
      rcases h3 : setB (N : Int) zs with _ | _
      · have HAT := HH3.out.1 h3
        have HRS := HRS0
        rw [h3] at HRS
        clear HRS0 HH3 h3 h0
        go_enter Try.func3, Try.ntmps3
        go_wp2_with (first
            | (go_at_call 16; (with_reducible refine HCP.out.mono ?_); rintro e w1 ⟨⟨A1, c1, rfl, hs⟩, hb⟩; have HS1 := Lib.hid hs; have HB1 := Lib.hid hb; clear hs hb)
            | (go_at_call 17; (with_reducible refine (HSET.out w1).mono ?_); rintro e w2 ⟨⟨A2, c2, rfl, hs⟩, hb⟩; have HS2 := Lib.hid hs; have HB2 := Lib.hid (HB1.out.trans (hb.mono HB1.out.size)); have HT2 := Lib.hid (HS1.out.below hb (Nat.le_refl _)); clear hs hb)
            | (go_at_call 18; (with_reducible refine (HAT.out w2 A1 c1 HT2.out).mono ?_); rintro e w3 ⟨rfl, hb⟩; have HS3 := Lib.hid (HS2.out.below hb (Nat.le_refl _)); have HB3 := Lib.hid (HB2.out.trans (hb.mono HB2.out.size)); have HT3 := Lib.hid (HT2.out.below hb (Nat.le_refl _)); clear hb)
            | (go_at_call 21; (with_reducible refine (HRSET.out w3).mono ?_); rintro e w4 ⟨⟨A4, c4, rfl, hs⟩, hb⟩; have HS4 := Lib.hid hs; have HU4 := Lib.hid (HS3.out.below hb (Nat.le_refl _)); have HB4 := Lib.hid (HB3.out.trans (hb.mono HB3.out.size)); have HT4 := Lib.hid (HT3.out.below hb (Nat.le_refl _)); clear hs hb)
            | (go_at_call 20; (with_reducible refine (ints_same A2 A4 LL _ c2 c4 w4 rfl HLL.out HU4.out.rd HS4.out.rd).mono ?_); rintro e w5 ⟨rfl, hd⟩; have HB5 := Lib.hid (HB4.out.trans ((hd.below w4.heap.size).mono HB4.out.size)); have HT5 := Lib.hid (HT4.out.dr hd); clear hd)
            | (go_at_call 22; (with_reducible refine (HRS.out w5 A1 c1 HT5.out).mono ?_); rintro e w6 ⟨rfl, hd⟩; have HBY := Lib.hid (HB5.out.trans ((hd.below w5.heap.size).mono HB5.out.size)); have HT6 := Lib.hid (HT5.out.dr hd); have HBX := HBY; clear hd)
            | (go_at_call 19; (with_reducible refine (awake_here _).mono ?_); rintro e w9 ⟨rfl, hb⟩; have HB9 := Lib.hid (HBX.out.trans (hb.mono HBX.out.size)); clear hb))
        go_ret
        exact ⟨rfl, HB9.out⟩
      · have HAT := HH3.out.2.1 h3
        have HRA := HH3.out.2.2 h3
        have HRS := HRS0
        rw [h3] at HRS
        clear HRS0 HH3 h3 h0
        generalize plF expL zs zs.length = pp at *
        go_enter Try.func3, Try.ntmps3
        go_wp2_with (first
            | (go_at_call 16; (with_reducible refine HCP.out.mono ?_); rintro e w1 ⟨⟨A1, c1, rfl, hs⟩, hb⟩; have HS1 := Lib.hid hs; have HB1 := Lib.hid hb; clear hs hb)
            | (go_at_call 17; (with_reducible refine (HSET.out w1).mono ?_); rintro e w2 ⟨⟨A2, c2, rfl, hs⟩, hb⟩; have HS2 := Lib.hid hs; have HB2 := Lib.hid (HB1.out.trans (hb.mono HB1.out.size)); have HT2 := Lib.hid (HS1.out.below hb (Nat.le_refl _)); clear hs hb)
            | (go_at_call 18; (with_reducible refine (HAT.out w2 A1 c1 HT2.out).mono ?_); rintro e w3 ⟨rfl, hb⟩; have HS3 := Lib.hid (HS2.out.below hb (Nat.le_refl _)); have HB3 := Lib.hid (HB2.out.trans (hb.mono HB2.out.size)); have HT3 := Lib.hid (HT2.out.below hb (Nat.le_refl _)); clear hb)
            | (go_at_call 21; (with_reducible refine (HRSET.out w3).mono ?_); rintro e w4 ⟨⟨A4, c4, rfl, hs⟩, hb⟩; have HS4 := Lib.hid hs; have HU4 := Lib.hid (HS3.out.below hb (Nat.le_refl _)); have HB4 := Lib.hid (HB3.out.trans (hb.mono HB3.out.size)); have HT4 := Lib.hid (HT3.out.below hb (Nat.le_refl _)); clear hs hb)
            | (go_at_call 20; (with_reducible refine (ints_same A2 A4 LL _ c2 c4 w4 rfl HLL.out HU4.out.rd HS4.out.rd).mono ?_); rintro e w5 ⟨rfl, hd⟩; have HB5 := Lib.hid (HB4.out.trans ((hd.below w4.heap.size).mono HB4.out.size)); have HT5 := Lib.hid (HT4.out.dr hd); clear hd)
            | (go_at_call 22; (with_reducible refine (HRS.out w5 A1 c1 HT5.out).mono ?_); rintro e w6 ⟨rfl, hd⟩; have HBY := Lib.hid (HB5.out.trans ((hd.below w5.heap.size).mono HB5.out.size)); have HT6 := Lib.hid (HT5.out.dr hd); clear hd)
            | (go_at_call 23; (with_reducible refine (HRA.out w6 A1 c1 HT6.out).mono ?_); rintro e w7 ⟨rfl, hd⟩; have HBX := Lib.hid (HBY.out.trans ((hd.below w6.heap.size).mono HBY.out.size)); clear hd)
            | (go_at_call 19; (with_reducible refine (awake_here _).mono ?_); rintro e w9 ⟨rfl, hb⟩; have HB9 := Lib.hid (HBX.out.trans (hb.mono HBX.out.size)); clear hb))
        go_ret
        exact ⟨rfl, HB9.out⟩
end Go.Proofs.Ytfeohcknopdamaa
