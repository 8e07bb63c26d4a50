import Derived.Test.YtfeohcknopdamaaT24
import Derived.Test.YtfeohcknopdamaaT23
import Derived.Test.YtfeohcknopdamaaT18
/- Layer 10: SettingAt; Setting and SettingAt, case by case. -/
namespace Go.Proofs.Ytfeohcknopdamaa
open Go.RowKit
set_option linter.unusedVariables false

theorem settingAt_bad (zs xs : List Int) (A B : Option Addr) (n c m d : Nat) (w : World) (hz : Sl w A n c zs) (hx : Sl w B m d xs) (hb : (sizesB zs && settB zs xs) = false) :
    Calls Try.prog 46 #[.slice A n c, .slice B m d] w fun e w' => e = .returned (.tuple #[.int .i64 0, .int .i64 2]) ∧ Below w.heap.size w w' := by
  have HZ := Lib.hid (areSizes_any zs A n c w hz)
  rcases h0 : sizesB zs with _ | _
  · rw [h0] at HZ
    clear h0 hz hx hb
    go_enter Try.func46, Try.ntmps46
    go_wp2_with (go_at_call 71; (with_reducible refine HZ.out.mono ?_); rintro e w1 ⟨rfl, rfl⟩)
    go_ret2
    exact ⟨rfl, Below.refl _ _⟩
  · have HI := Lib.hid (isSetting_any zs xs A B n c m d w hz hx h0)
    rw [h0, Bool.true_and] at hb
    rw [h0] at HZ
    rw [hb] at HI
    clear h0 hz hx hb
    go_enter Try.func46, Try.ntmps46
    go_wp2_with (first | (go_at_call 71; (with_reducible refine HZ.out.mono ?_); rintro e w1 ⟨rfl, rfl⟩) | (go_at_call 74; (with_reducible refine HI.out.mono ?_); rintro e w1 ⟨rfl, rfl⟩))
    go_ret2
    exact ⟨rfl, Below.refl _ _⟩
theorem settingAt_ok (zs xs : List Int) (A B : Option Addr) (n c m d : Nat) (w : World) (hz : Sl w A n c zs) (hx : Sl w B m d xs) (h0 : sizesB zs = true) (h1 : settB zs xs = true) :
    Calls Try.prog 46 #[.slice A n c, .slice B m d] w fun e w' => e = .returned (.tuple #[.int .i64 ((stP zs xs : Nat) : Int), .int .i64 0]) ∧ Below w.heap.size w w' := by
  have HZ := Lib.hid (areSizes_any zs A n c w hz)
  have HI := Lib.hid (isSetting_any zs xs A B n c m d w hz hx h0)
  have HP := Lib.hid (placeOfSetting_any zs xs A B n c m d w hz hx h0 h1)
  rw [h0] at HZ
  rw [h1] at HI
  clear h0 hz hx h1
  go_enter Try.func46, Try.ntmps46
  go_wp2_with (first | (go_at_call 71; (with_reducible refine HZ.out.mono ?_); rintro e w1 ⟨rfl, rfl⟩) | (go_at_call 74; (with_reducible refine HI.out.mono ?_); rintro e w1 ⟨rfl, rfl⟩) | (go_at_call 75; (with_reducible refine HP.out.mono ?_); rintro e w1 ⟨rfl, hb⟩; have HB := Lib.hid hb; clear hb))
  go_ret2
  exact ⟨rfl, HB.out⟩
theorem setting_bad (zs : List Int) (a : Int) (A : Option Addr) (n c : Nat) (w : World) (h : Sl w A n c zs) (hb : (sizesB zs && posB a ((prodL zs : Nat) : Int)) = false) :
    Calls Try.prog 45 #[.slice A n c, .int .i64 a] w fun e w' => e = .returned (.tuple #[.slice none 0 0, .int .i64 2]) ∧ Below w.heap.size w w' := by
  refine (settingP_any zs a A n c w h).mono ?_
  rintro e w' hh
  rw [if_neg (by rw [hb]; decide)] at hh
  exact hh
theorem setting_ok (zs : List Int) (a : Nat) (A : Option Addr) (n c : Nat) (w : World) (h : Sl w A n c zs) (h0 : sizesB zs = true) (ha : a < prodL zs) :
    Calls Try.prog 45 #[.slice A n c, .int .i64 (a : Int)] w fun e w' => (∃ A' c', e = .returned (.tuple #[.slice A' zs.length c', .int .i64 0]) ∧ Sl w' A' zs.length c' (setF zs a)) ∧ Below w.heap.size w w' := by
  refine (settingP_any zs a A n c w h).mono ?_
  rintro e w' hh
  rw [if_pos (by rw [h0, posB, decide_eq_true (by omega), decide_eq_true (by omega)]; rfl), Int.toNat_natCast] at hh
  obtain ⟨⟨v, rfl, hv⟩, hb⟩ := hh
  have hl : zs.length ≤ 12 := by rw [sizesB, Bool.and_eq_true, decide_eq_true_iff] at h0; exact h0.1
  obtain ⟨A', c', rfl, hs⟩ := hv.sl_len (setF_len zs a) (by omega)
  exact ⟨⟨A', c', rfl, hs⟩, hb⟩
theorem settingR_ok (zs : List Int) (a : Nat) (A : Option Addr) (n c : Nat) (w : World) (h : Sl w A n c zs) (h0 : sizesB zs = true) (ha : a < prodL zs) :
    Calls Try.prog 49 #[.slice A n c, .int .i64 (a : Int)] w fun e w' => (∃ A' c', e = .returned (.slice A' zs.length c') ∧ Sl w' A' zs.length c' (setF zs a)) ∧ Below w.heap.size w w' := by
  refine (settingR_any zs a A n c w h h0 ha).mono ?_
  rintro e w' ⟨⟨v, rfl, hv⟩, hb⟩
  have hl : zs.length ≤ 12 := by rw [sizesB, Bool.and_eq_true, decide_eq_true_iff] at h0; exact h0.1
  obtain ⟨A', c', rfl, hs⟩ := hv.sl_len (setF_len zs a) (by omega)
  exact ⟨⟨A', c', rfl, hs⟩, hb⟩
end Go.Proofs.Ytfeohcknopdamaa
/- Layer 10: TurnsDials (written by gen_dials2.py). -/
namespace Go.Proofs.Ytfeohcknopdamaa
open Go.RowKit
set_option linter.unusedVariables false

theorem Sls.hd {V : World} {A : Option Addr} {n c : Nat} {zs : List Int} {l : List (Option Addr × Nat × Nat × List Int)} (h : Sls V ((A, n, c, zs) :: l)) : Sl V A n c zs := h _ (List.mem_cons_self ..)
theorem Sls.tl {V : World} {q : Option Addr × Nat × Nat × List Int} {l : List (Option Addr × Nat × Nat × List Int)} (h : Sls V (q :: l)) : Sls V l := fun p hp => h p (List.mem_cons_of_mem _ hp)
theorem ints_one (V : World) (A B : Option Addr) (n c d : Nat) (zs : List Int) (hn : n ≤ 1099511627776) (ha : Sl V A n c zs) (hb : Sl V B n d zs) :
    Calls Try.prog 20 #[.slice A n c, .slice B n d] V fun e w' => e = .returned (.bool true) ∧ Dr V w' := ints_same A B zs n c d V ha.len hn ha.rd hb.rd
set_option maxRecDepth 100000 in
set_option maxHeartbeats 6400000 in
theorem dials_walk (zs0 xs0 : List Int) (a : Int) (A B : Option Addr) (n c m d : Nat) (w : World) (hz : Sl w A n c zs0) (hx : Sl w B m d xs0) :
    Calls Try.prog 7 #[.slice A n c, .int .i64 a, .slice B m d] w fun e w' => e = .returned (.bool true) ∧ Below w.heap.size w w' := by
  have HCP1 := Lib.hid (copy_any zs0 A n c w hz)
  have HCP2 := Lib.hid (fun V (hV : Sl V B m d xs0) => copy_any xs0 B m d V hV)
  have HL0 : Hid (Sls w [(B, m, d, xs0)]) := Sls.push (fun _ h => by cases h) hx
  have HB0 : Hid (Below w.heap.size w w) := Below.refl _ _
  have hl0 : (zs0.take 42).length ≤ 42 := by rw [List.length_take]; omega
  have hl1 : (xs0.take 42).length ≤ 42 := by rw [List.length_take]; omega
  clear hz hx
  generalize zs0.take 42 = zs at HCP1 hl0
  generalize xs0.take 42 = xs at HCP2 hl1
  have HSZ := Lib.hid (fun V A c (hs : Sl V A zs.length c zs) => sizesR_any zs A zs.length c V hs)
  rcases h0 : sizesB zs with _ | _
  · have HSET := Lib.hid (fun V A c (hs : Sl V A zs.length c zs) => setting_bad zs a A zs.length c V hs (by rw [h0]; rfl))
    have HSAT := Lib.hid (fun V A c B d (hz : Sl V A zs.length c zs) (hx : Sl V B xs.length d xs) => settingAt_bad zs xs A B zs.length c xs.length d V hz hx (by rw [h0]; rfl))
    rw [h0] at HSZ
    clear h0
    go_enter Try.func7, Try.ntmps7
    go_wp2_with (first
      | (go_at_call 16; (with_reducible refine (HCP1.out).mono ?_); rintro e w1 ⟨⟨A1, c1, rfl, hs⟩, hb⟩; have HL1 := Lib.hid ((HL0.out.below hb).push hs); have HB1 := Lib.hid (HB0.out.trans (hb.mono HB0.out.size)); clear hs hb)
      | (go_at_call 16; (with_reducible refine (HCP2.out _ HL1.out.tl.hd).mono ?_); rintro e w2 ⟨⟨A2, c2, rfl, hs⟩, hb⟩; have HL2 := Lib.hid ((HL1.out.below hb).push hs); have HB2 := Lib.hid (HB1.out.trans (hb.mono HB1.out.size)); clear hs hb)
      | (go_at_call 45; (with_reducible refine (HSET.out _ _ _ HL2.out.tl.hd).mono ?_); rintro e w3 ⟨rfl, hb⟩; have HL3 := Lib.hid ((HL2.out.below hb)); have HB3 := Lib.hid (HB2.out.trans (hb.mono HB2.out.size)); clear hb)
      | (go_at_call 46; (with_reducible refine (HSAT.out _ _ _ _ _ HL3.out.tl.hd HL3.out.hd).mono ?_); rintro e w4 ⟨rfl, hb⟩; have HL4 := Lib.hid ((HL3.out.below hb)); have HB4 := Lib.hid (HB3.out.trans (hb.mono HB3.out.size)); clear hb)
      | (go_at_call 47; (with_reducible refine (HSZ.out _ _ _ HL4.out.tl.hd).mono ?_); rintro e w' ⟨rfl, rfl⟩)
      | (go_at_call 19; (with_reducible refine (awake_here _).mono ?_); rintro e w5 ⟨rfl, hb⟩; have HL5 := Lib.hid ((HL4.out.below hb)); have HB5 := Lib.hid (HB4.out.trans (hb.mono HB4.out.size)); clear hb))
    go_ret
    exact ⟨rfl, HB5.out⟩
  · have HPR := Lib.hid (fun V A c (hs : Sl V A zs.length c zs) => productR_any zs A zs.length c V hs h0)
    have hpp := (sizesB_prod h0).2
    have HSZ2 := HSZ
    rw [h0] at HSZ2
    clear HSZ
    have HSZ := HSZ2
    clear HSZ2
    rcases h1 : posB a ((prodL zs : Nat) : Int) with _ | _
    · have HSET := Lib.hid (fun V A c (hs : Sl V A zs.length c zs) => setting_bad zs a A zs.length c V hs (by rw [h0, h1]; rfl))
      have hp : a < 0 ∨ ((prodL zs : Nat) : Int) ≤ a := by
        rw [posB, Bool.and_eq_false_iff, decide_eq_false_iff_not, decide_eq_false_iff_not] at h1
        omega
      clear h1
      by_cases hn : a < 0
      · have e0 : decide (a < 0) = true := decide_eq_true hn
        rcases h3 : settB zs xs with _ | _
        · have HSAT := Lib.hid (fun V A c B d (hz : Sl V A zs.length c zs) (hx : Sl V B xs.length d xs) => settingAt_bad zs xs A B zs.length c xs.length d V hz hx (by rw [h3, Bool.and_false]))
          have HST := Lib.hid (fun V A c B d (hz : Sl V A zs.length c zs) (hx : Sl V B xs.length d xs) => settingsR_any zs xs A B zs.length c xs.length d V hz hx)
          rw [h3] at HST
          clear h3 h0
          generalize prodL zs = q at *
          go_enter Try.func7, Try.ntmps7
          go_wp2_with (first
            | (go_at_call 16; (with_reducible refine (HCP1.out).mono ?_); rintro e w1 ⟨⟨A1, c1, rfl, hs⟩, hb⟩; have HL1 := Lib.hid ((HL0.out.below hb).push hs); have HB1 := Lib.hid (HB0.out.trans (hb.mono HB0.out.size)); clear hs hb)
            | (go_at_call 16; (with_reducible refine (HCP2.out _ HL1.out.tl.hd).mono ?_); rintro e w2 ⟨⟨A2, c2, rfl, hs⟩, hb⟩; have HL2 := Lib.hid ((HL1.out.below hb).push hs); have HB2 := Lib.hid (HB1.out.trans (hb.mono HB1.out.size)); clear hs hb)
            | (go_at_call 45; (with_reducible refine (HSET.out _ _ _ HL2.out.tl.hd).mono ?_); rintro e w3 ⟨rfl, hb⟩; have HL3 := Lib.hid ((HL2.out.below hb)); have HB3 := Lib.hid (HB2.out.trans (hb.mono HB2.out.size)); clear hb)
            | (go_at_call 46; (with_reducible refine (HSAT.out _ _ _ _ _ HL3.out.tl.hd HL3.out.hd).mono ?_); rintro e w4 ⟨rfl, hb⟩; have HL4 := Lib.hid ((HL3.out.below hb)); have HB4 := Lib.hid (HB3.out.trans (hb.mono HB3.out.size)); clear hb)
            | (go_at_call 47; (with_reducible refine (HSZ.out _ _ _ HL4.out.tl.hd).mono ?_); rintro e w' ⟨rfl, rfl⟩)
            | (go_at_call 50; (with_reducible refine (HST.out _ _ _ _ _ HL4.out.tl.hd HL4.out.hd).mono ?_); rintro e w5 ⟨rfl, hd⟩; have hb := hd.below w4.heap.size; have HL5 := Lib.hid ((HL4.out.below hb)); have HB5 := Lib.hid (HB4.out.trans (hb.mono HB4.out.size)); clear hb hd)
            | (go_at_call 19; (with_reducible refine (awake_here _).mono ?_); rintro e w6 ⟨rfl, hb⟩; have HL6 := Lib.hid ((HL5.out.below hb)); have HB6 := Lib.hid (HB5.out.trans (hb.mono HB5.out.size)); clear hb))
          go_ret
          exact ⟨rfl, HB6.out⟩
        · have HSAT := Lib.hid (fun V A c B d (hz : Sl V A zs.length c zs) (hx : Sl V B xs.length d xs) => settingAt_ok zs xs A B zs.length c xs.length d V hz hx h0 h3)
          have HST := Lib.hid (fun V A c B d (hz : Sl V A zs.length c zs) (hx : Sl V B xs.length d xs) => settingsR_any zs xs A B zs.length c xs.length d V hz hx)
          have HRA := Lib.hid (fun V A c B d (hz : Sl V A zs.length c zs) (hx : Sl V B xs.length d xs) => settingAtR_any zs xs A B zs.length c xs.length d V hz hx h0 h3)
          rw [h3] at HST
          clear h3 h0
          generalize stP zs xs = pp at *
          generalize prodL zs = q at *
          go_enter Try.func7, Try.ntmps7
          go_wp2_with (first
            | (go_at_call 16; (with_reducible refine (HCP1.out).mono ?_); rintro e w1 ⟨⟨A1, c1, rfl, hs⟩, hb⟩; have HL1 := Lib.hid ((HL0.out.below hb).push hs); have HB1 := Lib.hid (HB0.out.trans (hb.mono HB0.out.size)); clear hs hb)
            | (go_at_call 16; (with_reducible refine (HCP2.out _ HL1.out.tl.hd).mono ?_); rintro e w2 ⟨⟨A2, c2, rfl, hs⟩, hb⟩; have HL2 := Lib.hid ((HL1.out.below hb).push hs); have HB2 := Lib.hid (HB1.out.trans (hb.mono HB1.out.size)); clear hs hb)
            | (go_at_call 45; (with_reducible refine (HSET.out _ _ _ HL2.out.tl.hd).mono ?_); rintro e w3 ⟨rfl, hb⟩; have HL3 := Lib.hid ((HL2.out.below hb)); have HB3 := Lib.hid (HB2.out.trans (hb.mono HB2.out.size)); clear hb)
            | (go_at_call 46; (with_reducible refine (HSAT.out _ _ _ _ _ HL3.out.tl.hd HL3.out.hd).mono ?_); rintro e w4 ⟨rfl, hb⟩; have HL4 := Lib.hid ((HL3.out.below hb)); have HB4 := Lib.hid (HB3.out.trans (hb.mono HB3.out.size)); clear hb)
            | (go_at_call 47; (with_reducible refine (HSZ.out _ _ _ HL4.out.tl.hd).mono ?_); rintro e w' ⟨rfl, rfl⟩)
            | (go_at_call 50; (with_reducible refine (HST.out _ _ _ _ _ HL4.out.tl.hd HL4.out.hd).mono ?_); rintro e w5 ⟨rfl, hd⟩; have hb := hd.below w4.heap.size; have HL5 := Lib.hid ((HL4.out.below hb)); have HB5 := Lib.hid (HB4.out.trans (hb.mono HB4.out.size)); clear hb hd)
            | (go_at_call 51; (with_reducible refine (HRA.out _ _ _ _ _ HL5.out.tl.hd HL5.out.hd).mono ?_); rintro e w6 ⟨rfl, hd⟩; have hb := hd.below w5.heap.size; have HL6 := Lib.hid ((HL5.out.below hb)); have HB6 := Lib.hid (HB5.out.trans (hb.mono HB5.out.size)); clear hb hd)
            | (go_at_call 19; (with_reducible refine (awake_here _).mono ?_); rintro e w7 ⟨rfl, hb⟩; have HL7 := Lib.hid ((HL6.out.below hb)); have HB7 := Lib.hid (HB6.out.trans (hb.mono HB6.out.size)); clear hb))
          go_ret
          exact ⟨rfl, HB7.out⟩
      · have hge : ((prodL zs : Nat) : Int) ≤ a := by omega
        have e0 : decide (a < 0) = false := decide_eq_false hn
        rcases h3 : settB zs xs with _ | _
        · have HSAT := Lib.hid (fun V A c B d (hz : Sl V A zs.length c zs) (hx : Sl V B xs.length d xs) => settingAt_bad zs xs A B zs.length c xs.length d V hz hx (by rw [h3, Bool.and_false]))
          have HST := Lib.hid (fun V A c B d (hz : Sl V A zs.length c zs) (hx : Sl V B xs.length d xs) => settingsR_any zs xs A B zs.length c xs.length d V hz hx)
          rw [h3] at HST
          clear h3 h0
          generalize prodL zs = q at *
          have e1 : decide (a ≥ (q : Int)) = true := decide_eq_true hge
          have e2 : decide ((q : Int) ≤ a) = true := decide_eq_true hge
          go_enter Try.func7, Try.ntmps7
          go_wp2_with (first
            | (go_at_call 16; (with_reducible refine (HCP1.out).mono ?_); rintro e w1 ⟨⟨A1, c1, rfl, hs⟩, hb⟩; have HL1 := Lib.hid ((HL0.out.below hb).push hs); have HB1 := Lib.hid (HB0.out.trans (hb.mono HB0.out.size)); clear hs hb)
            | (go_at_call 16; (with_reducible refine (HCP2.out _ HL1.out.tl.hd).mono ?_); rintro e w2 ⟨⟨A2, c2, rfl, hs⟩, hb⟩; have HL2 := Lib.hid ((HL1.out.below hb).push hs); have HB2 := Lib.hid (HB1.out.trans (hb.mono HB1.out.size)); clear hs hb)
            | (go_at_call 45; (with_reducible refine (HSET.out _ _ _ HL2.out.tl.hd).mono ?_); rintro e w3 ⟨rfl, hb⟩; have HL3 := Lib.hid ((HL2.out.below hb)); have HB3 := Lib.hid (HB2.out.trans (hb.mono HB2.out.size)); clear hb)
            | (go_at_call 46; (with_reducible refine (HSAT.out _ _ _ _ _ HL3.out.tl.hd HL3.out.hd).mono ?_); rintro e w4 ⟨rfl, hb⟩; have HL4 := Lib.hid ((HL3.out.below hb)); have HB4 := Lib.hid (HB3.out.trans (hb.mono HB3.out.size)); clear hb)
            | (go_at_call 47; (with_reducible refine (HSZ.out _ _ _ HL4.out.tl.hd).mono ?_); rintro e w' ⟨rfl, rfl⟩)
            | (go_at_call 48; (with_reducible refine (HPR.out _ _ _ HL4.out.tl.hd).mono ?_); rintro e w' ⟨rfl, rfl⟩)
            | (go_at_call 50; (with_reducible refine (HST.out _ _ _ _ _ HL4.out.tl.hd HL4.out.hd).mono ?_); rintro e w5 ⟨rfl, hd⟩; have hb := hd.below w4.heap.size; have HL5 := Lib.hid ((HL4.out.below hb)); have HB5 := Lib.hid (HB4.out.trans (hb.mono HB4.out.size)); clear hb hd)
            | (go_at_call 19; (with_reducible refine (awake_here _).mono ?_); rintro e w6 ⟨rfl, hb⟩; have HL6 := Lib.hid ((HL5.out.below hb)); have HB6 := Lib.hid (HB5.out.trans (hb.mono HB5.out.size)); clear hb))
          go_ret
          exact ⟨rfl, HB6.out⟩
        · have HSAT := Lib.hid (fun V A c B d (hz : Sl V A zs.length c zs) (hx : Sl V B xs.length d xs) => settingAt_ok zs xs A B zs.length c xs.length d V hz hx h0 h3)
          have HST := Lib.hid (fun V A c B d (hz : Sl V A zs.length c zs) (hx : Sl V B xs.length d xs) => settingsR_any zs xs A B zs.length c xs.length d V hz hx)
          have HRA := Lib.hid (fun V A c B d (hz : Sl V A zs.length c zs) (hx : Sl V B xs.length d xs) => settingAtR_any zs xs A B zs.length c xs.length d V hz hx h0 h3)
          rw [h3] at HST
          clear h3 h0
          generalize stP zs xs = pp at *
          generalize prodL zs = q at *
          have e1 : decide (a ≥ (q : Int)) = true := decide_eq_true hge
          have e2 : decide ((q : Int) ≤ a) = true := decide_eq_true hge
          go_enter Try.func7, Try.ntmps7
          go_wp2_with (first
            | (go_at_call 16; (with_reducible refine (HCP1.out).mono ?_); rintro e w1 ⟨⟨A1, c1, rfl, hs⟩, hb⟩; have HL1 := Lib.hid ((HL0.out.below hb).push hs); have HB1 := Lib.hid (HB0.out.trans (hb.mono HB0.out.size)); clear hs hb)
            | (go_at_call 16; (with_reducible refine (HCP2.out _ HL1.out.tl.hd).mono ?_); rintro e w2 ⟨⟨A2, c2, rfl, hs⟩, hb⟩; have HL2 := Lib.hid ((HL1.out.below hb).push hs); have HB2 := Lib.hid (HB1.out.trans (hb.mono HB1.out.size)); clear hs hb)
            | (go_at_call 45; (with_reducible refine (HSET.out _ _ _ HL2.out.tl.hd).mono ?_); rintro e w3 ⟨rfl, hb⟩; have HL3 := Lib.hid ((HL2.out.below hb)); have HB3 := Lib.hid (HB2.out.trans (hb.mono HB2.out.size)); clear hb)
            | (go_at_call 46; (with_reducible refine (HSAT.out _ _ _ _ _ HL3.out.tl.hd HL3.out.hd).mono ?_); rintro e w4 ⟨rfl, hb⟩; have HL4 := Lib.hid ((HL3.out.below hb)); have HB4 := Lib.hid (HB3.out.trans (hb.mono HB3.out.size)); clear hb)
            | (go_at_call 47; (with_reducible refine (HSZ.out _ _ _ HL4.out.tl.hd).mono ?_); rintro e w' ⟨rfl, rfl⟩)
            | (go_at_call 48; (with_reducible refine (HPR.out _ _ _ HL4.out.tl.hd).mono ?_); rintro e w' ⟨rfl, rfl⟩)
            | (go_at_call 50; (with_reducible refine (HST.out _ _ _ _ _ HL4.out.tl.hd HL4.out.hd).mono ?_); rintro e w5 ⟨rfl, hd⟩; have hb := hd.below w4.heap.size; have HL5 := Lib.hid ((HL4.out.below hb)); have HB5 := Lib.hid (HB4.out.trans (hb.mono HB4.out.size)); clear hb hd)
            | (go_at_call 51; (with_reducible refine (HRA.out _ _ _ _ _ HL5.out.tl.hd HL5.out.hd).mono ?_); rintro e w6 ⟨rfl, hd⟩; have hb := hd.below w5.heap.size; have HL6 := Lib.hid ((HL5.out.below hb)); have HB6 := Lib.hid (HB5.out.trans (hb.mono HB5.out.size)); clear hb hd)
            | (go_at_call 19; (with_reducible refine (awake_here _).mono ?_); rintro e w7 ⟨rfl, hb⟩; have HL7 := Lib.hid ((HL6.out.below hb)); have HB7 := Lib.hid (HB6.out.trans (hb.mono HB6.out.size)); clear hb))
          go_ret
          exact ⟨rfl, HB7.out⟩
    · obtain ⟨b, rfl, hb⟩ := posB_nat h1
      have HSET := Lib.hid (fun V A c (hs : Sl V A zs.length c zs) => setting_ok zs b A zs.length c V hs h0 hb)
      have HRS := Lib.hid (fun V A c (hs : Sl V A zs.length c zs) => settingR_ok zs b A zs.length c V hs h0 hb)
      have HIN := Lib.hid (fun V A c B d (hz : Sl V A zs.length c (setF zs b)) (hx : Sl V B zs.length d (setF zs b)) => ints_one V A B zs.length c d (setF zs b) (by omega) hz hx)
      have e0 : decide ((b : Int) < 0) = false := decide_eq_false (by omega)
      clear h1
      rcases h3 : settB zs xs with _ | _
      · have HSAT := Lib.hid (fun V A c B d (hz : Sl V A zs.length c zs) (hx : Sl V B xs.length d xs) => settingAt_bad zs xs A B zs.length c xs.length d V hz hx (by rw [h3, Bool.and_false]))
        have HST := Lib.hid (fun V A c B d (hz : Sl V A zs.length c zs) (hx : Sl V B xs.length d xs) => settingsR_any zs xs A B zs.length c xs.length d V hz hx)
        rw [h3] at HST
        clear h3 h0
        generalize setF zs b = LL at *
        generalize prodL zs = q at *
        have e1 : decide ((b : Int) ≥ (q : Int)) = false := decide_eq_false (by omega)
        have e2 : decide ((q : Int) ≤ (b : Int)) = false := decide_eq_false (by omega)
        go_enter Try.func7, Try.ntmps7
        go_wp2_with (first
          | (go_at_call 16; (with_reducible refine (HCP1.out).mono ?_); rintro e w1 ⟨⟨A1, c1, rfl, hs⟩, hb⟩; have HL1 := Lib.hid ((HL0.out.below hb).push hs); have HB1 := Lib.hid (HB0.out.trans (hb.mono HB0.out.size)); clear hs hb)
          | (go_at_call 16; (with_reducible refine (HCP2.out _ HL1.out.tl.hd).mono ?_); rintro e w2 ⟨⟨A2, c2, rfl, hs⟩, hb⟩; have HL2 := Lib.hid ((HL1.out.below hb).push hs); have HB2 := Lib.hid (HB1.out.trans (hb.mono HB1.out.size)); clear hs hb)
          | (go_at_call 45; (with_reducible refine (HSET.out _ _ _ HL2.out.tl.hd).mono ?_); rintro e w3 ⟨⟨A3, c3, rfl, hs⟩, hb⟩; have HL3 := Lib.hid ((HL2.out.below hb).push hs); have HB3 := Lib.hid (HB2.out.trans (hb.mono HB2.out.size)); clear hs hb)
          | (go_at_call 46; (with_reducible refine (HSAT.out _ _ _ _ _ HL3.out.tl.tl.hd HL3.out.tl.hd).mono ?_); rintro e w4 ⟨rfl, hb⟩; have HL4 := Lib.hid ((HL3.out.below hb)); have HB4 := Lib.hid (HB3.out.trans (hb.mono HB3.out.size)); clear hb)
          | (go_at_call 47; (with_reducible refine (HSZ.out _ _ _ HL4.out.tl.tl.hd).mono ?_); rintro e w' ⟨rfl, rfl⟩)
          | (go_at_call 48; (with_reducible refine (HPR.out _ _ _ HL4.out.tl.tl.hd).mono ?_); rintro e w' ⟨rfl, rfl⟩)
          | (go_at_call 49; (with_reducible refine (HRS.out _ _ _ HL4.out.tl.tl.hd).mono ?_); rintro e w5 ⟨⟨A5, c5, rfl, hs⟩, hb⟩; have HL5 := Lib.hid ((HL4.out.below hb).push hs); have HB5 := Lib.hid (HB4.out.trans (hb.mono HB4.out.size)); clear hs hb)
          | (go_at_call 20; (with_reducible refine (HIN.out _ _ _ _ _ HL5.out.tl.hd HL5.out.hd).mono ?_); rintro e w6 ⟨rfl, hd⟩; have hb := hd.below w5.heap.size; have HL6 := Lib.hid ((HL5.out.below hb)); have HB6 := Lib.hid (HB5.out.trans (hb.mono HB5.out.size)); clear hb hd)
          | (go_at_call 50; (with_reducible refine (HST.out _ _ _ _ _ HL6.out.tl.tl.tl.hd HL6.out.tl.tl.hd).mono ?_); rintro e w7 ⟨rfl, hd⟩; have hb := hd.below w6.heap.size; have HL7 := Lib.hid ((HL6.out.below hb)); have HB7 := Lib.hid (HB6.out.trans (hb.mono HB6.out.size)); clear hb hd)
          | (go_at_call 19; (with_reducible refine (awake_here _).mono ?_); rintro e w8 ⟨rfl, hb⟩; have HL8 := Lib.hid ((HL7.out.below hb)); have HB8 := Lib.hid (HB7.out.trans (hb.mono HB7.out.size)); clear hb))
        go_ret
        exact ⟨rfl, HB8.out⟩
      · have HSAT := Lib.hid (fun V A c B d (hz : Sl V A zs.length c zs) (hx : Sl V B xs.length d xs) => settingAt_ok zs xs A B zs.length c xs.length d V hz hx h0 h3)
        have HST := Lib.hid (fun V A c B d (hz : Sl V A zs.length c zs) (hx : Sl V B xs.length d xs) => settingsR_any zs xs A B zs.length c xs.length d V hz hx)
        have HRA := Lib.hid (fun V A c B d (hz : Sl V A zs.length c zs) (hx : Sl V B xs.length d xs) => settingAtR_any zs xs A B zs.length c xs.length d V hz hx h0 h3)
        rw [h3] at HST
        clear h3 h0
        generalize stP zs xs = pp at *
        generalize setF zs b = LL at *
        generalize prodL zs = q at *
        have e1 : decide ((b : Int) ≥ (q : Int)) = false := decide_eq_false (by omega)
        have e2 : decide ((q : Int) ≤ (b : Int)) = false := decide_eq_false (by omega)
        go_enter Try.func7, Try.ntmps7
        go_wp2_with (first
          | (go_at_call 16; (with_reducible refine (HCP1.out).mono ?_); rintro e w1 ⟨⟨A1, c1, rfl, hs⟩, hb⟩; have HL1 := Lib.hid ((HL0.out.below hb).push hs); have HB1 := Lib.hid (HB0.out.trans (hb.mono HB0.out.size)); clear hs hb)
          | (go_at_call 16; (with_reducible refine (HCP2.out _ HL1.out.tl.hd).mono ?_); rintro e w2 ⟨⟨A2, c2, rfl, hs⟩, hb⟩; have HL2 := Lib.hid ((HL1.out.below hb).push hs); have HB2 := Lib.hid (HB1.out.trans (hb.mono HB1.out.size)); clear hs hb)
          | (go_at_call 45; (with_reducible refine (HSET.out _ _ _ HL2.out.tl.hd).mono ?_); rintro e w3 ⟨⟨A3, c3, rfl, hs⟩, hb⟩; have HL3 := Lib.hid ((HL2.out.below hb).push hs); have HB3 := Lib.hid (HB2.out.trans (hb.mono HB2.out.size)); clear hs hb)
          | (go_at_call 46; (with_reducible refine (HSAT.out _ _ _ _ _ HL3.out.tl.tl.hd HL3.out.tl.hd).mono ?_); rintro e w4 ⟨rfl, hb⟩; have HL4 := Lib.hid ((HL3.out.below hb)); have HB4 := Lib.hid (HB3.out.trans (hb.mono HB3.out.size)); clear hb)
          | (go_at_call 47; (with_reducible refine (HSZ.out _ _ _ HL4.out.tl.tl.hd).mono ?_); rintro e w' ⟨rfl, rfl⟩)
          | (go_at_call 48; (with_reducible refine (HPR.out _ _ _ HL4.out.tl.tl.hd).mono ?_); rintro e w' ⟨rfl, rfl⟩)
          | (go_at_call 49; (with_reducible refine (HRS.out _ _ _ HL4.out.tl.tl.hd).mono ?_); rintro e w5 ⟨⟨A5, c5, rfl, hs⟩, hb⟩; have HL5 := Lib.hid ((HL4.out.below hb).push hs); have HB5 := Lib.hid (HB4.out.trans (hb.mono HB4.out.size)); clear hs hb)
          | (go_at_call 20; (with_reducible refine (HIN.out _ _ _ _ _ HL5.out.tl.hd HL5.out.hd).mono ?_); rintro e w6 ⟨rfl, hd⟩; have hb := hd.below w5.heap.size; have HL6 := Lib.hid ((HL5.out.below hb)); have HB6 := Lib.hid (HB5.out.trans (hb.mono HB5.out.size)); clear hb hd)
          | (go_at_call 50; (with_reducible refine (HST.out _ _ _ _ _ HL6.out.tl.tl.tl.hd HL6.out.tl.tl.hd).mono ?_); rintro e w7 ⟨rfl, hd⟩; have hb := hd.below w6.heap.size; have HL7 := Lib.hid ((HL6.out.below hb)); have HB7 := Lib.hid (HB6.out.trans (hb.mono HB6.out.size)); clear hb hd)
          | (go_at_call 51; (with_reducible refine (HRA.out _ _ _ _ _ HL7.out.tl.tl.tl.hd HL7.out.tl.tl.hd).mono ?_); rintro e w8 ⟨rfl, hd⟩; have hb := hd.below w7.heap.size; have HL8 := Lib.hid ((HL7.out.below hb)); have HB8 := Lib.hid (HB7.out.trans (hb.mono HB7.out.size)); clear hb hd)
          | (go_at_call 19; (with_reducible refine (awake_here _).mono ?_); rintro e w9 ⟨rfl, hb⟩; have HL9 := Lib.hid ((HL8.out.below hb)); have HB9 := Lib.hid (HB8.out.trans (hb.mono HB8.out.size)); clear hb))
        go_ret
        exact ⟨rfl, HB9.out⟩
end Go.Proofs.Ytfeohcknopdamaa
