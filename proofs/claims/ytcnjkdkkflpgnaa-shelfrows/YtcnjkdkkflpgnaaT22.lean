import Derived.Test.YtcnjkdkkflpgnaaT21
import Derived.OpenShut
/- Layer 8: a slice of ints that came in; the walk of ShelfTurned. -/
namespace Go.Proofs.Ytcnjkdkkflpgnaa
open Go.RowKit Go.Maps
set_option linter.unusedVariables false

/-- list, as a slice that is read, of a list cut at 201. -/
theorem list_sl (A : Option Addr) (n c : Nat) (zs : List Int) (w : World) (hs : Sl w A n c zs) :
    Calls Try.prog 16 #[.slice A n c] w fun e w' => (∃ A' n' c', e = .returned (.slice A' n' c') ∧ n' ≤ 201 ∧ Sl w' A' n' c' (zs.take 201)) ∧ Below w.heap.size w w' := by
  refine (list_any A n c zs w hs).mono ?_
  rintro e w' ⟨⟨v, rfl, ho⟩, hb⟩
  have hl : (zs.take 201).length ≤ 201 := by rw [List.length_take]; omega
  obtain ⟨A', c', rfl, hs'⟩ := ho.sl_len rfl (by omega)
  exact ⟨⟨A', _, c', rfl, hl, hs'⟩, hb⟩
set_option maxRecDepth 100000 in
set_option maxHeartbeats 6400000 in
theorem turned_walk (A B : Option Addr) (n0 c0 m0 d0 : Nat) (xs0 ys0 : List Int) (w : World) (hx : Sl w A n0 c0 xs0) (hy : Sl w B m0 d0 ys0) :
    Calls Try.prog 8 #[.slice A n0 c0, .slice B m0 d0] w fun e w' => e = .returned (.bool true) ∧ Below w.heap.size w w' := by
  have HX := Lib.hid (list_sl A n0 c0 xs0 w hx)
  have HY := Lib.hid (fun V (hV : Below w.heap.size w V) => list_sl B m0 d0 ys0 V (hy.below hV (Nat.le_refl _)))
  generalize xs0.take 201 = xs at HX
  generalize ys0.take 201 = ys at HY
  clear hx hy
  go_enter Try.func8, Try.ntmps8
  go_upto_region 2 with (first
    | (go_at_call 16; (with_reducible refine HX.out.mono ?_); rintro e w1 ⟨⟨A1, n, c1, rfl, hn, hs⟩, hb⟩; have HB1 := Lib.hid hb; have HS1 := Lib.hid hs; clear hs hb)
    | (go_at_call 16; (with_reducible refine (HY.out _ HB1.out).mono ?_); rintro e w2 ⟨⟨A2, m, c2, rfl, hm, hs⟩, hb⟩; have HB2 := Lib.hid (HB1.out.trans (hb.mono HB1.out.size)); have HSX := Lib.hid (fun V (hV : Below w2.heap.size w2 V) => ((HS1.out.below hb (Nat.le_refl _)).below hV (Nat.le_refl _))); have HSY := Lib.hid (fun V (hV : Below w2.heap.size w2 V) => hs.below hV (Nat.le_refl _)); clear hs hb))
  have HL : Hid (xs.length = n) := HS1.out.len
  have HT := Lib.hid (turnedT_any xs ys A1 A2 n c1 m c2 w2 (HSX.out _ (Below.refl _ _)) (HSY.out _ (Below.refl _ _)))
  have HO := Lib.hid (fun V (hV : Below w2.heap.size w2 V) => orderR_any xs (n : Int) A1 n c1 V (HSX.out V hV))
  have HP := Lib.hid (fun V (hV : Below w2.heap.size w2 V) => orderR_any ys (n : Int) A2 m c2 V (HSY.out V hV))
  have HR := Lib.hid (fun V (hV : Below w2.heap.size w2 V) => turnedR_any xs ys A1 A2 n c1 m c2 V (HSX.out V hV) (HSY.out V hV) (by omega))
  have HE1 : Hid (ordB xs (n : Int) = okO xs n) := ordB_okO xs n
  have HE2 : Hid (ordB ys (n : Int) = okO ys n) := ordB_okO ys n
  have HTB : Hid (trnB xs ys = (decide (1 ≤ n) && decide (n ≤ 6) && okO xs n && okO ys n)) := by rw [Hid, ← HL.out]; rfl
  rw [HE1.out] at HO
  rw [HE2.out] at HP
  clear HX HY HS1
  cases htb : trnB xs ys
  · rw [htb] at HT HTB
    have HT' : Hid (Calls Try.prog 36 #[.slice A1 n c1, .slice A2 m c2] w2 fun e w' => e = .returned (.tuple #[.int .i64 0, .int .i64 2]) ∧ Below w2.heap.size w2 w') := HT.out.mono fun e w' ⟨h, hb⟩ => by
      rcases h with ⟨h, _⟩ | ⟨_, h⟩
      · cases h
      · exact ⟨h, hb⟩
    have hcase : (n : Int) < 1 ∨ ((¬ (n : Int) < 1) ∧ (n : Int) > 6) ∨ ((¬ (n : Int) < 1) ∧ (¬ (n : Int) > 6) ∧ okO xs n = false) ∨ ((¬ (n : Int) < 1) ∧ (¬ (n : Int) > 6) ∧ okO xs n = true ∧ okO ys n = false) := by
      by_cases h1 : (n : Int) < 1
      · exact .inl h1
      · by_cases h2 : (n : Int) > 6
        · exact .inr (.inl ⟨h1, h2⟩)
        · cases h3 : okO xs n
          · exact .inr (.inr (.inl ⟨h1, h2, rfl⟩))
          · cases h4 : okO ys n
            · exact .inr (.inr (.inr ⟨h1, h2, rfl, rfl⟩))
            · have := HTB.out
              rw [h3, h4, decide_eq_true (by omega), decide_eq_true (by omega)] at this
              cases this
    clear HT htb HTB HE1 HE2 HR HL
    rcases hcase with h1 | ⟨h1, h2⟩ | ⟨h1, h2, h3⟩ | ⟨h1, h2, h3, h4⟩
    all_goals
      try rw [h3] at HO
      try rw [h4] at HP
      go_wp2_with (first
        | (go_at_call 36; (with_reducible refine HT'.out.mono ?_); rintro e w3 ⟨rfl, hb⟩; have HB3 := Lib.hid hb; clear hb)
        | (go_at_call 37; (with_reducible refine (HO.out _ HB3.out).mono ?_); rintro e w4 ⟨rfl, hd⟩; have HB4 := Lib.hid (HB3.out.trans (hd.below _)); clear hd)
        | (go_at_call 37; (with_reducible refine (HP.out _ HB4.out).mono ?_); rintro e w5 ⟨rfl, hd⟩; have HB5 := Lib.hid (HB4.out.trans (hd.below _)); clear hd)
        | (go_at_call 21; (with_reducible refine (awake_here _).mono ?_); rintro e w6 ⟨rfl, hb6⟩))
      go_ret
      first
        | exact ⟨rfl, HB2.out.trans ((HB5.out.trans (hb6.mono HB5.out.size)).mono HB2.out.size)⟩
        | exact ⟨rfl, HB2.out.trans ((HB4.out.trans (hb6.mono HB4.out.size)).mono HB2.out.size)⟩
        | exact ⟨rfl, HB2.out.trans ((HB3.out.trans (hb6.mono HB3.out.size)).mono HB2.out.size)⟩
  · rw [htb] at HT HTB
    have hh := HTB.out.symm
    rw [Bool.and_eq_true, Bool.and_eq_true, Bool.and_eq_true, decide_eq_true_iff, decide_eq_true_iff] at hh
    obtain ⟨⟨⟨h1, h2⟩, h3⟩, h4⟩ := hh
    have hlx := HL.out
    have htp := turn_pad h3 h4 h2
    have HT' : Hid (Calls Try.prog 36 #[.slice A1 n c1, .slice A2 m c2] w2 fun e w' => e = .returned (.tuple #[.int .i64 (turnN xs ys : Int), .int .i64 0]) ∧ Below w2.heap.size w2 w') := HT.out.mono fun e w' ⟨h, hb⟩ => by
      rcases h with ⟨_, h⟩ | ⟨h, _⟩
      · rw [htp] at h; exact ⟨h, hb⟩
      · cases h
    have i1 : ¬ (n : Int) < 1 := by omega
    have i2 : ¬ (n : Int) > 6 := by omega
    rw [h3] at HO
    rw [h4] at HP
    generalize turnN xs ys = T at *
    clear HT htb htp HTB HE1 HE2 HL h3 h4 h1 h2 hlx
    go_wp2_with (first
        | (go_at_call 36; (with_reducible refine HT'.out.mono ?_); rintro e w3 ⟨rfl, hb⟩; have HB3 := Lib.hid hb; clear hb)
        | (go_at_call 37; (with_reducible refine (HO.out _ HB3.out).mono ?_); rintro e w4 ⟨rfl, hd⟩; have HB4 := Lib.hid (HB3.out.trans (hd.below _)); clear hd)
        | (go_at_call 37; (with_reducible refine (HP.out _ HB4.out).mono ?_); rintro e w5 ⟨rfl, hd⟩; have HB5 := Lib.hid (HB4.out.trans (hd.below _)); clear hd)
        | (go_at_call 38; (with_reducible refine (HR.out _ HB5.out).mono ?_); rintro e w6 ⟨rfl, hd⟩; have HB6 := Lib.hid (HB5.out.trans (hd.below _)); clear hd)
        | (go_at_call 21; (with_reducible refine (awake_here _).mono ?_); rintro e w7 ⟨rfl, hb7⟩))
    go_ret
    exact ⟨rfl, HB2.out.trans ((HB6.out.trans (hb7.mono HB6.out.size)).mono HB2.out.size)⟩
end Go.Proofs.Ytcnjkdkkflpgnaa
